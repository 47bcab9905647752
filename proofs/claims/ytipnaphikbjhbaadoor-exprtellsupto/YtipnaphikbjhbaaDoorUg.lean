/- The document's kids. · The document's Equal. · The law ExprTells. -/
import Derived.Test.YtipnaphikbjhbaaDoorRe
import Derived.Test.YtipnaphikbjhbaaDoorOy
/-! ### The document's kids. -/
namespace Go.Proofs.YtipnaphikbjhbaaDoor
open Go.RowKit
set_option maxRecDepth 100000
variable {w w' W W0 : World} {cs : List Cd}
def intsU (ks : List Nat) : List Int := ks.map fun (k : Nat) => (k : Int)
theorem intsU_len (ks : List Nat) : (intsU ks).length = ks.length := by unfold intsU; exact List.length_map _
theorem LC.len {a : Option Addr} {n c : Nat} (h : LC w (.slice a n c) cs) : n = cs.length := by
  obtain ⟨a', c', e⟩ := h.form
  simp only [Value.slice.injEq] at e
  exact e.2.1
set_option maxHeartbeats 8000000 in
theorem kids19 {a : Option Addr} {n c i : Nat} {x : Cd} (h : LC w (.slice a n c) cs) (hx : cs[i]? = some x) (hk : x.kids.length ≤ 1000000000000) : Calls Tryd.prog 19 #[.slice a n c, .int .i64 (i : Int)] w fun e w' => ∃ a' c', e = .returned (.slice a' (kidsU x.kids i).length c') ∧ T.RW EI w.heap.size w' (.slice a' (kidsU x.kids i).length c') (intsU (kidsU x.kids i)) ∧ Below w.heap.size w w' := by
  have hin : i < n := by rw [h.len]; exact (List.getElem?_eq_some_iff.1 hx).1
  obtain ⟨g, o, ⟨y1, y2, y3⟩, rfl, hyl, -, -, -, -, -, -, p6⟩ := h.at hx
  simp only [slW] at hyl p6
  obtain ⟨kl, hkl⟩ : ∃ k, x.kids.length = k := ⟨_, rfl⟩
  have hy2 : y2 = kl := by rw [hyl.cap.1, hkl]
  subst hy2
  rw [hkl] at hk
  have HKL : Hid (x.kids.length = y2) := hkl
  have hgl : g < w.heap.size := World.block_lt_of_cell? _ _ p6
  have HC : Hid (∀ W, Below w.heap.size w W → W.cell? ⟨g, o + i * 7 + 6, none⟩ = some (.slice y1 y2 y3)) := fun W k => (k.cell (p := ⟨g, o + i * 7 + 6, none⟩) hgl).trans p6
  have HY : Hid (∀ W, Below w.heap.size w W → T.LV EI W (.slice y1 y2 y3) x.kids) := fun W k => hyl.below k
  have hi0 : (0 : Int) ≤ (i : Int) := by omega
  have hi1 : (i : Int) < (n : Int) := by omega
  clear h hx hyl p6 hkl
  go_enter Tryd.func19, Tryd.ntmps19
  go_wp2
  go_loopw [5, 6] (fun p q wr => ∃ (j m : Nat) (a' : Option Addr) (c' : Nat), q = .int .i64 (j : Int) ∧ p = .slice a' m c' ∧ Hid (j ≤ y2) ∧ Hid (m = (kidsU (x.kids.take j) i).length) ∧ Hid (T.RW EI w.heap.size wr (.slice a' m c') (intsU (kidsU (x.kids.take j) i))) ∧ Hid (Below w.heap.size w wr)) (fun _ q _ => y2 - (RowKit.intOf q).toNat)
  case atStart => exact ⟨0, 0, none, 0, rfl, rfl, Nat.zero_le _, rfl, T.RW.nil _ _ _, Below.refl _ _⟩
  case round =>
    obtain ⟨j, m, a', c', rfl, rfl, hj, hm, hr, hb⟩ := hrel
    have hjj := hj.out
    have q6 := HC.out wr hb.out
    by_cases hlt : j < y2
    · have hj1 : (j : Int) < (y2 : Int) := by omega
      have hj0 : (0 : Int) ≤ (j : Int) := by omega
      have hw1 : IntKind.i64.wrap ((j : Int) + 1) = (j : Int) + 1 := wrap_small _ (by omega) (by omega)
      obtain ⟨k, hkk⟩ : ∃ k, x.kids[j]? = some k := ⟨_, List.getElem?_eq_getElem (by rw [HKL.out]; exact hlt)⟩
      obtain ⟨g2, o2, rfl, hc⟩ := (HY.out wr hb.out).at hkk
      have q7 : wr.cell? ⟨g2, o2 + j, none⟩ = some (.int .i64 k) := by
        have := hc 0 (by decide)
        simpa [EI] using this
      have hml : m ≤ 1000000000000 := by
        rw [hm.out]
        refine Nat.le_trans (kidsU_len _ _) ?_
        rw [List.length_take]
        omega
      clear hc
      by_cases h0 : 0 ≤ k
      · by_cases h1 : k < (i : Int)
        · have HTK := kidsU_yes hkk h0 h1
          have HAPP : Hid (∃ u' w6, (Builtin.append_ #[52, 52] 52 #[.slice a' m c', .slice (some ⟨wr.heap.size, 0, none⟩) 1 1]).run Tryd.prog (wr.alloc (.cells #[.int .i64 k] 3)) = .ok u' w6 ∧ (∃ g6 cap6, u' = .slice (some ⟨g6, 0, none⟩) (m + 1) cap6 ∧ (Hid (m + 1 = (kidsU (x.kids.take (j + 1)) i).length) ∧ T.RW EI w.heap.size w6 (.slice (some ⟨g6, 0, none⟩) (m + 1) cap6) (intsU (kidsU (x.kids.take (j + 1)) i)) ∧ Below w.heap.size w w6))) := by
            have hsz := hb.out.size
            have hmL : (intsU (kidsU (x.kids.take j) i)).length = m := by rw [intsU_len, ← hm.out]
            obtain ⟨u', w6, q1, ⟨g6, cap6, q2⟩, q3, q4⟩ := rw_app3 (hr.out.below (T.al wr (.cells #[.int .i64 k] 3))) (T.lv_blk EI (L := [k]) (T.blk_new wr [.int .i64 k] 3) 1 (Nat.le_refl _)) (by simp) (by rw [hmL]; simp; omega) (by rw [hmL]; simp [EI]; omega) (by simp; omega)
            rw [hmL] at q2
            refine ⟨u', w6, q1, g6, cap6, q2, ?_, ?_, ?_⟩
            · show _ = _
              rw [HTK, List.length_append, ← hm.out]; rfl
            · rw [HTK]
              have e : intsU (kidsU (x.kids.take j) i ++ [k.toNat]) = intsU (kidsU (x.kids.take j) i) ++ [k] := by
                unfold intsU
                rw [List.map_append, List.map_singleton, Int.toNat_of_nonneg h0]
              rw [e]
              have q2' : u' = .slice (some ⟨g6, 0, none⟩) (m + 1) cap6 := q2
              rw [← q2']
              exact q3
            · exact (T.bal hb.out _).trans q4
          have h0' : decide (0 ≤ k) = true := decide_eq_true h0
          have h1' : decide (k < (i : Int)) = true := decide_eq_true h1
          clear hkk HTK
          go_wp2_with (at_builtin; refine T.wpList_append_ex rfl (.tmp 33) (.tmp 35) 52 rfl _ _ rfl rfl HAPP.out ?_; rintro u6 w6 ⟨g6, cap6, rfl, t1, t2, t3⟩)
          go_roundw
          case rel => exact ⟨j + 1, m + 1, _, _, by simp, rfl, by show _ ≤ _; omega, t1, t2, t3⟩
          case measure => simp [RowKit.intOf]; omega
        · have HTK : Hid (kidsU (x.kids.take (j + 1)) i = kidsU (x.kids.take j) i) := kidsU_no hkk (fun e => h1 e.2)
          have HN : Hid (m = (kidsU (x.kids.take (j + 1)) i).length ∧ T.RW EI w.heap.size wr (.slice a' m c') (intsU (kidsU (x.kids.take (j + 1)) i))) := by
            show _ ∧ _
            rw [HTK.out]
            exact ⟨hm.out, hr.out⟩
          have h0' : decide (0 ≤ k) = true := decide_eq_true h0
          have h1' : decide (k < (i : Int)) = false := decide_eq_false h1
          clear hkk HTK
          go_wp2
          go_roundw
          case rel => exact ⟨j + 1, m, _, _, by simp, rfl, by show _ ≤ _; omega, HN.out.1, HN.out.2, hb⟩
          case measure => simp [RowKit.intOf]; omega
      · have HTK : Hid (kidsU (x.kids.take (j + 1)) i = kidsU (x.kids.take j) i) := kidsU_no hkk (fun e => h0 e.1)
        have HN : Hid (m = (kidsU (x.kids.take (j + 1)) i).length ∧ T.RW EI w.heap.size wr (.slice a' m c') (intsU (kidsU (x.kids.take (j + 1)) i))) := by
          show _ ∧ _
          rw [HTK.out]
          exact ⟨hm.out, hr.out⟩
        have h0' : decide (0 ≤ k) = false := decide_eq_false h0
        clear hkk HTK
        go_wp2
        go_roundw
        case rel => exact ⟨j + 1, m, _, _, by simp, rfl, by show _ ≤ _; omega, HN.out.1, HN.out.2, hb⟩
        case measure => simp [RowKit.intOf]; omega
    · obtain rfl : j = y2 := by omega
      have hi : ¬ (j : Int) < (j : Int) := by omega
      have HFIN : Hid (m = (kidsU x.kids i).length ∧ T.RW EI w.heap.size wr (.slice a' m c') (intsU (kidsU x.kids i))) := by
        have hT : x.kids.take j = x.kids := List.take_of_length_le (by rw [HKL.out]; exact Nat.le_refl _)
        have e1 := hm.out
        have e2 := hr.out
        rw [hT] at e1 e2
        exact ⟨e1, e2⟩
      go_wp2
      go_ret
      refine ⟨a', c', congrArg (fun z => Ending.returned (.slice a' z c')) HFIN.out.1, ?_, hb.out⟩
      rw [← HFIN.out.1]
      exact HFIN.out.2
end Go.Proofs.YtipnaphikbjhbaaDoor
/-! ### The document's Equal. -/
namespace Go.Proofs.YtipnaphikbjhbaaDoor
open Go.RowKit
set_option maxRecDepth 100000
variable {w w' W W0 : World} {cs : List Cd} {col : Bs}
/-- The comparison that a demand comes from. -/
def FromR (cs : List Cd) (f : Int) (d : Dm) : Prop := (f = -1 ∧ d = dm0) ∨ ∃ (j : Nat) (x : Cd), f = (j : Int) ∧ cs[j]? = some x ∧ d = ((x.vk, x.vn, x.vt), true)
theorem FromR.none (cs : List Cd) : FromR cs (-1) dm0 := .inl ⟨rfl, rfl⟩
theorem firstD_snoc (l : List Dm) (d : Dm) : firstD (l ++ [d]) = if (firstD l).2 then firstD l else if d.2 then d else dm0 := by
  unfold firstD
  rw [List.find?_append]
  cases hl : l.find? (fun d => d.2) with
  | none =>
    simp only [Option.none_or, Option.getD_none, List.find?_cons, List.find?_nil]
    cases hd : d.2 <;> simp [dm0]
  | some e =>
    have := List.find?_some hl
    simp only [Option.some_or, Option.getD_some]
    rw [if_pos this]
theorem firstD_one {l : List Dm} {d : Dm} {f f' : Int} (h : FromR cs f (firstD l)) (hf : f < 0) (h' : FromR cs f' d) : FromR cs f' (firstD (l ++ [d])) := by
  rcases h with ⟨_, h⟩ | ⟨j, x, e, _, _⟩
  · rw [firstD_snoc, h]
    rcases h' with ⟨rfl, rfl⟩ | ⟨j, x, rfl, hx, rfl⟩
    · exact .inl ⟨rfl, rfl⟩
    · exact .inr ⟨j, x, rfl, hx, rfl⟩
  · omega
theorem firstD_two {l : List Dm} {d : Dm} {f : Int} (h : FromR cs f (firstD l)) (hf : ¬ f < 0) : FromR cs f (firstD (l ++ [d])) := by
  rcases h with ⟨rfl, _⟩ | ⟨j, x, e, hx, hd⟩
  · omega
  · rw [firstD_snoc, hd, if_pos rfl]
    exact .inr ⟨j, x, e, hx, rfl⟩
theorem intsU_at {ks : List Nat} {m : Nat} {k : Nat} (h : ks[m]? = some k) : (intsU ks)[m]? = some (k : Int) := by
  unfold intsU
  rw [List.getElem?_map, h]
  rfl
/-- What each part ahead of i comes from. -/
structure FQ (w wr : World) (cs : List Cd) (col : Bs) (v : Value) (i : Nat) : Prop where
  ex : ∃ F : List Int, F.length = i ∧ T.RW EI (w.heap.size + 1) wr v F ∧ ∀ (j : Nat) (f : Int), F[j]? = some f → FromR cs f (resN (equalP col) dm0 cs j)
  bx : T.Blk wr w.heap.size [.int .u8 0, .int .i64 0, .string ⟨#[]⟩] 30
  bel : Below w.heap.size w wr
theorem FQ.below {wr : World} {v : Value} {i : Nat} (h : FQ w wr cs col v i) (k : Below wr.heap.size wr w') : FQ w w' cs col v i := by
  obtain ⟨⟨F, h1, h2, h3⟩, h4, h5⟩ := h
  exact ⟨⟨F, h1, h2.below k, h3⟩, h4.below k, h5.trans (k.mono h5.size)⟩
theorem FQ.at {wr : World} {a : Option Addr} {n c i j : Nat} (h : FQ w wr cs col (.slice a n c) i) (hj : j < i) : ∃ g o f, a = some ⟨g, o, none⟩ ∧ wr.cell? ⟨g, o + j, none⟩ = some (.int .i64 f) ∧ FromR cs f (resN (equalP col) dm0 cs j) := by
  obtain ⟨⟨F, h1, h2, h3⟩, h4, h5⟩ := h
  obtain ⟨f, hf⟩ : ∃ f, F[j]? = some f := ⟨_, List.getElem?_eq_getElem (by omega)⟩
  obtain ⟨g, o, rfl, hc⟩ := h2.read.at hf
  have := hc 0 (by decide)
  exact ⟨g, o, f, rfl, by simpa [EI] using this, h3 j f hf⟩
theorem FQ.add {wr : World} {v : Value} {i : Nat} {f : Int} (h : FQ w wr cs col v i) (hf : FromR cs f (resN (equalP col) dm0 cs i)) (hi : i ≤ 2000) : ∃ u' w6, (Builtin.append_ #[52, 52] 52 #[v, .slice (some ⟨wr.heap.size, 0, none⟩) 1 1]).run Tryd.prog (wr.alloc (.cells #[.int .i64 f] 3)) = .ok u' w6 ∧ (∃ g cap, u' = .slice (some ⟨g, 0, none⟩) (i + 1) cap ∧ FQ w w6 cs col u' (i + 1)) := by
  obtain ⟨⟨F, h1, h2, h3⟩, h4, h5⟩ := h
  have b3 := T.al wr (.cells #[.int .i64 f] 3)
  obtain ⟨u', w6, q1, ⟨g, cap, q2⟩, q3, q4⟩ := rw_app3 (h2.below b3) (T.lv_blk EI (L := [f]) (T.blk_new wr [.int .i64 f] 3) 1 (Nat.le_refl _)) (by simp) (by simp; omega) (by simp [EI]; omega) (by have := h4.lt; simp; omega)
  rw [h1] at q2
  have h4' : T.Blk w6 w.heap.size [.int .u8 0, .int .i64 0, .string ⟨#[]⟩] 30 := (h4.below b3).block (q4.block _ (Nat.lt_succ_self _))
  refine ⟨u', w6, q1, g, cap, q2, ⟨⟨F ++ [f], by rw [List.length_append, h1]; rfl, q3, fun j e he => ?_⟩, h4', (h5.trans (b3.mono h5.size)).trans (q4.mono (Nat.le_succ _))⟩⟩
  by_cases hj : j < F.length
  · rw [List.getElem?_append_left hj] at he
    exact h3 j e he
  · have hjl := (List.getElem?_eq_some_iff.1 he).1
    rw [List.length_append] at hjl
    have hj' : j = i := by simp at hjl; omega
    subst hj'
    rw [List.getElem?_append_right (by omega), h1, Nat.sub_self] at he
    simp at he
    subst he
    exact hf
set_option maxHeartbeats 16000000 in
theorem requal9 {u : Value} (col : Bs) (hcs : LC w u cs) (hn : cs.length ≤ 1000) (hk : ∀ x ∈ cs, x.kids.length ≤ 1000000000000) :
    Calls Tryd.prog 9 #[u, .string (str col)] w fun e w' => e = .returned (.tuple #[vlV (equalV cs col).1, .bool (equalV cs col).2]) ∧ Below w.heap.size w w' := by
  have a2 := T.al w (.cells #[.int .u8 0, .int .i64 0, .string ⟨#[]⟩] 30)
  have hbr := T.blk_new w [.int .u8 0, .int .i64 0, .string ⟨#[]⟩] 30
  have HF : Hid (∀ w9 v0 v1 v2, T.Blk w9 w.heap.size [.int .u8 0, .int .i64 0, .string ⟨#[]⟩] 30 → Below w.heap.size w w9 → ((w9.cell? ⟨w.heap.size, 0, none⟩ = some (.int .u8 0) ∧ w9.frozen? ⟨w.heap.size, 0, none⟩ = false ∧ (w9.setCell ⟨w.heap.size, 0, none⟩ v0).cell? ⟨w.heap.size, 1, none⟩ = some (.int .i64 0) ∧ (w9.setCell ⟨w.heap.size, 0, none⟩ v0).frozen? ⟨w.heap.size, 1, none⟩ = false ∧ ((w9.setCell ⟨w.heap.size, 0, none⟩ v0).setCell ⟨w.heap.size, 1, none⟩ v1).cell? ⟨w.heap.size, 2, none⟩ = some (.string ⟨#[]⟩) ∧ ((w9.setCell ⟨w.heap.size, 0, none⟩ v0).setCell ⟨w.heap.size, 1, none⟩ v1).frozen? ⟨w.heap.size, 2, none⟩ = false) ∧ ((((w9.setCell ⟨w.heap.size, 0, none⟩ v0).setCell ⟨w.heap.size, 1, none⟩ v1).setCell ⟨w.heap.size, 2, none⟩ v2).cell? ⟨w.heap.size, 0, none⟩ = some v0 ∧ (((w9.setCell ⟨w.heap.size, 0, none⟩ v0).setCell ⟨w.heap.size, 1, none⟩ v1).setCell ⟨w.heap.size, 2, none⟩ v2).cell? ⟨w.heap.size, 1, none⟩ = some v1 ∧ (((w9.setCell ⟨w.heap.size, 0, none⟩ v0).setCell ⟨w.heap.size, 1, none⟩ v1).setCell ⟨w.heap.size, 2, none⟩ v2).cell? ⟨w.heap.size, 2, none⟩ = some v2)) ∧ Hid (Below w.heap.size w (((w9.setCell ⟨w.heap.size, 0, none⟩ v0).setCell ⟨w.heap.size, 1, none⟩ v1).setCell ⟨w.heap.size, 2, none⟩ v2))) := fun w9 v0 v1 v2 hb k9 =>
    ⟨bx3 hb v0 v1 v2, (T.bset (T.bset (T.bset k9 (p := ⟨w.heap.size, 0, none⟩) (Nat.le_refl _) _) (p := ⟨w.heap.size, 1, none⟩) (Nat.le_refl _) _) (p := ⟨w.heap.size, 2, none⟩) (Nat.le_refl _) _)⟩
  have HA : Hid (Below w.heap.size w (w.alloc (.cells #[.int .u8 0, .int .i64 0, .string ⟨#[]⟩] 30))) := a2
  obtain ⟨ua, uc, hu⟩ := hcs.form
  unfold equalV
  by_cases h0 : cs.length = 0
  · rw [if_pos h0]
    rw [h0] at hu
    subst hu
    clear a2 hbr hcs hk hn h0 HF
    go_enter Tryd.func9, Tryd.ntmps9
    go_wp2
    exact bodyPost_ret (v := .tuple #[.agg #[.int .u8 0, .int .i64 0, .string ⟨#[]⟩], .bool false]) (by simp [results, Tryd.results9, go_sem]) rfl ⟨rfl, HA.out⟩
  · rw [if_neg h0]
    subst hu
    obtain ⟨n, hcn⟩ : ∃ n, cs.length = n := ⟨_, rfl⟩
    rw [hcn] at hn h0 hcs ⊢
    have HCN : Hid (cs.length = n) := hcn
    have HL : Hid (∀ W, Below w.heap.size w W → LC W (.slice ua n uc) cs) := fun W k => hcs.below k
    have HK : Hid (∀ x ∈ cs, x.kids.length ≤ 1000000000000) := hk
    have HS0 : Hid (FQ w (w.alloc (.cells #[.int .u8 0, .int .i64 0, .string ⟨#[]⟩] 30)) cs col (.slice none 0 0) 0) := ⟨⟨[], rfl, T.RW.nil _ _ _, fun j f h => by simp at h⟩, hbr, a2⟩
    have hn0 : ¬ (n : Int) = 0 := by omega
    have hn1 : ((n : Int) == 0) = false := beq_eq_false_iff_ne.2 hn0
    have HN0 : Hid (n ≠ 0) := h0
    clear hcs hk hcn a2 hbr h0
    go_enter Tryd.func9, Tryd.ntmps9
    go_wp2
    go_loopw [6, 7] (fun p q wr => ∃ (i : Nat) (a : Option Addr) (c : Nat), q = .int .i64 (i : Int) ∧ p = .slice a i c ∧ Hid (i ≤ n) ∧ Hid (FQ w wr cs col (.slice a i c) i)) (fun _ q _ => n - (RowKit.intOf q).toNat)
    case atStart => exact ⟨0, none, 0, rfl, rfl, Nat.zero_le _, HS0⟩
    case round =>
      obtain ⟨i, a, c, rfl, rfl, hi3, hs⟩ := hrel
      have hii := hi3.out
      by_cases hlt : i < n
      · have hj1 : (i : Int) < (n : Int) := by omega
        have hj0 : (0 : Int) ≤ (i : Int) := by omega
        have hw1 : IntKind.i64.wrap ((i : Int) + 1) = (i : Int) + 1 := wrap_small _ (by omega) (by omega)
        obtain ⟨x, hx⟩ : ∃ x, cs[i]? = some x := ⟨_, List.getElem?_eq_getElem (by rw [HCN.out]; exact hlt)⟩
        have hxk := HK.out x (List.mem_of_getElem? hx)
        have HR : Hid (resN (equalP col) dm0 cs i = equalP col x ((kidsU x.kids i).map (resN (equalP col) dm0 cs))) := resN_of _ _ _ hx
        have HX : Hid (cs[i]? = some x) := hx
        obtain ⟨g, o, ⟨y1, y2, y3⟩, rfl, hyl, p0, p1, p2, p3, p4, p5, p6⟩ := (HL.out wr hs.out.bel).at hx
        obtain ⟨xk, xc, xo, xvk, xvn, xvt, xks⟩ := x
        simp only [slW] at p0 p1 p2 p3 p4 p5 p6 hxk hyl HR HX
        have k19 := kids19 (w := (wr.alloc (.cells #[.int .u8 (xk : Int), .string (str xc), .int .u8 (xo : Int), .int .u8 (xvk : Int), .int .i64 xvn, .string (str xvt), .slice y1 y2 y3] 54))) ((HL.out wr hs.out.bel).below (T.al wr _)) hx hxk
        have HB : Hid (∀ w5, Below (wr.alloc (.cells #[.int .u8 (xk : Int), .string (str xc), .int .u8 (xo : Int), .int .u8 (xvk : Int), .int .i64 xvn, .string (str xvt), .slice y1 y2 y3] 54)).heap.size (wr.alloc (.cells #[.int .u8 (xk : Int), .string (str xc), .int .u8 (xo : Int), .int .u8 (xvk : Int), .int .i64 xvn, .string (str xvt), .slice y1 y2 y3] 54)) w5 → w5.cell? ⟨wr.heap.size, 0, none⟩ = some (.int .u8 (xk : Int)) ∧ FQ w w5 cs col (.slice a i c) i) := fun w5 k5 =>
          ⟨((T.blk_new wr [.int .u8 (xk : Int), .string (str xc), .int .u8 (xo : Int), .int .u8 (xvk : Int), .int .i64 xvn, .string (str xvt), .slice y1 y2 y3] 54).below k5).cell 0, hs.out.below ((T.al wr _).trans (k5.mono (by simp)))⟩
        have HAPP : Hid (∀ w5 f, FQ w w5 cs col (.slice a i c) i → FromR cs f (resN (equalP col) dm0 cs i) → ∃ u' w6, (Builtin.append_ #[52, 52] 52 #[.slice a i c, .slice (some ⟨w5.heap.size, 0, none⟩) 1 1]).run Tryd.prog (w5.alloc (.cells #[.int .i64 f] 3)) = .ok u' w6 ∧ (∃ g cap, u' = .slice (some ⟨g, 0, none⟩) (i + 1) cap ∧ FQ w w6 cs col u' (i + 1))) := fun w5 f h5 hf => h5.add hf (by omega)
        simp only at k19
        obtain ⟨kl, hkl⟩ : ∃ k, (kidsU xks i).length = k := ⟨_, rfl⟩
        have HKL : Hid ((kidsU xks i).length = kl) := hkl
        have hkl2 : kl ≤ 1000000000000 := by rw [← hkl]; exact Nat.le_trans (kidsU_len _ _) hxk
        have HKI : Hid (∀ k ∈ kidsU xks i, k < i) := fun k hk => kidsU_lt hk
        rw [hkl] at k19
        clear hx hyl hkl hxk
        by_cases h1 : xk = 1
        · obtain ⟨z1, z2, z3⟩ := eq_facts h1
          have z1' : ((xk : Int) == 1) = true := z1
          have z4 : ((xk : Int) == 2) = false := by rw [h1]; rfl
          have z5 : (xk == 2) = false := by rw [h1]; rfl
          clear z1 z3
          by_cases h2 : xo = 1
          · obtain ⟨t1, t2, t3⟩ := eq_facts h2
            have t1' : ((xo : Int) == 1) = true := t1
            clear t1 t3
            by_cases h3 : xc = col
            · have HFR : Hid (FromR cs (i : Int) (resN (equalP col) dm0 cs i)) := by
                show FromR _ _ _
                rw [HR.out]
                unfold equalP
                rw [if_pos ⟨h1, h2, h3⟩]
                exact .inr ⟨i, _, rfl, HX.out, rfl⟩
              subst h3
              have e1 : (xc == xc) = true := by simp
              clear h1 h2
              go_wp2_with (go_at_call 19; (refine Calls.mono k19 ?_; rintro e w5 ⟨a5, c5, rfl, r5, k5⟩; obtain ⟨b0, b1⟩ := HB.out w5 k5; have HS5 : Hid _ := b1; clear r5 k5 b1))
              refine wp_loop_rounds 1 ?_
              rw [rounds_succ]
              go_wp2_with (at_builtin; refine T.wpList_append_ex rfl (.tmp 65) (.tmp 67) 52 rfl _ _ rfl rfl (HAPP.out _ _ HS5.out HFR.out) ?_; rintro u6 w6 ⟨g6, cap6, rfl, h6⟩)
              have HN6 : Hid _ := h6
              clear h6
              go_roundw
              case rel => exact ⟨i + 1, _, _, by simp, rfl, by show _ ≤ _; omega, HN6⟩
              case measure => simp [RowKit.intOf]; omega
            · have HFR : Hid (FromR cs (-1) (resN (equalP col) dm0 cs i)) := by
                show FromR _ _ _
                rw [HR.out]
                unfold equalP
                rw [if_neg (fun e => h3 e.2.2), if_neg (show ¬ xk = 2 by omega)]
                exact FromR.none _
              have e1 : (xc == col) = false := beq_eq_false_iff_ne.2 h3
              clear h1 h2
              go_wp2_with (go_at_call 19; (refine Calls.mono k19 ?_; rintro e w5 ⟨a5, c5, rfl, r5, k5⟩; obtain ⟨b0, b1⟩ := HB.out w5 k5; have HS5 : Hid _ := b1; clear r5 k5 b1))
              refine wp_loop_rounds 1 ?_
              rw [rounds_succ]
              go_wp2_with (at_builtin; refine T.wpList_append_ex rfl (.tmp 65) (.tmp 67) 52 rfl _ _ rfl rfl (HAPP.out _ _ HS5.out HFR.out) ?_; rintro u6 w6 ⟨g6, cap6, rfl, h6⟩)
              have HN6 : Hid _ := h6
              clear h6
              go_roundw
              case rel => exact ⟨i + 1, _, _, by simp, rfl, by show _ ≤ _; omega, HN6⟩
              case measure => simp [RowKit.intOf]; omega
          · have HFR : Hid (FromR cs (-1) (resN (equalP col) dm0 cs i)) := by
              show FromR _ _ _
              rw [HR.out]
              unfold equalP
              rw [if_neg (fun e => h2 e.2.1), if_neg (show ¬ xk = 2 by omega)]
              exact FromR.none _
            obtain ⟨t1, t2, t3, t4, t5⟩ := ne_facts h2
            have t1' : ((xo : Int) == 1) = false := t1
            clear t1 h1 h2
            go_wp2_with (go_at_call 19; (refine Calls.mono k19 ?_; rintro e w5 ⟨a5, c5, rfl, r5, k5⟩; obtain ⟨b0, b1⟩ := HB.out w5 k5; have HS5 : Hid _ := b1; clear r5 k5 b1))
            refine wp_loop_rounds 1 ?_
            rw [rounds_succ]
            go_wp2_with (at_builtin; refine T.wpList_append_ex rfl (.tmp 65) (.tmp 67) 52 rfl _ _ rfl rfl (HAPP.out _ _ HS5.out HFR.out) ?_; rintro u6 w6 ⟨g6, cap6, rfl, h6⟩)
            have HN6 : Hid _ := h6
            clear h6
            go_roundw
            case rel => exact ⟨i + 1, _, _, by simp, rfl, by show _ ≤ _; omega, HN6⟩
            case measure => simp [RowKit.intOf]; omega
        · obtain ⟨z1, z2, z3, z4, z5⟩ := ne_facts h1
          have z1' : ((xk : Int) == 1) = false := z1
          clear z1
          by_cases h2 : xk = 2
          · have m1 : ((xk : Int) == 2) = true := by rw [h2]; rfl
            have m2 : (xk == 2) = true := by rw [h2]; rfl
            have HR2 : Hid (resN (equalP col) dm0 cs i = firstD ((kidsU xks i).map (resN (equalP col) dm0 cs))) := by
              show _ = _
              rw [HR.out]
              unfold equalP
              rw [if_neg (fun e => h1 e.1), if_pos h2]
            clear h1 h2 z3 z4 z5
            go_wp2_with (go_at_call 19; (refine Calls.mono k19 ?_; rintro e w5 ⟨a5, c5, rfl, r5, k5⟩; obtain ⟨b0, b1⟩ := HB.out w5 k5; have HR5 : Hid (T.RW EI _ w5 (.slice a5 kl c5) (intsU (kidsU xks i))) := r5; have HS5 : Hid _ := b1; clear r5 k5 b1))
            go_loopw [9, 11] (fun p q wr => ∃ (m : Nat) (f : Int), q = .int .i64 (m : Int) ∧ p = .int .i64 f ∧ wr = w5 ∧ Hid (m ≤ kl) ∧ Hid (FromR cs f (firstD (((kidsU xks i).take m).map (resN (equalP col) dm0 cs))))) (fun _ q _ => kl - (RowKit.intOf q).toNat)
            case atStart => exact ⟨0, -1, rfl, rfl, rfl, Nat.zero_le _, FromR.none _⟩
            case round =>
              obtain ⟨m, f, rfl, rfl, rfl, hm, hfr⟩ := hrel
              have hmm := hm.out
              by_cases hlm : m < kl
              · have hv1 : (m : Int) < (kl : Int) := by omega
                have hv0 : (0 : Int) ≤ (m : Int) := by omega
                have hw2 : IntKind.i64.wrap ((m : Int) + 1) = (m : Int) + 1 := wrap_small _ (by omega) (by omega)
                obtain ⟨km, hkm⟩ : ∃ k, (kidsU xks i)[m]? = some k := ⟨_, List.getElem?_eq_getElem (by rw [HKL.out]; exact hlm)⟩
                have HT : Hid (((kidsU xks i).take (m + 1)).map (resN (equalP col) dm0 cs) = ((kidsU xks i).take m).map (resN (equalP col) dm0 cs) ++ [resN (equalP col) dm0 cs km]) := by
                  obtain ⟨hk', e⟩ := List.getElem?_eq_some_iff.1 hkm
                  show _ = _
                  rw [List.take_succ_eq_append_getElem hk', e, List.map_append]
                  rfl
                by_cases hf : f < 0
                · have hki := HKI.out km (List.mem_of_getElem? hkm)
                  obtain ⟨g5, o5, rfl, hc5⟩ := HR5.out.read.at (intsU_at hkm)
                  have d5 : wr.cell? ⟨g5, o5 + m, none⟩ = some (.int .i64 (km : Int)) := by
                    have := hc5 0 (by decide)
                    simpa [EI] using this
                  obtain ⟨g6, o6, f6, rfl, d6, hf6⟩ := HS5.out.at hki
                  have hv2 : (km : Int) < (i : Int) := by omega
                  have hv3 : (0 : Int) ≤ (km : Int) := by omega
                  have HN : Hid (FromR cs f6 (firstD (((kidsU xks i).take (m + 1)).map (resN (equalP col) dm0 cs)))) := by
                    show FromR _ _ _
                    rw [HT.out]
                    exact firstD_one hfr.out hf hf6
                  clear hc5 hkm hf6 HT
                  go_wp2
                  go_roundw
                  case rel => exact ⟨m + 1, f6, by simp, rfl, by first | rfl | trivial, by show _ ≤ _; omega, HN⟩
                  case measure => simp [RowKit.intOf]; omega
                · have HN : Hid (FromR cs f (firstD (((kidsU xks i).take (m + 1)).map (resN (equalP col) dm0 cs)))) := by
                    show FromR _ _ _
                    rw [HT.out]
                    exact firstD_two hfr.out hf
                  clear hkm HT
                  go_wp2
                  go_roundw
                  case rel => exact ⟨m + 1, f, by simp, rfl, by first | rfl | trivial, by show _ ≤ _; omega, HN⟩
                  case measure => simp [RowKit.intOf]; omega
              · obtain rfl : m = kl := by omega
                have hv : ¬ (m : Int) < (m : Int) := by omega
                have HFR : Hid (FromR cs f (resN (equalP col) dm0 cs i)) := by
                  show FromR _ _ _
                  rw [HR2.out]
                  have hT : (kidsU xks i).take m = kidsU xks i := List.take_of_length_le (by rw [HKL.out]; exact Nat.le_refl _)
                  have := hfr.out
                  rw [hT] at this
                  exact this
                go_wp2_with (at_builtin; refine T.wpList_append_ex rfl (.tmp 65) (.tmp 67) 52 rfl _ _ rfl rfl (HAPP.out _ _ HS5.out HFR.out) ?_; rintro u6 w6 ⟨g6, cap6, rfl, h6⟩)
                have HN6 : Hid _ := h6
                clear h6
                go_roundw
                case rel => exact ⟨i + 1, _, _, by simp, rfl, by show _ ≤ _; omega, HN6⟩
                case measure => simp [RowKit.intOf]; omega
          · obtain ⟨m1, m2, m3, m4, m5⟩ := ne_facts h2
            have m1' : ((xk : Int) == 2) = false := m1
            have HFR : Hid (FromR cs (-1) (resN (equalP col) dm0 cs i)) := by
              show FromR _ _ _
              rw [HR.out]
              unfold equalP
              rw [if_neg (fun e => h1 e.1), if_neg h2]
              exact FromR.none _
            clear m1 h1 h2 z3 z4 z5 m3 m4 m5
            go_wp2_with (go_at_call 19; (refine Calls.mono k19 ?_; rintro e w5 ⟨a5, c5, rfl, r5, k5⟩; obtain ⟨b0, b1⟩ := HB.out w5 k5; have HS5 : Hid _ := b1; clear r5 k5 b1))
            refine wp_loop_rounds 1 ?_
            rw [rounds_succ]
            go_wp2_with (at_builtin; refine T.wpList_append_ex rfl (.tmp 65) (.tmp 67) 52 rfl _ _ rfl rfl (HAPP.out _ _ HS5.out HFR.out) ?_; rintro u6 w6 ⟨g6, cap6, rfl, h6⟩)
            have HN6 : Hid _ := h6
            clear h6
            go_roundw
            case rel => exact ⟨i + 1, _, _, by simp, rfl, by show _ ≤ _; omega, HN6⟩
            case measure => simp [RowKit.intOf]; omega
      · obtain rfl : i = n := by omega
        have hi : ¬ (i : Int) < (i : Int) := by omega
        have hw3 : IntKind.i64.wrap ((i : Int) - 1) = (i : Int) - 1 := wrap_small _ (by omega) (by omega)
        obtain ⟨g6, o6, f, rfl, d6, hf6⟩ := hs.out.at (j := i - 1) (by have := HN0.out; omega)
        have e6 : ((i - 1 : Nat) : Int) = (i : Int) - 1 := by have := HN0.out; omega
        have e7 : ((i : Int) - 1).toNat = i - 1 := by omega
        have hv0 : (0 : Int) ≤ (i : Int) - 1 := by have := HN0.out; omega
        have hv1 : (i : Int) - 1 < (i : Int) := by omega
        rcases hf6 with ⟨rfl, hd⟩ | ⟨j, x, rfl, hx, hd⟩
        · have HD : Hid _ := hd
          obtain ⟨⟨⟨x0, x1, x2, x3, x4, x5⟩, r0, r1, r2⟩, d13⟩ := HF.out wr (.int .u8 0) (.int .i64 0) (.string ⟨#[]⟩) hs.out.bx hs.out.bel
          clear hd
          go_wp2
          rw [HD.out]
          exact bodyPost_ret (v := .tuple #[.agg #[.int .u8 0, .int .i64 0, .string ⟨#[]⟩], .bool false]) (by simp [results, Tryd.results9, go_sem, r0, r1, r2]) rfl ⟨rfl, d13.out⟩
        · have HD : Hid _ := hd
          have hjl : j < i := by have := (List.getElem?_eq_some_iff.1 hx).1; rw [HCN.out] at this; exact this
          obtain ⟨g, o, ⟨y1, y2, y3⟩, rfl, hyl, p0, p1, p2, p3, p4, p5, p6⟩ := (HL.out wr hs.out.bel).at hx
          obtain ⟨xk, xc, xo, xvk, xvn, xvt, xks⟩ := x
          simp only at p3 p4 p5
          obtain ⟨⟨⟨x0, x1, x2, x3, x4, x5⟩, r0, r1, r2⟩, d13⟩ := HF.out wr (.int .u8 (xvk : Int)) (.int .i64 xvn) (.string (str xvt)) hs.out.bx hs.out.bel
          have hu0 : (0 : Int) ≤ (j : Int) := by omega
          have hu1 : (j : Int) < (i : Int) := by omega
          clear hd hx hyl p0 p1 p2 p6
          go_wp2
          rw [HD.out]
          exact bodyPost_ret (v := .tuple #[.agg #[.int .u8 (xvk : Int), .int .i64 xvn, .string (str xvt)], .bool true]) (by simp [results, Tryd.results9, go_sem, r0, r1, r2]) rfl ⟨rfl, d13.out⟩
end Go.Proofs.YtipnaphikbjhbaaDoor
/-! ### The law ExprTells. -/
namespace Go.Proofs.YtipnaphikbjhbaaDoor
open Go.RowKit
set_option maxRecDepth 100000
variable {w w' W W0 : World} {cs : List Cd} {cols : List Co} {vals : List Va}
abbrev twoV (o : Nat) (y z : Va) : Value := .agg #[.int .u8 (o : Int), .int .u8 (y.1 : Int), .int .i64 y.2.1, .string (str y.2.2), .int .u8 (z.1 : Int), .int .i64 z.2.1, .string (str z.2.2)]
/-- What the law has made ready: its case and its comparison. -/
structure H3 (w W : World) (s1 s2 s3 : Value) (cs : List Cd) (cols : List Co) (vals : List Va) (o : Nat) (y z : Va) : Prop where
  a3 : A3 w W w.heap.size s1 s2 s3 cs cols vals
  tw : T.Blk W (w.heap.size + 1) [.int .u8 (o : Int), .int .u8 (y.1 : Int), .int .i64 y.2.1, .string (str y.2.2), .int .u8 (z.1 : Int), .int .i64 z.2.1, .string (str z.2.2)] 33
theorem h3_start {a1 a2 a3 : Option Addr} {c1 c2 c3 o : Nat} {y z : Va} {w6 : World} (h1 : LC w (.slice a1 cs.length c1) cs) (h2 : T.LV EK w (.slice a2 cols.length c2) cols) (h3 : T.LV EV w (.slice a3 vals.length c3) vals) (hk : ∀ x ∈ cs, x.kids.length ≤ 17592186044416) (hs : ∀ x ∈ cs, (str x.col).size ≤ maxLen) (hg : Good w)
    (k : Below ((w.alloc (.cells #[.slice a1 cs.length c1, .slice a2 cols.length c2, .slice a3 vals.length c3] 26)).alloc (.cells #[.int .u8 (o : Int), .int .u8 (y.1 : Int), .int .i64 y.2.1, .string (str y.2.2), .int .u8 (z.1 : Int), .int .i64 z.2.1, .string (str z.2.2)] 33)).heap.size ((w.alloc (.cells #[.slice a1 cs.length c1, .slice a2 cols.length c2, .slice a3 vals.length c3] 26)).alloc (.cells #[.int .u8 (o : Int), .int .u8 (y.1 : Int), .int .i64 y.2.1, .string (str y.2.2), .int .u8 (z.1 : Int), .int .i64 z.2.1, .string (str z.2.2)] 33)) w6) :
    (w6.cell? ⟨w.heap.size, 0, none⟩ = some (.slice a1 cs.length c1) ∧ w6.frozen? ⟨w.heap.size, 0, none⟩ = false ∧ (w6.setCell ⟨w.heap.size, 0, none⟩ (.slice a1 (min cs.length 40) c1)).cell? ⟨w.heap.size, 1, none⟩ = some (.slice a2 cols.length c2) ∧ (w6.setCell ⟨w.heap.size, 0, none⟩ (.slice a1 (min cs.length 40) c1)).frozen? ⟨w.heap.size, 1, none⟩ = false ∧ ((w6.setCell ⟨w.heap.size, 0, none⟩ (.slice a1 (min cs.length 40) c1)).setCell ⟨w.heap.size, 1, none⟩ (.slice a2 (min cols.length 8) c2)).cell? ⟨w.heap.size, 2, none⟩ = some (.slice a3 vals.length c3) ∧ ((w6.setCell ⟨w.heap.size, 0, none⟩ (.slice a1 (min cs.length 40) c1)).setCell ⟨w.heap.size, 1, none⟩ (.slice a2 (min cols.length 8) c2)).frozen? ⟨w.heap.size, 2, none⟩ = false) ∧
    H3 w (((w6.setCell ⟨w.heap.size, 0, none⟩ (.slice a1 (min cs.length 40) c1)).setCell ⟨w.heap.size, 1, none⟩ (.slice a2 (min cols.length 8) c2)).setCell ⟨w.heap.size, 2, none⟩ (.slice a3 (min vals.length 8) c3)) (.slice a1 (min cs.length 40) c1) (.slice a2 (min cols.length 8) c2) (.slice a3 (min vals.length 8) c3) (cs.take 40) (cols.take 8) (vals.take 8) o y z := by
  have e1 := T.blk_new w [.slice a1 cs.length c1, .slice a2 cols.length c2, .slice a3 vals.length c3] 26
  have x1 := T.al w (.cells #[.slice a1 cs.length c1, .slice a2 cols.length c2, .slice a3 vals.length c3] 26)
  have x2 := T.al (w.alloc (.cells #[.slice a1 cs.length c1, .slice a2 cols.length c2, .slice a3 vals.length c3] 26)) (.cells #[.int .u8 (o : Int), .int .u8 (y.1 : Int), .int .i64 y.2.1, .string (str y.2.2), .int .u8 (z.1 : Int), .int .i64 z.2.1, .string (str z.2.2)] 33)
  have e2 : T.Blk ((w.alloc (.cells #[.slice a1 cs.length c1, .slice a2 cols.length c2, .slice a3 vals.length c3] 26)).alloc (.cells #[.int .u8 (o : Int), .int .u8 (y.1 : Int), .int .i64 y.2.1, .string (str y.2.2), .int .u8 (z.1 : Int), .int .i64 z.2.1, .string (str z.2.2)] 33)) (w.heap.size + 1) [.int .u8 (o : Int), .int .u8 (y.1 : Int), .int .i64 y.2.1, .string (str y.2.2), .int .u8 (z.1 : Int), .int .i64 z.2.1, .string (str z.2.2)] 33 := T.blk_at (w.alloc (.cells #[.slice a1 cs.length c1, .slice a2 cols.length c2, .slice a3 vals.length c3] 26)) _ 33 (by simp)
  obtain ⟨f, h⟩ := a3_start (W := ((w.alloc (.cells #[.slice a1 cs.length c1, .slice a2 cols.length c2, .slice a3 vals.length c3] 26)).alloc (.cells #[.int .u8 (o : Int), .int .u8 (y.1 : Int), .int .i64 y.2.1, .string (str y.2.2), .int .u8 (z.1 : Int), .int .i64 z.2.1, .string (str z.2.2)] 33))) (w6 := w6) h1 h2 h3 hk hs hg (bmore x1 x2) (Nat.le_refl _) (e1.below x2) k
  have e3 : ∀ {W : World} {v : Value} {j : Nat}, T.Blk W (w.heap.size + 1) [.int .u8 (o : Int), .int .u8 (y.1 : Int), .int .i64 y.2.1, .string (str y.2.2), .int .u8 (z.1 : Int), .int .i64 z.2.1, .string (str z.2.2)] 33 → T.Blk (W.setCell ⟨w.heap.size, j, none⟩ v) (w.heap.size + 1) [.int .u8 (o : Int), .int .u8 (y.1 : Int), .int .i64 y.2.1, .string (str y.2.2), .int .u8 (z.1 : Int), .int .i64 z.2.1, .string (str z.2.2)] 33 := fun hq => hq.other (p := ⟨w.heap.size, _, none⟩) (show w.heap.size + 1 ≠ w.heap.size by omega) _
  exact ⟨f, h, e3 (e3 (e3 (e2.below k)))⟩
section
variable {s1 s2 s3 : Value} {o : Nat} {y z : Va}
theorem H3.below (h : H3 w W s1 s2 s3 cs cols vals o y z) (k : Below W.heap.size W w') : H3 w w' s1 s2 s3 cs cols vals o y z := ⟨h.a3.below k, h.tw.below k⟩
theorem H3.cells (h : H3 w W s1 s2 s3 cs cols vals o y z) : W.cell? ⟨w.heap.size + 1, 0, none⟩ = some (.int .u8 (o : Int)) ∧ W.cell? ⟨w.heap.size + 1, 1, none⟩ = some (.int .u8 (y.1 : Int)) ∧ W.cell? ⟨w.heap.size + 1, 2, none⟩ = some (.int .i64 y.2.1) ∧ W.cell? ⟨w.heap.size + 1, 3, none⟩ = some (.string (str y.2.2)) ∧ W.cell? ⟨w.heap.size + 1, 4, none⟩ = some (.int .u8 (z.1 : Int)) ∧ W.cell? ⟨w.heap.size + 1, 5, none⟩ = some (.int .i64 z.2.1) ∧ W.cell? ⟨w.heap.size + 1, 6, none⟩ = some (.string (str z.2.2)) :=
  ⟨h.tw.cell 0, h.tw.cell 1, h.tw.cell 2, h.tw.cell 3, h.tw.cell 4, h.tw.cell 5, h.tw.cell 6⟩
end
/-- .. the two values in a block, what both Equals tell in two more. -/
structure T3 (w W : World) (s1 s2 s3 : Value) (cs : List Cd) (cols : List Co) (vals : List Va) (y z d : Va) (P8 P9 P11 : Nat) : Prop where
  a3 : A3 w W w.heap.size s1 s2 s3 cs cols vals
  b8 : T.Blk W P8 [.int .u8 (y.1 : Int), .int .i64 y.2.1, .string (str y.2.2), .int .u8 (z.1 : Int), .int .i64 z.2.1, .string (str z.2.2)] 31
  b9 : T.Blk W P9 [.int .u8 (d.1 : Int), .int .i64 d.2.1, .string (str d.2.2)] 30
  b11 : T.Blk W P11 [.int .u8 (d.1 : Int), .int .i64 d.2.1, .string (str d.2.2)] 30
section
variable {s1 s2 s3 : Value} {y z d : Va} {P8 P9 P11 : Nat}
theorem T3.below (h : T3 w W s1 s2 s3 cs cols vals y z d P8 P9 P11) (k : Below W.heap.size W w') : T3 w w' s1 s2 s3 cs cols vals y z d P8 P9 P11 := ⟨h.a3.below k, h.b8.below k, h.b9.below k, h.b11.below k⟩
theorem T3.c10 (h : T3 w W s1 s2 s3 cs cols vals y z d P8 P9 P11) : Calls Tryd.prog 10 #[] W fun e w' => e = .returned (.bool true) ∧ T3 w w' s1 s2 s3 cs cols vals y z d P8 P9 P11 :=
  (live10 W h.a3.gd).mono fun _ _ ⟨h1, h2⟩ => ⟨h1, h.below h2⟩
theorem T3.c11 (h : T3 w W s1 s2 s3 cs cols vals y z d P8 P9 P11) (o : Nat) : Calls Tryd.prog 11 #[.int .u8 (o : Int), .agg #[.int .u8 (y.1 : Int), .int .i64 y.2.1, .string (str y.2.2)], .agg #[.int .u8 (z.1 : Int), .int .i64 z.2.1, .string (str z.2.2)]] W fun e w' => e = .returned (.bool (cmpsP o y.1 y.2.1 y.2.2 z.1 z.2.1 z.2.2)) ∧ T3 w w' s1 s2 s3 cs cols vals y z d P8 P9 P11 := by
  have := compares11 o (y.1 : Int) y.2.1 (str y.2.2) (z.1 : Int) z.2.1 (str z.2.2) W
  rw [bs_str, bs_str] at this
  exact this.mono fun _ _ ⟨h1, h2⟩ => ⟨h1, h.below h2⟩
theorem T3.c12 (h : T3 w W s1 s2 s3 cs cols vals y z d P8 P9 P11) (o : Nat) : Calls Tryd.prog 12 #[.int .u8 (o : Int), .agg #[.int .u8 (y.1 : Int), .int .i64 y.2.1, .string (str y.2.2)], .agg #[.int .u8 (z.1 : Int), .int .i64 z.2.1, .string (str z.2.2)]] W fun e w' => e = .returned (.bool (cmpsP o y.1 y.2.1 y.2.2 z.1 z.2.1 z.2.2)) ∧ T3 w w' s1 s2 s3 cs cols vals y z d P8 P9 P11 := by
  have := compares12 o (y.1 : Int) y.2.1 (str y.2.2) (z.1 : Int) z.2.1 (str z.2.2) W
  rw [bs_str, bs_str] at this
  exact this.mono fun _ _ ⟨h1, h2⟩ => ⟨h1, h.below h2⟩
end
set_option maxHeartbeats 16000000 in
/-- The law ExprTells. -/
theorem tells3 {v : Value} (h : ICase w v cs cols vals) (hkk : ∀ x ∈ cs, x.kids.length ≤ 1048576) (col : Bs) (o : Nat) (y z : Va) (hg : Good w) : Calls Tryd.prog 3 #[v, .string (str col), twoV o y z] w fun e w' => e = .returned (.bool true) ∧ Below w.heap.size w w' := by
  obtain ⟨a1, c1, a2, c2, a3, c3, rfl, h1, h2, h3, m1, m2, m3⟩ := h.ex
  have k7 := few7 (W := ((w.alloc (.cells #[.slice a1 cs.length c1, .slice a2 cols.length c2, .slice a3 vals.length c3] 26)).alloc (.cells #[.int .u8 (o : Int), .int .u8 (y.1 : Int), .int .i64 y.2.1, .string (str y.2.2), .int .u8 (z.1 : Int), .int .i64 z.2.1, .string (str z.2.2)] 33))) a1 cs.length c1 a2 cols.length c2 a3 vals.length c3 h1.cap h2.cap.2 h3.cap.2 (fun e => h1.addr (by omega)) (fun e => lv_addr h2 (by omega)) (fun e => lv_addr h3 (by omega)) m1 m2 m3
  have HST : Hid (∀ w6, Below ((w.alloc (.cells #[.slice a1 cs.length c1, .slice a2 cols.length c2, .slice a3 vals.length c3] 26)).alloc (.cells #[.int .u8 (o : Int), .int .u8 (y.1 : Int), .int .i64 y.2.1, .string (str y.2.2), .int .u8 (z.1 : Int), .int .i64 z.2.1, .string (str z.2.2)] 33)).heap.size ((w.alloc (.cells #[.slice a1 cs.length c1, .slice a2 cols.length c2, .slice a3 vals.length c3] 26)).alloc (.cells #[.int .u8 (o : Int), .int .u8 (y.1 : Int), .int .i64 y.2.1, .string (str y.2.2), .int .u8 (z.1 : Int), .int .i64 z.2.1, .string (str z.2.2)] 33)) w6 → _) := fun w6 k6 => h3_start (o := o) (y := y) (z := z) h1 h2 h3 h.kids h.size hg k6
  have HKK : Hid (∀ x ∈ cs.take 40, x.kids.length ≤ 1048576) := fun x hx => hkk x (List.mem_of_mem_take hx)
  generalize cs.length = l1 at *
  generalize cols.length = l2 at *
  generalize vals.length = l3 at *
  clear h h1 h2 h3 m1 m2 m3 hg hkk
  generalize min l1 40 = e1 at *
  generalize min l2 8 = e2 at *
  generalize min l3 8 = e3 at *
  generalize cs.take 40 = cs at *
  generalize cols.take 8 = cols at *
  generalize vals.take 8 = vals at *
  obtain ⟨yk, yn, yt⟩ := y
  obtain ⟨zk, zn, zt⟩ := z
  simp only at k7 HST ⊢
  go_enter Tryd.func3, Tryd.ntmps3
  go_wp2_with (go_at_call 7; refine Calls.mono k7 ?_; rintro e w6 ⟨rfl, k6⟩; obtain ⟨⟨f1, f2, f3, f4, f5, f6⟩, g6⟩ := HST.out w6 k6; have H7 : Hid _ := g6; clear g6 k6)
  clear f1 f2 f3 f4 f5 f6 HST
  generalize (((w6.setCell ⟨w.heap.size, 0, none⟩ (.slice a1 e1 c1)).setCell ⟨w.heap.size, 1, none⟩ (.slice a2 e2 c2)).setCell ⟨w.heap.size, 2, none⟩ (.slice a3 e3 c3)) = W7 at H7 ⊢
  have H7' : Hid (H3 w W7 (.slice a1 e1 c1) (.slice a2 e2 c2) (.slice a3 e3 c3) cs cols vals o (yk, yn, yt) (zk, zn, zt)) := H7
  have HS : Hid (∀ W, H3 w W (.slice a1 e1 c1) (.slice a2 e2 c2) (.slice a3 e3 c3) cs cols vals o (yk, yn, yt) (zk, zn, zt) → W.cell? ⟨w.heap.size + 1, 0, none⟩ = some (.int .u8 (o : Int)) ∧ W.cell? ⟨w.heap.size + 1, 1, none⟩ = some (.int .u8 (yk : Int)) ∧ W.cell? ⟨w.heap.size + 1, 2, none⟩ = some (.int .i64 yn) ∧ W.cell? ⟨w.heap.size + 1, 3, none⟩ = some (.string (str yt)) ∧ W.cell? ⟨w.heap.size + 1, 4, none⟩ = some (.int .u8 (zk : Int)) ∧ W.cell? ⟨w.heap.size + 1, 5, none⟩ = some (.int .i64 zn) ∧ W.cell? ⟨w.heap.size + 1, 6, none⟩ = some (.string (str zt))) := fun W h => h.cells
  have H7d : Hid (H3 w W7.drew (.slice a1 e1 c1) (.slice a2 e2 c2) (.slice a3 e3 c3) cs cols vals o (yk, yn, yt) (zk, zn, zt)) := H7'.out.below (Below.refl _ _).drew
  have HSa : Hid (∀ c, H3 w (W7.alloc (.cells c 31)).drew (.slice a1 e1 c1) (.slice a2 e2 c2) (.slice a3 e3 c3) cs cols vals o (yk, yn, yt) (zk, zn, zt)) := fun c => H7'.out.below ((T.al W7 _).trans (Below.refl _ _).drew)
  go_region_held3 (fun W => W.cell? ⟨w.heap.size + 1, 0, none⟩ = some (.int .u8 (o : Int)) ∧ W.cell? ⟨w.heap.size + 1, 1, none⟩ = some (.int .u8 (yk : Int)) ∧ W.cell? ⟨w.heap.size + 1, 2, none⟩ = some (.int .i64 yn) ∧ W.cell? ⟨w.heap.size + 1, 3, none⟩ = some (.string (str yt)) ∧ W.cell? ⟨w.heap.size + 1, 4, none⟩ = some (.int .u8 (zk : Int)) ∧ W.cell? ⟨w.heap.size + 1, 5, none⟩ = some (.int .i64 zn) ∧ W.cell? ⟨w.heap.size + 1, 6, none⟩ = some (.string (str zt))) (first | exact HS.out _ H7d.out | exact HS.out _ (HSa.out _)) (fail)
  have HB8 : Hid (T.Blk (W7.alloc (.cells #[.int .u8 (yk : Int), .int .i64 yn, .string (str yt), .int .u8 (zk : Int), .int .i64 zn, .string (str zt)] 31)).drew W7.heap.size [.int .u8 (yk : Int), .int .i64 yn, .string (str yt), .int .u8 (zk : Int), .int .i64 zn, .string (str zt)] 31) := (T.blk_new W7 [.int .u8 (yk : Int), .int .i64 yn, .string (str yt), .int .u8 (zk : Int), .int .i64 zn, .string (str zt)] 31).below (Below.refl _ _).drew
  have HW8 : Hid (A3 w (W7.alloc (.cells #[.int .u8 (yk : Int), .int .i64 yn, .string (str yt), .int .u8 (zk : Int), .int .i64 zn, .string (str zt)] 31)).drew w.heap.size (.slice a1 e1 c1) (.slice a2 e2 c2) (.slice a3 e3 c3) cs cols vals) := (HSa.out _).a3
  clear HSa HS H7d H7 H7'
  generalize (W7.alloc (.cells #[.int .u8 (yk : Int), .int .i64 yn, .string (str yt), .int .u8 (zk : Int), .int .i64 zn, .string (str zt)] 31)).drew = W8 at HB8 HW8 ⊢
  generalize W7.heap.size = P8 at HB8 ⊢
  obtain ⟨⟨⟨dk, dn, dt⟩, db⟩, hD⟩ : ∃ D, equalV cs col = D := ⟨_, rfl⟩
  have HD : Hid (equalV cs col = ((dk, dn, dt), db)) := hD
  have HC8 : Hid (∀ W, A3 w W w.heap.size (.slice a1 e1 c1) (.slice a2 e2 c2) (.slice a3 e3 c3) cs cols vals → Calls Tryd.prog 8 #[.slice a1 e1 c1, .string (str col)] W fun e w' => e = .returned (.tuple #[.agg #[.int .u8 (dk : Int), .int .i64 dn, .string (str dt)], .bool db]) ∧ Below W.heap.size W w') := fun W h => by
    have := h.c8 HKK.out col
    rw [HD.out] at this
    exact this
  have HC9 : Hid (∀ W, A3 w W w.heap.size (.slice a1 e1 c1) (.slice a2 e2 c2) (.slice a3 e3 c3) cs cols vals → Calls Tryd.prog 9 #[.slice a1 e1 c1, .string (str col)] W fun e w' => e = .returned (.tuple #[.agg #[.int .u8 (dk : Int), .int .i64 dn, .string (str dt)], .bool db]) ∧ Below W.heap.size W w') := fun W h => by
    have := requal9 col h.lc (Nat.le_trans h.n1 (by decide)) (fun x hx => Nat.le_trans (HKK.out x hx) (by decide))
    rw [HD.out] at this
    exact this
  clear hD HD
  have H8 := HW8.out.cells.1
  have HSC : Hid (∀ W P9 P11, T3 w W (.slice a1 e1 c1) (.slice a2 e2 c2) (.slice a3 e3 c3) cs cols vals (yk, yn, yt) (zk, zn, zt) (dk, dn, dt) P8 P9 P11 → (W.cell? ⟨P9, 0, none⟩ = some (.int .u8 (dk : Int)) ∧ W.cell? ⟨P9, 1, none⟩ = some (.int .i64 dn) ∧ W.cell? ⟨P9, 2, none⟩ = some (.string (str dt))) ∧ (W.cell? ⟨P11, 0, none⟩ = some (.int .u8 (dk : Int)) ∧ W.cell? ⟨P11, 1, none⟩ = some (.int .i64 dn) ∧ W.cell? ⟨P11, 2, none⟩ = some (.string (str dt))) ∧ W.cell? ⟨P8, 0, none⟩ = some (.int .u8 (yk : Int)) ∧ W.cell? ⟨P8, 1, none⟩ = some (.int .i64 yn) ∧ W.cell? ⟨P8, 2, none⟩ = some (.string (str yt)) ∧ W.cell? ⟨P8, 3, none⟩ = some (.int .u8 (zk : Int)) ∧ W.cell? ⟨P8, 4, none⟩ = some (.int .i64 zn) ∧ W.cell? ⟨P8, 5, none⟩ = some (.string (str zt))) := fun W P9 P11 h => ⟨⟨h.b9.cell 0, h.b9.cell 1, h.b9.cell 2⟩, ⟨h.b11.cell 0, h.b11.cell 1, h.b11.cell 2⟩, h.b8.cell 0, h.b8.cell 1, h.b8.cell 2, h.b8.cell 3, h.b8.cell 4, h.b8.cell 5⟩
  have HK1 : Hid (∀ w1, Below W8.heap.size W8 w1 → (A3 w (w1.alloc (.cells #[.int .u8 (dk : Int), .int .i64 dn, .string (str dt)] 30)) w.heap.size (.slice a1 e1 c1) (.slice a2 e2 c2) (.slice a3 e3 c3) cs cols vals) ∧ (w1.alloc (.cells #[.int .u8 (dk : Int), .int .i64 dn, .string (str dt)] 30)).cell? ⟨w.heap.size, 0, none⟩ = some (.slice a1 e1 c1)) := fun w1 k1 => by
    have := (HW8.out.below k1).below (T.al w1 (.cells #[.int .u8 (dk : Int), .int .i64 dn, .string (str dt)] 30))
    exact ⟨this, this.cells.1⟩
  have HK2 : Hid (∀ w1 w2, Below W8.heap.size W8 w1 → Below (w1.alloc (.cells #[.int .u8 (dk : Int), .int .i64 dn, .string (str dt)] 30)).heap.size (w1.alloc (.cells #[.int .u8 (dk : Int), .int .i64 dn, .string (str dt)] 30)) w2 → T3 w (w2.alloc (.cells #[.int .u8 (dk : Int), .int .i64 dn, .string (str dt)] 30)) (.slice a1 e1 c1) (.slice a2 e2 c2) (.slice a3 e3 c3) cs cols vals (yk, yn, yt) (zk, zn, zt) (dk, dn, dt) P8 w1.heap.size w2.heap.size) := fun w1 w2 k1 k2 => by
    have x1 := T.al w1 (.cells #[.int .u8 (dk : Int), .int .i64 dn, .string (str dt)] 30)
    have x2 := T.al w2 (.cells #[.int .u8 (dk : Int), .int .i64 dn, .string (str dt)] 30)
    exact ⟨(((HW8.out.below k1).below x1).below k2).below x2, (((HB8.out.below k1).below x1).below k2).below x2, ((T.blk_new w1 [.int .u8 (dk : Int), .int .i64 dn, .string (str dt)] 30).below k2).below x2, T.blk_new w2 [.int .u8 (dk : Int), .int .i64 dn, .string (str dt)] 30⟩
  go_wp2_with (first
    | (go_at_call 9; have hq := HC9.out _ (HK1.out _ B1.out).1; (with_reducible refine Calls.mono hq ?_); clear hq; rintro e w2 ⟨rfl, b2⟩; have HT := HK2.out _ _ B1.out b2; have HT0 : Hid _ := HT; clear b2 HT)
    | (go_at_call 8; have hq := HC8.out _ HW8.out; (with_reducible refine Calls.mono hq ?_); clear hq; rintro e w1 ⟨rfl, b1⟩; have B1 : Hid _ := b1; have hq1 := (HK1.out _ b1).2; clear b1))
  clear hq1 HK1 HK2 HC8 HC9 H8 HW8 HB8 B1
  generalize (w2.alloc (.cells #[.int .u8 (dk : Int), .int .i64 dn, .string (str dt)] 30)) = W10 at HT0 ⊢
  generalize w2.heap.size = P11 at HT0 ⊢
  generalize w1.heap.size = P9 at HT0 ⊢
  have HTd : Hid _ := HT0.out.below (Below.refl _ _).drew
  generalize hr : cmpsP o (yk : Int) yn yt (zk : Int) zn zt = r
  go_region_held3 (fun W => (W.cell? ⟨P9, 0, none⟩ = some (.int .u8 (dk : Int)) ∧ W.cell? ⟨P9, 1, none⟩ = some (.int .i64 dn) ∧ W.cell? ⟨P9, 2, none⟩ = some (.string (str dt))) ∧ (W.cell? ⟨P11, 0, none⟩ = some (.int .u8 (dk : Int)) ∧ W.cell? ⟨P11, 1, none⟩ = some (.int .i64 dn) ∧ W.cell? ⟨P11, 2, none⟩ = some (.string (str dt))) ∧ W.cell? ⟨P8, 0, none⟩ = some (.int .u8 (yk : Int)) ∧ W.cell? ⟨P8, 1, none⟩ = some (.int .i64 yn) ∧ W.cell? ⟨P8, 2, none⟩ = some (.string (str yt)) ∧ W.cell? ⟨P8, 3, none⟩ = some (.int .u8 (zk : Int)) ∧ W.cell? ⟨P8, 4, none⟩ = some (.int .i64 zn) ∧ W.cell? ⟨P8, 5, none⟩ = some (.string (str zt))) (first | exact HSC.out _ _ _ HTC.out | exact HSC.out _ _ _ HTB.out | exact HSC.out _ _ _ HTA.out | exact HSC.out _ _ _ HTd.out) (first
    | (go_at_call 12; have hq := HTB.out.c12 o; simp only [hr] at hq; (with_reducible refine Calls.mono hq ?_); clear hq; rintro e wC ⟨rfl, tC⟩; have HTC : Hid _ := tC; clear tC)
    | (go_at_call 11; have hq := HTA.out.c11 o; simp only [hr] at hq; (with_reducible refine Calls.mono hq ?_); clear hq; rintro e wB ⟨rfl, tB⟩; have HTB : Hid _ := tB; clear tB)
    | (go_at_call 12; have hq := HTA.out.c12 o; simp only [hr] at hq; (with_reducible refine Calls.mono hq ?_); clear hq; rintro e wB ⟨rfl, tB⟩; have HTB : Hid _ := tB; clear tB)
    | (go_at_call 11; have hq := HTB.out.c11 o; simp only [hr] at hq; (with_reducible refine Calls.mono hq ?_); clear hq; rintro e wC ⟨rfl, tC⟩; have HTC : Hid _ := tC; clear tC)
    | (go_at_call 10; have hq := HTd.out.c10; (with_reducible refine Calls.mono hq ?_); clear hq; rintro e wA ⟨rfl, tA⟩; have HTA : Hid _ := tA; clear tA))
  all_goals (go_wp2_with fail)
  all_goals go_ret
  all_goals exact ⟨rfl, HTC.out.a3.bel⟩
end Go.Proofs.YtipnaphikbjhbaaDoor
