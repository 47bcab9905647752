/- Small ones: Contains, firstMade; the closures of Depth and Equal. · The closure of Equal; Equal, Depth. · Equal, Depth. -/
import Derived.Test.YtipnaphikbjhbaaDoorRb
/-! ### Small ones: Contains, firstMade; the closures of Depth and Equal. -/
namespace Go.Proofs.YtipnaphikbjhbaaDoor
open Go.RowKit
set_option maxRecDepth 100000
variable {w w' : World}
set_option maxHeartbeats 2000000 in
theorem index42 {v : Value} {l : List Bool} (t : Bool) (h : T.LV EO w v l) (hl : l.length ≤ 1000000000000000) : Calls Tryd.prog 42 #[v, .bool t] w fun e w' => ∃ r : Int, e = .returned (.int .i64 r) ∧ (0 ≤ r ↔ t ∈ l) ∧ w' = w := by
  obtain ⟨a, c, rfl⟩ := h.form
  have HL : Hid (T.LV EO w (.slice a l.length c) l) := h
  obtain ⟨n, hn⟩ : ∃ n, l.length = n := ⟨_, rfl⟩
  rw [hn] at hl HL ⊢
  have HN : Hid (l.length = n) := hn
  clear hn h
  go_enter Tryd.func42, Tryd.ntmps42
  go_wp2
  go_loopw [8] (fun q wr => ∃ k : Nat, q = .int .i64 (k : Int) ∧ wr = w ∧ Hid (k ≤ n) ∧ Hid (∀ j, j < k → l[j]? ≠ some t)) (fun q _ => n - (RowKit.intOf q).toNat)
  case atStart => exact ⟨0, rfl, rfl, Nat.zero_le _, fun j hj => absurd hj (Nat.not_lt_zero _)⟩
  case round =>
    obtain ⟨k, rfl, rfl, hk, hne⟩ := hrel
    by_cases hlt : k < n
    · have hi : (k : Int) < (n : Int) := by omega
      have h0 : (0 : Int) ≤ (k : Int) := by omega
      have hw1 : IntKind.i64.wrap ((k : Int) + 1) = (k : Int) + 1 := wrap_small _ (by omega) (by omega)
      obtain ⟨b, hb⟩ : ∃ b, l[k]? = some b := ⟨_, List.getElem?_eq_getElem (by rw [HN.out]; exact hlt)⟩
      obtain ⟨g, o, rfl, hc⟩ := HL.out.at hb
      have hc0 : wr.cell? ⟨g, o + k, none⟩ = some (.bool b) := by
        have := hc 0 (by decide)
        simpa [EO] using this
      by_cases hbt : t = b
      · subst hbt
        have HM : Hid (t ∈ l) := List.mem_of_getElem? hb
        clear hc hb
        have e1 : (t == t) = true := by simp
        go_wp2
        go_ret
        exact ⟨(k : Int), rfl, ⟨fun _ => HM.out, fun _ => h0⟩, rfl⟩
      · have HX : Hid (∀ j, j < k + 1 → l[j]? ≠ some t) := fun j hj e => by
          by_cases hjk : j = k
          · subst hjk; rw [hb] at e; exact hbt (Option.some.inj e).symm
          · exact hne.out j (by omega) e
        have e1 : (t == b) = false := beq_eq_false_iff_ne.2 hbt
        have e2 : decide (t = b) = false := decide_eq_false hbt
        clear hc hb
        go_wp2
        go_roundw
        case rel => exact ⟨k + 1, by simp, by first | rfl | trivial, by show _ ≤ _; omega, HX⟩
        case measure => simp [RowKit.intOf]; omega
    · have hi : ¬ (k : Int) < (n : Int) := by omega
      have HX : Hid (¬ t ∈ l) := fun hm => by
        obtain ⟨j, hj⟩ := List.getElem?_of_mem hm
        exact hne.out j (by have := (List.getElem?_eq_some_iff.1 hj).1; have := HN.out; omega) hj
      go_wp2
      go_ret
      exact ⟨-1, rfl, ⟨fun h => absurd h (by omega), fun h => absurd h HX.out⟩, rfl⟩
theorem contains27 {v : Value} {l : List Bool} (t : Bool) (h : T.LV EO w v l) (hl : l.length ≤ 1000000000000000) : Calls Tryd.prog 27 #[v, .bool t] w fun e w' => e = .returned (.bool (decide (t ∈ l))) ∧ w' = w := by
  have k42 := index42 t h hl
  obtain ⟨a, c, rfl⟩ := h.form
  generalize l.length = n at *
  clear h
  go_enter Tryd.func27, Tryd.ntmps27
  go_wp2_with (go_at_call 42; (refine k42.mono ?_; rintro e w1 ⟨r, rfl, hr, rfl⟩; have HR : Hid (0 ≤ r ↔ t ∈ l) := hr; clear hr))
  go_ret
  refine ⟨?_, rfl⟩
  show Ending.returned (.bool (decide (0 ≤ r))) = _
  rw [decide_eq_decide.2 HR.out]
/-- A result that lies in a block of its own is put there. -/
theorem put4 {W : World} {b : Nat} {l : List Value} {t : TypeId} (h : T.Blk W b l t) (hl : 4 ≤ l.length) (d : Dm) : ((∃ u, W.cell? ⟨b, 0, none⟩ = some u) ∧ W.frozen? ⟨b, 0, none⟩ = false ∧ (∃ u, (W.setCell ⟨b, 0, none⟩ (.int .u8 ((d).1.1 : Int))).cell? ⟨b, 1, none⟩ = some u) ∧ (W.setCell ⟨b, 0, none⟩ (.int .u8 ((d).1.1 : Int))).frozen? ⟨b, 1, none⟩ = false ∧ (∃ u, ((W.setCell ⟨b, 0, none⟩ (.int .u8 ((d).1.1 : Int))).setCell ⟨b, 1, none⟩ (.int .i64 (d).1.2.1)).cell? ⟨b, 2, none⟩ = some u) ∧ ((W.setCell ⟨b, 0, none⟩ (.int .u8 ((d).1.1 : Int))).setCell ⟨b, 1, none⟩ (.int .i64 (d).1.2.1)).frozen? ⟨b, 2, none⟩ = false ∧ (∃ u, (((W.setCell ⟨b, 0, none⟩ (.int .u8 ((d).1.1 : Int))).setCell ⟨b, 1, none⟩ (.int .i64 (d).1.2.1)).setCell ⟨b, 2, none⟩ (.string (str (d).1.2.2))).cell? ⟨b, 3, none⟩ = some u) ∧ (((W.setCell ⟨b, 0, none⟩ (.int .u8 ((d).1.1 : Int))).setCell ⟨b, 1, none⟩ (.int .i64 (d).1.2.1)).setCell ⟨b, 2, none⟩ (.string (str (d).1.2.2))).frozen? ⟨b, 3, none⟩ = false ∧ ((((W.setCell ⟨b, 0, none⟩ (.int .u8 ((d).1.1 : Int))).setCell ⟨b, 1, none⟩ (.int .i64 (d).1.2.1)).setCell ⟨b, 2, none⟩ (.string (str (d).1.2.2))).setCell ⟨b, 3, none⟩ (.bool (d).2)).cell? ⟨b, 0, none⟩ = some (.int .u8 ((d).1.1 : Int)) ∧ ((((W.setCell ⟨b, 0, none⟩ (.int .u8 ((d).1.1 : Int))).setCell ⟨b, 1, none⟩ (.int .i64 (d).1.2.1)).setCell ⟨b, 2, none⟩ (.string (str (d).1.2.2))).setCell ⟨b, 3, none⟩ (.bool (d).2)).cell? ⟨b, 1, none⟩ = some (.int .i64 (d).1.2.1) ∧ ((((W.setCell ⟨b, 0, none⟩ (.int .u8 ((d).1.1 : Int))).setCell ⟨b, 1, none⟩ (.int .i64 (d).1.2.1)).setCell ⟨b, 2, none⟩ (.string (str (d).1.2.2))).setCell ⟨b, 3, none⟩ (.bool (d).2)).cell? ⟨b, 2, none⟩ = some (.string (str (d).1.2.2)) ∧ ((((W.setCell ⟨b, 0, none⟩ (.int .u8 ((d).1.1 : Int))).setCell ⟨b, 1, none⟩ (.int .i64 (d).1.2.1)).setCell ⟨b, 2, none⟩ (.string (str (d).1.2.2))).setCell ⟨b, 3, none⟩ (.bool (d).2)).cell? ⟨b, 3, none⟩ = some (.bool (d).2)) := by
  obtain ⟨⟨u0, d0⟩, d1, ⟨u2, d2⟩, d3, ⟨u4, d4⟩, d5, ⟨u6, d6⟩, d7, d8, d9, d10, d11, d12⟩ := bx4 h (o := 0) (by omega) (.int .u8 ((d).1.1 : Int)) (.int .i64 (d).1.2.1) (.string (str (d).1.2.2)) (.bool (d).2)
  simp only [Nat.zero_add] at d0 d1 d2 d3 d4 d5 d6 d7 d8 d9 d10 d11 d12
  exact ⟨⟨u0, d0⟩, d1, ⟨u2, d2⟩, d3, ⟨u4, d4⟩, d5, ⟨u6, d6⟩, d7, d9, d10, d11, d12⟩
theorem put4_below {w0 W : World} {b B : Nat} (h : Below B w0 W) (hb : B ≤ b) (d : Dm) : Below B w0 ((((W.setCell ⟨b, 0, none⟩ (.int .u8 ((d).1.1 : Int))).setCell ⟨b, 1, none⟩ (.int .i64 (d).1.2.1)).setCell ⟨b, 2, none⟩ (.string (str (d).1.2.2))).setCell ⟨b, 3, none⟩ (.bool (d).2)) := T.bset (T.bset (T.bset (T.bset h (p := ⟨b, 0, none⟩) hb _) (p := ⟨b, 1, none⟩) hb _) (p := ⟨b, 2, none⟩) hb _) (p := ⟨b, 3, none⟩) hb _
def firstD (l : List Dm) : Dm := (l.find? fun d => d.2).getD dm0
theorem firstD_skip {l : List Dm} {k : Nat} {d : Dm} (h : l[k]? = some d) (hd : d.2 = false) : firstD (l.drop k) = firstD (l.drop (k + 1)) := by
  obtain ⟨hk, rfl⟩ := List.getElem?_eq_some_iff.1 h
  rw [List.drop_eq_getElem_cons hk]
  unfold firstD
  rw [List.find?_cons, hd]
theorem firstD_hit {l : List Dm} {k : Nat} {d : Dm} (h : l[k]? = some d) (hd : d.2 = true) : firstD (l.drop k) = d := by
  obtain ⟨hk, rfl⟩ := List.getElem?_eq_some_iff.1 h
  rw [List.drop_eq_getElem_cons hk]
  unfold firstD
  rw [List.find?_cons, hd]
  rfl
set_option maxHeartbeats 4000000 in
theorem first18 {v : Value} {l : List Dm} (h : T.LV ED w v l) (hl : l.length ≤ 1000000000000000) : Calls Tryd.prog 18 #[v] w fun e w' => e = .returned (dmV (firstD l)) ∧ Below w.heap.size w w' := by
  obtain ⟨a, c, rfl⟩ := h.form
  have hal := T.al w (.cells #[.int .u8 0, .int .i64 0, .string ⟨#[]⟩, .bool false] 49)
  have HL : Hid (∀ W, Below w.heap.size w W → T.LV ED W (.slice a l.length c) l) := fun W k => h.below k
  have HR : Hid (∀ W, Below (w.alloc (.cells #[.int .u8 0, .int .i64 0, .string ⟨#[]⟩, .bool false] 49)).heap.size (w.alloc (.cells #[.int .u8 0, .int .i64 0, .string ⟨#[]⟩, .bool false] 49)) W → T.Blk W w.heap.size [.int .u8 0, .int .i64 0, .string ⟨#[]⟩, .bool false] 49) := fun W k => (T.blk_new w _ 49).below k
  have HA : Hid (Below w.heap.size w (w.alloc (.cells #[.int .u8 0, .int .i64 0, .string ⟨#[]⟩, .bool false] 49))) := hal
  obtain ⟨n, hn⟩ : ∃ n, l.length = n := ⟨_, rfl⟩
  rw [hn] at hl HL ⊢
  have HN : Hid (l.length = n) := hn
  clear hn h hal
  go_enter Tryd.func18, Tryd.ntmps18
  go_wp2
  go_loopw [7] (fun q wr => ∃ k : Nat, q = .int .i64 (k : Int) ∧ Hid (k ≤ n) ∧ Hid (firstD l = firstD (l.drop k)) ∧ Hid (Below (w.alloc (.cells #[.int .u8 0, .int .i64 0, .string ⟨#[]⟩, .bool false] 49)).heap.size (w.alloc (.cells #[.int .u8 0, .int .i64 0, .string ⟨#[]⟩, .bool false] 49)) wr)) (fun q _ => n - (RowKit.intOf q).toNat)
  case atStart => exact ⟨0, rfl, Nat.zero_le _, rfl, Below.refl _ _⟩
  case round =>
    obtain ⟨k, rfl, hk, hne, hbel⟩ := hrel
    have hkn := hk.out
    by_cases hlt : k < n
    · have hi : (k : Int) < (n : Int) := by omega
      have h0 : (0 : Int) ≤ (k : Int) := by omega
      have hw1 : IntKind.i64.wrap ((k : Int) + 1) = (k : Int) + 1 := wrap_small _ (by omega) (by omega)
      obtain ⟨d, hd⟩ : ∃ d, l[k]? = some d := ⟨_, List.getElem?_eq_getElem (by rw [HN.out]; exact hlt)⟩
      have hB : Below w.heap.size w wr := HA.out.trans (hbel.out.mono (by simp))
      obtain ⟨g, o, rfl, hc⟩ := (HL.out wr hB).at hd
      have e0 : wr.cell? ⟨g, o + k * 4, none⟩ = some (.int .u8 (d.1.1 : Int)) := hc 0 (by decide)
      have e1 : wr.cell? ⟨g, o + k * 4 + 1, none⟩ = some (.int .i64 d.1.2.1) := hc 1 (by decide)
      have e2 : wr.cell? ⟨g, o + k * 4 + 2, none⟩ = some (.string (str d.1.2.2)) := hc 2 (by decide)
      have e3 : wr.cell? ⟨g, o + k * 4 + 3, none⟩ = some (.bool d.2) := hc 3 (by decide)
      have HA2 : Hid (Below (w.alloc (.cells #[.int .u8 0, .int .i64 0, .string ⟨#[]⟩, .bool false] 49)).heap.size (w.alloc (.cells #[.int .u8 0, .int .i64 0, .string ⟨#[]⟩, .bool false] 49)) (wr.alloc (.cells #[.int .u8 ((d).1.1 : Int), .int .i64 (d).1.2.1, .string (str (d).1.2.2), .bool (d).2] 49))) := bmore hbel.out (T.al _ _)
      obtain ⟨⟨v1, v2, v3⟩, b⟩ := d
      simp only at e0 e1 e2 e3 HA2
      cases b
      · have HX : Hid (firstD l = firstD (l.drop (k + 1))) := hne.out.trans (firstD_skip hd rfl)
        clear hc hd hB
        go_wp2
        go_roundw
        case rel => exact ⟨k + 1, by simp, by show _ ≤ _; omega, HX, HA2⟩
        case measure => simp [RowKit.intOf]; omega
      · have HX : Hid (firstD l = ((v1, v2, v3), true)) := hne.out.trans (firstD_hit hd rfl)
        have hRb := HR.out _ HA2.out
        obtain ⟨⟨u0, d0⟩, d1, ⟨u2, d2⟩, d3, ⟨u4, d4⟩, d5, ⟨u6, d6⟩, d7, d9, d10, d11, d12⟩ := put4 hRb (by simp) ((v1, v2, v3), true)
        have HB : Hid (Below w.heap.size w _) := put4_below (HA.out.trans (HA2.out.mono (by simp))) (Nat.le_refl w.heap.size) ((v1, v2, v3), true)
        simp only at d0 d1 d2 d3 d4 d5 d6 d7 d9 d10 d11 d12
        clear hc hd hB hRb
        go_wp2
        rw [HX.out]
        exact bodyPost_ret (v := dmV ((v1, v2, v3), true)) (by simp [results, Tryd.results18, go_sem, d9, d10, d11, d12]) rfl ⟨rfl, HB.out⟩
    · obtain rfl : k = n := by omega
      have hi : ¬ (k : Int) < (k : Int) := by omega
      have HX : Hid (firstD l = dm0) := by
        show _ = _
        rw [hne.out, List.drop_eq_nil_of_le (by rw [HN.out]; exact Nat.le_refl _)]
        rfl
      have hRb := HR.out _ hbel.out
      obtain ⟨⟨u0, d0⟩, d1, ⟨u2, d2⟩, d3, ⟨u4, d4⟩, d5, ⟨u6, d6⟩, d7, d9, d10, d11, d12⟩ := put4 hRb (by simp) ((0, 0, []), false)
      have HB : Hid (Below w.heap.size w _) := put4_below (HA.out.trans (hbel.out.mono (by simp))) (Nat.le_refl w.heap.size) ((0, 0, []), false)
      have es : str [] = ⟨#[]⟩ := rfl
      have ez : ((0 : Nat) : Int) = 0 := rfl
      simp only [es, ez] at d0 d1 d2 d3 d4 d5 d6 d7 d9 d10 d11 d12
      clear hRb
      go_wp2
      rw [HX.out]
      exact bodyPost_ret (v := dmV dm0) (by simp [results, Tryd.results18, go_sem, d9, d10, d11, d12, dm0]) rfl ⟨rfl, HB.out⟩
def deepP (l : List Int) : Int := l.foldl max 0 + 1
theorem fold_max (l : List Int) (k : Nat) (d : Int) (h : l[k]? = some d) : (l.take (k + 1)).foldl max 0 = max ((l.take k).foldl max 0) d := by
  obtain ⟨hk, rfl⟩ := List.getElem?_eq_some_iff.1 h
  rw [List.take_succ_eq_append_getElem hk, List.foldl_append]
  rfl
set_option maxHeartbeats 2000000 in
theorem depth34 {v : Value} {l : List Int} (x : Cd) (y : Sl3) (h : T.LV EI w v l) (hl : l.length ≤ 1000000000000000) : Calls Tryd.prog 34 #[cdV x y, v] w fun e w' => e = .returned (.int .i64 (wrap64 (deepP l))) ∧ Below w.heap.size w w' := by
  obtain ⟨a, c, rfl⟩ := h.form
  have HA : Hid (Below w.heap.size w (w.alloc (.cells #[.int .u8 (x.k : Int), .string (str x.col), .int .u8 (x.op : Int), .int .u8 (x.vk : Int), .int .i64 x.vn, .string (str x.vt), slW y] 54))) := T.al w _
  have HL : Hid (T.LV EI (w.alloc (.cells #[.int .u8 (x.k : Int), .string (str x.col), .int .u8 (x.op : Int), .int .u8 (x.vk : Int), .int .i64 x.vn, .string (str x.vt), slW y] 54)) (.slice a l.length c) l) := h.below HA.out
  obtain ⟨n, hn⟩ : ∃ n, l.length = n := ⟨_, rfl⟩
  rw [hn] at hl HL ⊢
  have HN : Hid (l.length = n) := hn
  clear hn h
  go_enter Tryd.func34, Tryd.ntmps34
  go_wp2
  go_loopw [5, 10] (fun p q wr => ∃ (k : Nat) (d : Int), q = .int .i64 (k : Int) ∧ p = .int .i64 d ∧ wr = w.alloc (.cells #[.int .u8 (x.k : Int), .string (str x.col), .int .u8 (x.op : Int), .int .u8 (x.vk : Int), .int .i64 x.vn, .string (str x.vt), slW y] 54) ∧ Hid (k ≤ n) ∧ Hid (d = (l.take k).foldl max 0)) (fun _ q _ => n - (RowKit.intOf q).toNat)
  case atStart => exact ⟨0, 0, rfl, rfl, rfl, Nat.zero_le _, rfl⟩
  case round =>
    obtain ⟨k, d, rfl, rfl, rfl, hk, hd⟩ := hrel
    have hkn := hk.out
    by_cases hlt : k < n
    · have hi : (k : Int) < (n : Int) := by omega
      have h0 : (0 : Int) ≤ (k : Int) := by omega
      have hw1 : IntKind.i64.wrap ((k : Int) + 1) = (k : Int) + 1 := wrap_small _ (by omega) (by omega)
      obtain ⟨z, hz⟩ : ∃ z, l[k]? = some z := ⟨_, List.getElem?_eq_getElem (by rw [HN.out]; exact hlt)⟩
      obtain ⟨g, o, rfl, hc⟩ := HL.out.at hz
      have hc0 : (w.alloc (.cells #[.int .u8 (x.k : Int), .string (str x.col), .int .u8 (x.op : Int), .int .u8 (x.vk : Int), .int .i64 x.vn, .string (str x.vt), slW y] 54)).cell? ⟨g, o + k, none⟩ = some (.int .i64 z) := by
        have := hc 0 (by decide)
        simpa [EI] using this
      have HX : Hid (max d z = (l.take (k + 1)).foldl max 0) := by
        show _ = _
        rw [fold_max l k z hz, hd.out]
      clear hc hz
      go_wp2
      go_roundw
      case rel => exact ⟨k + 1, max d z, by simp, by first | rfl | trivial, by first | rfl | trivial, by show _ ≤ _; omega, HX⟩
      case measure => simp [RowKit.intOf]; omega
    · obtain rfl : k = n := by omega
      have hi : ¬ (k : Int) < (k : Int) := by omega
      have HX : Hid (deepP l = d + 1) := by
        show _ = _
        unfold deepP
        rw [hd.out, List.take_of_length_le (by rw [HN.out]; exact Nat.le_refl _)]
      go_wp2
      go_ret
      refine ⟨?_, HA.out⟩
      show Ending.returned (.int .i64 (wrap64 (d + 1))) = _
      rw [HX.out]
/-- What a part says that a column must have. -/
def equalP (col : Bs) (x : Cd) (l : List Dm) : Dm := if x.k = 1 ∧ x.op = 1 ∧ x.col = col then ((x.vk, x.vn, x.vt), true) else if x.k = 2 then firstD l else dm0
end Go.Proofs.YtipnaphikbjhbaaDoor
/-! ### The closure of Equal; Equal, Depth. -/
namespace Go.Proofs.YtipnaphikbjhbaaDoor
open Go.RowKit
set_option maxRecDepth 100000
variable {w w' W0 : World}
theorem eq_facts {x k : Nat} (h : x = k) : ((x : Int) == (k : Int)) = true ∧ (x == k) = true ∧ (x : Int) = (k : Int) := by
  subst h
  exact ⟨by simp, by simp, rfl⟩
set_option maxHeartbeats 8000000 in
theorem equal17 {x' : Nat} {col : Bs} (hx : W0.cell? ⟨x', 0, none⟩ = some (.string (str col))) : MadeD W0 x' (equalP col) := by
  intro W x y v l hb hv hl
  have hxl : x' < W0.heap.size := World.block_lt_of_cell? _ _ hx
  have hc : ∀ W', Below W0.heap.size W0 W' → W'.cell? ⟨x', 0, none⟩ = some (.string (str col)) := fun W' k => (k.cell (p := ⟨x', 0, none⟩) hxl).trans hx
  have a1 := T.al W (.cells #[.int .u8 (x.k : Int), .string (str x.col), .int .u8 (x.op : Int), .int .u8 (x.vk : Int), .int .i64 x.vn, .string (str x.vt), slW y] 54)
  have a2 := T.al (W.alloc (.cells #[.int .u8 (x.k : Int), .string (str x.col), .int .u8 (x.op : Int), .int .u8 (x.vk : Int), .int .i64 x.vn, .string (str x.vt), slW y] 54)) (.cells #[.int .u8 0, .int .i64 0, .string ⟨#[]⟩, .bool false] 49)
  have hcc := hc ((W.alloc (.cells #[.int .u8 (x.k : Int), .string (str x.col), .int .u8 (x.op : Int), .int .u8 (x.vk : Int), .int .i64 x.vn, .string (str x.vt), slW y] 54)).alloc (.cells #[.int .u8 0, .int .i64 0, .string ⟨#[]⟩, .bool false] 49)) (hb.trans ((bmore a1 a2).mono hb.size))
  have hR : T.Blk ((W.alloc (.cells #[.int .u8 (x.k : Int), .string (str x.col), .int .u8 (x.op : Int), .int .u8 (x.vk : Int), .int .i64 x.vn, .string (str x.vt), slW y] 54)).alloc (.cells #[.int .u8 0, .int .i64 0, .string ⟨#[]⟩, .bool false] 49)) (W.heap.size + 1) [.int .u8 0, .int .i64 0, .string ⟨#[]⟩, .bool false] 49 := T.blk_at (W.alloc (.cells #[.int .u8 (x.k : Int), .string (str x.col), .int .u8 (x.op : Int), .int .u8 (x.vk : Int), .int .i64 x.vn, .string (str x.vt), slW y] 54)) _ 49 (by simp)
  have h18 := first18 (hv.below (bmore a1 a2)) (Nat.le_trans hl (by decide))
  obtain ⟨va, vc, rfl⟩ := hv.form
  have HB2 : Hid (Below W.heap.size W ((W.alloc (.cells #[.int .u8 (x.k : Int), .string (str x.col), .int .u8 (x.op : Int), .int .u8 (x.vk : Int), .int .i64 x.vn, .string (str x.vt), slW y] 54)).alloc (.cells #[.int .u8 0, .int .i64 0, .string ⟨#[]⟩, .bool false] 49))) := bmore a1 a2
  have hz : ((0 : Nat) : Int) = 0 := rfl
  have HD0 : ∀ e : Ending, ∀ w'', e = .returned (.agg #[.int .u8 0, .int .i64 0, .string ⟨#[]⟩, .bool false]) → Below W.heap.size W w'' → e = .returned (dmV dm0) ∧ Below W.heap.size W w'' := fun e w'' he hw => ⟨by rw [he]; rfl, hw⟩
  obtain ⟨xk, xc, xo, xvk, xvn, xvt, xks⟩ := x
  unfold equalP
  simp only at h18 hcc hR HB2 ⊢
  clear a1 a2 hc hb hv hxl hx
  by_cases h1 : xk = 1
  · obtain ⟨y1, y2, y3⟩ := eq_facts h1
    have y1' : ((xk : Int) == 1) = true := y1
    by_cases h2 : xo = 1
    · obtain ⟨z1, z2, z3⟩ := eq_facts h2
      have z1' : ((xo : Int) == 1) = true := z1
      by_cases h3 : xc = col
      · subst h3
        rw [if_pos ⟨h1, h2, rfl⟩]
        have e1 : (xc == xc) = true := by simp
        have HB3 : Hid (Below W.heap.size W ((W.alloc (.cells #[.int .u8 (xk : Int), .string (str xc), .int .u8 (xo : Int), .int .u8 (xvk : Int), .int .i64 xvn, .string (str xvt), slW y] 54)).alloc (.cells #[.int .u8 (xvk : Int), .int .i64 xvn, .string (str xvt), .bool true] 49))) := bmore (T.al _ _) (T.al _ _)
        clear h18 hR HB2 HD0 y1 y3 z1 z3 h1 h2
        go_enter Tryd.func17, Tryd.ntmps17
        go_wp2
        exact bodyPost_ret (v := dmV ((xvk, xvn, xvt), true)) (by simp [results, Tryd.results17, go_sem]) rfl ⟨rfl, HB3.out⟩
      · rw [if_neg (fun e => h3 e.2.2), if_neg (by omega)]
        have e1 : (xc == col) = false := beq_eq_false_iff_ne.2 h3
        have HB3 : Hid (Below W.heap.size W ((W.alloc (.cells #[.int .u8 (xk : Int), .string (str xc), .int .u8 (xo : Int), .int .u8 (xvk : Int), .int .i64 xvn, .string (str xvt), slW y] 54)).alloc (.cells #[.int .u8 0, .int .i64 0, .string ⟨#[]⟩, .bool false] 49))) := bmore (T.al _ _) (T.al _ _)
        clear h18 hR HB2 y1 y3 z1 z3 h1 h2
        go_enter Tryd.func17, Tryd.ntmps17
        go_wp2
        exact bodyPost_ret (v := .agg #[.int .u8 0, .int .i64 0, .string ⟨#[]⟩, .bool false]) (by simp [results, Tryd.results17, go_sem]) rfl (HD0 _ _ rfl HB3.out)
    · rw [if_neg (fun e => h2 e.2.1), if_neg (by omega)]
      obtain ⟨n1, n2, n3, n4, n5⟩ := ne_facts h2
      have n1' : ((xo : Int) == 1) = false := n1
      have HB3 : Hid (Below W.heap.size W ((W.alloc (.cells #[.int .u8 (xk : Int), .string (str xc), .int .u8 (xo : Int), .int .u8 (xvk : Int), .int .i64 xvn, .string (str xvt), slW y] 54)).alloc (.cells #[.int .u8 0, .int .i64 0, .string ⟨#[]⟩, .bool false] 49))) := bmore (T.al _ _) (T.al _ _)
      clear h18 hR HB2 n1 y1 y3 h1 h2
      go_enter Tryd.func17, Tryd.ntmps17
      go_wp2
      exact bodyPost_ret (v := .agg #[.int .u8 0, .int .i64 0, .string ⟨#[]⟩, .bool false]) (by simp [results, Tryd.results17, go_sem]) rfl (HD0 _ _ rfl HB3.out)
  · obtain ⟨n1, n2, n3, n4, n5⟩ := ne_facts h1
    have n1' : ((xk : Int) == 1) = false := n1
    rw [if_neg (fun e => h1 e.1)]
    by_cases h2 : xk = 2
    · rw [if_pos h2]
      have m1 : ((xk : Int) == 2) = true := by rw [h2]; rfl
      have m2 : (xk == 2) = true := by rw [h2]; rfl
      obtain ⟨DD, hDD⟩ : ∃ DD, firstD l = DD := ⟨_, rfl⟩
      rw [hDD] at h18 ⊢
      have HF : Hid (∀ w9, Below ((W.alloc (.cells #[.int .u8 (xk : Int), .string (str xc), .int .u8 (xo : Int), .int .u8 (xvk : Int), .int .i64 xvn, .string (str xvt), slW y] 54)).alloc (.cells #[.int .u8 0, .int .i64 0, .string ⟨#[]⟩, .bool false] 49)).heap.size ((W.alloc (.cells #[.int .u8 (xk : Int), .string (str xc), .int .u8 (xo : Int), .int .u8 (xvk : Int), .int .i64 xvn, .string (str xvt), slW y] 54)).alloc (.cells #[.int .u8 0, .int .i64 0, .string ⟨#[]⟩, .bool false] 49)) w9 → ((∃ u, w9.cell? ⟨W.heap.size + 1, 0, none⟩ = some u) ∧ w9.frozen? ⟨W.heap.size + 1, 0, none⟩ = false ∧ (∃ u, (w9.setCell ⟨W.heap.size + 1, 0, none⟩ (.int .u8 ((DD).1.1 : Int))).cell? ⟨W.heap.size + 1, 1, none⟩ = some u) ∧ (w9.setCell ⟨W.heap.size + 1, 0, none⟩ (.int .u8 ((DD).1.1 : Int))).frozen? ⟨W.heap.size + 1, 1, none⟩ = false ∧ (∃ u, ((w9.setCell ⟨W.heap.size + 1, 0, none⟩ (.int .u8 ((DD).1.1 : Int))).setCell ⟨W.heap.size + 1, 1, none⟩ (.int .i64 (DD).1.2.1)).cell? ⟨W.heap.size + 1, 2, none⟩ = some u) ∧ ((w9.setCell ⟨W.heap.size + 1, 0, none⟩ (.int .u8 ((DD).1.1 : Int))).setCell ⟨W.heap.size + 1, 1, none⟩ (.int .i64 (DD).1.2.1)).frozen? ⟨W.heap.size + 1, 2, none⟩ = false ∧ (∃ u, (((w9.setCell ⟨W.heap.size + 1, 0, none⟩ (.int .u8 ((DD).1.1 : Int))).setCell ⟨W.heap.size + 1, 1, none⟩ (.int .i64 (DD).1.2.1)).setCell ⟨W.heap.size + 1, 2, none⟩ (.string (str (DD).1.2.2))).cell? ⟨W.heap.size + 1, 3, none⟩ = some u) ∧ (((w9.setCell ⟨W.heap.size + 1, 0, none⟩ (.int .u8 ((DD).1.1 : Int))).setCell ⟨W.heap.size + 1, 1, none⟩ (.int .i64 (DD).1.2.1)).setCell ⟨W.heap.size + 1, 2, none⟩ (.string (str (DD).1.2.2))).frozen? ⟨W.heap.size + 1, 3, none⟩ = false ∧ ((((w9.setCell ⟨W.heap.size + 1, 0, none⟩ (.int .u8 ((DD).1.1 : Int))).setCell ⟨W.heap.size + 1, 1, none⟩ (.int .i64 (DD).1.2.1)).setCell ⟨W.heap.size + 1, 2, none⟩ (.string (str (DD).1.2.2))).setCell ⟨W.heap.size + 1, 3, none⟩ (.bool (DD).2)).cell? ⟨W.heap.size + 1, 0, none⟩ = some (.int .u8 ((DD).1.1 : Int)) ∧ ((((w9.setCell ⟨W.heap.size + 1, 0, none⟩ (.int .u8 ((DD).1.1 : Int))).setCell ⟨W.heap.size + 1, 1, none⟩ (.int .i64 (DD).1.2.1)).setCell ⟨W.heap.size + 1, 2, none⟩ (.string (str (DD).1.2.2))).setCell ⟨W.heap.size + 1, 3, none⟩ (.bool (DD).2)).cell? ⟨W.heap.size + 1, 1, none⟩ = some (.int .i64 (DD).1.2.1) ∧ ((((w9.setCell ⟨W.heap.size + 1, 0, none⟩ (.int .u8 ((DD).1.1 : Int))).setCell ⟨W.heap.size + 1, 1, none⟩ (.int .i64 (DD).1.2.1)).setCell ⟨W.heap.size + 1, 2, none⟩ (.string (str (DD).1.2.2))).setCell ⟨W.heap.size + 1, 3, none⟩ (.bool (DD).2)).cell? ⟨W.heap.size + 1, 2, none⟩ = some (.string (str (DD).1.2.2)) ∧ ((((w9.setCell ⟨W.heap.size + 1, 0, none⟩ (.int .u8 ((DD).1.1 : Int))).setCell ⟨W.heap.size + 1, 1, none⟩ (.int .i64 (DD).1.2.1)).setCell ⟨W.heap.size + 1, 2, none⟩ (.string (str (DD).1.2.2))).setCell ⟨W.heap.size + 1, 3, none⟩ (.bool (DD).2)).cell? ⟨W.heap.size + 1, 3, none⟩ = some (.bool (DD).2)) ∧ Hid (Below W.heap.size W ((((w9.setCell ⟨W.heap.size + 1, 0, none⟩ (.int .u8 ((DD).1.1 : Int))).setCell ⟨W.heap.size + 1, 1, none⟩ (.int .i64 (DD).1.2.1)).setCell ⟨W.heap.size + 1, 2, none⟩ (.string (str (DD).1.2.2))).setCell ⟨W.heap.size + 1, 3, none⟩ (.bool (DD).2)))) := fun w9 k9 => ⟨put4 (hR.below k9) (by simp) DD, put4_below (HB2.out.trans (k9.mono HB2.out.size)) (show W.heap.size ≤ W.heap.size + 1 by omega) DD⟩
      clear hR HB2 hDD n1 HD0 h2
      go_enter Tryd.func17, Tryd.ntmps17
      go_wp2_with (go_at_call 18; (refine h18.mono ?_; rintro e w9 ⟨rfl, k9⟩; obtain ⟨⟨⟨u0, d0⟩, d1, ⟨u2, d2⟩, d3, ⟨u4, d4⟩, d5, ⟨u6, d6⟩, d7, d9, d10, d11, d12⟩, d13⟩ := HF.out w9 k9; clear k9))
      exact bodyPost_ret (v := dmV DD) (by simp [results, Tryd.results17, go_sem, d9, d10, d11, d12]) rfl ⟨rfl, d13.out⟩
    · rw [if_neg h2]
      obtain ⟨m1, m2, m3, m4, m5⟩ := ne_facts h2
      have m1' : ((xk : Int) == 2) = false := m1
      have HB3 : Hid (Below W.heap.size W ((W.alloc (.cells #[.int .u8 (xk : Int), .string (str xc), .int .u8 (xo : Int), .int .u8 (xvk : Int), .int .i64 xvn, .string (str xvt), slW y] 54)).alloc (.cells #[.int .u8 0, .int .i64 0, .string ⟨#[]⟩, .bool false] 49))) := HB2.out
      clear h18 hR HB2 n1 m1
      go_enter Tryd.func17, Tryd.ntmps17
      go_wp2
      exact bodyPost_ret (v := .agg #[.int .u8 0, .int .i64 0, .string ⟨#[]⟩, .bool false]) (by simp [results, Tryd.results17, go_sem]) rfl (HD0 _ _ rfl HB3.out)
end Go.Proofs.YtipnaphikbjhbaaDoor
/-! ### Equal, Depth. -/
namespace Go.Proofs.YtipnaphikbjhbaaDoor
open Go.RowKit
set_option maxRecDepth 100000
variable {w w' W0 : World}
/-- The value that a column must have, if a condition says so. -/
def equalV (cs : List Cd) (col : Bs) : Dm := if cs.length = 0 then dm0 else resN (equalP col) dm0 cs (cs.length - 1)
set_option maxHeartbeats 4000000 in
theorem equal8 {u : Value} {cs : List Cd} (col : Bs) (hcs : LC w u cs) (hn : cs.length ≤ 1000) (hk : ∀ x ∈ cs, x.kids.length + 1 ≤ 3000000000000) :
    Calls Tryd.prog 8 #[u, .string (str col)] w fun e w' => e = .returned (.tuple #[.agg #[.int .u8 ((equalV cs col).1.1 : Int), .int .i64 (equalV cs col).1.2.1, .string (str (equalV cs col).1.2.2)], .bool (equalV cs col).2]) ∧ Below w.heap.size w w' := by
  have a1 := T.al w (.cells #[.string (str col)] 9)
  have a2 := T.al (w.alloc (.cells #[.string (str col)] 9)) (.cells #[.int .u8 0, .int .i64 0, .string ⟨#[]⟩] 30)
  have a12 := bmore a1 a2
  have hbx : ((w.alloc (.cells #[.string (str col)] 9)).alloc (.cells #[.int .u8 0, .int .i64 0, .string ⟨#[]⟩] 30)).cell? ⟨w.heap.size, 0, none⟩ = some (.string (str col)) := ((T.blk_new w [.string (str col)] 9).below a2).cell 0
  have hbr : T.Blk ((w.alloc (.cells #[.string (str col)] 9)).alloc (.cells #[.int .u8 0, .int .i64 0, .string ⟨#[]⟩] 30)) (w.heap.size + 1) [.int .u8 0, .int .i64 0, .string ⟨#[]⟩] 30 := T.blk_at (w.alloc (.cells #[.string (str col)] 9)) _ 30 (by simp)
  have HA : Hid (Below w.heap.size w ((w.alloc (.cells #[.string (str col)] 9)).alloc (.cells #[.int .u8 0, .int .i64 0, .string ⟨#[]⟩] 30))) := a12
  obtain ⟨ua, uc, hu⟩ := hcs.form
  unfold equalV
  by_cases h0 : cs.length = 0
  · rw [if_pos h0]
    rw [h0] at hu
    subst hu
    obtain ⟨⟨x0, x1, x2, x3, x4, x5⟩, r0, r1, r2⟩ := bx3 hbr (.int .u8 0) (.int .i64 0) (.string ⟨#[]⟩)
    have HB : Hid (Below w.heap.size w (((((w.alloc (.cells #[.string (str col)] 9)).alloc (.cells #[.int .u8 0, .int .i64 0, .string ⟨#[]⟩] 30)).setCell ⟨w.heap.size + 1, 0, none⟩ (.int .u8 0)).setCell ⟨w.heap.size + 1, 1, none⟩ (.int .i64 0)).setCell ⟨w.heap.size + 1, 2, none⟩ (.string ⟨#[]⟩))) := T.bset (T.bset (T.bset a12 (p := ⟨w.heap.size + 1, 0, none⟩) (show w.heap.size ≤ w.heap.size + 1 by omega) _) (p := ⟨w.heap.size + 1, 1, none⟩) (show w.heap.size ≤ w.heap.size + 1 by omega) _) (p := ⟨w.heap.size + 1, 2, none⟩) (show w.heap.size ≤ w.heap.size + 1 by omega) _
    clear a1 a2 a12 hbr hbx hcs hk hn h0
    go_enter Tryd.func8, Tryd.ntmps8
    go_wp2
    exact bodyPost_ret (v := .tuple #[.agg #[.int .u8 0, .int .i64 0, .string ⟨#[]⟩], .bool false]) (by simp [results, Tryd.results8, go_sem]) rfl ⟨rfl, HA.out⟩
  · rw [if_neg h0]
    have k16 := whole16 (w := ((w.alloc (.cells #[.string (str col)] 9)).alloc (.cells #[.int .u8 0, .int .i64 0, .string ⟨#[]⟩] 30))) (equal17 hbx) (hcs.below a12) (by omega) hn hk
    obtain ⟨DD, hDD⟩ : ∃ DD, resN (equalP col) dm0 cs (cs.length - 1) = DD := ⟨_, rfl⟩
    rw [hDD] at k16 ⊢
    subst hu
    generalize cs.length = n at *
    have hn0 : ¬ (n : Int) = 0 := by omega
    have hn1 : ((n : Int) == 0) = false := beq_eq_false_iff_ne.2 hn0
    obtain ⟨⟨dk, dn, dt⟩, db⟩ := DD
    simp only at k16 ⊢
    have HF : Hid (∀ w9, Below ((w.alloc (.cells #[.string (str col)] 9)).alloc (.cells #[.int .u8 0, .int .i64 0, .string ⟨#[]⟩] 30)).heap.size ((w.alloc (.cells #[.string (str col)] 9)).alloc (.cells #[.int .u8 0, .int .i64 0, .string ⟨#[]⟩] 30)) w9 → (((w9.alloc (.cells #[.int .u8 (dk : Int), .int .i64 dn, .string (str dt), .bool db] 49)).cell? ⟨w.heap.size + 1, 0, none⟩ = some (.int .u8 0) ∧ (w9.alloc (.cells #[.int .u8 (dk : Int), .int .i64 dn, .string (str dt), .bool db] 49)).cell? ⟨w.heap.size + 1, 1, none⟩ = some (.int .i64 0) ∧ (w9.alloc (.cells #[.int .u8 (dk : Int), .int .i64 dn, .string (str dt), .bool db] 49)).cell? ⟨w.heap.size + 1, 2, none⟩ = some (.string ⟨#[]⟩) ∧ (w9.alloc (.cells #[.int .u8 (dk : Int), .int .i64 dn, .string (str dt), .bool db] 49)).frozen? ⟨w.heap.size + 1, 0, none⟩ = false ∧ (w9.alloc (.cells #[.int .u8 (dk : Int), .int .i64 dn, .string (str dt), .bool db] 49)).frozen? ⟨w.heap.size + 1, 1, none⟩ = false ∧ (w9.alloc (.cells #[.int .u8 (dk : Int), .int .i64 dn, .string (str dt), .bool db] 49)).frozen? ⟨w.heap.size + 1, 2, none⟩ = false) ∧ (((((w9.alloc (.cells #[.int .u8 (dk : Int), .int .i64 dn, .string (str dt), .bool db] 49)).setCell ⟨w.heap.size + 1, 0, none⟩ (.int .u8 (dk : Int))).setCell ⟨w.heap.size + 1, 1, none⟩ (.int .i64 dn)).setCell ⟨w.heap.size + 1, 2, none⟩ (.string (str dt))).cell? ⟨w.heap.size + 1, 0, none⟩ = some (.int .u8 (dk : Int)) ∧ ((((w9.alloc (.cells #[.int .u8 (dk : Int), .int .i64 dn, .string (str dt), .bool db] 49)).setCell ⟨w.heap.size + 1, 0, none⟩ (.int .u8 (dk : Int))).setCell ⟨w.heap.size + 1, 1, none⟩ (.int .i64 dn)).setCell ⟨w.heap.size + 1, 2, none⟩ (.string (str dt))).cell? ⟨w.heap.size + 1, 1, none⟩ = some (.int .i64 dn) ∧ ((((w9.alloc (.cells #[.int .u8 (dk : Int), .int .i64 dn, .string (str dt), .bool db] 49)).setCell ⟨w.heap.size + 1, 0, none⟩ (.int .u8 (dk : Int))).setCell ⟨w.heap.size + 1, 1, none⟩ (.int .i64 dn)).setCell ⟨w.heap.size + 1, 2, none⟩ (.string (str dt))).cell? ⟨w.heap.size + 1, 2, none⟩ = some (.string (str dt)))) ∧ Hid (Below w.heap.size w ((((w9.alloc (.cells #[.int .u8 (dk : Int), .int .i64 dn, .string (str dt), .bool db] 49)).setCell ⟨w.heap.size + 1, 0, none⟩ (.int .u8 (dk : Int))).setCell ⟨w.heap.size + 1, 1, none⟩ (.int .i64 dn)).setCell ⟨w.heap.size + 1, 2, none⟩ (.string (str dt))).drew)) := fun w9 k9 => by
      have hb := (hbr.below k9).below (T.al w9 (.cells #[.int .u8 (dk : Int), .int .i64 dn, .string (str dt), .bool db] 49))
      exact ⟨⟨⟨hb.cell 0, hb.cell 1, hb.cell 2, hb.frozen 0, hb.frozen 1, hb.frozen 2⟩, (bx3 hb _ _ _).2⟩, (T.bset (T.bset (T.bset (T.bal (a12.trans (k9.mono a12.size)) _) (p := ⟨w.heap.size + 1, 0, none⟩) (show w.heap.size ≤ w.heap.size + 1 by omega) _) (p := ⟨w.heap.size + 1, 1, none⟩) (show w.heap.size ≤ w.heap.size + 1 by omega) _) (p := ⟨w.heap.size + 1, 2, none⟩) (show w.heap.size ≤ w.heap.size + 1 by omega) _).drew⟩
    clear a1 a2 a12 hbr hbx hcs hk hn hDD h0
    go_enter Tryd.func8, Tryd.ntmps8
    go_wp2_with (go_at_call 16; (refine Calls.mono k16 ?_; rintro e w9 ⟨rfl, k9⟩; obtain ⟨⟨⟨x0, x1, x2, x3, x4, x5⟩, r0, r1, r2⟩, d13⟩ := HF.out w9 k9; clear k9))
    go_region
    all_goals go_wp2_with fail
    all_goals exact bodyPost_ret (v := .tuple #[.agg #[.int .u8 (dk : Int), .int .i64 dn, .string (str dt)], .bool db]) (by simp [results, Tryd.results8, go_sem, r0, r1, r2]) rfl ⟨rfl, d13.out⟩
theorem depth21 {u : Value} {cs : List Cd} (hcs : LC w u cs) (hn : cs.length ≤ 1000) (h0 : 0 < cs.length) (hk : ∀ x ∈ cs, x.kids.length + 1 ≤ 17000000000000) :
    Calls Tryd.prog 21 #[u] w fun e w' => e = .returned (.int .i64 (resN (fun _ l => wrap64 (deepP l)) 0 cs (cs.length - 1))) ∧ Below w.heap.size w w' := by
  have k33 := whole33 (w := w) (made := fun _ l => wrap64 (deepP l)) (fun W x y v l _ hv hl => depth34 x y hv (Nat.le_trans hl (by decide))) hcs h0 hn hk
  obtain ⟨ua, uc, rfl⟩ := hcs.form
  generalize resN (fun _ l => wrap64 (deepP l)) 0 cs (cs.length - 1) = r at *
  generalize cs.length = n at *
  have hn0 : ¬ (n : Int) = 0 := by omega
  have hn1 : ((n : Int) == 0) = false := beq_eq_false_iff_ne.2 hn0
  clear hcs hk
  go_enter Tryd.func21, Tryd.ntmps21
  go_wp2_with (go_at_call 33; (refine Calls.mono k33 ?_; rintro e w9 ⟨rfl, k9⟩))
  go_ret
  exact ⟨rfl, k9⟩
end Go.Proofs.YtipnaphikbjhbaaDoor
