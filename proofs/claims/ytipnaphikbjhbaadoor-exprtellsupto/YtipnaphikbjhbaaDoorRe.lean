/- slices.Clone; Negated. · Negated; Columns. · few; live. · A case that came in, behind few; the law ExprNegated. -/
import Derived.Test.YtipnaphikbjhbaaDoorRd
import Derived.WalkSpells
import Derived.Maps.OwnSet
import Derived.Maps.AppendAt
/-! ### slices.Clone; Negated. -/
namespace Go.Proofs.YtipnaphikbjhbaaDoor
open Go.RowKit
set_option maxRecDepth 100000
variable {w w' : World}
theorem wpList_mk0 {α : Type} (E : T.Ety α) (z0 : α) (hz : E.z.cells = (E.enc z0).toArray) {ops : Array Oper} {rest : List Oper} {o : Oper} {a : Act} {w : World} {Q : Exit → Act → World → Prop} (hgd : o.guard = none) (l c : Operand) (t : TypeId) (ht : t = E.tS) (ho : o.op = .makeSlice t l c) (n : Nat) (hl : a.eval l = .int .i64 0) (hc : a.eval c = .int .i64 (n : Int)) (hn : n ≤ 1000000)
    (h : wpList Tryd.prog ops Q rest (a.put o.dst (.slice (some ⟨w.heap.size, 0, none⟩) 0 n)) (w.alloc (.cells (E.cells (List.replicate n z0)).toArray E.tE))) : wpList Tryd.prog ops Q (o :: rest) a w := by
  subst ht
  refine wpList_plain hgd fun K hK' => ?_
  obtain ⟨i, hi, hzz⟩ := Option.map_eq_some_iff.1 E.info
  simp only [Prod.mk.injEq] at hzz
  obtain ⟨hz', hs, hb⟩ := hzz
  have h32 := E.by32
  have hbn : i.bytes * n ≤ 281474976710656 := Nat.le_trans (Nat.mul_le_mul (by rw [hb]; exact h32) hn) (by decide)
  have hbi : (i.bytes : Int) * (n : Int) ≤ 281474976710656 := by
    have h : ((i.bytes * n : Nat) : Int) ≤ 281474976710656 := by omega
    rwa [Int.natCast_mul] at h
  have hr := run_make (P := Tryd.prog) w E.tS E.tE i E.z E.und hi hz' .i64 .i64 0 (n : Int) (by omega) (by omega) hbi (by omega)
  rw [Int.toNat_natCast, hs, made_rep E z0 hz] at hr
  unfold Oper.wp
  simp [execOp, ho, hl, hc, hr, Result.andThen]
  exact hK' _ _ h
set_option maxHeartbeats 2000000 in
theorem clone28 {y : Sl3} {ks : List Int} (h : T.LV EI w (slW y) ks) (hk : ks.length ≤ 17592186044416) : Calls Tryd.prog 28 #[slW y] w fun e w' => ∃ y' : Sl3, e = .returned (slW y') ∧ T.RW EI w.heap.size w' (slW y') ks ∧ Below w.heap.size w w' := by
  obtain ⟨y1, y2, y3⟩ := y
  obtain ⟨a, c, e⟩ := h.form
  simp only [slW, Value.slice.injEq] at e
  obtain ⟨rfl, rfl, rfl⟩ := e
  cases y1 with
  | none =>
    cases ks with
    | nil =>
      clear h
      simp only [slW, List.length_nil]
      have hq := Lib.run_eql_slice_nil (P := Tryd.prog) w 52 3 none 0 y3 0 0 Tryd.underlying52
      go_enter Tryd.func28, Tryd.ntmps28
      go_wp2
      go_ret
      exact ⟨(none, 0, 0), rfl, T.RW.nil _ _ _, Below.refl _ _⟩
    | cons x ks =>
      obtain ⟨g, o, e, _⟩ := h.at (i := 0) (x := x) rfl
      cases e
  | some b =>
    have hal := T.al w (.cells #[] 3)
    have HR : T.RW EI w.heap.size (w.alloc (.cells #[] 3)) (.slice (some ⟨w.heap.size, 0, none⟩) 0 0) [] := ⟨rfl, .inr ⟨w.heap.size, 0, #[], rfl, Nat.le_refl _, T.blk_new w [] 3, Nat.le_refl _, Nat.zero_le _, rfl, rfl⟩⟩
    have HAPP : Hid (∃ u' w', (Builtin.append_ #[52, 52] 52 #[.slice (some ⟨w.heap.size, 0, none⟩) 0 0, .slice (some b) ks.length y3]).run Tryd.prog (w.alloc (.cells #[] 3)) = .ok u' w' ∧ (∃ z : Sl3, u' = .slice z.1 z.2.1 z.2.2 ∧ T.RW EI w.heap.size w' (slW z) ks ∧ Below w.heap.size w w')) := by
      by_cases h0 : ks = []
      · subst h0
        obtain ⟨u', w', q1, q2, q3⟩ := T.rw_app HR (h.below hal) (by simp) hal.size
        obtain ⟨a', c', rfl, _⟩ := q2.form
        exact ⟨_, w', q1, (a', _, c'), rfl, q2, hal.trans q3⟩
      · obtain ⟨u', w', q1, ⟨g, cap, rfl⟩, q3, q4⟩ := rw_app3 HR (h.below hal) h0 (by simp; omega) (by simp [EI]; omega) hal.size
        exact ⟨_, w', q1, (_, _, _), rfl, by simpa using q3, hal.trans q4⟩
    clear HR hal h
    simp only [slW]
    generalize ks.length = n at *
    have hq := Lib.run_eql_slice_nil (P := Tryd.prog) w 52 3 (some b) n y3 0 0 Tryd.underlying52
    go_enter Tryd.func28, Tryd.ntmps28
    go_wp2_with (at_builtin; refine T.wpList_append_ex rfl (.tmp 5) (.tmp 6) 52 rfl _ _ rfl rfl HAPP.out ?_; rintro u6 w6 ⟨z, rfl, h1, h2⟩)
    go_ret
    exact ⟨z, rfl, h1, h2⟩
/-- Parts that were laid anew, with kids of their own. -/
def NegP (w wr : World) (u : Value) (L : List Cd) : Prop := ∃ es : List Ce, T.RW EC w.heap.size wr u es ∧ es.map Prod.fst = L ∧ (∀ e ∈ es, T.RW EI w.heap.size wr (slW e.2) e.1.kids) ∧ Below w.heap.size w wr
theorem NegP.lc {wr : World} {u : Value} {L : List Cd} (h : NegP w wr u L) : LC wr u L := by
  obtain ⟨es, h1, h2, h3, _⟩ := h
  exact ⟨es, h1.read, h2, fun e he => (h3 e he).read⟩
theorem NegP.bel {wr : World} {u : Value} {L : List Cd} (h : NegP w wr u L) : Below w.heap.size w wr := by
  obtain ⟨es, h1, h2, h3, h4⟩ := h
  exact h4
theorem NegP.below {wr w2 : World} {u : Value} {L : List Cd} (h : NegP w wr u L) (k : Below wr.heap.size wr w2) : NegP w w2 u L := by
  obtain ⟨es, h1, h2, h3, h4⟩ := h
  exact ⟨es, h1.below k, h2, fun e he => (h3 e he).below k, h4.trans (k.mono h4.size)⟩
theorem rw_apart {α β : Type} {E : T.Ety α} {F : T.Ety β} {B C : Nat} {u v : Value} {L : List α} {M : List β} (h : T.RW E B w u L) (k : T.RW F C w v M) (ht : E.tE ≠ F.tE) {g : Nat} (hg : u.ownBlock = some g) : v.ownBlock ≠ some g := fun e => by
  rcases h.2 with ⟨rfl, _⟩ | ⟨g1, _, cur1, rfl, _, h1, _⟩
  · cases hg
  · rcases k.2 with ⟨rfl, _⟩ | ⟨g2, _, cur2, rfl, _, k1, _⟩
    · cases e
    · cases hg
      cases e
      have := h1.symm.trans k1
      simp at this
      exact ht this.2
set_option maxHeartbeats 1000000 in
theorem NegP.add {wr : World} {u : Value} {L : List Cd} (h : NegP w wr u L) (x : Cd) (y : Sl3) {C : List Value} (hC : EC.enc (x, y) = C) (hy : T.RW EI w.heap.size wr (slW y) x.kids) (hL : L.length ≤ 2000) : ∃ u' w4, (Builtin.append_ #[22, 22] 22 #[u, .slice (some ⟨wr.heap.size, 0, none⟩) 1 1]).run Tryd.prog (wr.alloc (.cells C.toArray 54)) = .ok u' w4 ∧ (∃ g cap, u' = .slice (some ⟨g, 0, none⟩) (L.length + 1) cap ∧ NegP w w4 u' (L ++ [x])) := by
  obtain ⟨es, h1, rfl, h3, h4⟩ := h
  have b3 := T.al wr (.cells C.toArray 54)
  have hlv : T.LV EC (wr.alloc (.cells C.toArray 54)) (.slice (some ⟨wr.heap.size, 0, none⟩) 1 1) [(x, y)] :=
    T.lv_blk EC (L := [(x, y)]) (by show T.Blk _ _ (EC.cells [(x, y)]) 54; simp only [T.Ety.cells, List.flatMap_cons, List.flatMap_nil, List.append_nil]; rw [hC]; exact T.blk_new wr C 54) 1 (Nat.le_refl _)
  rw [List.length_map] at hL ⊢
  obtain ⟨g', cap, w5, hrun, hR, hgrow, hat, hlt⟩ := T.rw_app2 (h1.below b3) hlv (by simp) (by simp; omega) (Nat.le_trans h4.size b3.size)
  have hl1 : es.length + [(x, y)].length = es.length + 1 := rfl
  rw [hl1] at hrun hR
  refine ⟨_, w5, hrun, g', cap, rfl, es ++ [(x, y)], hR, by rw [List.map_append]; rfl, fun e he => ?_, ?_⟩
  · have key : ∀ {z : Sl3} {ks : List Int}, T.RW EI w.heap.size wr (slW z) ks → T.RW EI w.heap.size w5 (slW z) ks := fun {z ks} hz => hz.keep fun k hk => by
      rw [hgrow.block k (Nat.lt_of_lt_of_le (hz.at hk).2 b3.size) (fun e => rw_apart hz h1 (by decide) hk e.symm), b3.block k (hz.at hk).2]
    rcases List.mem_append.1 he with he | he
    · exact key (h3 e he)
    · have : e = (x, y) := by simpa using he
      subst this
      exact key hy
  · exact h4.trans ⟨hgrow.os.trans b3.os, hgrow.tape.trans b3.tape, hgrow.output.trans b3.output, Nat.le_trans b3.size hgrow.size, fun k hk => by
      have hk2 : k < wr.heap.size := Nat.lt_of_lt_of_le hk h4.size
      rw [hgrow.block k (Nat.lt_of_lt_of_le hk2 b3.size) (fun e => by have := (h1.at e.symm).1; omega), b3.block k hk2]⟩
end Go.Proofs.YtipnaphikbjhbaaDoor
/-! ### Negated; Columns. -/
namespace Go.Proofs.YtipnaphikbjhbaaDoor
open Go.RowKit Go.Maps
set_option maxRecDepth 100000
variable {w w' : World}
set_option maxHeartbeats 8000000 in
theorem negated14 {u : Value} {cs : List Cd} (h : LC w u cs) (hn : cs.length ≤ 1000) (hk : ∀ x ∈ cs, x.kids.length ≤ 17592186044416) : Calls Tryd.prog 14 #[u] w fun e w' => ∃ u', e = .returned u' ∧ LC w' u' (negP cs) ∧ Below w.heap.size w w' := by
  obtain ⟨ua, uc, hu⟩ := h.form
  unfold negP
  by_cases h0 : cs.length = 0
  · rw [if_pos h0]
    rw [h0] at hu
    subst hu
    have HB : Hid (Below w.heap.size w (w.alloc (.cells #[.int .u8 1, .string ⟨#[]⟩, .int .u8 0, .int .u8 0, .int .i64 0, .string ⟨#[]⟩, .slice none 0 0] 54))) := T.al w _
    have HL : Hid (LC (w.alloc (.cells #[.int .u8 1, .string ⟨#[]⟩, .int .u8 0, .int .u8 0, .int .i64 0, .string ⟨#[]⟩, .slice none 0 0] 54)) (.slice (some ⟨w.heap.size, 0, none⟩) 1 1) [⟨1, [], 0, 0, 0, [], []⟩]) :=
      ⟨[(⟨1, [], 0, 0, 0, [], []⟩, (none, 0, 0))], T.lv_blk EC (L := [((⟨1, [], 0, 0, 0, [], []⟩ : Cd), ((none, 0, 0) : Sl3))]) (T.blk_new w [.int .u8 1, .string ⟨#[]⟩, .int .u8 0, .int .u8 0, .int .i64 0, .string ⟨#[]⟩, .slice none 0 0] 54) 1 (Nat.le_refl _), rfl, fun e he => by
        have : e = (⟨1, [], 0, 0, 0, [], []⟩, (none, 0, 0)) := by simpa using he
        subst this
        exact T.LV.nil _ _ _ _⟩
    clear h hk hn h0
    go_enter Tryd.func14, Tryd.ntmps14
    go_wp2
    go_ret
    exact ⟨_, rfl, HL.out, HB.out⟩
  · rw [if_neg h0]
    subst hu
    obtain ⟨n, hcn⟩ : ∃ n, cs.length = n := ⟨_, rfl⟩
    rw [hcn] at hn h0 h ⊢
    have HCN : Hid (cs.length = n) := hcn
    have HL : Hid (∀ W, NegP w W (.slice none 0 0) [] → LC W (.slice ua n uc) cs) := fun W k => h.below k.bel
    have HLB : Hid (∀ W, Below w.heap.size w W → LC W (.slice ua n uc) cs) := fun W k => h.below k
    have HK : Hid (∀ x ∈ cs, x.kids.length ≤ 17592186044416) := hk
    have HMK : Hid (NegP w (w.alloc (.cells (EC.cells (List.replicate (n + 1) (cd0, (none, 0, 0)))).toArray EC.tE)) (.slice (some ⟨w.heap.size, 0, none⟩) 0 (n + 1)) []) :=
      ⟨[], ⟨rfl, .inr ⟨w.heap.size, n + 1, _, rfl, Nat.le_refl _, T.blk_new w (EC.cells (List.replicate (n + 1) (cd0, (none, 0, 0)))) 54, Nat.zero_le _, by unfold maxLen; omega, by rw [List.size_toArray, T.cells_len, List.length_replicate], by simp [T.Ety.cells]⟩⟩, rfl, fun e he => by simp at he, T.al w _⟩
    obtain ⟨m, hm⟩ : ∃ m, m = n + 1 := ⟨_, rfl⟩
    rw [← hm] at HMK
    have HM : Hid (m = n + 1) := hm
    have hm6 : m ≤ 1000000 := by omega
    have hw1 : Hid (((n : Int) + 1) = (m : Int)) := by show _ = _; rw [hm]; rfl
    have hw2 : IntKind.i64.wrap ((n : Int) - 1) = (n : Int) - 1 := wrap_small _ (by omega) (by omega)
    have hw4 : ((n - 1 : Nat) : Int) = (n : Int) - 1 := by omega
    rw [hw4]
    clear hw4
    have hn0 : ¬ (n : Int) = 0 := by omega
    have hn1 : ((n : Int) == 0) = false := beq_eq_false_iff_ne.2 hn0
    clear h hk hcn hm
    go_enter Tryd.func14, Tryd.ntmps14
    go_wp2_with (at_make; refine wpList_mk0 EC (cd0, (none, 0, 0)) rfl rfl _ (.tmp 13) 22 rfl rfl m rfl (congrArg (Value.int .i64) hw1.out) hm6 ?_)
    go_loopw [3, 17] (fun p q wr => ∃ (k : Nat) (a : Option Addr) (c : Nat), q = .int .i64 (k : Int) ∧ p = .slice a k c ∧ Hid (k ≤ n) ∧ Hid (NegP w wr (.slice a k c) (cs.take k))) (fun _ q _ => n - (RowKit.intOf q).toNat)
    case atStart => exact ⟨0, _, _, rfl, rfl, Nat.zero_le _, HMK.out⟩
    case round =>
      obtain ⟨k, a, c, rfl, rfl, hk, hng⟩ := hrel
      have hkn := hk.out
      by_cases hlt : k < n
      · have hi : (k : Int) < (n : Int) := by omega
        have h0 : (0 : Int) ≤ (k : Int) := by omega
        have hw3 : IntKind.i64.wrap ((k : Int) + 1) = (k : Int) + 1 := wrap_small _ (by omega) (by omega)
        obtain ⟨x, hx⟩ : ∃ x, cs[k]? = some x := ⟨_, List.getElem?_eq_getElem (by rw [HCN.out]; exact hlt)⟩
        have hxk := HK.out x (List.mem_of_getElem? hx)
        obtain ⟨g, o, ⟨y1, y2, y3⟩, rfl, hyl, p0, p1, p2, p3, p4, p5, p6⟩ := (HLB.out wr hng.out.bel).at hx
        have HTK : Hid (cs.take (k + 1) = cs.take k ++ [x]) := by
          obtain ⟨hk', e⟩ := List.getElem?_eq_some_iff.1 hx
          show _ = _
          rw [List.take_succ_eq_append_getElem hk', e]
        have HLK : Hid ((cs.take k).length = k) := by
          show _ = _
          rw [List.length_take, HCN.out]
          omega
        obtain ⟨xk, xc, xo, xvk, xvn, xvt, xks⟩ := x
        simp only [slW] at p0 p1 p2 p3 p4 p5 p6 hxk hyl
        have k28 := clone28 (w := (wr.alloc (.cells #[.int .u8 (xk : Int), .string (str xc), .int .u8 (xo : Int), .int .u8 (xvk : Int), .int .i64 xvn, .string (str xvt), .slice y1 y2 y3] 54))) (y := (y1, y2, y3)) (hyl.below (T.al wr _)) hxk
        have HAPP : Hid (∀ w5 z1 z2 z3, Below (wr.alloc (.cells #[.int .u8 (xk : Int), .string (str xc), .int .u8 (xo : Int), .int .u8 (xvk : Int), .int .i64 xvn, .string (str xvt), .slice y1 y2 y3] 54)).heap.size (wr.alloc (.cells #[.int .u8 (xk : Int), .string (str xc), .int .u8 (xo : Int), .int .u8 (xvk : Int), .int .i64 xvn, .string (str xvt), .slice y1 y2 y3] 54)) w5 → T.RW EI (wr.alloc (.cells #[.int .u8 (xk : Int), .string (str xc), .int .u8 (xo : Int), .int .u8 (xvk : Int), .int .i64 xvn, .string (str xvt), .slice y1 y2 y3] 54)).heap.size w5 (.slice z1 z2 z3) xks → (w5.cell? ⟨wr.heap.size, 6, none⟩ = some (.slice y1 y2 y3) ∧ w5.frozen? ⟨wr.heap.size, 6, none⟩ = false ∧ (w5.setCell ⟨wr.heap.size, 6, none⟩ (.slice z1 z2 z3)).cell? ⟨wr.heap.size, 0, none⟩ = some (.int .u8 (xk : Int)) ∧ (w5.setCell ⟨wr.heap.size, 6, none⟩ (.slice z1 z2 z3)).cell? ⟨wr.heap.size, 1, none⟩ = some (.string (str xc)) ∧ (w5.setCell ⟨wr.heap.size, 6, none⟩ (.slice z1 z2 z3)).cell? ⟨wr.heap.size, 2, none⟩ = some (.int .u8 (xo : Int)) ∧ (w5.setCell ⟨wr.heap.size, 6, none⟩ (.slice z1 z2 z3)).cell? ⟨wr.heap.size, 3, none⟩ = some (.int .u8 (xvk : Int)) ∧ (w5.setCell ⟨wr.heap.size, 6, none⟩ (.slice z1 z2 z3)).cell? ⟨wr.heap.size, 4, none⟩ = some (.int .i64 xvn) ∧ (w5.setCell ⟨wr.heap.size, 6, none⟩ (.slice z1 z2 z3)).cell? ⟨wr.heap.size, 5, none⟩ = some (.string (str xvt)) ∧ (w5.setCell ⟨wr.heap.size, 6, none⟩ (.slice z1 z2 z3)).cell? ⟨wr.heap.size, 6, none⟩ = some (.slice z1 z2 z3)) ∧ ∃ u' w', (Builtin.append_ #[22, 22] 22 #[.slice a k c, .slice (some ⟨w5.heap.size, 0, none⟩) 1 1]).run Tryd.prog ((w5.setCell ⟨wr.heap.size, 6, none⟩ (.slice z1 z2 z3)).alloc (.cells #[.int .u8 (xk : Int), .string (str xc), .int .u8 (xo : Int), .int .u8 (xvk : Int), .int .i64 xvn, .string (str xvt), .slice z1 z2 z3] 54)) = .ok u' w' ∧ (∃ g cap, u' = .slice (some ⟨g, 0, none⟩) (k + 1) cap ∧ NegP w w' u' (cs.take (k + 1)))) := fun w5 z1 z2 z3 k5 hz => by
          have hb := (T.blk_new wr [.int .u8 (xk : Int), .string (str xc), .int .u8 (xo : Int), .int .u8 (xvk : Int), .int .i64 xvn, .string (str xvt), .slice y1 y2 y3] 54).below k5
          have hs := hb.set (o := 6) (.slice z1 z2 z3)
          have hsz : (w5.setCell ⟨wr.heap.size, 6, none⟩ (.slice z1 z2 z3)).heap.size = w5.heap.size := by simp [World.setCell]
          have h1s : (wr.alloc (.cells #[.int .u8 (xk : Int), .string (str xc), .int .u8 (xo : Int), .int .u8 (xvk : Int), .int .i64 xvn, .string (str xvt), .slice y1 y2 y3] 54)).heap.size = wr.heap.size + 1 := by simp
          have hB2 : Below wr.heap.size wr (w5.setCell ⟨wr.heap.size, 6, none⟩ (.slice z1 z2 z3)) := T.bset ((T.al wr _).trans (k5.mono (by omega))) (p := ⟨wr.heap.size, 6, none⟩) (Nat.le_refl _) _
          refine ⟨⟨hb.cell 6, hb.frozen 6, hs.cell 0, hs.cell 1, hs.cell 2, hs.cell 3, hs.cell 4, hs.cell 5, hs.cell 6⟩, ?_⟩
          have hzz : T.RW EI w.heap.size (w5.setCell ⟨wr.heap.size, 6, none⟩ (.slice z1 z2 z3)) (.slice z1 z2 z3) xks := by
            have hz2 := hz.keep (w' := (w5.setCell ⟨wr.heap.size, 6, none⟩ (.slice z1 z2 z3))) fun q hq => Below.heap_setCell _ _ _ _ (by have := (hz.at hq).1; show _ ≠ wr.heap.size; omega)
            refine ⟨hz2.1, hz2.2.imp id ?_⟩
            rintro ⟨g, cap, cur, e, hg, r⟩
            exact ⟨g, cap, cur, e, by have := hng.out.bel.size; omega, r⟩
          have := (hng.out.below hB2).add ⟨xk, xc, xo, xvk, xvn, xvt, xks⟩ (z1, z2, z3) (C := [.int .u8 (xk : Int), .string (str xc), .int .u8 (xo : Int), .int .u8 (xvk : Int), .int .i64 xvn, .string (str xvt), .slice z1 z2 z3]) rfl hzz (by rw [HLK.out]; omega)
          rw [HLK.out, hsz, ← HTK.out] at this
          exact this
        clear hx hyl HTK HLK hxk
        go_wp2_with (first
          | (at_builtin; refine T.wpList_append_ex rfl (.tmp 25) (.tmp 27) 22 rfl _ _ rfl rfl HAP.out ?_; rintro u6 w6 ⟨g6, cap6, rfl, h6⟩)
          | (go_at_call 28; (refine Calls.mono k28 ?_; rintro e w5 ⟨⟨z1, z2, z3⟩, rfl, hz, k5⟩; obtain ⟨⟨f1, f2, c0, c1, c2, c3, c4, c5, c6⟩, happ⟩ := HAPP.out w5 z1 z2 z3 k5 hz; have HAP : Hid _ := happ; clear happ hz k5 HAPP)))
        have HN6 : Hid (NegP w w6 (.slice (some ⟨g6, 0, none⟩) (k + 1) cap6) (cs.take (k + 1))) := h6
        go_roundw
        case rel => exact ⟨k + 1, _, _, by simp, rfl, by show _ ≤ _; omega, HN6⟩
        case measure => simp [RowKit.intOf]; omega
      · obtain rfl : k = n := by omega
        have hi : ¬ (k : Int) < (k : Int) := by omega
        have HAPP : Hid (∃ u' w', (Builtin.append_ #[22, 22] 22 #[.slice a k c, .slice (some ⟨wr.heap.size + 1, 0, none⟩) 1 1]).run Tryd.prog ((wr.alloc (.cells #[.int .i64 ((k : Int) - 1)] 3)).alloc (.cells #[.int .u8 4, .string ⟨#[]⟩, .int .u8 0, .int .u8 0, .int .i64 0, .string ⟨#[]⟩, .slice (some ⟨wr.heap.size, 0, none⟩) 1 1] 54)) = .ok u' w' ∧ (∃ g cap, u' = .slice (some ⟨g, 0, none⟩) (k + 1) cap ∧ NegP w w' u' (cs ++ [⟨4, [], 0, 0, 0, [], [((k : Int) - 1)]⟩]))) := by
          have hT : cs.take k = cs := List.take_of_length_le (by rw [HCN.out]; exact Nat.le_refl _)
          have hng2 := hng.out
          rw [hT] at hng2
          have hs := hng2.bel.size
          have := (hng2.below (T.al wr (.cells #[.int .i64 ((k : Int) - 1)] 3))).add ⟨4, [], 0, 0, 0, [], [((k : Int) - 1)]⟩ (some ⟨wr.heap.size, 0, none⟩, 1, 1) (C := [.int .u8 4, .string ⟨#[]⟩, .int .u8 0, .int .u8 0, .int .i64 0, .string ⟨#[]⟩, .slice (some ⟨wr.heap.size, 0, none⟩) 1 1]) rfl ⟨rfl, .inr ⟨wr.heap.size, 1, #[.int .i64 ((k : Int) - 1)], rfl, hs, T.blk_new wr [.int .i64 ((k : Int) - 1)] 3, Nat.le_refl _, by decide, rfl, rfl⟩⟩ (by rw [HCN.out]; omega)
          rw [HCN.out] at this
          have hz : (wr.alloc (.cells #[.int .i64 ((k : Int) - 1)] 3)).heap.size = wr.heap.size + 1 := by simp
          rw [hz] at this
          exact this
        go_wp2_with (at_builtin; refine T.wpList_append_ex rfl (.tmp 30) (.tmp 36) 22 rfl _ _ rfl rfl HAPP.out ?_; rintro u6 w6 ⟨g6, cap6, rfl, h6⟩)
        go_ret
        exact ⟨_, rfl, h6.lc, h6.bel⟩
def EX : T.Ety Bs where
  m := 1
  enc := fun s => [.string (str s)]
  tE := 9
  tS := 45
  z := .string ⟨#[]⟩
  bytes := 16
  len := fun _ => rfl
  one := fun x u h => by simp at h; rw [h]; rfl
  und := Tryd.underlying45
  info := by kernel_rfl
  zs := rfl
  pos := by decide
  by32 := by decide
theorem keyed9 : Maps.Keyed Tryd.prog 9 := Maps.string_keyed Tryd.underlying9
theorem zero71 (w : World) : (zeroValue 71).run Tryd.prog w = .ok (.agg #[]) w := by kernel_rfl
/-- The set of these texts. -/
abbrev setX (ns : List Bs) : DataW Unit := Maps.setOf (.agg []) (ns.map Lit.string)
theorem has_setX (ns : List Bs) (s : Bs) : Maps.has (setX ns) (.string s) = decide (s ∈ ns) := by
  unfold setX
  rw [Maps.has_setOf _ _ _ (fun y hy => by obtain ⟨_, _, rfl⟩ := List.mem_map.1 hy; trivial), List.any_map]
  induction ns with
  | nil => rfl
  | cons a r ih =>
    rw [List.any_cons, ih]
    show ((Lit.string a).sameKey (.string s) || _) = _
    simp only [Lit.sameKey]
    by_cases e : a = s
    · subst e; simp
    · have e' : ¬ s = a := fun h => e h.symm
      simp [e, e']
theorem setX_snoc (ns : List Bs) (s : Bs) : setX (ns ++ [s]) = (setX ns).put (.string s) (.agg []) := by
  unfold setX
  rw [List.map_append, List.map_singleton, Maps.setOf_snoc]
/-- Names that were told, and the set of them. -/
structure ColS (w wr : World) (v : Value) (k : Nat) (ns : List Bs) : Prop where
  row : T.RW EX w.heap.size wr v ns
  own : wr.ownsMap Tryd.prog 9 (unitElem (H := Unit)) w.heap.size k (setX ns)
  bel : Below w.heap.size w wr
theorem ColS.ne {wr : World} {v : Value} {k : Nat} {ns : List Bs} (h : ColS w wr v k ns) : some w.heap.size ≠ v.ownBlock := fun e => by
  obtain ⟨es, cl, h1, h2⟩ := h.own
  rcases h.row.2 with ⟨rfl, _⟩ | ⟨g, cap, cur, rfl, _, h4, _⟩
  · cases e
  · cases e
    have := h1.symm.trans h4
    cases this
theorem ColS.more {wr w2 : World} {v : Value} {k : Nat} {ns : List Bs} (h : ColS w wr v k ns) (k2 : Below wr.heap.size wr w2) : ColS w w2 v k ns :=
  ⟨h.row.below k2, h.own.kept (row := none) ⟨k2.os, k2.tape, k2.output, k2.size, fun i hi _ => k2.block i hi⟩ (by simp), h.bel.trans (k2.mono h.bel.size)⟩
theorem ColS.step {wr : World} {v : Value} {k : Nat} {ns : List Bs} (h : ColS w wr v k ns) : ColS w wr v (k + 1) ns := ⟨h.row, h.own.mono (Nat.le_succ _), h.bel⟩
theorem ColS.add {wr w1 : World} {v : Value} {k : Nat} {ns : List Bs} {s : Bs} (h : ColS w wr v k ns) (hown : w1.ownsMap Tryd.prog 9 (unitElem (H := Unit)) w.heap.size (k + 1) ((setX ns).put (.string s) (.agg []))) (hg : wr.grownBy w1 (some w.heap.size)) (hl : ns.length ≤ 2000) : ∃ u' w4, (Builtin.append_ #[45, 45] 45 #[v, .slice (some ⟨w1.heap.size, 0, none⟩) 1 1]).run Tryd.prog (w1.alloc (.cells #[.string (str s)] 9)) = .ok u' w4 ∧ (∃ a c, u' = .slice a (ns.length + 1) c ∧ ColS w w4 u' (k + 1) (ns ++ [s])) := by
  have hne := h.ne
  have hr1 : T.RW EX w.heap.size w1 v ns := h.row.keep fun b hb => hg.block b (h.row.at hb).2 (fun e => hne (by rw [hb, e]))
  have hlv : T.LV EX (w1.alloc (.cells #[.string (str s)] 9)) (.slice (some ⟨w1.heap.size, 0, none⟩) 1 1) [s] := T.lv_blk EX (L := [s]) (T.blk_new w1 [.string (str s)] 9) 1 (Nat.le_refl _)
  have b3 := T.al w1 (.cells #[.string (str s)] 9)
  have hB1 : Below w.heap.size w w1 := h.bel.trans ⟨hg.os, hg.tape, hg.output, hg.size, fun i hi => hg.block i (Nat.lt_of_lt_of_le hi h.bel.size) (fun e => by simp at e; omega)⟩
  obtain ⟨g', cap, w5, hrun, hR, hgrow, hat, hlt⟩ := T.rw_app2 (hr1.below b3) hlv (by simp) (by simp; omega) (Nat.le_trans hB1.size b3.size)
  refine ⟨_, w5, hrun, _, _, rfl, ⟨hR, ?_, ?_⟩⟩
  · rw [setX_snoc]
    exact (hown.alloc _).kept hgrow hne
  · exact (T.bal hB1 _).trans ⟨hgrow.os, hgrow.tape, hgrow.output, hgrow.size, fun i hi => by
      have := hB1.size
      exact hgrow.block i (by simp; omega) (fun e => by have := (hr1.at e.symm).1; omega)⟩
set_option maxHeartbeats 8000000 in
theorem columns15 {u : Value} {cs : List Cd} (h : LC w u cs) (hn : cs.length ≤ 1000) (hs : ∀ x ∈ cs, (str x.col).size ≤ maxLen) : Calls Tryd.prog 15 #[u] w fun e w' => ∃ a c, e = .returned (.slice a (colsP cs).length c) ∧ T.RW EX w.heap.size w' (.slice a (colsP cs).length c) (colsP cs) ∧ Below w.heap.size w w' := by
  obtain ⟨ua, uc, rfl⟩ := h.form
  obtain ⟨n, hcn⟩ : ∃ n, cs.length = n := ⟨_, rfl⟩
  rw [hcn] at hn h ⊢
  have HCN : Hid (cs.length = n) := hcn
  have HLB : Hid (∀ W, Below w.heap.size w W → LC W (.slice ua n uc) cs) := fun W k => h.below k
  have HK : Hid (∀ x ∈ cs, (str x.col).size ≤ maxLen) := hs
  have HMK : Hid (ColS w (w.alloc (.map #[] 0)) (.slice none 0 0) 0 []) := ⟨T.RW.nil _ _ _, World.ownsMap_made w Tryd.prog 9 _, T.al w _⟩
  have hmm := @run_makeMap Tryd.prog
  clear h hs hcn
  go_enter Tryd.func15, Tryd.ntmps15
  go_wp2
  go_loopw [3, 12] (fun p q wr => ∃ (k l : Nat) (a : Option Addr) (c : Nat), q = .int .i64 (k : Int) ∧ p = .slice a l c ∧ Hid (k ≤ n) ∧ Hid (l = (colsP (cs.take k)).length) ∧ Hid (ColS w wr (.slice a l c) k (colsP (cs.take k)))) (fun _ q _ => n - (RowKit.intOf q).toNat)
  case atStart => exact ⟨0, 0, none, 0, rfl, rfl, Nat.zero_le _, rfl, HMK.out⟩
  case round =>
    obtain ⟨k, l, a, c, rfl, rfl, hk, hll, hng⟩ := hrel
    have hkn := hk.out
    by_cases hlt : k < n
    · have hi : (k : Int) < (n : Int) := by omega
      have h0 : (0 : Int) ≤ (k : Int) := by omega
      have hw3 : IntKind.i64.wrap ((k : Int) + 1) = (k : Int) + 1 := wrap_small _ (by omega) (by omega)
      obtain ⟨x, hx⟩ : ∃ x, cs[k]? = some x := ⟨_, List.getElem?_eq_getElem (by rw [HCN.out]; exact hlt)⟩
      have hxk := HK.out x (List.mem_of_getElem? hx)
      have HTK : Hid (colsP (cs.take (k + 1)) = if x.k = 1 ∧ x.col ∉ colsP (cs.take k) then colsP (cs.take k) ++ [x.col] else colsP (cs.take k)) := colsP_take hx
      have HLL : Hid ((colsP (cs.take k)).length ≤ 1000) := by
        have := colsP_len (cs.take k)
        rw [List.length_take] at this
        show _ ≤ _
        omega
      obtain ⟨g, o, ⟨y1, y2, y3⟩, rfl, hyl, p0, p1, p2, p3, p4, p5, p6⟩ := (HLB.out wr hng.out.bel).at hx
      obtain ⟨xk, xc, xo, xvk, xvn, xvt, xks⟩ := x
      simp only [slW] at p0 p1 p2 p3 p4 p5 p6 hxk HTK
      have hkey : keyOf Tryd.prog 9 (.string (str xc)) = some (.string xc) := by
        have := WideMaps.keyOf_string_mk (P := Tryd.prog) Tryd.underlying9 hxk
        simpa using this
      have HC1 : Hid (ColS w (wr.alloc (.cells #[.int .u8 (xk : Int), .string (str xc), .int .u8 (xo : Int), .int .u8 (xvk : Int), .int .i64 xvn, .string (str xvt), .slice y1 y2 y3] 54)) (.slice a l c) k (colsP (cs.take k))) := hng.out.more (T.al wr _)
      have HC2 : Hid (ColS w ((wr.alloc (.cells #[.int .u8 (xk : Int), .string (str xc), .int .u8 (xo : Int), .int .u8 (xvk : Int), .int .i64 xvn, .string (str xvt), .slice y1 y2 y3] 54)).alloc (.cells #[] 71)) (.slice a l c) k (colsP (cs.take k))) := HC1.out.more (T.al _ _)
      have hbk := (T.blk_new wr [.int .u8 (xk : Int), .string (str xc), .int .u8 (xo : Int), .int .u8 (xvk : Int), .int .i64 xvn, .string (str xvt), .slice y1 y2 y3] 54)
      have hbk2 := hbk.below (T.al (wr.alloc (.cells #[.int .u8 (xk : Int), .string (str xc), .int .u8 (xo : Int), .int .u8 (xvk : Int), .int .i64 xvn, .string (str xvt), .slice y1 y2 y3] 54)) (.cells #[] 71))
      have cA := hbk.cell 1
      have cB := hbk2.cell 0
      have cC := hbk2.cell 1
      simp only [List.getElem?_cons_succ, List.getElem?_cons_zero] at cA cB cC
      have HD : Hid (∀ w1, ((wr.alloc (.cells #[.int .u8 (xk : Int), .string (str xc), .int .u8 (xo : Int), .int .u8 (xvk : Int), .int .i64 xvn, .string (str xvt), .slice y1 y2 y3] 54)).alloc (.cells #[] 71)).grownBy w1 (some w.heap.size) → w1.cell? ⟨wr.heap.size, 1, none⟩ = some (.string (str xc))) := fun w1 g1 => (hbk2.block (g1.block _ hbk2.lt (fun e => by have := hng.out.bel.size; have := hng.out.own.lt; simp at e; omega))).cell 1
      have HADD : Hid (∀ w1, w1.ownsMap Tryd.prog 9 (unitElem (H := Unit)) w.heap.size (k + 1) ((setX (colsP (cs.take k))).put (.string xc) (.agg [])) → ((wr.alloc (.cells #[.int .u8 (xk : Int), .string (str xc), .int .u8 (xo : Int), .int .u8 (xvk : Int), .int .i64 xvn, .string (str xvt), .slice y1 y2 y3] 54)).alloc (.cells #[] 71)).grownBy w1 (some w.heap.size) → ∃ u' w4, (Builtin.append_ #[45, 45] 45 #[.slice a l c, .slice (some ⟨w1.heap.size, 0, none⟩) 1 1]).run Tryd.prog (w1.alloc (.cells #[.string (str xc)] 9)) = .ok u' w4 ∧ (∃ a c, u' = .slice a (l + 1) c ∧ ColS w w4 u' (k + 1) (colsP (cs.take k) ++ [xc]))) := fun w1 o1 g1 => by
        have := HC2.out.add o1 g1 (by have := HLL.out; omega)
        rw [← hll.out] at this
        exact this
      have hown := HC1.out.own
      have hhas := has_setX (colsP (cs.take k)) xc
      by_cases hin : xc ∈ colsP (cs.take k)
      · rw [decide_eq_true hin] at hhas
        have HFIN : Hid (l = (colsP (cs.take (k + 1))).length ∧ ColS w ((wr.alloc (.cells #[.int .u8 (xk : Int), .string (str xc), .int .u8 (xo : Int), .int .u8 (xvk : Int), .int .i64 xvn, .string (str xvt), .slice y1 y2 y3] 54)).alloc (.cells #[] 71)) (.slice a l c) (k + 1) (colsP (cs.take (k + 1)))) := by
          rw [if_neg (fun e => e.2 hin)] at HTK
          show _ ∧ _
          rw [HTK.out]
          exact ⟨hll.out, HC2.out.step⟩
        clear hx hyl HTK hbk hbk2 HADD HD hin
        go_wp2_with (at_lookup; refine wpList_lookup_own_unit _ rfl (.tmp 17) (.tmp 19) 70 rfl 9 71 keyed9 Tryd.underlying70 (zero71 _) w.heap.size k _ rfl hown _ _ rfl hkey ?_; rw [hhas])
        go_roundw
        case rel => exact ⟨k + 1, l, a, c, by simp, rfl, by show _ ≤ _; omega, HFIN.out.1, HFIN.out.2⟩
        case measure => simp [RowKit.intOf]; omega
      · rw [decide_eq_false hin] at hhas
        by_cases h1 : xk = 1
        · obtain ⟨e1, e2, e3⟩ := eq_facts h1
          have e1' : ((xk : Int) == 1) = true := e1
          have e4 : ((xk : Int) != 1) = false := by simp [bne, e1']
          have HFIN : Hid (∀ w4 v, ColS w w4 v (k + 1) (colsP (cs.take k) ++ [xc]) → l + 1 = (colsP (cs.take (k + 1))).length ∧ ColS w w4 v (k + 1) (colsP (cs.take (k + 1)))) := fun w4 v h4 => by
            rw [if_pos ⟨h1, hin⟩] at HTK
            rw [HTK.out]
            exact ⟨by rw [List.length_append, ← hll.out]; rfl, h4⟩
          have hown2 := HC2.out.own
          clear hx hyl HTK hbk hbk2 hin e1 e3 h1
          go_wp2_with (first
            | (at_builtin; refine T.wpList_append_ex rfl (.tmp 33) (.tmp 36) 45 rfl _ _ rfl rfl HAP.out ?_; rintro u6 w6 ⟨a6, c6, rfl, h6⟩)
            | (at_mapUpdate; refine wpList_mapUpdate_own _ rfl (.tmp 29) (.tmp 31) (.tmp 32) 70 rfl 9 71 keyed9 Tryd.underlying70 (unitElem (H := Unit)) w.heap.size k _ rfl hown2 (by unfold maxLen; omega) _ _ _ rfl rfl hkey _ [] unitElem_mk ?_; intro w1 o1 g1; have cD := HD.out w1 g1; have HAP : Hid _ := HADD.out w1 o1 g1; clear o1 g1)
            | (at_lookup; refine wpList_lookup_own_unit _ rfl (.tmp 17) (.tmp 19) 70 rfl 9 71 keyed9 Tryd.underlying70 (zero71 _) w.heap.size k _ rfl hown _ _ rfl hkey ?_; rw [hhas]))
          have h7 := HFIN.out _ _ h6
          go_roundw
          case rel => exact ⟨k + 1, l + 1, _, _, by simp, rfl, by show _ ≤ _; omega, h7.1, h7.2⟩
          case measure => simp [RowKit.intOf]; omega
        · obtain ⟨n1, n2, n3, n4, n5⟩ := ne_facts h1
          have n1' : ((xk : Int) == 1) = false := n1
          have n6 : ((xk : Int) != 1) = true := by simp [bne, n1']
          have HFIN : Hid (l = (colsP (cs.take (k + 1))).length ∧ ColS w ((wr.alloc (.cells #[.int .u8 (xk : Int), .string (str xc), .int .u8 (xo : Int), .int .u8 (xvk : Int), .int .i64 xvn, .string (str xvt), .slice y1 y2 y3] 54)).alloc (.cells #[] 71)) (.slice a l c) (k + 1) (colsP (cs.take (k + 1)))) := by
            rw [if_neg (fun e => h1 e.1)] at HTK
            show _ ∧ _
            rw [HTK.out]
            exact ⟨hll.out, HC2.out.step⟩
          clear hx hyl HTK hbk hbk2 HADD HD hin n1 h1
          go_wp2_with (at_lookup; refine wpList_lookup_own_unit _ rfl (.tmp 17) (.tmp 19) 70 rfl 9 71 keyed9 Tryd.underlying70 (zero71 _) w.heap.size k _ rfl hown _ _ rfl hkey ?_; rw [hhas])
          go_roundw
          case rel => exact ⟨k + 1, l, a, c, by simp, rfl, by show _ ≤ _; omega, HFIN.out.1, HFIN.out.2⟩
          case measure => simp [RowKit.intOf]; omega
    · obtain rfl : k = n := by omega
      have hi : ¬ (k : Int) < (k : Int) := by omega
      have HFIN : Hid (l = (colsP cs).length ∧ ColS w wr (.slice a l c) k (colsP cs)) := by
        have hT : cs.take k = cs := List.take_of_length_le (by rw [HCN.out]; exact Nat.le_refl _)
        have h1 := hng.out
        have h2 := hll.out
        rw [hT] at h1 h2
        exact ⟨h2, h1⟩
      go_wp2
      go_ret
      refine ⟨a, c, ?_, ?_, HFIN.out.2.bel⟩
      · exact congrArg (fun z => Ending.returned (.slice a z c)) HFIN.out.1
      · rw [← HFIN.out.1]; exact HFIN.out.2.row
end Go.Proofs.YtipnaphikbjhbaaDoor
/-! ### few; live. -/
namespace Go.Proofs.YtipnaphikbjhbaaDoor
open Go.RowKit
set_option maxRecDepth 100000
variable {w w' W : World}
theorem few_end (W : World) (a b c : Value) (x0 x1 : Array Value) (tmps : Array Value) (ht : tmps.getD 2 undef = .pointer (some ⟨W.heap.size + 1, 0, none⟩)) (hx : x1 = #[a, b, c]) :
    bodyPost Tryd.prog Tryd.f7 (fun e w' => e = .returned (.agg #[a, b, c]) ∧ Below W.heap.size W w') .ret { tmps := tmps, defers := [] } ((W.alloc (.cells x0 26)).alloc (.cells x1 26)) := by
  subst hx
  have hb : T.Blk ((W.alloc (.cells x0 26)).alloc (.cells [a, b, c].toArray 26)) (W.heap.size + 1) [a, b, c] 26 := T.blk_at (W.alloc (.cells x0 26)) [a, b, c] 26 (by simp)
  exact bodyPost_ret (T.results_cell rfl _ _ _ (W.heap.size + 1) [a, b, c] 26 hb ht _ Tryd.underlying26 rfl (by kernel_rfl)) rfl ⟨rfl, bmore (T.al _ _) (T.al _ _)⟩
set_option maxHeartbeats 4000000 in
theorem few7 (a1 : Option Addr) (n1 c1 : Nat) (a2 : Option Addr) (n2 c2 : Nat) (a3 : Option Addr) (n3 c3 : Nat) (h1 : n1 ≤ c1) (h2 : n2 ≤ c2) (h3 : n3 ≤ c3) (hs1 : 40 < n1 → ∃ b o, a1 = some ⟨b, o, none⟩) (hs2 : 8 < n2 → ∃ b o, a2 = some ⟨b, o, none⟩) (hs3 : 8 < n3 → ∃ b o, a3 = some ⟨b, o, none⟩) (m1 : c1 ≤ maxLen) (m2 : c2 ≤ maxLen) (m3 : c3 ≤ maxLen) :
    Calls Tryd.prog 7 #[.agg #[.slice a1 n1 c1, .slice a2 n2 c2, .slice a3 n3 c3]] W fun e w' => e = .returned (.agg #[.slice a1 (min n1 40) c1, .slice a2 (min n2 8) c2, .slice a3 (min n3 8) c3]) ∧ Below W.heap.size W w' := by
  unfold maxLen at m1 m2 m3
  by_cases b1 : 40 < n1 <;> by_cases b2 : 8 < n2 <;> by_cases b3 : 8 < n3
  · obtain ⟨q1, o1, rfl⟩ := hs1 b1
    have e1 : (40 : Int) < (n1 : Int) := by omega
    have f1 : (40 : Int) ≤ (c1 : Int) := by omega
    obtain ⟨q2, o2, rfl⟩ := hs2 b2
    have e2 : (8 : Int) < (n2 : Int) := by omega
    have f2 : (8 : Int) ≤ (c2 : Int) := by omega
    obtain ⟨q3, o3, rfl⟩ := hs3 b3
    have e3 : (8 : Int) < (n3 : Int) := by omega
    have f3 : (8 : Int) ≤ (c3 : Int) := by omega
    rw [show min n1 40 = 40 by omega, show min n2 8 = 8 by omega, show min n3 8 = 8 by omega]
    clear hs1 hs2 hs3
    go_enter Tryd.func7, Tryd.ntmps7
    go_wp2
    exact few_end W _ _ _ _ _ _ rfl rfl
  · obtain ⟨q1, o1, rfl⟩ := hs1 b1
    have e1 : (40 : Int) < (n1 : Int) := by omega
    have f1 : (40 : Int) ≤ (c1 : Int) := by omega
    obtain ⟨q2, o2, rfl⟩ := hs2 b2
    have e2 : (8 : Int) < (n2 : Int) := by omega
    have f2 : (8 : Int) ≤ (c2 : Int) := by omega
    have e3 : ¬ (8 : Int) < (n3 : Int) := by omega
    rw [show min n1 40 = 40 by omega, show min n2 8 = 8 by omega, show min n3 8 = n3 by omega]
    clear hs1 hs2 hs3
    go_enter Tryd.func7, Tryd.ntmps7
    go_wp2
    exact few_end W _ _ _ _ _ _ rfl rfl
  · obtain ⟨q1, o1, rfl⟩ := hs1 b1
    have e1 : (40 : Int) < (n1 : Int) := by omega
    have f1 : (40 : Int) ≤ (c1 : Int) := by omega
    have e2 : ¬ (8 : Int) < (n2 : Int) := by omega
    obtain ⟨q3, o3, rfl⟩ := hs3 b3
    have e3 : (8 : Int) < (n3 : Int) := by omega
    have f3 : (8 : Int) ≤ (c3 : Int) := by omega
    rw [show min n1 40 = 40 by omega, show min n2 8 = n2 by omega, show min n3 8 = 8 by omega]
    clear hs1 hs2 hs3
    go_enter Tryd.func7, Tryd.ntmps7
    go_wp2
    exact few_end W _ _ _ _ _ _ rfl rfl
  · obtain ⟨q1, o1, rfl⟩ := hs1 b1
    have e1 : (40 : Int) < (n1 : Int) := by omega
    have f1 : (40 : Int) ≤ (c1 : Int) := by omega
    have e2 : ¬ (8 : Int) < (n2 : Int) := by omega
    have e3 : ¬ (8 : Int) < (n3 : Int) := by omega
    rw [show min n1 40 = 40 by omega, show min n2 8 = n2 by omega, show min n3 8 = n3 by omega]
    clear hs1 hs2 hs3
    go_enter Tryd.func7, Tryd.ntmps7
    go_wp2
    exact few_end W _ _ _ _ _ _ rfl rfl
  · have e1 : ¬ (40 : Int) < (n1 : Int) := by omega
    obtain ⟨q2, o2, rfl⟩ := hs2 b2
    have e2 : (8 : Int) < (n2 : Int) := by omega
    have f2 : (8 : Int) ≤ (c2 : Int) := by omega
    obtain ⟨q3, o3, rfl⟩ := hs3 b3
    have e3 : (8 : Int) < (n3 : Int) := by omega
    have f3 : (8 : Int) ≤ (c3 : Int) := by omega
    rw [show min n1 40 = n1 by omega, show min n2 8 = 8 by omega, show min n3 8 = 8 by omega]
    clear hs1 hs2 hs3
    go_enter Tryd.func7, Tryd.ntmps7
    go_wp2
    exact few_end W _ _ _ _ _ _ rfl rfl
  · have e1 : ¬ (40 : Int) < (n1 : Int) := by omega
    obtain ⟨q2, o2, rfl⟩ := hs2 b2
    have e2 : (8 : Int) < (n2 : Int) := by omega
    have f2 : (8 : Int) ≤ (c2 : Int) := by omega
    have e3 : ¬ (8 : Int) < (n3 : Int) := by omega
    rw [show min n1 40 = n1 by omega, show min n2 8 = 8 by omega, show min n3 8 = n3 by omega]
    clear hs1 hs2 hs3
    go_enter Tryd.func7, Tryd.ntmps7
    go_wp2
    exact few_end W _ _ _ _ _ _ rfl rfl
  · have e1 : ¬ (40 : Int) < (n1 : Int) := by omega
    have e2 : ¬ (8 : Int) < (n2 : Int) := by omega
    obtain ⟨q3, o3, rfl⟩ := hs3 b3
    have e3 : (8 : Int) < (n3 : Int) := by omega
    have f3 : (8 : Int) ≤ (c3 : Int) := by omega
    rw [show min n1 40 = n1 by omega, show min n2 8 = n2 by omega, show min n3 8 = 8 by omega]
    clear hs1 hs2 hs3
    go_enter Tryd.func7, Tryd.ntmps7
    go_wp2
    exact few_end W _ _ _ _ _ _ rfl rfl
  · have e1 : ¬ (40 : Int) < (n1 : Int) := by omega
    have e2 : ¬ (8 : Int) < (n2 : Int) := by omega
    have e3 : ¬ (8 : Int) < (n3 : Int) := by omega
    rw [show min n1 40 = n1 by omega, show min n2 8 = n2 by omega, show min n3 8 = n3 by omega]
    clear hs1 hs2 hs3
    go_enter Tryd.func7, Tryd.ntmps7
    go_wp2
    exact few_end W _ _ _ _ _ _ rfl rfl
/-- The condition that live reads. -/
def liveL : List Cd := [⟨1, [97], 1, 1, 1, [], []⟩, ⟨1, [98], 3, 1, 3, [], []⟩, ⟨2, [], 0, 0, 0, [], [0, 1]⟩]
def liveT : ByteArray := ⟨#[40, 97, 32, 61, 32, 49, 32, 97, 110, 100, 32, 98, 32, 60, 32, 51, 41]⟩
theorem where_live : whereP (bs liveT) = (liveL, 0, 0) := by kernel_rfl
def liveC : List Co := [([97], 1), ([98], 1)]
def liveV : List Va := [(1, 1, []), (1, 2, [])]
theorem live_holds : holdsV liveC liveV liveL = true := by kernel_rfl
theorem live_equal : equalV liveL [97] = ((1, 1, []), true) := by kernel_rfl
theorem live_deep : resN (fun _ l => wrap64 (deepP l)) 0 liveL (liveL.length - 1) = 2 := by kernel_rfl
theorem live_cols : (colsP liveL).length = 2 := by kernel_rfl
abbrev wL3 (w1 : World) : World := (w1.alloc (.cells #[.string ⟨#[97]⟩, .int .u8 1, .string ⟨#[98]⟩, .int .u8 1] 42)).alloc (.cells #[.int .u8 1, .int .i64 1, .string ⟨#[]⟩, .int .u8 1, .int .i64 2, .string ⟨#[]⟩] 30)
abbrev wL5 (w4 : World) : World := w4.alloc (.cells #[.int .u8 1, .int .i64 1, .string ⟨#[]⟩] 30)
abbrev cvL (w1 : World) : Value := .slice (some ⟨w1.heap.size, 0, none⟩) 2 2
abbrev vvL (w1 : World) : Value := .slice (some ⟨w1.heap.size + 1, 0, none⟩) 2 2
structure LiveS (w1 w4 W : World) (u : Value) : Prop where
  lc : LC W u liveL
  cv : T.LV EK W (cvL w1) liveC
  vv : T.LV EV W (vvL w1) liveV
  bx : T.Blk W w4.heap.size [.int .u8 1, .int .i64 1, .string ⟨#[]⟩] 30
  bv : T.Blk W (w1.heap.size + 1) [.int .u8 1, .int .i64 1, .string ⟨#[]⟩, .int .u8 1, .int .i64 2, .string ⟨#[]⟩] 30
  bel : Below w1.heap.size w1 W
theorem LiveS.below {w1 w4 : World} {u : Value} (h : LiveS w1 w4 W u) (k : Below W.heap.size W w') : LiveS w1 w4 w' u :=
  ⟨h.lc.below k, h.cv.below k, h.vv.below k, h.bx.below k, h.bv.below k, h.bel.trans (k.mono h.bel.size)⟩
theorem liveS {w1 w4 : World} {u : Value} (h : LC w1 u liveL) (k : Below (wL3 w1).heap.size (wL3 w1) w4) : LiveS w1 w4 (wL5 w4) u := by
  have a1 := T.al w1 (.cells #[.string ⟨#[97]⟩, .int .u8 1, .string ⟨#[98]⟩, .int .u8 1] 42)
  have a2 := T.al (w1.alloc (.cells #[.string ⟨#[97]⟩, .int .u8 1, .string ⟨#[98]⟩, .int .u8 1] 42)) (.cells #[.int .u8 1, .int .i64 1, .string ⟨#[]⟩, .int .u8 1, .int .i64 2, .string ⟨#[]⟩] 30)
  have a3 : Below (wL3 w1).heap.size (wL3 w1) (wL5 w4) := bmore k (T.al w4 _)
  have c1 : T.Blk (w1.alloc (.cells #[.string ⟨#[97]⟩, .int .u8 1, .string ⟨#[98]⟩, .int .u8 1] 42)) w1.heap.size (EK.cells liveC) 42 := T.blk_new w1 [.string ⟨#[97]⟩, .int .u8 1, .string ⟨#[98]⟩, .int .u8 1] 42
  have c2 : T.Blk (wL3 w1) (w1.heap.size + 1) (EV.cells liveV) 30 := T.blk_at (w1.alloc (.cells #[.string ⟨#[97]⟩, .int .u8 1, .string ⟨#[98]⟩, .int .u8 1] 42)) [.int .u8 1, .int .i64 1, .string ⟨#[]⟩, .int .u8 1, .int .i64 2, .string ⟨#[]⟩] 30 (by simp)
  refine ⟨h.below (bmore (bmore a1 a2) a3), ?_, ?_, T.blk_new w4 [.int .u8 1, .int .i64 1, .string ⟨#[]⟩] 30, c2.below a3, bmore (bmore a1 a2) a3⟩
  · exact T.lv_blk EK (L := liveC) ((c1.below a2).below a3) 2 (Nat.le_refl _)
  · exact T.lv_blk EV (L := liveV) (c2.below a3) 2 (Nat.le_refl _)
theorem LiveS.cells {w1 w4 : World} {u : Value} (h : LiveS w1 w4 W u) : W.cell? ⟨w4.heap.size, 0, none⟩ = some (.int .u8 1) ∧ W.cell? ⟨w4.heap.size, 1, none⟩ = some (.int .i64 1) ∧ W.cell? ⟨w4.heap.size, 2, none⟩ = some (.string ⟨#[]⟩) ∧ W.cell? ⟨w1.heap.size + 1, 0, none⟩ = some (.int .u8 1) ∧ W.cell? ⟨w1.heap.size + 1, 1, none⟩ = some (.int .i64 1) ∧ W.cell? ⟨w1.heap.size + 1, 2, none⟩ = some (.string ⟨#[]⟩) :=
  ⟨h.bx.cell 0, h.bx.cell 1, h.bx.cell 2, h.bv.cell 0, h.bv.cell 1, h.bv.cell 2⟩
theorem live_kids : ∀ x ∈ liveL, x.kids.length ≤ 2 := by
  intro x hx
  simp [liveL] at hx
  rcases hx with rfl | rfl | rfl <;> simp
theorem neg_kids {cs : List Cd} {N : Nat} (h : ∀ x ∈ cs, x.kids.length ≤ N) (hN : 1 ≤ N) : ∀ x ∈ negP cs, x.kids.length ≤ N := by
  intro x hx
  unfold negP at hx
  split at hx
  · simp at hx
    subst hx
    simp
  · rcases List.mem_append.1 hx with hx | hx
    · exact h x hx
    · simp at hx
      subst hx
      simpa using hN
theorem neg_len (cs : List Cd) : (negP cs).length = cs.length + 1 := by
  unfold negP
  split
  · rename_i h; rw [h]; rfl
  · simp
theorem LiveS.c13 {w1 w4 : World} {u : Value} (h : LiveS w1 w4 W u) : Calls Tryd.prog 13 #[u, cvL w1, vvL w1] W fun e w' => e = .returned (.bool true) ∧ LiveS w1 w4 w' u := by
  have := holds13 h.lc h.cv h.vv (by decide) (by decide) (fun x hx => by have := live_kids x hx; omega)
  rw [live_holds] at this
  exact this.mono fun e w' ⟨h1, h2⟩ => ⟨h1, h.below h2⟩
theorem LiveS.c13n {w1 w4 : World} {u u' : Value} (h : LiveS w1 w4 W u) (hn : LC W u' (negP liveL)) : Calls Tryd.prog 13 #[u', cvL w1, vvL w1] W fun e w' => e = .returned (.bool false) ∧ LiveS w1 w4 w' u := by
  have := holds13 hn h.cv h.vv (by rw [neg_len]; decide) (by decide) (fun x hx => by have := neg_kids live_kids (by omega) x hx; omega)
  rw [holds_neg, live_holds] at this
  exact this.mono fun e w' ⟨h1, h2⟩ => ⟨h1, h.below h2⟩
theorem LiveS.c14 {w1 w4 : World} {u : Value} (h : LiveS w1 w4 W u) : Calls Tryd.prog 14 #[u] W fun e w' => ∃ u', e = .returned u' ∧ LC w' u' (negP liveL) ∧ LiveS w1 w4 w' u :=
  (negated14 h.lc (by decide) (fun x hx => by have := live_kids x hx; omega)).mono fun e w' ⟨u', h1, h2, h3⟩ => ⟨u', h1, h2, h.below h3⟩
theorem LiveS.c21 {w1 w4 : World} {u : Value} (h : LiveS w1 w4 W u) : Calls Tryd.prog 21 #[u] W fun e w' => e = .returned (.int .i64 2) ∧ LiveS w1 w4 w' u := by
  have := depth21 h.lc (by decide) (by decide) (fun x hx => by have := live_kids x hx; omega)
  rw [live_deep] at this
  exact this.mono fun e w' ⟨h1, h2⟩ => ⟨h1, h.below h2⟩
theorem LiveS.c15 {w1 w4 : World} {u : Value} (h : LiveS w1 w4 W u) : Calls Tryd.prog 15 #[u] W fun e w' => ∃ a c, e = .returned (.slice a 2 c) ∧ LiveS w1 w4 w' u := by
  have := columns15 h.lc (by decide) (fun x hx => by
    simp [liveL] at hx
    rcases hx with rfl | rfl | rfl <;> decide)
  rw [live_cols] at this
  exact this.mono fun e w' ⟨a, c, h1, _, h2⟩ => ⟨a, c, h1, h.below h2⟩
set_option maxHeartbeats 8000000 in
theorem live10 (w : World) (hg : Good w) : Calls Tryd.prog 10 #[] w fun e w' => e = .returned (.bool true) ∧ Below w.heap.size w w' := by
  have k20 : Calls Tryd.prog 20 #[.string ⟨#[40, 97, 32, 61, 32, 49, 32, 97, 110, 100, 32, 98, 32, 60, 32, 51, 41]⟩] w fun e w' => ∃ a c, e = .returned (.tuple #[.slice a 3 c, .int .i64 0, .int .i64 0]) ∧ LC w' (.slice a 3 c) liveL ∧ Below w.heap.size w w' := by
    refine (where20 liveT w hg).mono ?_
    rintro e w' ⟨u, h1, h2, h3⟩
    rw [where_live] at h1 h2
    obtain ⟨a, c, rfl⟩ := h2.lc.form
    exact ⟨a, c, h1, h2.lc, h3⟩
  have K8 : Hid (∀ w1 a c, LC w1 (.slice a 3 c) liveL → Calls Tryd.prog 8 #[.slice a 3 c, .string ⟨#[97]⟩] (wL3 w1) fun e w' => e = .returned (.tuple #[.agg #[.int .u8 1, .int .i64 1, .string ⟨#[]⟩], .bool true]) ∧ LiveS w1 w' (wL5 w') (.slice a 3 c)) := fun w1 a c h => by
    have := equal8 (w := wL3 w1) [97] (h.below (bmore (T.al _ _) (T.al _ _))) (by decide) (fun x hx => by have := live_kids x hx; omega)
    rw [live_equal] at this
    exact this.mono fun e w' ⟨h1, h2⟩ => ⟨h1, liveS h h2⟩
  clear hg
  go_enter Tryd.func10, Tryd.ntmps10
  go_wp2_with (first
    | (go_at_call 8; refine Calls.mono (K8.out _ _ _ HL1.out) ?_; rintro e w4 ⟨rfl, h5⟩; have HS5 : Hid _ := h5; clear h5)
    | (go_at_call 20; refine Calls.mono k20 ?_; rintro e w1 ⟨a1, c1, rfl, l1, b1⟩; have HL1 : Hid _ := l1; have HB1 : Hid _ := b1; clear l1 b1))
  have HS5d : Hid (LiveS w1 w4 (wL5 w4).drew (.slice a1 3 c1)) := HS5.out.below (Below.refl _ _).drew
  go_region_held3 (fun W => W.cell? ⟨w4.heap.size, 0, none⟩ = some (.int .u8 1) ∧ W.cell? ⟨w4.heap.size, 1, none⟩ = some (.int .i64 1) ∧ W.cell? ⟨w4.heap.size, 2, none⟩ = some (.string ⟨#[]⟩) ∧ W.cell? ⟨w1.heap.size + 1, 0, none⟩ = some (.int .u8 1) ∧ W.cell? ⟨w1.heap.size + 1, 1, none⟩ = some (.int .i64 1) ∧ W.cell? ⟨w1.heap.size + 1, 2, none⟩ = some (.string ⟨#[]⟩)) (first | exact HSA.out.cells | exact HS9.out.cells | exact HS8.out.cells | exact HS7.out.cells | exact HS6.out.cells | exact HS5d.out.cells) (first
    | (go_at_call 15; (with_reducible refine Calls.mono HS9.out.c15 ?_); rintro e wA ⟨aa, ca, rfl, hA⟩; have HSA : Hid _ := hA; clear hA)
    | (go_at_call 21; (with_reducible refine Calls.mono HS8.out.c21 ?_); rintro e w9 ⟨rfl, h9⟩; have HS9 : Hid _ := h9; clear h9)
    | (go_at_call 13; have hq := HS7.out.c13n HL7.out; (with_reducible refine Calls.mono hq ?_); clear hq; rintro e w8 ⟨rfl, h8⟩; have HS8 : Hid _ := h8; clear h8)
    | (go_at_call 14; (with_reducible refine Calls.mono HS6.out.c14 ?_); rintro e w7 ⟨u7, rfl, l7, h7⟩; have HS7 : Hid _ := h7; have HL7 : Hid _ := l7; clear h7 l7)
    | (go_at_call 13; (with_reducible refine Calls.mono HS5d.out.c13 ?_); rintro e w6 ⟨rfl, h6⟩; have HS6 : Hid _ := h6; clear h6))
  go_wp2_with fail
  go_ret
  exact ⟨rfl, HB1.out.trans (HSA.out.bel.mono HB1.out.size)⟩
end Go.Proofs.YtipnaphikbjhbaaDoor
/-! ### A case that came in, behind few; the law ExprNegated. -/
namespace Go.Proofs.YtipnaphikbjhbaaDoor
open Go.RowKit
set_option maxRecDepth 100000
variable {w w' W W0 : World} {cs : List Cd} {cols : List Co} {vals : List Va}
theorem lv_take {α : Type} {E : T.Ety α} {L : List α} {a : Option Addr} {n c : Nat} (h : T.LV E w (.slice a n c) L) (k : Nat) : T.LV E w (.slice a (min n k) c) (L.take k) := by
  have hc := h.cap
  have e : min n k = min k L.length := by rw [hc.1]; exact Nat.min_comm _ _
  rw [e]
  have := h.take (k := min k L.length) (Nat.min_le_right _ _) c (Nat.le_trans (Nat.min_le_right _ _) hc.2)
  rw [List.take_eq_take_min]
  exact this
theorem LC.take {a : Option Addr} {n c : Nat} (h : LC w (.slice a n c) cs) (k : Nat) : LC w (.slice a (min n k) c) (cs.take k) := by
  obtain ⟨es, h1, rfl, h3⟩ := h
  rw [← List.map_take]
  exact ⟨es.take k, lv_take h1 k, rfl, fun e he => h3 e (List.mem_of_mem_take he)⟩
theorem lv_addr {α : Type} {E : T.Ety α} {L : List α} {a : Option Addr} {n c : Nat} (h : T.LV E w (.slice a n c) L) (h0 : 0 < n) : ∃ b o, a = some ⟨b, o, none⟩ := by
  obtain ⟨x, hx⟩ : ∃ x, L[0]? = some x := ⟨_, List.getElem?_eq_getElem (by rw [← h.cap.1]; exact h0)⟩
  obtain ⟨g, o, e, _⟩ := h.at hx
  exact ⟨g, o, e⟩
theorem LC.cap {a : Option Addr} {n c : Nat} (h : LC w (.slice a n c) cs) : n ≤ c := by
  obtain ⟨es, h1, rfl, h3⟩ := h
  have := h1.cap
  omega
theorem LC.addr {a : Option Addr} {n c : Nat} (h : LC w (.slice a n c) cs) (h0 : 0 < n) : ∃ b o, a = some ⟨b, o, none⟩ := by
  obtain ⟨es, h1, rfl, h3⟩ := h
  exact lv_addr h1 h0
/-- A case that came in. -/
structure ICase (W : World) (v : Value) (cs : List Cd) (cols : List Co) (vals : List Va) : Prop where
  ex : ∃ a1 c1 a2 c2 a3 c3, v = .agg #[.slice a1 cs.length c1, .slice a2 cols.length c2, .slice a3 vals.length c3] ∧ LC W (.slice a1 cs.length c1) cs ∧ T.LV EK W (.slice a2 cols.length c2) cols ∧ T.LV EV W (.slice a3 vals.length c3) vals ∧ c1 ≤ maxLen ∧ c2 ≤ maxLen ∧ c3 ≤ maxLen
  kids : ∀ x ∈ cs, x.kids.length ≤ 17592186044416
  size : ∀ x ∈ cs, (str x.col).size ≤ maxLen
/-- A case in a block of its own. -/
structure A3 (W0 W : World) (b : Nat) (s1 s2 s3 : Value) (cs : List Cd) (cols : List Co) (vals : List Va) : Prop where
  bx : T.Blk W b [s1, s2, s3] 26
  lc : LC W s1 cs
  cv : T.LV EK W s2 cols
  vv : T.LV EV W s3 vals
  bel : Below W0.heap.size W0 W
  gd : Good W
  n1 : cs.length ≤ 40
  n2 : cols.length ≤ 8
  n3 : vals.length ≤ 8
  kids : ∀ x ∈ cs, x.kids.length ≤ 17592186044416
  size : ∀ x ∈ cs, (str x.col).size ≤ maxLen
section
variable {b : Nat} {s1 s2 s3 : Value}
theorem A3.below (h : A3 W0 W b s1 s2 s3 cs cols vals) (k : Below W.heap.size W w') : A3 W0 w' b s1 s2 s3 cs cols vals :=
  ⟨h.bx.below k, h.lc.below k, h.cv.below k, h.vv.below k, h.bel.trans (k.mono h.bel.size), h.gd.below k, h.n1, h.n2, h.n3, h.kids, h.size⟩
theorem A3.cells (h : A3 W0 W b s1 s2 s3 cs cols vals) : W.cell? ⟨b, 0, none⟩ = some s1 ∧ W.cell? ⟨b, 1, none⟩ = some s2 ∧ W.cell? ⟨b, 2, none⟩ = some s3 := ⟨h.bx.cell 0, h.bx.cell 1, h.bx.cell 2⟩
theorem A3.c10 (h : A3 W0 W b s1 s2 s3 cs cols vals) : Calls Tryd.prog 10 #[] W fun e w' => e = .returned (.bool true) ∧ A3 W0 w' b s1 s2 s3 cs cols vals :=
  (live10 W h.gd).mono fun _ _ ⟨h1, h2⟩ => ⟨h1, h.below h2⟩
theorem A3.c14 (h : A3 W0 W b s1 s2 s3 cs cols vals) : Calls Tryd.prog 14 #[s1] W fun e w' => ∃ u', e = .returned u' ∧ LC w' u' (negP cs) ∧ A3 W0 w' b s1 s2 s3 cs cols vals :=
  (negated14 h.lc (Nat.le_trans h.n1 (by decide)) h.kids).mono fun _ _ ⟨u', h1, h2, h3⟩ => ⟨u', h1, h2, h.below h3⟩
theorem A3.c13 (h : A3 W0 W b s1 s2 s3 cs cols vals) : Calls Tryd.prog 13 #[s1, s2, s3] W fun e w' => e = .returned (.bool (holdsV cols vals cs)) ∧ A3 W0 w' b s1 s2 s3 cs cols vals :=
  (holds13 h.lc h.cv h.vv (Nat.le_trans h.n1 (by decide)) (Nat.le_trans h.n2 (by decide)) (fun x hx => by have := h.kids x hx; omega)).mono fun _ _ ⟨h1, h2⟩ => ⟨h1, h.below h2⟩
theorem A3.c13n {u' : Value} (h : A3 W0 W b s1 s2 s3 cs cols vals) (hn : LC W u' (negP cs)) : Calls Tryd.prog 13 #[u', s2, s3] W fun e w' => e = .returned (.bool (!holdsV cols vals cs)) ∧ A3 W0 w' b s1 s2 s3 cs cols vals := by
  have := holds13 hn h.cv h.vv (by rw [neg_len]; have := h.n1; omega) (Nat.le_trans h.n2 (by decide)) (fun x hx => by have := neg_kids h.kids (by omega) x hx; omega)
  rw [holds_neg] at this
  exact this.mono fun e w' ⟨h1, h2⟩ => ⟨h1, h.below h2⟩
theorem A3.c15 (h : A3 W0 W b s1 s2 s3 cs cols vals) : Calls Tryd.prog 15 #[s1] W fun e w' => ∃ a c, e = .returned (.slice a (colsP cs).length c) ∧ T.RW EX W.heap.size w' (.slice a (colsP cs).length c) (colsP cs) ∧ A3 W0 w' b s1 s2 s3 cs cols vals :=
  (columns15 h.lc (Nat.le_trans h.n1 (by decide)) h.size).mono fun _ _ ⟨a, c, h1, h2, h3⟩ => ⟨a, c, h1, h2, h.below h3⟩
end
/-- Behind few: what the store finds, and what stands then. -/
theorem a3_start {a1 a2 a3 : Option Addr} {c1 c2 c3 : Nat} {w6 : World} (h1 : LC W0 (.slice a1 cs.length c1) cs) (h2 : T.LV EK W0 (.slice a2 cols.length c2) cols) (h3 : T.LV EV W0 (.slice a3 vals.length c3) vals) (hk : ∀ x ∈ cs, x.kids.length ≤ 17592186044416) (hs : ∀ x ∈ cs, (str x.col).size ≤ maxLen) (hg : Good W0)
    (hb : Below W0.heap.size W0 W) {b : Nat} (hB : W0.heap.size ≤ b) {t1 t2 t3 : Value} (hbx : T.Blk W b [t1, t2, t3] 26) (k : Below W.heap.size W w6) :
    (w6.cell? ⟨b, 0, none⟩ = some t1 ∧ w6.frozen? ⟨b, 0, none⟩ = false ∧ (w6.setCell ⟨b, 0, none⟩ (.slice a1 (min cs.length 40) c1)).cell? ⟨b, 1, none⟩ = some t2 ∧ (w6.setCell ⟨b, 0, none⟩ (.slice a1 (min cs.length 40) c1)).frozen? ⟨b, 1, none⟩ = false ∧ ((w6.setCell ⟨b, 0, none⟩ (.slice a1 (min cs.length 40) c1)).setCell ⟨b, 1, none⟩ (.slice a2 (min cols.length 8) c2)).cell? ⟨b, 2, none⟩ = some t3 ∧ ((w6.setCell ⟨b, 0, none⟩ (.slice a1 (min cs.length 40) c1)).setCell ⟨b, 1, none⟩ (.slice a2 (min cols.length 8) c2)).frozen? ⟨b, 2, none⟩ = false) ∧
    A3 W0 (((w6.setCell ⟨b, 0, none⟩ (.slice a1 (min cs.length 40) c1)).setCell ⟨b, 1, none⟩ (.slice a2 (min cols.length 8) c2)).setCell ⟨b, 2, none⟩ (.slice a3 (min vals.length 8) c3)) b (.slice a1 (min cs.length 40) c1) (.slice a2 (min cols.length 8) c2) (.slice a3 (min vals.length 8) c3) (cs.take 40) (cols.take 8) (vals.take 8) := by
  have hb6 := hbx.below k
  have hB7 : Below W0.heap.size W0 (((w6.setCell ⟨b, 0, none⟩ (.slice a1 (min cs.length 40) c1)).setCell ⟨b, 1, none⟩ (.slice a2 (min cols.length 8) c2)).setCell ⟨b, 2, none⟩ (.slice a3 (min vals.length 8) c3)) :=
    T.bset (T.bset (T.bset (hb.trans (k.mono hb.size)) (p := ⟨b, 0, none⟩) hB _) (p := ⟨b, 1, none⟩) hB _) (p := ⟨b, 2, none⟩) hB _
  refine ⟨(bx3 hb6 _ _ (.slice a3 (min vals.length 8) c3)).1, ((hb6.set (o := 0) _).set (o := 1) _).set (o := 2) _, (h1.below hB7).take 40, lv_take (h2.below hB7) 8, lv_take (h3.below hB7) 8, hB7, hg.below hB7, by rw [List.length_take]; omega, by rw [List.length_take]; omega, by rw [List.length_take]; omega, fun x hx => hk x (List.mem_of_mem_take hx), fun x hx => hs x (List.mem_of_mem_take hx)⟩
set_option maxHeartbeats 8000000 in
/-- The law ExprNegated. -/
theorem negated5 {v : Value} (h : ICase w v cs cols vals) (hg : Good w) : Calls Tryd.prog 5 #[v] w fun e w' => e = .returned (.bool true) ∧ Below w.heap.size w w' := by
  obtain ⟨a1, c1, a2, c2, a3, c3, rfl, h1, h2, h3, m1, m2, m3⟩ := h.ex
  have k7 := few7 (W := w.alloc (.cells #[.slice a1 cs.length c1, .slice a2 cols.length c2, .slice a3 vals.length c3] 26)) a1 cs.length c1 a2 cols.length c2 a3 vals.length c3 h1.cap h2.cap.2 h3.cap.2 (fun e => h1.addr (by omega)) (fun e => lv_addr h2 (by omega)) (fun e => lv_addr h3 (by omega)) m1 m2 m3
  have HST : Hid (∀ w6, Below (w.alloc (.cells #[.slice a1 cs.length c1, .slice a2 cols.length c2, .slice a3 vals.length c3] 26)).heap.size (w.alloc (.cells #[.slice a1 cs.length c1, .slice a2 cols.length c2, .slice a3 vals.length c3] 26)) w6 → _) := fun w6 k6 => a3_start h1 h2 h3 h.kids h.size hg (T.al w _) (Nat.le_refl _) (T.blk_new w [.slice a1 cs.length c1, .slice a2 cols.length c2, .slice a3 vals.length c3] 26) k6
  generalize cs.length = l1 at *
  generalize cols.length = l2 at *
  generalize vals.length = l3 at *
  clear h h1 h2 h3 m1 m2 m3 hg
  generalize min l1 40 = e1 at *
  generalize min l2 8 = e2 at *
  generalize min l3 8 = e3 at *
  go_enter Tryd.func5, Tryd.ntmps5
  go_wp2_with (go_at_call 7; refine Calls.mono k7 ?_; rintro e w6 ⟨rfl, k6⟩; obtain ⟨⟨f1, f2, f3, f4, f5, f6⟩, g6⟩ := HST.out w6 k6; have HG : Hid _ := g6; clear g6 k6)
  have HG0 : Hid _ := HG.out.below (Below.refl _ _).drew
  obtain ⟨q0, q1, q2⟩ := HG0.out.cells
  have HS : Hid (∀ W, A3 w W w.heap.size (.slice a1 e1 c1) (.slice a2 e2 c2) (.slice a3 e3 c3) (cs.take 40) (cols.take 8) (vals.take 8) → W.cell? ⟨w.heap.size, 0, none⟩ = some (.slice a1 e1 c1) ∧ W.cell? ⟨w.heap.size, 1, none⟩ = some (.slice a2 e2 c2) ∧ W.cell? ⟨w.heap.size, 2, none⟩ = some (.slice a3 e3 c3)) := fun W h => h.cells
  generalize hr : holdsV (cols.take 8) (vals.take 8) (cs.take 40) = r
  go_region_held3 (fun W => W.cell? ⟨w.heap.size, 0, none⟩ = some (.slice a1 e1 c1) ∧ W.cell? ⟨w.heap.size, 1, none⟩ = some (.slice a2 e2 c2) ∧ W.cell? ⟨w.heap.size, 2, none⟩ = some (.slice a3 e3 c3)) (first | exact HS.out _ HB.out | exact HS.out _ HA.out | exact HS.out _ H9.out | exact HS.out _ H8.out | exact HS.out _ HG0.out) (first
    | (go_at_call 13; have hq := HA.out.c13; rw [hr] at hq; (with_reducible refine Calls.mono hq ?_); clear hq; rintro e wB ⟨rfl, hB⟩; have HB : Hid _ := hB; clear hB)
    | (go_at_call 13; have hq := H9.out.c13n HL9.out; rw [hr] at hq; (with_reducible refine Calls.mono hq ?_); clear hq; rintro e wA ⟨rfl, hA⟩; have HA : Hid _ := hA; clear hA)
    | (go_at_call 14; have hq := H8.out.c14; (with_reducible refine Calls.mono hq ?_); clear hq; rintro e w9 ⟨u9, rfl, l9, h9⟩; have H9 : Hid _ := h9; have HL9 : Hid _ := l9; clear h9 l9)
    | (go_at_call 10; have hq := HG0.out.c10; (with_reducible refine Calls.mono hq ?_); clear hq; rintro e w8 ⟨rfl, h8⟩; have H8 : Hid _ := h8; clear h8))
  go_wp2_with fail
  go_ret
  exact ⟨rfl, HB.out.bel⟩
end Go.Proofs.YtipnaphikbjhbaaDoor
