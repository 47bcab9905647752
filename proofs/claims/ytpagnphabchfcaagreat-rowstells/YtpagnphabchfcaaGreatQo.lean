/- slices.Compact of values. -/
import Derived.Test.YtpagnphabchfcaaGreatQn
namespace Go.Proofs.YtpagnphabchfcaaGreat
open Go.RowKit Go.Shelf
set_option maxRecDepth 100000
theorem cellsV_set : ∀ (vs : List Vt) (k : Nat) (x : Vt), k < vs.length → cellsV (vs.set k x) = (((cellsV vs).set (k * 3) (.int .u8 x.1)).set (k * 3 + 1) (.int .i64 x.2.1)).set (k * 3 + 2) (.string x.2.2)
  | [], k, x, h => by simp at h
  | y :: l, 0, x, _ => by simp [cellsV]
  | y :: l, k + 1, x, h => by
    have ih := cellsV_set l k x (by simpa using h)
    rw [List.set_cons_succ, show cellsV (y :: l.set k x) = .int .u8 y.1 :: .int .i64 y.2.1 :: .string y.2.2 :: cellsV (l.set k x) by simp [cellsV], show cellsV (y :: l) = .int .u8 y.1 :: .int .i64 y.2.1 :: .string y.2.2 :: cellsV l by simp [cellsV], show (k + 1) * 3 = k * 3 + 1 + 1 + 1 by omega, ih]
    rfl
def set3v (w : World) (g k : Nat) (x : Vt) : World := ((w.setCell ⟨g, k * 3, none⟩ (.int .u8 x.1)).setCell ⟨g, k * 3 + 1, none⟩ (.int .i64 x.2.1)).setCell ⟨g, k * 3 + 2, none⟩ (.string x.2.2)
theorem set3v_keep (w : World) (g k : Nat) (x : Vt) : Keep (fun b => b = g) w (set3v w g k x) := Keep.set (F := fun b => b = g) (Keep.set (F := fun b => b = g) (Keep.set (F := fun b => b = g) (Keep.refl _ _) (.inr rfl) _) (.inr rfl) _) (.inr rfl) _
theorem ownV_blk {w : World} {B g n c : Nat} {vs : List Vt} (h : OwnV w B (.slice (some ⟨g, 0, none⟩) n c) vs) : n = vs.length ∧ ∃ cur : List Value, Blk w g cur 25 ∧ B ≤ g ∧ n ≤ c ∧ c ≤ maxLen ∧ cur.length = c * 3 ∧ cur.take (n * 3) = cellsV vs := by
  obtain ⟨hl, h | ⟨g', cap, cur, hv, hg, hb, h1, h2, h3, h4⟩⟩ := h
  · simp at h
  · simp only [Value.slice.injEq, Option.some.injEq, Addr.mk.injEq] at hv
    obtain ⟨⟨rfl, _, _⟩, rfl, rfl⟩ := hv
    exact ⟨rfl, cur.toList, hb, hg, h1, h2, by simpa using h3, h4⟩
theorem ownV_mk {w : World} {B g n c : Nat} {vs : List Vt} {cur : List Value} (hn : n = vs.length) (hb : Blk w g cur 25) (hg : B ≤ g) (h1 : n ≤ c) (h2 : c ≤ maxLen) (h3 : cur.length = c * 3) (h4 : cur.take (n * 3) = cellsV vs) : OwnV w B (.slice (some ⟨g, 0, none⟩) n c) vs := by
  subst hn
  exact ⟨cellsV_length vs, .inr ⟨g, c, cur.toArray, rfl, hg, hb, h1, h2, by simpa using h3, by simpa using h4⟩⟩
theorem ownV_set {w : World} {B g n c k : Nat} {vs : List Vt} (h : OwnV w B (.slice (some ⟨g, 0, none⟩) n c) vs) (hk : k < vs.length) (x : Vt) : OwnV (set3v w g k x) B (.slice (some ⟨g, 0, none⟩) n c) (vs.set k x) := by
  obtain ⟨hn, cur, hb, hg, h1, h2, h3, h4⟩ := ownV_blk h
  refine ownV_mk (by simpa using hn) (((hb.set _).set _).set _) hg h1 h2 (by simpa using h3) ?_
  rw [cellsV_set vs k x hk, ← h4]
  simp [List.take_set]
theorem ownV_at {w : World} {B g n c : Nat} {vs : List Vt} (h : OwnV w B (.slice (some ⟨g, 0, none⟩) n c) vs) {k : Nat} {x : Vt} (hx : vs[k]? = some x) : w.cell? ⟨g, k * 3, none⟩ = some (.int .u8 x.1) ∧ w.cell? ⟨g, k * 3 + 1, none⟩ = some (.int .i64 x.2.1) ∧ w.cell? ⟨g, k * 3 + 2, none⟩ = some (.string x.2.2) := by
  obtain ⟨g', o', e, q⟩ := SV.at (OwnV.sv (X := fun _ => False) h (fun _ _ => id)) hx
  have hg : g = g' ∧ 0 = o' := by simpa using e
  obtain ⟨rfl, rfl⟩ := hg
  simpa using q
theorem ownV_frozen {w : World} {B g n c : Nat} {vs : List Vt} (h : OwnV w B (.slice (some ⟨g, 0, none⟩) n c) vs) (j : Nat) : w.frozen? ⟨g, j, none⟩ = false := by
  obtain ⟨_, cur, hb, _⟩ := ownV_blk h
  exact hb.frozen j
/-- What is behind a place is cleared; what is ahead of it stays. -/
theorem clear_vals {w : World} {B g n c k : Nat} {vs : List Vt} (h : OwnV w B (.slice (some ⟨g, 0, none⟩) n c) vs) (hk : k < n) (ty : TypeId) :
    ∃ w', (Builtin.clear_ #[35] ty #[.slice (some ⟨g, k * 3, none⟩) (n - k) (c - k)]).run Tryz.prog w = .ok (.tuple #[]) w' ∧ Hid (OwnV w' B (.slice (some ⟨g, 0, none⟩) k c) (vs.take k)) ∧ Hid (Below B w w') := by
  obtain ⟨hn, cur, hb, hg, h1, h2, h3, h4⟩ := ownV_blk h
  obtain ⟨zs, hz⟩ : ∃ zs, zs = (Builtin.zeroCells (Value.agg #[.int .u8 0, .int .i64 0, .string ByteArray.empty]).cells (n - k)).toList := ⟨_, rfl⟩
  have hzl : zs.length = (n - k) * 3 := by rw [hz]; simp [Builtin.zeroCells, Value.cells]
  have hzo : ∀ u ∈ zs, u.oneCell' = true := by
    intro u hu
    rw [hz] at hu
    simp [Builtin.zeroCells, Value.cells] at hu
    obtain ⟨i, hi, rfl⟩ := hu
    have : i % 3 = 0 ∨ i % 3 = 1 ∨ i % 3 = 2 := by omega
    rcases this with e | e | e <;> rw [e] <;> rfl
  have hle : k * 3 + zs.length ≤ cur.length := by rw [hzl, h3]; have : k + (n - k) = n := by omega
                                                  omega
  have hst := run_storeCells_cells (P := Tryz.prog) g (k * 3) zs 0 w (fun j hj => by rw [hb.cell, List.getElem?_eq_getElem (by omega)]; rfl) (fun j _ => hb.frozen _) hzo
  refine ⟨w.setCells g (k * 3) zs, ?_, ?_, ?_⟩
  · obtain ⟨m, hm⟩ : ∃ m, n - k = m + 1 := ⟨n - k - 1, by omega⟩
    simp only [Nat.add_zero] at hst
    rw [hm] at hz ⊢
    simp [Builtin.clear_, run_underlying Tryz.underlying35]
    rw [show (Builtin.zeroCells (Value.agg #[.int .u8 0, .int .i64 0, .string ⟨#[]⟩]).cells (m + 1)).toList = zs from hz.symm, hst]
    rfl
  · have hb' := hb.sets (vs := zs) (o := k * 3) hle
    refine ownV_mk (by rw [List.length_take]; omega) hb' hg (by omega) h2 ?_ ?_
    · rw [← h3]; simp [splice]; omega
    · rw [show cellsV (vs.take k) = (cellsV vs).take (k * 3) from ?_, ← h4, List.take_take, show min (k * 3) (n * 3) = k * 3 by omega]
      · unfold splice
        rw [List.take_append_of_le_length (by simp; omega), List.take_take]
        simp
      · apply List.ext_getElem?
        intro j
        have hl1 := cellsV_length (vs.take k)
        rw [List.length_take] at hl1
        by_cases hj : j < k * 3
        · rw [List.getElem?_take_of_lt hj]
          obtain ⟨x, hx⟩ : ∃ x, vs[j / 3]? = some x := ⟨_, List.getElem?_eq_getElem (by omega)⟩
          obtain ⟨a1, a2, a3⟩ := cellsV_get vs _ x hx
          obtain ⟨b1, b2, b3⟩ := cellsV_get (vs.take k) (j / 3) x (by rw [List.getElem?_take_of_lt (by omega)]; exact hx)
          have : j % 3 = 0 ∨ j % 3 = 1 ∨ j % 3 = 2 := by omega
          rcases this with e | e | e
          · rw [show j / 3 * 3 = j by omega] at a1 b1; rw [a1, b1]
          · rw [show j / 3 * 3 + 1 = j by omega] at a2 b2; rw [a2, b2]
          · rw [show j / 3 * 3 + 2 = j by omega] at a3 b3; rw [a3, b3]
        · rw [List.getElem?_take_eq_none (by omega), List.getElem?_eq_none (by omega)]
  · exact (Keep.sets (F := fun b => b = g) (Keep.refl _ w) (.inr rfl) _ _).below (World.ownsRow.lt h g rfl |>.1 |> fun q => by have := (World.ownsRow.lt h g rfl).2; omega) (fun i hi e => by omega)
theorem wpList_clear_vals {w : World} {B g n c k : Nat} {vs : List Vt} {ops : Array Oper} {rest : List Oper} {o : Oper} {a : Act} {Q : Exit → Act → World → Prop} (hgd : o.guard = none) (s : Operand)
    (ho : o.op = .call { callee := .builtin .clear, args := #[s], argTypes := #[35] }) (hs : a.eval s = .slice (some ⟨g, k * 3, none⟩) (n - k) (c - k)) (h : OwnV w B (.slice (some ⟨g, 0, none⟩) n c) vs) (hk : k < n)
    (hh : ∀ w', Hid (OwnV w' B (.slice (some ⟨g, 0, none⟩) k c) (vs.take k)) → Hid (Below B w w') → wpList Tryz.prog ops Q rest (a.put o.dst (.tuple #[])) w') : wpList Tryz.prog ops Q (o :: rest) a w := by
  refine wpList_plain hgd fun K hK => ?_
  obtain ⟨w', hrun, h1, h2⟩ := clear_vals h hk o.type
  unfold Oper.wp
  simp [execOp, ho, resolve, invoke, builtin, hs, hrun, Result.andThen]
  exact hK _ _ (hh w' h1 h2)
theorem comp_high {vs : List Vt} {m kk j : Nat} {dk : Array Vt} {x : Vt} (h : Lib.CompInv vs.toArray m kk dk) (hj : kk ≤ j) (hx : vs[j]? = some x) : dk.toList[j]? = some x := by
  obtain ⟨h1, h2⟩ := List.getElem?_eq_some_iff.1 hx
  have h3 := h.high j hj
  have h4 := h.size
  rw [get_bang h1, h2] at h3
  have h5 : j < dk.size := by rw [h4]; simpa using h1
  rw [Array.getElem?_toList, Array.getElem?_eq_getElem h5]
  rw [getElem!_pos dk j h5] at h3
  rw [h3]
theorem comp_done {vs : List Vt} {kk : Nat} {dk : Array Vt} (h : Lib.CompInv vs.toArray vs.length kk dk) : dk.toList.take kk = Lib.compact vs := by
  have hs := h.size
  have hlt := h.lt
  simp only [List.size_toArray] at hs
  apply List.ext_getElem?
  intro j
  by_cases hj : j < kk
  · rw [List.getElem?_take_of_lt hj, Array.getElem?_toList, Array.getElem?_eq_getElem (by omega)]
    unfold Lib.compact
    rw [h.low j hj, getElem!_pos dk j (by omega)]
  · rw [List.getElem?_take_eq_none (by omega)]
    unfold Lib.compact
    rw [List.getElem?_eq_none (by rw [h.len]; omega)]
theorem keeps_at {vs : List Vt} {k : Nat} {x y : Vt} (hx : vs[k + 1]? = some x) (hy : vs[k]? = some y) : Lib.keeps vs.toArray (k + 1) = !decide (x = y) := by
  obtain ⟨h1, h2⟩ := List.getElem?_eq_some_iff.1 hx
  obtain ⟨h3, h4⟩ := List.getElem?_eq_some_iff.1 hy
  by_cases e : x = y
  · rw [decide_eq_true e]
    exact Lib.keeps_neg (by omega) (by rw [show k + 1 - 1 = k by omega, get_bang h1, get_bang h3, h2, h4, e])
  · rw [decide_eq_false e]
    exact Lib.keeps_pos (by rw [show k + 1 - 1 = k by omega, get_bang h1, get_bang h3, h2, h4]; exact e)
set_option maxHeartbeats 2000000 in
theorem compact59 {w : World} {B : Nat} {v : Value} {vs : List Vt} (ho : OwnV w B v vs) (hB : B ≤ w.heap.size) (hl : vs.length ≤ 1000) :
    Calls Tryz.prog 59 #[v] w fun e w' => ∃ v', e = .returned v' ∧ SV w' (fun b => b < B) v' (Lib.compact vs) ∧ Below B w w' := by
  obtain ⟨a, c, rfl⟩ := ho.form
  obtain ⟨n, hn⟩ : ∃ n, vs.length = n := ⟨_, rfl⟩
  have HN : Hid (vs.length = n) := hn
  have HO : Hid (OwnV w B (.slice a vs.length c) vs) := ho
  rw [hn] at hl HO ⊢
  clear ho hn
  by_cases hn2 : n < 2
  · have h2 : (n : Int) < 2 := by omega
    have HE : Hid (Lib.compact vs = vs) := Lib.compact_all vs (fun j hj => by
      by_cases hj0 : j = 0
      · subst hj0; simp [Lib.keeps]
      · have := HN.out; omega)
    go_enter Tryz.func59, Tryz.ntmps59
    go_wp2
    go_ret
    exact ⟨_, rfl, by rw [HE.out]; exact OwnV.sv HO.out (fun b hb => by omega), Below.refl _ _⟩
  · have h2 : ¬ (n : Int) < 2 := by omega
    obtain ⟨g, rfl⟩ : ∃ g, a = some ⟨g, 0, none⟩ := by
      obtain ⟨_, ⟨h, h0⟩ | ⟨g, cap, cur, h, _⟩⟩ := HO.out
      · have := HN.out; omega
      · simp only [Value.slice.injEq] at h; exact ⟨g, h.1⟩
    have hnc : n ≤ c := by obtain ⟨_, _, _, _, h, _⟩ := ownV_blk HO.out; exact h
    go_enter Tryz.func59, Tryz.ntmps59
    go_wp2_with fail
    go_loopw [3] (fun fk wr => ∃ (k : Nat), fk = .int .i64 (k : Int) ∧ Hid (1 ≤ k ∧ k ≤ n ∧ ∀ j, j < k → Lib.keeps vs.toArray j = true) ∧ Hid (Below w.heap.size w wr)) (fun fk _ => ((n : Int) - intOf fk).toNat)
    case atStart => exact ⟨1, rfl, ⟨Nat.le_refl _, by omega, Lib.keeps_lt_one _⟩, Below.refl _ _⟩
    case round =>
      obtain ⟨k, rfl, hk, hBw⟩ := hrel
      by_cases hkn : k < n
      · have hki : (k : Int) < (n : Int) := by omega
        have hk0 : (0 : Int) ≤ (k : Int) := by omega
        obtain ⟨m, hkm⟩ : ∃ m, k = m + 1 := ⟨k - 1, by have := hk.out; omega⟩
        have HKM : Hid (k = m + 1) := hkm
        have hm0 : (0 : Int) ≤ (m : Int) := by omega
        have hmn : (m : Int) < (n : Int) := by omega
        have hsub : IntKind.i64.wrap ((k : Int) - 1) = (m : Int) := by rw [wrap_small _ (by omega) (by omega)]; omega
        obtain ⟨x, hx⟩ : ∃ x, vs[k]? = some x := ⟨_, List.getElem?_eq_getElem (by rw [HN.out]; exact hkn)⟩
        obtain ⟨y, hy⟩ : ∃ y, vs[m]? = some y := ⟨_, List.getElem?_eq_getElem (by rw [HN.out]; omega)⟩
        have HKe : Hid (Lib.keeps vs.toArray k = !decide (x = y)) := by show _ = _; rw [hkm]; exact keeps_at (by rw [← hkm]; exact hx) hy
        have hO := OwnV.below HO.out hBw.out
        have a0 : ∀ q, (wr.drewN q).cell? ⟨g, k * 3, none⟩ = some (.int .u8 x.1) := fun q => (ownV_at hO hx).1
        have a1 : ∀ q, (wr.drewN q).cell? ⟨g, k * 3 + 1, none⟩ = some (.int .i64 x.2.1) := fun q => (ownV_at hO hx).2.1
        have a2 : ∀ q, (wr.drewN q).cell? ⟨g, k * 3 + 2, none⟩ = some (.string x.2.2) := fun q => (ownV_at hO hx).2.2
        have c0 : ∀ q, (wr.drewN q).cell? ⟨g, m * 3, none⟩ = some (.int .u8 y.1) := fun q => (ownV_at hO hy).1
        have c1 : ∀ q, (wr.drewN q).cell? ⟨g, m * 3 + 1, none⟩ = some (.int .i64 y.2.1) := fun q => (ownV_at hO hy).2.1
        have c2 : ∀ q, (wr.drewN q).cell? ⟨g, m * 3 + 2, none⟩ = some (.string y.2.2) := fun q => (ownV_at hO hy).2.2
        have heq := eql25 x y
        generalize decide (x = y) = bb at *
        clear hx hy hkm hO
        go_wp2_with fail
        go_big_quiet (fail)
        have Ky : Below wr.heap.size wr (wr.drewN nq) := ⟨rfl, rfl, rfl, Nat.le_refl _, fun _ _ => rfl⟩
        have HBy : Hid (Below w.heap.size w (wr.drewN nq)) := bmore hBw.out Ky
        generalize wr.drewN nq = wy at *
        clear a0 a1 a2 c0 c1 c2 heq Ky
        cases bb
        · have HK' : Hid (∀ j, j < k + 1 → Lib.keeps vs.toArray j = true) := fun j hj => by
            by_cases h : j < k
            · exact hk.out.2.2 j h
            · rw [show j = k by omega, HKe.out]; rfl
          go_wp2_with fail
          go_roundw
          case rel => exact ⟨k + 1, by simp, ⟨by omega, by omega, HK'.out⟩, HBy.out⟩
          case measure => simp only [intOf]; omega
        · have hck : ¬ c = k := by omega
          have hkc : (k : Int) ≤ (c : Int) := by omega
          have hkn' : (k : Int) ≤ (n : Int) := by omega
          have hncI : (n : Int) ≤ (c : Int) := by omega
          have HSt : Hid (Lib.CompInv vs.toArray (k + 1) k vs.toArray) := Lib.CompInv.start hk.out.2.2 (by rw [HKe.out]; rfl)
          have HOy : Hid (OwnV wy B (.slice (some ⟨g, 0, none⟩) n c) vs) := OwnV.below HO.out HBy.out
          obtain ⟨L2, hL2⟩ : ∃ L2, n - k = L2 := ⟨_, rfl⟩
          have HL2 : Hid (n = k + L2) := by show _ = _; omega
          go_wp2_with fail
          clear hL2
          go_loopw [3, 5] (fun fk f2 wr => ∃ (kk m2 : Nat) (dk : Array Vt), fk = .int .i64 (kk : Int) ∧ f2 = .int .i64 (m2 : Int) ∧ Hid (Lib.CompInv vs.toArray (k + m2) kk dk ∧ 1 ≤ m2 ∧ m2 ≤ L2) ∧ Hid (OwnV wr B (.slice (some ⟨g, 0, none⟩) n c) dk.toList) ∧ Hid (Below B w wr)) (fun _ f2 _ => ((L2 : Int) - intOf f2).toNat)
          case atStart => exact ⟨k, 1, vs.toArray, rfl, rfl, ⟨HSt.out, Nat.le_refl _, by have := HL2.out; omega⟩, HOy.out, HBy.out.mono hB⟩
          case round =>
            obtain ⟨kk, m2, dk, rfl, rfl, hC, hOw, hBB⟩ := hrel
            have hkkm : kk < k + m2 := hC.out.1.lt
            by_cases hm2 : m2 < L2
            · have hmi : (m2 : Int) < (L2 : Int) := by omega
              have hm20 : (0 : Int) ≤ (m2 : Int) := by omega
              obtain ⟨p, hmp⟩ : ∃ p, m2 = p + 1 := ⟨m2 - 1, by have := hC.out; omega⟩
              have HMP : Hid (m2 = p + 1) := hmp
              have hp0 : (0 : Int) ≤ (p : Int) := by omega
              have hpL : (p : Int) < (L2 : Int) := by omega
              have hLn : L2 ≤ 1000 := by have := HL2.out; omega
              have hsub2 : IntKind.i64.wrap ((m2 : Int) - 1) = (p : Int) := by rw [wrap_small _ (by omega) (by omega)]; omega
              have hkm : k + m2 < vs.length := by have := HL2.out; have := HN.out; omega
              obtain ⟨X, hX⟩ : ∃ X, vs[k + m2]? = some X := ⟨_, List.getElem?_eq_getElem hkm⟩
              obtain ⟨Y, hY⟩ : ∃ Y, vs[k + p]? = some Y := ⟨_, List.getElem?_eq_getElem (by omega)⟩
              have hdX := comp_high hC.out.1 (by omega) hX
              have hdY := comp_high hC.out.1 (by omega) hY
              have HKe2 : Hid (Lib.keeps vs.toArray (k + m2) = !decide (X = Y)) := by show _ = _; rw [show k + m2 = k + p + 1 by omega]; exact keeps_at (by rw [show k + p + 1 = k + m2 by omega]; exact hX) hY
              have HXb : Hid (vs.toArray[k + m2]! = X) := by show _ = _; rw [get_bang hkm]; exact (List.getElem?_eq_some_iff.1 hX).2
              have HQ : Hid (∀ W, Below wr.heap.size wr W → (W.cell? ⟨g, k * 3 + m2 * 3, none⟩ = some (.int .u8 X.1) ∧ W.cell? ⟨g, k * 3 + m2 * 3 + 1, none⟩ = some (.int .i64 X.2.1) ∧ W.cell? ⟨g, k * 3 + m2 * 3 + 2, none⟩ = some (.string X.2.2)) ∧ (W.cell? ⟨g, k * 3 + p * 3, none⟩ = some (.int .u8 Y.1) ∧ W.cell? ⟨g, k * 3 + p * 3 + 1, none⟩ = some (.int .i64 Y.2.1) ∧ W.cell? ⟨g, k * 3 + p * 3 + 2, none⟩ = some (.string Y.2.2))) := fun W kk2 => by
                have q1 := ownV_at (OwnV.below hOw.out kk2) hdX
                have q2 := ownV_at (OwnV.below hOw.out kk2) hdY
                rw [Nat.add_mul] at q1 q2
                exact ⟨q1, q2⟩
              have hnw : ∀ q, Below wr.heap.size wr (wr.drewN q) := fun q => ⟨rfl, rfl, rfl, Nat.le_refl _, fun _ _ => rfl⟩
              have a0 := fun q => (HQ.out _ (hnw q)).1.1
              have a1 := fun q => (HQ.out _ (hnw q)).1.2.1
              have a2 := fun q => (HQ.out _ (hnw q)).1.2.2
              have c0 := fun q => (HQ.out _ (hnw q)).2.1
              have c1 := fun q => (HQ.out _ (hnw q)).2.2.1
              have c2 := fun q => (HQ.out _ (hnw q)).2.2.2
              have hneq := neq54 X Y
              have hkk1 : kk < dk.toList.length := by have := hC.out.1.size; simp at this ⊢; omega
              obtain ⟨Z, hZ⟩ : ∃ Z, dk.toList[kk]? = some Z := ⟨_, List.getElem?_eq_getElem hkk1⟩
              generalize decide (X = Y) = bb at *
              clear hX hY hdY hmp
              go_wp2_with fail
              go_big_quiet (fail)
              have Ky : Below wr.heap.size wr (wr.drewN nq) := hnw nq
              have HOz : Hid (OwnV (wr.drewN nq) B (.slice (some ⟨g, 0, none⟩) n c) dk.toList) := OwnV.below hOw.out Ky
              have HBz : Hid (Below B w (wr.drewN nq)) := hBB.out.trans (Ky.mono (Nat.le_trans hB (Nat.le_trans (by have := hBB.out.size; omega) (Nat.le_refl _))))
              obtain ⟨⟨z0, z1, z2⟩, _⟩ := HQ.out _ Ky
              obtain ⟨f0, f1, f2⟩ := ownV_at HOz.out hZ
              have fz := fun j => ownV_frozen HOz.out j
              generalize wr.drewN nq = wz at *
              clear a0 a1 a2 c0 c1 c2 hneq Ky hnw HQ hdX hZ
              cases bb
              · have hkI : (kk : Int) < (n : Int) := by have := HL2.out; omega
                have hk0' : (0 : Int) ≤ (kk : Int) := by omega
                have HC' : Hid (Lib.CompInv vs.toArray (k + (m2 + 1)) (kk + 1) (dk.setIfInBounds kk X)) := by
                  have := Lib.CompInv.keep hC.out.1 (by simpa using hkm) (by rw [HKe2.out]; rfl)
                  rw [HXb.out] at this
                  exact this
                have HO' : Hid (OwnV (set3v wz g kk X) B (.slice (some ⟨g, 0, none⟩) n c) (dk.setIfInBounds kk X).toList) := by
                  have h7 := ownV_set HOz.out hkk1 X
                  show OwnV _ _ _ _
                  simpa using h7
                have HB' : Hid (Below B w (set3v wz g kk X)) := HBz.out.trans ((set3v_keep wz g kk X).below (by have := HBz.out.size; omega) (fun i hi e => by have := (World.ownsRow.lt HOz.out g rfl).1; omega))
                simp only [set3v] at HO' HB'
                go_wp2_with fail
                go_roundw
                case rel => exact ⟨kk + 1, m2 + 1, dk.setIfInBounds kk X, by simp, by simp, ⟨HC'.out, by omega, by omega⟩, HO'.out, HB'.out⟩
                case measure => simp only [intOf]; omega
              · have HC' : Hid (Lib.CompInv vs.toArray (k + (m2 + 1)) kk dk) := (Lib.CompInv.skip (m := k + m2) hC.out.1 (by rw [HKe2.out]; rfl) :)
                go_wp2_with fail
                go_roundw
                case rel => exact ⟨kk, m2 + 1, dk, rfl, by simp, ⟨HC'.out, by omega, by omega⟩, HOz.out, HBz.out⟩
                case measure => simp only [intOf]; omega
            · have hmi : ¬ (m2 : Int) < (L2 : Int) := by omega
              have hkkn : kk < n := by have := HL2.out; have := hC.out; omega
              have HDn : Hid (dk.toList.take kk = Lib.compact vs) := by
                have h1 := hC.out.1
                rw [show k + m2 = vs.length by have := HL2.out; have := HN.out; have := hC.out; omega] at h1
                exact comp_done h1
              have hk0' : (0 : Int) ≤ (kk : Int) := by omega
              have hkI : (kk : Int) ≤ (n : Int) := by omega
              have hkC : (kk : Int) ≤ (c : Int) := by omega
              have hck' : ¬ c = kk := by omega
              go_wp2_with (refine wpList_clear_vals rfl (.tmp 56) rfl rfl hOw.out hkkn ?_; intro w' hO' hB')
              go_ret
              exact ⟨_, rfl, by rw [← HDn.out]; exact OwnV.sv hO'.out (fun b hb => by omega), hBB.out.trans hB'.out⟩
      · have hki : ¬ (k : Int) < (n : Int) := by omega
        have HE : Hid (Lib.compact vs = vs) := Lib.compact_all vs (fun j hj => hk.out.2.2 j (by have := HN.out; omega))
        go_wp2
        go_ret
        exact ⟨_, rfl, by rw [HE.out]; exact OwnV.sv (OwnV.below HO.out hBw.out) (fun b hb => by omega), hBw.out.mono hB⟩
end Go.Proofs.YtpagnphabchfcaaGreat
