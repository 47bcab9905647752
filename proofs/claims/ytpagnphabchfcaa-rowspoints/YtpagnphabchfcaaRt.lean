/- The document's SameAt, Compare of rows, SameRow, SameRows. -/
import Derived.Test.YtpagnphabchfcaaRs
namespace Go.Proofs.Ytpagnphabchfcaa
open Go.RowKit Go.Shelf
set_option maxRecDepth 100000
/-- Lists of values behind a slice. -/
structure VL (w : World) (v : Value) (vv : List (Value × List Vt)) : Prop where
  at' : ∃ a c, v = .slice a vv.length c ∧ (0 < vv.length → ∃ g o, a = some ⟨g, o, none⟩ ∧ g < w.heap.size ∧ ∀ (i : Nat) (e : Value × List Vt), vv[i]? = some e → w.cell? ⟨g, o + i, none⟩ = some e.1)
  vals : ∀ e ∈ vv, SV w (fun _ => False) e.1 e.2
theorem VL.below {w w' : World} {v : Value} {vv : List (Value × List Vt)} (h : VL w v vv) (k : Below w.heap.size w w') : VL w' v vv := by
  refine ⟨?_, fun e he => (h.vals e he).below k⟩
  obtain ⟨a, c, rfl, hh⟩ := h.at'
  refine ⟨a, c, rfl, fun h0 => ?_⟩
  obtain ⟨g, o, rfl, hg, hc⟩ := hh h0
  exact ⟨g, o, rfl, Nat.lt_of_lt_of_le hg k.size, fun i e he => (k.cell (p := ⟨g, o + i, none⟩) hg).trans (hc i e he)⟩
theorem VL.form {w : World} {v : Value} {vv : List (Value × List Vt)} (h : VL w v vv) : ∃ a c, v = .slice a vv.length c := by
  obtain ⟨a, c, h, _⟩ := h.at'
  exact ⟨a, c, h⟩
theorem VL.get {w : World} {a : Option Addr} {n c : Nat} {vv : List (Value × List Vt)} (h : VL w (.slice a n c) vv) {k : Nat} {e : Value × List Vt} (hy : vv[k]? = some e) : ∃ g o, a = some ⟨g, o, none⟩ ∧ w.cell? ⟨g, o + k, none⟩ = some e.1 := by
  obtain ⟨a', c', hv, hh⟩ := h.at'
  simp only [Value.slice.injEq] at hv
  obtain ⟨rfl, -, -⟩ := hv
  obtain ⟨g, o, rfl, hg, hc⟩ := hh (by have := (List.getElem?_eq_some_iff.1 hy).1; omega)
  exact ⟨g, o, rfl, hc k e hy⟩
theorem vl_of {w : World} {B : Nat} {v : Value} {vv : List (Value × List Vt)} (h : w.ownsRow B 30 1 v vv.length (vv.map (·.1))) (hv : ∀ x ∈ vv, SV w (fun b => v.ownBlock = some b) x.1 x.2) : VL w v vv := by
  refine ⟨?_, fun e he => (hv e he).mono (fun _ _ h => h.elim)⟩
  have hc := fun g hg => World.ownsRow.cells h (g := g) hg
  have hlt := World.ownsRow.lt h
  obtain ⟨_, ⟨rfl, h0⟩ | ⟨g, c, cur, rfl, _⟩⟩ := h
  · exact ⟨none, 0, by rw [h0], fun h => by omega⟩
  · refine ⟨_, c, rfl, fun _ => ⟨g, 0, rfl, (hlt g rfl).2, fun i e he => ?_⟩⟩
    have q := hc g rfl i e.1 (by rw [List.getElem?_map, he]; rfl)
    rw [Addr.add_mid] at q
    exact q
set_option maxHeartbeats 2000000 in
theorem sameAt8 {w : World} {v v' : Value} {a b : List (Value × List Vt)} (ha : VL w v a) (hb : VL w v' b) (hza : ∀ e ∈ a, e.2.length ≤ 1000) (hzb : ∀ e ∈ b, e.2.length ≤ 1000) (hl : a.length ≤ 100000) (hl' : b.length ≤ 100000) :
    Calls Try.prog 8 #[v, v'] w fun e w' => e = .returned (.bool (decide (a.map (·.2) = b.map (·.2)))) ∧ Below w.heap.size w w' := by
  obtain ⟨pa, ca, rfl⟩ := ha.form
  obtain ⟨pb, cb, rfl⟩ := hb.form
  obtain ⟨n, hn⟩ : ∃ n, a.length = n := ⟨_, rfl⟩
  obtain ⟨m, hm⟩ : ∃ m, b.length = m := ⟨_, rfl⟩
  have HA : Hid (VL w (.slice pa a.length ca) a) := ha
  have HB : Hid (VL w (.slice pb b.length cb) b) := hb
  have HN : Hid (a.length = n) := hn
  have HM : Hid (b.length = m) := hm
  have HZA : Hid _ := hza
  have HZB : Hid _ := hzb
  rw [hn] at hl ⊢
  rw [hm] at hl' ⊢
  clear hn hm ha hb hza hzb
  by_cases hnm : n = m
  · subst hnm
    go_enter Try.func8, Try.ntmps8
    go_wp2_with fail
    go_loopw [5] (fun i wr => ∃ k : Nat, i = .int .i64 (k : Int) ∧ Hid (k ≤ n) ∧ Hid (decide (a.map (·.2) = b.map (·.2)) = decide ((a.drop k).map (·.2) = (b.drop k).map (·.2))) ∧ Hid (Below w.heap.size w wr)) (fun i _ => ((n : Int) - intOf i).toNat)
    case atStart => exact ⟨0, rfl, Nat.zero_le _, by show _ = _; simp, Below.refl _ _⟩
    case round =>
      obtain ⟨k, rfl, hkn, hcmp, hbe⟩ := hrel
      by_cases hlt : k < n
      · have hkz : (k : Int) < (n : Int) := by omega
        have hk0 : (0 : Int) ≤ (k : Int) := by omega
        obtain ⟨x, hx⟩ : ∃ x, a[k]? = some x := ⟨_, List.getElem?_eq_getElem (by rw [HN.out]; exact hlt)⟩
        obtain ⟨y, hy⟩ : ∃ y, b[k]? = some y := ⟨_, List.getElem?_eq_getElem (by rw [HM.out]; exact hlt)⟩
        obtain ⟨g1, o1, rfl, _⟩ := (VL.below HA.out hbe.out).get hx
        obtain ⟨g2, o2, rfl, _⟩ := (VL.below HB.out hbe.out).get hy
        have HC : Hid (∀ W, Below wr.heap.size wr W → W.cell? ⟨g1, o1 + k, none⟩ = some x.1 ∧ W.cell? ⟨g2, o2 + k, none⟩ = some y.1) := fun W kk => by
          obtain ⟨_, _, e1, r0⟩ := (VL.below HA.out (bmore hbe.out kk)).get hx
          obtain ⟨_, _, e2, s0⟩ := (VL.below HB.out (bmore hbe.out kk)).get hy
          simp only [Option.some.injEq, Addr.mk.injEq] at e1 e2
          obtain ⟨rfl, rfl, _⟩ := e1
          obtain ⟨rfl, rfl, _⟩ := e2
          exact ⟨r0, s0⟩
        have HS : Hid (decide (a.map (·.2) = b.map (·.2)) = (decide (x.2 = y.2) && decide ((a.drop (k + 1)).map (·.2) = (b.drop (k + 1)).map (·.2)))) := by
          show _ = _
          have h1 := List.getElem?_eq_some_iff.1 hx
          have h2 := List.getElem?_eq_some_iff.1 hy
          rw [hcmp.out, List.drop_eq_getElem_cons h1.1, List.drop_eq_getElem_cons h2.1, h1.2, h2.2]
          simp
        have HSx : Hid (SV w (fun _ => False) x.1 x.2) := HA.out.vals x (List.mem_of_getElem? hx)
        have HSy : Hid (SV w (fun _ => False) y.1 y.2) := HB.out.vals y (List.mem_of_getElem? hy)
        have HLx : Hid (x.2.length ≤ 1000) := HZA.out x (List.mem_of_getElem? hx)
        have HLy : Hid (y.2.length ≤ 1000) := HZB.out y (List.mem_of_getElem? hy)
        obtain ⟨sx, vx⟩ := x
        obtain ⟨sy, vy⟩ := y
        simp only at HC HS HSx HSy HLx HLy
        obtain ⟨px, cx, rfl⟩ := SV.form HSx.out
        obtain ⟨py, cy, rfl⟩ := SV.form HSy.out
        have K0 : Below wr.heap.size wr wr.drew := (Below.refl _ _).drew
        have c12 := same12 (SV.below HSx.out (bmore hbe.out K0)) (SV.below HSy.out (bmore hbe.out K0)) (Nat.le_trans HLx.out (by decide)) (Nat.le_trans HLy.out (by decide))
        have hS0 := HC.out _ K0
        generalize decide (vx = vy) = T at *
        clear hx hy hcmp
        cases T
        · go_wp2_with fail
          go_region_held3 (fun W => W.cell? ⟨g1, o1 + k, none⟩ = some (.slice px vx.length cx) ∧ W.cell? ⟨g2, o2 + k, none⟩ = some (.slice py vy.length cy)) (first | exact hS0 | exact HC.out _ K1) (first
            | (go_at_call 12; (with_reducible refine c12.mono ?_); rintro e w1 ⟨rfl, hb1⟩; have K1 := bmore K0 hb1))
          clear hS0
          go_wp2_with fail
          go_ret
          exact ⟨by rw [HS.out]; rfl, bmore hbe.out K1⟩
        · go_wp2_with fail
          go_region_held3 (fun W => W.cell? ⟨g1, o1 + k, none⟩ = some (.slice px vx.length cx) ∧ W.cell? ⟨g2, o2 + k, none⟩ = some (.slice py vy.length cy)) (first | exact hS0 | exact HC.out _ K1) (first
            | (go_at_call 12; (with_reducible refine c12.mono ?_); rintro e w1 ⟨rfl, hb1⟩; have K1 := bmore K0 hb1))
          clear hS0
          go_wp2_with fail
          go_roundw
          case rel => exact ⟨k + 1, by simp, by show _ ≤ _; omega, by show _ = _; rw [HS.out]; simp, bmore hbe.out K1⟩
          case measure => simp only [intOf]; omega
      · have hkz : ¬ ((k : Int) < (n : Int)) := by omega
        have HS : Hid (decide (a.map (·.2) = b.map (·.2)) = true) := by
          show _ = _
          rw [hcmp.out, show a.drop k = [] from List.drop_eq_nil_of_le (by rw [HN.out]; omega), show b.drop k = [] from List.drop_eq_nil_of_le (by rw [HM.out]; omega)]
          simp
        clear hcmp
        go_wp2_with fail
        go_ret
        exact ⟨by rw [HS.out]; rfl, hbe.out⟩
  · have hne : ((n : Int) != (m : Int)) = true := by simp; omega
    have HS : Hid (decide (a.map (·.2) = b.map (·.2)) = false) := by
      show _ = _
      rw [decide_eq_false_iff_not]
      intro h
      have := congrArg List.length h
      simp [HN.out, HM.out] at this
      exact hnm this
    go_enter Try.func8, Try.ntmps8
    go_wp2_with fail
    go_ret
    exact ⟨by rw [HS.out]; rfl, Below.refl _ _⟩
end Go.Proofs.Ytpagnphabchfcaa
