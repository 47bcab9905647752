/- The document's SameRows. -/
import Derived.Test.YtpagnphabchfcaaRu
namespace Go.Proofs.Ytpagnphabchfcaa
open Go.RowKit Go.Shelf
set_option maxRecDepth 100000
set_option maxHeartbeats 2000000 in
theorem sameRows10 {w : World} {v v' : Value} {a b : List El} (ha : RL w (fun _ => False) v a) (hb : RL w (fun _ => False) v' b) (hza : ∀ e ∈ a, e.2.1.length ≤ 1000) (hzb : ∀ e ∈ b, e.2.1.length ≤ 1000) (hl : a.length ≤ 100000) (hl' : b.length ≤ 100000) :
    Calls Try.prog 10 #[v, v'] w fun e w' => e = .returned (.bool (decide (rws a = rws b))) ∧ Below w.heap.size w w' := by
  obtain ⟨pa, ca, rfl⟩ := ha.form
  obtain ⟨pb, cb, rfl⟩ := hb.form
  obtain ⟨n, hn⟩ : ∃ n, a.length = n := ⟨_, rfl⟩
  obtain ⟨m, hm⟩ : ∃ m, b.length = m := ⟨_, rfl⟩
  have HA : Hid (RL w (fun _ => False) (.slice pa a.length ca) a) := ha
  have HB : Hid (RL w (fun _ => False) (.slice pb b.length cb) b) := hb
  have HN : Hid (a.length = n) := hn
  have HM : Hid (b.length = m) := hm
  have HZA : Hid _ := hza
  have HZB : Hid _ := hzb
  rw [hn] at hl ⊢
  rw [hm] at hl' ⊢
  clear hn hm ha hb hza hzb
  by_cases hnm : n = m
  · subst hnm
    go_enter Try.func10, Try.ntmps10
    go_wp2_with fail
    go_loopw [5] (fun i wr => ∃ k : Nat, i = .int .i64 (k : Int) ∧ Hid (k ≤ n) ∧ Hid (decide (rws a = rws b) = decide (rws (a.drop k) = rws (b.drop k))) ∧ Hid (Below w.heap.size w wr)) (fun i _ => ((n : Int) - intOf i).toNat)
    case atStart => exact ⟨0, rfl, Nat.zero_le _, by show _ = _; simp, Below.refl _ _⟩
    case round =>
      obtain ⟨k, rfl, hkn, hcmp, hbe⟩ := hrel
      by_cases hlt : k < n
      · have hkz : (k : Int) < (n : Int) := by omega
        have hk0 : (0 : Int) ≤ (k : Int) := by omega
        obtain ⟨x, hx⟩ : ∃ x, a[k]? = some x := ⟨_, List.getElem?_eq_getElem (by rw [HN.out]; exact hlt)⟩
        obtain ⟨y, hy⟩ : ∃ y, b[k]? = some y := ⟨_, List.getElem?_eq_getElem (by rw [HM.out]; exact hlt)⟩
        obtain ⟨g1, o1, rfl, _⟩ := (RL.below HA.out hbe.out).get hx
        obtain ⟨g2, o2, rfl, _⟩ := (RL.below HB.out hbe.out).get hy
        have HC : Hid (∀ W, Below wr.heap.size wr W → W.cell? ⟨g1, o1 + k * 3, none⟩ = some x.1 ∧ W.cell? ⟨g1, o1 + k * 3 + 1, none⟩ = some (.int .i64 x.2.2.1) ∧ W.cell? ⟨g1, o1 + k * 3 + 2, none⟩ = some (.int .i64 x.2.2.2) ∧ W.cell? ⟨g2, o2 + k * 3, none⟩ = some y.1 ∧ W.cell? ⟨g2, o2 + k * 3 + 1, none⟩ = some (.int .i64 y.2.2.1) ∧ W.cell? ⟨g2, o2 + k * 3 + 2, none⟩ = some (.int .i64 y.2.2.2)) := fun W kk => by
          obtain ⟨r0, r1, r2⟩ := (RL.below HA.out (bmore hbe.out kk)).at3 hx
          obtain ⟨s0, s1, s2⟩ := (RL.below HB.out (bmore hbe.out kk)).at3 hy
          exact ⟨r0, r1, r2, s0, s1, s2⟩
        have HS : Hid (decide (rws a = rws b) = (decide (x.2 = y.2) && decide (rws (a.drop (k + 1)) = rws (b.drop (k + 1))))) := by
          show _ = _
          have h1 := List.getElem?_eq_some_iff.1 hx
          have h2 := List.getElem?_eq_some_iff.1 hy
          rw [hcmp.out, List.drop_eq_getElem_cons h1.1, List.drop_eq_getElem_cons h2.1, h1.2, h2.2, show rws (x :: a.drop (k + 1)) = x.2 :: rws (a.drop (k + 1)) from rfl, show rws (y :: b.drop (k + 1)) = y.2 :: rws (b.drop (k + 1)) from rfl]
          rw [Bool.eq_iff_iff]
          simp only [List.cons.injEq, Bool.and_eq_true, decide_eq_true_eq]
        have HSx : Hid (SV w (fun _ => False) x.1 x.2.1) := HA.out.vals x (List.mem_of_getElem? hx)
        have HSy : Hid (SV w (fun _ => False) y.1 y.2.1) := HB.out.vals y (List.mem_of_getElem? hy)
        have HLx : Hid (x.2.1.length ≤ 1000) := HZA.out x (List.mem_of_getElem? hx)
        have HLy : Hid (y.2.1.length ≤ 1000) := HZB.out y (List.mem_of_getElem? hy)
        have K0 : Below wr.heap.size wr wr.drew := (Below.refl _ _).drew
        obtain ⟨sx, vx, fx, tx⟩ := x
        obtain ⟨sy, vy, fy, ty⟩ := y
        simp only at HC HS HSx HSy HLx HLy
        obtain ⟨px, cx, rfl⟩ := SV.form HSx.out
        obtain ⟨py, cy, rfl⟩ := SV.form HSy.out
        have c22 := sameRow22 (r := (vx, fx, tx)) (r' := (vy, fy, ty)) (SV.below HSx.out (bmore hbe.out K0)) (SV.below HSy.out (bmore hbe.out K0)) (Nat.le_trans HLx.out (by decide)) (Nat.le_trans HLy.out (by decide))
        have hS0 := HC.out _ K0
        generalize decide ((vx, fx, tx) = (vy, fy, ty)) = T at *
        clear hx hy hcmp
        cases T
        · go_wp2_with fail
          go_region_held3 (fun W => W.cell? ⟨g1, o1 + k * 3, none⟩ = some (.slice px vx.length cx) ∧ W.cell? ⟨g1, o1 + k * 3 + 1, none⟩ = some (.int .i64 fx) ∧ W.cell? ⟨g1, o1 + k * 3 + 2, none⟩ = some (.int .i64 tx) ∧ W.cell? ⟨g2, o2 + k * 3, none⟩ = some (.slice py vy.length cy) ∧ W.cell? ⟨g2, o2 + k * 3 + 1, none⟩ = some (.int .i64 fy) ∧ W.cell? ⟨g2, o2 + k * 3 + 2, none⟩ = some (.int .i64 ty)) (first | exact hS0 | exact HC.out _ K1) (first
            | (go_at_call 22; (with_reducible refine c22.mono ?_); rintro e w1 ⟨rfl, hb1⟩; have K1 := bmore K0 hb1))
          clear hS0
          go_wp2_with fail
          go_ret
          exact ⟨by rw [HS.out]; rfl, bmore hbe.out K1⟩
        · go_wp2_with fail
          go_region_held3 (fun W => W.cell? ⟨g1, o1 + k * 3, none⟩ = some (.slice px vx.length cx) ∧ W.cell? ⟨g1, o1 + k * 3 + 1, none⟩ = some (.int .i64 fx) ∧ W.cell? ⟨g1, o1 + k * 3 + 2, none⟩ = some (.int .i64 tx) ∧ W.cell? ⟨g2, o2 + k * 3, none⟩ = some (.slice py vy.length cy) ∧ W.cell? ⟨g2, o2 + k * 3 + 1, none⟩ = some (.int .i64 fy) ∧ W.cell? ⟨g2, o2 + k * 3 + 2, none⟩ = some (.int .i64 ty)) (first | exact hS0 | exact HC.out _ K1) (first
            | (go_at_call 22; (with_reducible refine c22.mono ?_); rintro e w1 ⟨rfl, hb1⟩; have K1 := bmore K0 hb1))
          clear hS0
          go_wp2_with fail
          go_roundw
          case rel => exact ⟨k + 1, by simp, by show _ ≤ _; omega, by show _ = _; rw [HS.out]; simp, bmore hbe.out K1⟩
          case measure => simp only [intOf]; omega
      · have hkz : ¬ ((k : Int) < (n : Int)) := by omega
        have HS : Hid (decide (rws a = rws b) = true) := by
          show _ = _
          rw [hcmp.out, show a.drop k = [] from List.drop_eq_nil_of_le (by rw [HN.out]; omega), show b.drop k = [] from List.drop_eq_nil_of_le (by rw [HM.out]; omega)]
          simp
        clear hcmp
        go_wp2_with fail
        go_ret
        exact ⟨by rw [HS.out]; rfl, hbe.out⟩
  · have hne : ((n : Int) != (m : Int)) = true := by simp; omega
    have HS : Hid (decide (rws a = rws b) = false) := by
      show _ = _
      rw [decide_eq_false_iff_not]
      intro h
      have := congrArg List.length h
      simp [rws, HN.out, HM.out] at this
      exact hnm this
    go_enter Try.func10, Try.ntmps10
    go_wp2_with fail
    go_ret
    exact ⟨by rw [HS.out]; rfl, Below.refl _ _⟩
end Go.Proofs.Ytpagnphabchfcaa
