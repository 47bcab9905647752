/- SameTables and Same of the reference, whichever way. -/
import Derived.Test.YtkoagjfbhkhfkaaDoorSj
namespace Go.Proofs.YtkoagjfbhkhfkaaDoor
open Go.RowKit Go.Lib
set_option maxRecDepth 100000
variable {w w' : World}
theorem tb_eq {x y : Tb} : (str x.n = str y.n ∧ str x.p = str y.p ∧ x.r = y.r ∧ x.cols = y.cols) ↔ x = y := by
  constructor
  · rintro ⟨h1, h2, h3, h4⟩
    have e1 := congrArg bs h1
    have e2 := congrArg bs h2
    rw [bs_str, bs_str] at e1 e2
    cases x; cases y
    simp_all
  · rintro rfl
    exact ⟨rfl, rfl, rfl, rfl⟩
set_option maxHeartbeats 2000000 in
theorem tables32g {P P' : Nat → Prop} (a b : Value) (L1 L2 : List Tv) (w : World) (ha : TL P w a L1) (hb : TL P' w b L2) (hc : ∀ x ∈ L1, x.1.cols.length ≤ 1000) (hc2 : ∀ x ∈ L2, x.1.cols.length ≤ 1000) (hl : L1.length ≤ 1000) (hl2 : L2.length ≤ 1000) :
    Calls Tryd.prog 32 #[a, b] w (EQ w (L1.map (·.1) = L2.map (·.1))) := by
  have HA : Hid (∀ w1, Below w.heap.size w w1 → TL P w1 a L1) := fun w1 h => ha.below h
  have HB : Hid (∀ w1, Below w.heap.size w w1 → TL P' w1 b L2) := fun w1 h => hb.below h
  obtain ⟨⟨pa, ca, rfl, _, _⟩, _⟩ := ha
  obtain ⟨⟨pb, cb, rfl, _, _⟩, _⟩ := hb
  obtain ⟨N, hN⟩ : ∃ N, L1.length = N := ⟨_, rfl⟩
  obtain ⟨M, hM⟩ : ∃ M, L2.length = M := ⟨_, rfl⟩
  have HNN : Hid (L1.length = N) := hN
  have HN2 : Hid (L2.length = M) := hM
  rw [hN] at hl ⊢
  rw [hM] at hl2 ⊢
  have HU : Hid (∀ X : Prop, X = (L1.map (·.1) = L2.map (·.1)) → ((L1.map (·.1) = L2.map (·.1)) ↔ X)) := fun X h => by rw [h]
  obtain ⟨U1, hU1⟩ : ∃ U1, L1.map (·.1) = U1 := ⟨_, rfl⟩
  obtain ⟨U2, hU2⟩ : ∃ U2, L2.map (·.1) = U2 := ⟨_, rfl⟩
  have HU1 : Hid (L1.map (·.1) = U1) := hU1
  have HU2 : Hid (L2.map (·.1) = U2) := hU2
  rw [hU1, hU2]
  clear hN hM hU1 hU2 HU
  by_cases h4 : N = M
  · subst h4
    go_enter Tryd.func32, Tryd.ntmps32
    go_wp2
    go_loopw [5] (fun q wr => ∃ k : Nat, k ≤ N ∧ q = .int .i64 (k : Int) ∧ Hid ((∀ i, i < k → U1[i]? = U2[i]?) ∧ Below w.heap.size w wr)) (fun q _ => N - (RowKit.intOf q).toNat)
    case atStart => exact ⟨0, by omega, rfl, fun i hi => by omega, Below.refl _ _⟩
    case round =>
      obtain ⟨k, hk, rfl, HW⟩ := hrel
      by_cases hlt : k < N
      · have h1 : (k : Int) < (N : Int) := by omega
        have h0 : (0 : Int) ≤ (k : Int) := by omega
        obtain ⟨x, hx⟩ : ∃ x, L1[k]? = some x := ⟨_, List.getElem?_eq_getElem (by rw [HNN.out]; exact hlt)⟩
        obtain ⟨y, hy⟩ : ∃ y, L2[k]? = some y := ⟨_, List.getElem?_eq_getElem (by rw [HN2.out]; exact hlt)⟩
        have HS0 : Hid (U1[k]? = some x.1 ∧ U2[k]? = some y.1) := ⟨by rw [← HU1.out, List.getElem?_map, hx]; rfl, by rw [← HU2.out, List.getElem?_map, hy]; rfl⟩
        have hxm := List.mem_of_getElem? hx
        have hym := List.mem_of_getElem? hy
        obtain ⟨⟨a1, a2, he1, _, hat1⟩, hco1⟩ := HA.out wr HW.out.2
        obtain ⟨⟨a3, a4, he2, _, hat2⟩, hco2⟩ := HB.out wr HW.out.2
        simp only [Value.slice.injEq] at he1 he2
        obtain ⟨rfl, he3, rfl⟩ := he1
        obtain ⟨rfl, he4, rfl⟩ := he2
        clear he3 he4
        obtain ⟨ga, oa, rfl, hga, _, hca⟩ := hat1 (by rw [HNN.out]; omega)
        obtain ⟨gb, ob, rfl, hgb, _, hcb⟩ := hat2 (by rw [HN2.out]; omega)
        have hx4 := hca k x hx
        have hy4 := hcb k y hy
        have hsx := (hco1 x hxm).sc
        have hsy := (hco2 y hym).sc
        obtain ⟨xa, xn, xc, hxv⟩ := SV_one (hco1 x hxm)
        obtain ⟨ya, yn, yc, hyv⟩ := SV_one (hco2 y hym)
        rw [hxv] at hx4 hsx
        rw [hyv] at hy4 hsy
        have HT : Hid (∀ w1, Below wr.heap.size wr w1 → Calls Tryd.prog 29 #[TB (str x.1.n) (.slice xa xn xc) (str x.1.p) x.1.r, TB (str y.1.n) (.slice ya yn yc) (str y.1.p) y.1.r] w1 fun e w' => ∃ b : Bool, e = .returned (.bool b) ∧ Hid (b = true ↔ x.1 = y.1) ∧ Below w1.heap.size w1 w') := fun w1 hb => (table29g _ _ _ _ _ _ x.1.cols y.1.cols _ _ w1 (hsx.below hb) (hsy.below hb) (hc x hxm) (hc2 y hym)).mono fun e w' ⟨b, h1, h2, h3⟩ => ⟨b, h1, h2.trans tb_eq, h3⟩
        have HS : Hid (∀ w1, Below wr.heap.size wr w1 → (w1.cell? ⟨ga, oa + k * 4, none⟩ = some (.string (str x.1.n)) ∧ w1.cell? ⟨ga, oa + k * 4 + 1, none⟩ = some (.slice xa xn xc) ∧ w1.cell? ⟨ga, oa + k * 4 + 2, none⟩ = some (.string (str x.1.p)) ∧ w1.cell? ⟨ga, oa + k * 4 + 3, none⟩ = some (.int .i64 x.1.r)) ∧ w1.cell? ⟨gb, ob + k * 4, none⟩ = some (.string (str y.1.n)) ∧ w1.cell? ⟨gb, ob + k * 4 + 1, none⟩ = some (.slice ya yn yc) ∧ w1.cell? ⟨gb, ob + k * 4 + 2, none⟩ = some (.string (str y.1.p)) ∧ w1.cell? ⟨gb, ob + k * 4 + 3, none⟩ = some (.int .i64 y.1.r)) := fun w1 hb => by
          obtain ⟨q0, q1, q2, q3⟩ := hx4
          obtain ⟨r0, r1, r2, r3⟩ := hy4
          exact ⟨⟨(hb.cell (p := ⟨ga, _, none⟩) hga).trans q0, (hb.cell (p := ⟨ga, _, none⟩) hga).trans q1, (hb.cell (p := ⟨ga, _, none⟩) hga).trans q2, (hb.cell (p := ⟨ga, _, none⟩) hga).trans q3⟩, (hb.cell (p := ⟨gb, _, none⟩) hgb).trans r0, (hb.cell (p := ⟨gb, _, none⟩) hgb).trans r1, (hb.cell (p := ⟨gb, _, none⟩) hgb).trans r2, (hb.cell (p := ⟨gb, _, none⟩) hgb).trans r3⟩
        have F0 : Below wr.heap.size wr wr.drew := (Below.refl _ _).drew
        have hS0 := HS.out _ F0
        clear hx4 hy4 hsx hsy hca hcb hco1 hco2 hat1 hat2 hx hy hc hc2
        generalize str x.1.n = xs at *
        generalize str x.1.p = xp at *
        generalize x.1.r = xr at *
        generalize str y.1.n = ys at *
        generalize str y.1.p = yp at *
        generalize y.1.r = yr at *
        go_wp2_with fail
        go_region_held3 (fun w1 => (w1.cell? ⟨ga, oa + k * 4, none⟩ = some (.string xs) ∧ w1.cell? ⟨ga, oa + k * 4 + 1, none⟩ = some (.slice xa xn xc) ∧ w1.cell? ⟨ga, oa + k * 4 + 2, none⟩ = some (.string xp) ∧ w1.cell? ⟨ga, oa + k * 4 + 3, none⟩ = some (.int .i64 xr)) ∧ w1.cell? ⟨gb, ob + k * 4, none⟩ = some (.string ys) ∧ w1.cell? ⟨gb, ob + k * 4 + 1, none⟩ = some (.slice ya yn yc) ∧ w1.cell? ⟨gb, ob + k * 4 + 2, none⟩ = some (.string yp) ∧ w1.cell? ⟨gb, ob + k * 4 + 3, none⟩ = some (.int .i64 yr)) (first | exact hS0 | exact HS.out _ F1) (first
          | (go_at_call 29; (with_reducible refine (HT.out _ F0).mono ?_); rintro e w1 ⟨b, rfl, hbb, hb1⟩; have F1 := bmore F0 hb1))
        cases b
        · go_wp2
          go_ret
          refine EQ.no (fun e => ?_) (HW.out.2.trans (F1.mono HW.out.2.size))
          have h5 := HS0.out
          rw [e, h5.2] at h5
          have := hbb.out.2 (Option.some.inj h5.1.symm)
          cases this
        · go_wp2
          go_roundw
          case rel => exact ⟨k + 1, by omega, by simp, fun i hi => by
            by_cases hik : i < k
            · exact HW.out.1 i hik
            · obtain rfl : i = k := by omega
              rw [HS0.out.1, HS0.out.2, hbb.out.1 rfl], HW.out.2.trans (F1.mono HW.out.2.size)⟩
          case measure => simp [RowKit.intOf]; omega
      · have h1 : ¬ (k : Int) < (N : Int) := by omega
        go_wp2
        go_ret
        exact EQ.yes (ext_upto (N := N) (by rw [← HU1.out, List.length_map]; exact HNN.out) (by rw [← HU2.out, List.length_map]; exact HN2.out) (fun i hi => HW.out.1 i (by omega))) HW.out.2
  · have hb1 : ((N : Int) != (M : Int)) = true := by simpa using (by omega : ¬ (N : Int) = (M : Int))
    have HNE : Hid (¬ U1 = U2) := fun e => h4 (by have h1 := HNN.out; have h2 := HN2.out; have h5 := congrArg List.length e; rw [← HU1.out, ← HU2.out] at h5; simp at h5; omega)
    clear h4
    go_enter Tryd.func32, Tryd.ntmps32
    go_wp2
    go_ret
    exact EQ.no HNE.out (Below.refl _ _)
end Go.Proofs.YtkoagjfbhkhfkaaDoor
