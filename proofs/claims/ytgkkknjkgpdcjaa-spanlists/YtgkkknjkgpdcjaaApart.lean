/- span.Apart, and the reference's: whether no two of a list have a point together. -/
import Derived.Test.YtgkkknjkgpdcjaaApartm
import Derived.Test.YtgkkknjkgpdcjaaForms
namespace Go.Proofs.Ytgkkknjkgpdcjaa
open Go.RowKit

theorem hidA {p : Prop} (h : p) : Hid p := h
theorem mixedA : Try.prog.follows .mixedOrders = true := by kernel_rfl

/-- two spans of a list, in memory -/
def SA (w1 : World) (bb o1 o2 : Nat) (y1 y2 y3 y4 : Int) (W : World) : Prop :=
  (W.cell? ⟨bb, o1, none⟩ = some (.int .i64 y1) ∧ W.cell? ⟨bb, o1 + 1, none⟩ = some (.int .i64 y2) ∧ W.cell? ⟨bb, o2, none⟩ = some (.int .i64 y3) ∧ W.cell? ⟨bb, o2 + 1, none⟩ = some (.int .i64 y4)) ∧ bb < W.heap.size ∧ w1.heap.size ≤ W.heap.size ∧ Below w1.heap.size w1 W
theorem SA.step {w1 W W' : World} {bb o1 o2 : Nat} {y1 y2 y3 y4 : Int} (h : SA w1 bb o1 o2 y1 y2 y3 y4 W) (hb : Below W.heap.size W W') : SA w1 bb o1 o2 y1 y2 y3 y4 W' := by
  obtain ⟨⟨h1, h2, h3, h4⟩, h5, h6, h7⟩ := h
  have hs := hb.size
  exact ⟨⟨(bc hb _ _ h5).trans h1, (bc hb _ _ h5).trans h2, (bc hb _ _ h5).trans h3, (bc hb _ _ h5).trans h4⟩, by omega, by omega, h7.trans (hb.mono h6)⟩
theorem kA16 {w1 : World} {bb o1 o2 : Nat} {y1 y2 y3 y4 : Int} {r : Bool} (hr : bothB y1 y2 y3 y4 = r) (W : World) (h : SA w1 bb o1 o2 y1 y2 y3 y4 W) : Calls Try.prog 16 #[.agg #[.int .i64 y1, .int .i64 y2], .agg #[.int .i64 y3, .int .i64 y4]] W fun e w' => e = .returned (.bool r) ∧ SA w1 bb o1 o2 y1 y2 y3 y4 w' :=
  (over16 y1 y2 y3 y4 W).mono fun _ _ ⟨he, hb⟩ => ⟨by rw [he, hr], h.step hb⟩
theorem kA17 {w1 : World} {bb o1 o2 : Nat} {y1 y2 y3 y4 : Int} {r : Bool} (hr : bothB y1 y2 y3 y4 = r) (W : World) (h : SA w1 bb o1 o2 y1 y2 y3 y4 W) : Calls Try.prog 17 #[.agg #[.int .i64 y1, .int .i64 y2], .agg #[.int .i64 y3, .int .i64 y4]] W fun e w' => e = .returned (.bool r) ∧ SA w1 bb o1 o2 y1 y2 y3 y4 w' :=
  (over17 y1 y2 y3 y4 W).mono fun _ _ ⟨he, hb⟩ => ⟨by rw [he, hr], h.step hb⟩

theorem start37_a (v : Value) (xs : List (Int × Int)) (w : World) (hl : xs.length ≤ 100000) (h : SRow w v xs) :
    Calls Try.prog 37 #[v] w fun e w' => ∃ p cap n rs, e = .returned (.slice p n cap) ∧ n ≤ 100000 ∧ Hid (n = rs.length ∧ (∀ x, x ∈ rs → rightB x.1 x.2 = true) ∧ (Apart rs ↔ Apart xs) ∧ Rising rs ∧
      ∀ i, (hi : i < rs.length) → ∃ b off, p = some ⟨b, off, none⟩ ∧ b < w'.heap.size ∧ w'.cell? ⟨b, off + i * 2, none⟩ = some (.int .i64 rs[i].1) ∧ w'.cell? ⟨b, off + i * 2 + 1, none⟩ = some (.int .i64 rs[i].2)) ∧ Below w.heap.size w w' := by
  refine (start37 v xs w hl h).mono ?_
  rintro e w1 ⟨v1, rs, rfl, hp, hs, ho, hb1⟩
  obtain ⟨p, cap, rfl, hf⟩ := ho.srow.form
  have hlr : rs.length ≤ xs.length := by rw [hp.length_eq]; exact rights_len xs
  refine ⟨p, cap, _, rs, rfl, by omega, ⟨rfl, ?_, apart_perm hp, hs, hf⟩, hb1⟩
  intro x hx
  have := hp.mem_iff.1 hx
  simpa [rights] using (List.mem_filter.1 this).2

set_option maxHeartbeats 1000000 in
theorem apart32 (v : Value) (xs : List (Int × Int)) (w : World) (hl : xs.length ≤ 100000) (h : SRow w v xs) :
    Calls Try.prog 32 #[v] w fun e w' => ∃ r, e = .returned (.bool r) ∧ (r = true ↔ Apart xs) ∧ Below w.heap.size w w' := by
  have hstart := start37_a v xs w hl h
  clear h
  go_enter Try.func32, Try.ntmps32
  go_wp2_with (go_at_call 37; refine hstart.mono ?_; rintro e w1 ⟨p, cap, n, rs, rfl, hn, HR, hb1⟩)
  clear hstart
  have hw1 := hb1.size
  go_loopw [9] (fun i wr => ∃ k : Nat, k ≤ n ∧ i = .int .i64 k ∧ (∀ j, (hj : j + 1 < rs.length) → j + 1 < k → Loose rs[j] rs[j + 1]) ∧ Below w1.heap.size w1 wr) (fun i _ => n - (intOf i).toNat)
  case atStart => exact ⟨0, Nat.zero_le _, rfl, fun j _ h => absurd h (by omega), Below.refl _ _⟩
  case round =>
    obtain ⟨k, hk, rfl, hj0, hnx⟩ := hrel
    have HJ := hidA hj0
    clear hj0
    have hsz := hnx.size
    by_cases hlt : k < n
    · rcases k with _ | j
      · go_wp2_with fail
        go_quiet (fail)
        go_wp2
        go_roundw
        case rel => exact ⟨1, by omega, by go_num, fun j _ h => absurd h (by omega), below_drewN hnx _⟩
        case measure => simp [intOf]; omega
      · obtain ⟨hnr, hr, hap, hs, hf⟩ := HR.out
        have hjl : j + 1 < rs.length := by omega
        obtain ⟨bb, off, hpe, hbl, d1, d2⟩ := hf j (by omega)
        obtain ⟨bb', off', hpe', _, d3, d4⟩ := hf (j + 1) hjl
        subst hpe
        cases hpe'
        have HNEXT : Hid (Loose rs[j] rs[j + 1] → ∀ i, (hi : i + 1 < rs.length) → i + 1 < j + 1 + 1 → Loose rs[i] rs[i + 1]) := fun hl i hi hlt => by
          rcases (show i = j ∨ i + 1 < j + 1 by omega) with rfl | h2
          · exact hl
          · exact HJ.out i hi h2
        have HNO : Hid (¬ Loose rs[j] rs[j + 1] → ¬ Apart xs) := fun hl ha => hl (apart_get (hap.2 ha) j (j + 1) (by omega) hjl (by omega))
        unfold Loose at HNEXT HNO
        obtain ⟨y1, hy1⟩ : ∃ y, rs[j].1 = y := ⟨_, rfl⟩
        obtain ⟨y2, hy2⟩ : ∃ y, rs[j].2 = y := ⟨_, rfl⟩
        obtain ⟨y3, hy3⟩ : ∃ y, rs[j + 1].1 = y := ⟨_, rfl⟩
        obtain ⟨y4, hy4⟩ : ∃ y, rs[j + 1].2 = y := ⟨_, rfl⟩
        have hyy : bothB rs[j].1 rs[j].2 rs[j + 1].1 rs[j + 1].2 = bothB y1 y2 y3 y4 := by rw [hy1, hy2, hy3, hy4]
        rw [hyy] at HNEXT HNO
        rw [hy1] at d1
        rw [hy2] at d2
        rw [hy3] at d3
        rw [hy4] at d4
        have hk : SA w1 bb (off + j * 2) (off + (j + 1) * 2) y1 y2 y3 y4 wr.drew := ⟨⟨(bc hnx _ _ hbl).trans d1, (bc hnx _ _ hbl).trans d2, (bc hnx _ _ hbl).trans d3, (bc hnx _ _ hbl).trans d4⟩, Nat.lt_of_lt_of_le hbl hsz, hsz, hnx.drew⟩
        have hlt' : (j : Int) + 1 < n := by omega
        have hq1 : (j : Int) < n := by omega
        have hq2 : j < n := by omega
        have hq3 : (0 : Int) ≤ (j : Int) + 1 := by omega
        have hq4 : (0 : Int) ≤ (j : Int) := by omega
        have hq5 : ((j : Int) + 1).toNat = j + 1 := by omega
        have hq6 : (0 : Int) < (j : Int) + 1 := by omega
        have hwr : IntKind.i64.wrap (j : Int) = j := by simp [IntKind.wrap, IntKind.bits, IntKind.signed]; omega
        clear d1 d2 d3 d4 hy1 hy2 hy3 hy4 hyy hf hs hap hr hnr HR HJ hnx
        push_cast
        cases hbo : bothB y1 y2 y3 y4
        · have HN2 := hidA (HNEXT.out hbo)
          have Q := hidA (fun W (h : SA w1 bb (off + j * 2) (off + (j + 1) * 2) y1 y2 y3 y4 W) => kA16 hbo W h)
          clear HNEXT HNO
          go_wp2_with fail
          go_region_held3 (fun w' => w'.cell? ⟨bb, off + j * 2, none⟩ = some (.int .i64 y1) ∧ w'.cell? ⟨bb, off + j * 2 + 1, none⟩ = some (.int .i64 y2) ∧ w'.cell? ⟨bb, off + (j + 1) * 2, none⟩ = some (.int .i64 y3) ∧ w'.cell? ⟨bb, off + (j + 1) * 2 + 1, none⟩ = some (.int .i64 y4)) (exact hk.1)
            (first
            | (go_at_call 16; refine (Q.out _ hk).mono ?_; rintro e wk ⟨rfl, hk⟩))
          go_wp2
          go_roundw
          case rel => exact ⟨j + 1 + 1, by omega, by go_num, HN2.out, hk.2.2.2⟩
          case measure => simp [intOf]; omega
        · have HN2 := hidA (HNO.out (by rw [hbo]; simp))
          have Q := hidA (fun W (h : SA w1 bb (off + j * 2) (off + (j + 1) * 2) y1 y2 y3 y4 W) => kA16 hbo W h)
          clear HNEXT HNO
          go_wp2_with fail
          go_region_held3 (fun w' => w'.cell? ⟨bb, off + j * 2, none⟩ = some (.int .i64 y1) ∧ w'.cell? ⟨bb, off + j * 2 + 1, none⟩ = some (.int .i64 y2) ∧ w'.cell? ⟨bb, off + (j + 1) * 2, none⟩ = some (.int .i64 y3) ∧ w'.cell? ⟨bb, off + (j + 1) * 2 + 1, none⟩ = some (.int .i64 y4)) (exact hk.1)
            (first
            | (go_at_call 16; refine (Q.out _ hk).mono ?_; rintro e wk ⟨rfl, hk⟩))
          go_wp2
          go_ret
          exact ⟨false, rfl, by simpa using HN2.out, hb1.trans (hk.2.2.2.mono hw1)⟩
    · obtain ⟨hnr, hr, hap, hs, hf⟩ := HR.out
      have HA := hidA (hap.1 (apart_near hr hs (fun j hj => HJ.out j hj (by omega))))
      clear hf hs hap hr hnr HR HJ
      go_wp2
      go_ret
      exact ⟨true, rfl, by simpa using HA.out, hb1.trans (hnx.mono hw1)⟩

end Go.Proofs.Ytgkkknjkgpdcjaa
