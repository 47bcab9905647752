/- The document's Same, Fork. -/
import Derived.Test.YtgimjjlkniplnaaTh
namespace Go.Proofs.Ytgimjjlkniplnaa
open Go.RowKit Go.Shelf
set_option maxRecDepth 100000
set_option maxHeartbeats 1000000 in
theorem same16 {w : World} {va vb : Value} {L : List Pr} (ha : LV EP w va L) (hb : LV EP w vb L) (hl : L.length ≤ 1000) : Calls Try.prog 16 #[va, vb] w fun e w' => e = .returned (.bool true) ∧ Below w.heap.size w w' := by
  obtain ⟨a, c, rfl⟩ := ha.form
  obtain ⟨a', c', rfl⟩ := hb.form
  have HA : Hid (LV EP w (.slice a L.length c) L) := ha
  have HB : Hid (LV EP w (.slice a' L.length c') L) := hb
  generalize hN : L.length = n at *
  have HN : Hid (L.length = n) := hN
  clear ha hb hN
  go_enter Try.func16, Try.ntmps16
  go_wp2_with fail
  go_loopw [5] (fun fi wr => ∃ (i : Nat), fi = .int .i64 (i : Int) ∧ Hid (i ≤ n) ∧ Hid (Below w.heap.size w wr)) (fun fi _ => ((n : Int) - intOf fi).toNat)
  case atStart => exact ⟨0, rfl, Nat.zero_le _, Below.refl _ _⟩
  case round =>
    obtain ⟨i, rfl, hi, hB⟩ := hrel
    by_cases hin : i < n
    · have h1 : (i : Int) < (n : Int) := by omega
      have h0 : (0 : Int) ≤ (i : Int) := by omega
      have hw : wrap64 ((i : Int) + 1) = (i : Int) + 1 := IntWalk.wrap64_in _ (by omega)
      obtain ⟨p, hp⟩ : ∃ p, L[i]? = some p := ⟨_, List.getElem?_eq_getElem (by rw [HN.out]; omega)⟩
      have hB2 : Below w.heap.size w wr.drew := bmore hB.out (Below.refl _ _).drew
      obtain ⟨g, o, e1, d0, d1⟩ := EP.cell (HA.out.below hB2) hp
      obtain ⟨g', o', e2, d0', d1'⟩ := EP.cell (HB.out.below hB2) hp
      subst e1 e2
      have HB2 : Hid (Below w.heap.size w wr.drew) := hB2
      clear hp hB2
      have hS : wr.drew.cell? ⟨g, o + i * 2, none⟩ = some (.string p.1) ∧ wr.drew.cell? ⟨g, o + i * 2 + 1, none⟩ = some (.string p.2) ∧ wr.drew.cell? ⟨g', o' + i * 2, none⟩ = some (.string p.1) ∧ wr.drew.cell? ⟨g', o' + i * 2 + 1, none⟩ = some (.string p.2) := ⟨d0, d1, d0', d1'⟩
      clear d0 d1 d0' d1'
      go_wp2_with fail
      go_region_held3 (fun W' => W'.cell? ⟨g, o + i * 2, none⟩ = some (.string p.1) ∧ W'.cell? ⟨g, o + i * 2 + 1, none⟩ = some (.string p.2) ∧ W'.cell? ⟨g', o' + i * 2, none⟩ = some (.string p.1) ∧ W'.cell? ⟨g', o' + i * 2 + 1, none⟩ = some (.string p.2)) (exact hS) (fail)
      go_wp2_with fail
      go_roundw
      case rel => exact ⟨i + 1, by simp, by show _ ≤ _; omega, HB2.out⟩
      case measure => simp only [intOf]; omega
    · have h1 : ¬ (i : Int) < (n : Int) := by omega
      go_wp2
      go_ret
      exact ⟨rfl, hB.out⟩
set_option maxHeartbeats 1000000 in
theorem rfork30 {w : World} {r : Nat} {a : Option Addr} {c : Nat} {kv : List Pr} (hr : RI w r a c kv) (hl : kv.length ≤ 1000) : Calls Try.prog 30 #[.pointer (some ⟨r, 0, none⟩)] w fun e w' => ∃ r' a' c', e = .returned (.pointer (some ⟨r', 0, none⟩)) ∧ w.heap.size ≤ r' ∧ RI w' r' a' c' kv ∧ Below w.heap.size w w' := by
  have hB := al w (.cells #[] 33)
  have e0 := (hr.blk.below hB).cell 0
  simp only [List.getElem?_cons_zero] at e0
  have hA : ∃ u w', (Builtin.append_ #[37, 37] 37 #[.slice (some ⟨w.heap.size, 0, none⟩) 0 0, .slice a kv.length c]).run Try.prog (w.alloc (.cells #[] 33)) = .ok u w' ∧ ∃ a' c', u = .slice a' kv.length c' ∧ Hid (LV EP w' (.slice a' kv.length c') kv) ∧ Hid (Below w.heap.size w w') := by
    have hU0 : RU EP w.heap.size (w.alloc (.cells #[] 33)) (.slice (some ⟨w.heap.size, 0, none⟩) 0 0) [] := .inl ⟨rfl, _, rfl, Nat.le_refl _, by simp⟩
    obtain ⟨u, w', e1, e2, e3⟩ := run_app hU0 (hr.lv.below hB) (by simp; omega) hB.size
    rw [List.nil_append] at e2
    obtain ⟨a', c', rfl⟩ := e2.read.form
    exact ⟨_, w', e1, a', c', rfl, e2.read, hB.trans (grown_below hU0 e3 hB.size)⟩
  have HB : Hid (Below w.heap.size w (w.alloc (.cells #[] 33))) := hB
  generalize hN : kv.length = n at *
  have HN : Hid (kv.length = n) := hN
  clear hr hB hN
  go_enter Try.func30, Try.ntmps30
  go_wp2_with (at_builtin; refine wpList_append_ex (by rfl) (.tmp 5) (.tmp 9) 37 (by rfl) _ _ (by rfl) (by rfl) hA ?_; rintro v7 w7 ⟨a', c', rfl, hO7, hB7⟩)
  go_ret
  refine ⟨_, a', c', rfl, hB7.out.size, ⟨?_, ?_⟩, bmore hB7.out (al _ _)⟩
  · rw [HN.out]; exact blk_new w7 [.slice a' n c'] 55
  · rw [HN.out]; exact hO7.out.below (al _ _)
end Go.Proofs.Ytgimjjlkniplnaa
