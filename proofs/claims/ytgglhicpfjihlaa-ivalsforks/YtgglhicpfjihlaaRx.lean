/- The document's Add, where an item is laid in. -/
import Derived.Test.YtgglhicpfjihlaaRw
import Derived.Test.YtgglhicpfjihlaaRs
import Derived.Test.YtgglhicpfjihlaaR9
namespace Go.Proofs.Ytgglhicpfjihlaa
open Go.RowKit Go.Shelf
set_option maxRecDepth 100000
theorem upto_drop {s : St} : ∀ {L : List St} {k : Nat}, k ≤ L.length → (∀ i y, i < k → L[i]? = some y → cs y s < 0) → (∀ y, L[k]? = some y → ¬ cs y s < 0) → upto s L = k
  | [], k, hk, _, _ => by simp at hk; subst hk; rfl
  | y :: L, 0, _, _, h2 => by
    have := h2 y (by simp)
    unfold upto
    rw [if_neg this]
  | y :: L, k + 1, hk, h1, h2 => by
    have := h1 0 y (by omega) (by simp)
    unfold upto
    rw [if_pos this, upto_drop (k := k) (by simpa using hk) (fun i z hi hz => h1 (i + 1) z (by omega) (by simpa using hz)) (fun z hz => h2 z (by simpa using hz))]
set_option maxHeartbeats 2000000 in
theorem radd33_yes {W : World} {r : Nat} {a : Option Addr} {c : Nat} {L : List St} (s : St) (hr : RI W r a c L) (hl : L.length ≤ 1000) (hft : s.f < s.t) (hs : s ∉ L) : Calls Try.prog 33 #[.pointer (some ⟨r, 0, none⟩), .agg #[.int .i64 s.f, .int .i64 s.t], .int .i64 s.i] W fun e w' => e = .returned (.int .i64 0) ∧ (∃ a' c', RI w' r a' c' (L.take (upto s L) ++ s :: L.drop (upto s L))) ∧ Keep (fun k => k = r) W w' := by
  have hA := al W (.cells #[.int .i64 s.f, .int .i64 s.t] 24)
  have b0 := blk_new W [.int .i64 s.f, .int .i64 s.t] 24
  change Blk (W.alloc (.cells #[.int .i64 s.f, .int .i64 s.t] 24)) _ _ _ at b0
  have k45 := at45 s (hr.below hA).blk (hr.below hA).lv hl
  rw [place_none hs] at k45
  have c0 := b0.cell 0
  have c1 := b0.cell 1
  have hf0 : ¬ s.t ≤ s.f := by omega
  have HB0 : Hid (∀ W', Below (W.alloc (.cells #[.int .i64 s.f, .int .i64 s.t] 24)).heap.size (W.alloc (.cells #[.int .i64 s.f, .int .i64 s.t] 24)) W' → W'.cell? ⟨W.heap.size, 0, none⟩ = some (.int .i64 s.f) ∧ W'.cell? ⟨W.heap.size, 1, none⟩ = some (.int .i64 s.t)) := fun W' k => ⟨(b0.below k).cell 0, (b0.below k).cell 1⟩
  have HR : Hid (RI W r a c L) := hr
  have HA : Hid _ := hA
  have HL : Hid (L.length ≤ 1000) := hl
  clear hr b0 hs hl
  go_enter Try.func33, Try.ntmps33
  go_wp2_with (go_at_call 45; (with_reducible refine k45.mono ?_); rintro e w1 ⟨rfl, B1⟩; obtain ⟨d0, d1⟩ := HB0.out _ B1)
  have F1 := bmore HA.out B1
  have F2 := bmore F1 (al w1 (.cells #[.int .i64 s.f, .int .i64 s.t, .int .i64 s.i] 74))
  have b2 := blk_new w1 (cellI s) 74
  change Blk (w1.alloc (.cells #[.int .i64 s.f, .int .i64 s.t, .int .i64 s.i] 74)) _ _ _ at b2
  have HF2 : Hid _ := F2
  have HB2 : Hid _ := b2
  generalize hg : w1.heap.size = ib at *
  generalize w1.alloc (.cells #[.int .i64 s.f, .int .i64 s.t, .int .i64 s.i] 74) = W2 at *
  have r2 := RI.below HR.out F2
  obtain ⟨N, hN⟩ : ∃ N, L.length = N := ⟨_, rfl⟩
  have HN : Hid _ := hN
  have HR2 : Hid (RI W2 r a c L) := r2
  have HC : Hid (∀ W', Below W2.heap.size W2 W' → W'.cell? ⟨ib, 0, none⟩ = some (.int .i64 s.f) ∧ W'.cell? ⟨ib, 1, none⟩ = some (.int .i64 s.t) ∧ W'.cell? ⟨ib, 2, none⟩ = some (.int .i64 s.i) ∧ W'.cell? ⟨r, 0, none⟩ = some (.slice a N c)) := fun W' k => ⟨(Blk.below HB2.out k).cell 0, (Blk.below HB2.out k).cell 1, (Blk.below HB2.out k).cell 2, by rw [← HN.out]; exact (RI.below HR2.out k).blk.cell 0⟩
  clear k45 c0 c1 d0 d1 B1 F1 F2 b2 r2 hN hg
  go_loopw [8] (fun fi wr => ∃ (k : Nat), fi = .int .i64 (k : Int) ∧ Hid (Below W2.heap.size W2 wr) ∧ Hid (k ≤ N ∧ ∀ i y, i < k → L[i]? = some y → cs y s < 0)) (fun fi _ => ((N : Int) - intOf fi).toNat)
  case atStart => exact ⟨0, rfl, Below.refl _ _, by omega, fun i y hi => by omega⟩
  case round =>
    obtain ⟨k, rfl, hB, hk⟩ := hrel
    have HKK : Hid (k ≤ N ∧ ∀ i y, i < k → L[i]? = some y → cs y s < 0) := hk
    by_cases hkN : k < N
    · have hkl : k < L.length := by rw [HN.out]; exact hkN
      obtain ⟨y, hy⟩ : ∃ y, L[k]? = some y := ⟨_, List.getElem?_eq_getElem hkl⟩
      obtain ⟨g, o, ha, hcells⟩ : ∃ g o, a = some ⟨g, o, none⟩ ∧ ∀ W', Below W2.heap.size W2 W' → W'.cell? ⟨g, o + k * 3, none⟩ = some (.int .i64 y.f) ∧ W'.cell? ⟨g, o + k * 3 + 1, none⟩ = some (.int .i64 y.t) ∧ W'.cell? ⟨g, o + k * 3 + 2, none⟩ = some (.int .i64 y.i) := by
        obtain ⟨a', c', hv, hcc⟩ := (RI.below HR2.out (Below.refl _ _)).lv
        simp only [Value.slice.injEq] at hv
        obtain ⟨rfl, -, rfl⟩ := hv
        obtain ⟨g, o, rfl, hgl, hce⟩ := hcc (by omega)
        exact ⟨g, o, rfl, fun W' kk => ⟨(kk.cell (p := ⟨g, _, none⟩) hgl).trans (hce k y hy).1, (kk.cell (p := ⟨g, _, none⟩) hgl).trans (hce k y hy).2.1, (kk.cell (p := ⟨g, _, none⟩) hgl).trans (hce k y hy).2.2⟩⟩
      subst ha
      have HS : Hid (∀ W', Below wr.heap.size wr W' → W'.cell? ⟨ib, 0, none⟩ = some (.int .i64 s.f) ∧ W'.cell? ⟨ib, 1, none⟩ = some (.int .i64 s.t) ∧ W'.cell? ⟨ib, 2, none⟩ = some (.int .i64 s.i) ∧ W'.cell? ⟨r, 0, none⟩ = some (.slice (some ⟨g, o, none⟩) N c) ∧ W'.cell? ⟨g, o + k * 3, none⟩ = some (.int .i64 y.f) ∧ W'.cell? ⟨g, o + k * 3 + 1, none⟩ = some (.int .i64 y.t) ∧ W'.cell? ⟨g, o + k * 3 + 2, none⟩ = some (.int .i64 y.i)) := fun W' kk => by
        obtain ⟨q1, q2, q3, q4⟩ := HC.out W' (bmore hB.out kk)
        exact ⟨q1, q2, q3, q4, hcells W' (bmore hB.out kk)⟩
      have HY : Hid _ := hy
      have hkb : (k : Int) ≤ 1000 := by have := HL.out; have := HN.out; omega
      clear hcells hy hk hkl
      by_cases hcs : cs y s < 0
      · go_wp2_with fail
        refine reg9_true HS hkN hcs ?_
        show ∀ _, _
        intro v28 v29 v30 v31 v32 v33 v34 v35 v36 v37 v38 v39 v40 v41 v42 v43 v44 w3 B3
        have K1 := bmore hB.out B3
        have HCS : Hid _ := hcs
        clear hcs HS
        go_wp2_with fail
        go_roundw
        case rel => exact ⟨k + 1, by simp, K1, by omega, fun i z hi2 hz => by
          by_cases e : i = k
          · subst e
            have hq := HY.out
            rw [hq] at hz
            cases hz
            exact HCS.out
          · exact HKK.out.2 i z (by omega) hz⟩
        case measure => simp only [intOf]; omega
      · go_wp2_with fail
        refine reg9_false HS hkN (by omega) ?_
        show ∀ _, _
        intro v28 v29 v30 v31 v32 v33 v34 v35 v36 v37 v38 v39 v40 v41 v42 v43 v44 w3 B3
        have K1 := bmore hB.out B3
        have hup : upto s L = k := upto_drop (by have := HN.out; have := HKK.out.1; omega) HKK.out.2 (fun z hz => by have hq := HY.out; rw [hq] at hz; cases hz; omega)
        have HU : Hid _ := hup
        clear hcs HS hup
        go_wp2_with fail
        refine reg11 (RI.below HR2.out K1) (Blk.below HB2.out K1) (k := k) (by have := HN.out; have := HKK.out.1; omega) HL.out (fun v49 v55 v56 v58 v59 v65 v66 w4 hRI hKeep => ?_)
        have HRI : Hid _ := hRI
        have HKe : Hid _ := hKeep
        clear hRI hKeep
        go_wp2
        go_ret
        refine ⟨rfl, by rw [HU.out]; exact HRI.out, (Keep.of (F := fun k => k = r) (bmore HF2.out K1)).trans HKe.out (fun _ _ h => h)⟩
    · have HS : Hid (∀ W', Below wr.heap.size wr W' → W'.cell? ⟨r, 0, none⟩ = some (.slice a N c)) := fun W' kk => (HC.out W' (bmore hB.out kk)).2.2.2
      have hup : upto s L = k := upto_drop (by have := HN.out; have := HKK.out.1; omega) HKK.out.2 (fun z hz => by have := (List.getElem?_eq_some_iff.1 hz).1; have := HN.out; omega)
      have HU : Hid _ := hup
      clear hk hup
      go_wp2_with fail
      refine reg9_end HS hkN ?_
      show ∀ _, _
      intro v28 v29 v30 v31 v32 v33 v34 v35 v36 v37 v38 v39 v40 v41 v42 v43 v44 w3 B3
      have K1 := bmore hB.out B3
      clear HS
      go_wp2_with fail
      refine reg11 (RI.below HR2.out K1) (Blk.below HB2.out K1) (k := k) (by have := HN.out; have := HKK.out.1; omega) HL.out (fun v49 v55 v56 v58 v59 v65 v66 w4 hRI hKeep => ?_)
      have HRI : Hid _ := hRI
      have HKe : Hid _ := hKeep
      clear hRI hKeep
      go_wp2
      go_ret
      refine ⟨rfl, by rw [HU.out]; exact HRI.out, (Keep.of (F := fun k => k = r) (bmore HF2.out K1)).trans HKe.out (fun _ _ h => h)⟩
end Go.Proofs.Ytgglhicpfjihlaa
