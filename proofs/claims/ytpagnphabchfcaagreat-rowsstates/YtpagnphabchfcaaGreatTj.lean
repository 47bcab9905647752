/- Whether both tell the same. -/
import Derived.Test.YtpagnphabchfcaaGreatTi
namespace Go.Proofs.YtpagnphabchfcaaGreat
open Go.RowKit Go.Shelf
set_option maxRecDepth 100000
theorem RRow.size {w : World} {X : Nat → Prop} {v : Value} {l : List Rw} (h : RRow w X v l) : l.length ≤ 1000 ∧ ∀ r ∈ l, r.1.length ≤ 1000 := by
  obtain ⟨es, _, h2, h3, h4⟩ := h
  refine ⟨by have := congrArg List.length h2; simp [rws] at this; omega, fun r hr => ?_⟩
  rw [← h2] at hr
  obtain ⟨e, he, rfl⟩ := List.mem_map.1 hr
  exact h4 e he
theorem Two.get {w : World} {s m r : Nat} {E : List (List UInt8 × Value)} {σ : List Tab} (h : Two w s m r E σ) {i : Nat} {t : Tab} (ht : σ[i]? = some t) : Calls Tryz.prog 36 #[.pointer (some ⟨s, 0, none⟩), .string t.1] w (RPost w t.2) := by
  obtain ⟨y, h1, es, h2, h3, h4, h5⟩ := h.rows t.1 t.2 (getS_at h.sorted ht).1
  have := get29 h.sm (h.small t (List.mem_of_getElem? ht)) h1 h2 h4 h5
  rw [h3] at this
  exact this.mono (fun _ _ q => SPost.r q)
theorem Two.rget {w : World} {s m r : Nat} {E : List (List UInt8 × Value)} {σ : List Tab} (h : Two w s m r E σ) (hσ : σ.length ≤ 100) {i : Nat} {t : Tab} (ht : σ[i]? = some t) : Calls Tryz.prog 37 #[.pointer (some ⟨r, 0, none⟩), .string t.1] w (RPost w t.2) := by
  have := rget37 h.rs hσ h.sorted ht
  rw [h.rise t (List.mem_of_getElem? ht)] at this
  exact this
theorem Two.size {w : World} {s m r : Nat} {E : List (List UInt8 × Value)} {σ : List Tab} (h : Two w s m r E σ) {i : Nat} {t : Tab} (ht : σ[i]? = some t) : t.2.length ≤ 1000 ∧ ∀ r ∈ t.2, r.1.length ≤ 1000 := by
  obtain ⟨y, _, h2⟩ := h.rows t.1 t.2 (getS_at h.sorted ht).1
  exact h2.size
set_option maxHeartbeats 2000000 in
theorem sameSt32 {N : Nat} {w : World} {s m r : Nat} (h : Few N w s m r) (hN : N ≤ 100) : Calls Tryz.prog 32 #[.pointer (some ⟨s, 0, none⟩), .pointer (some ⟨r, 0, none⟩)] w fun e w' => e = .returned (.bool true) ∧ Below w.heap.size w w' := by
  obtain ⟨E, σ, hT, hE, hσ⟩ := h
  have k70 := rnames70 hT.rs (by omega)
  have HT : Hid (Two w s m r E σ) := hT
  have HE : Hid (E.length ≤ 100 ∧ σ.length ≤ 100) := ⟨by omega, by omega⟩
  clear hT hE hσ hN
  go_enter Tryz.func32, Tryz.ntmps32
  go_wp2_with (go_at_call 70; (with_reducible refine k70.mono ?_); rintro e w1 ⟨p1, c1, rfl, hO1, B1⟩; have HB1 : Hid (Below w.heap.size w w1) := B1; clear B1)
  obtain ⟨M, hM⟩ : ∃ M, (nms σ).length = M := ⟨_, rfl⟩
  have HM : Hid ((nms σ).length = M) := hM
  have HMσ : Hid (σ.length = M) := by show _ = _; rw [← hM]; simp [nms]
  have hM1 : M ≤ 100 := by have := HMσ.out; have := HE.out.2; omega
  rw [hM] at hO1 ⊢
  clear k70
  go_loopw [6] (fun fi wr => ∃ (k : Nat), fi = .int .i64 (k : Int) ∧ Hid (k ≤ M) ∧ Hid (Below w1.heap.size w1 wr)) (fun fi _ => ((M : Int) - intOf fi).toNat)
  case atStart => exact ⟨0, rfl, Nat.zero_le _, Below.refl _ _⟩
  case round =>
    obtain ⟨k, rfl, hk, hB⟩ := hrel
    by_cases hkM : k < M
    · have hki : (k : Int) < (M : Int) := by omega
      have hk0 : (0 : Int) ≤ (k : Int) := by omega
      obtain ⟨t, ht⟩ : ∃ t, σ[k]? = some t := ⟨_, List.getElem?_eq_getElem (by rw [HMσ.out]; exact hkM)⟩
      have hn : (nms σ)[k]? = some t.1 := by unfold nms; rw [List.getElem?_map, ht]; rfl
      obtain ⟨g, rfl, _, _⟩ := ownS_at hO1.out hn
      have HS : Hid (∀ W, Below w1.heap.size w1 W → W.cell? ⟨g, k, none⟩ = some (.string t.1)) := fun W q => by
        obtain ⟨g', e', _, h1⟩ := ownS_at (hO1.out.below q) hn
        cases e'
        exact h1
      have H36 : Hid (∀ W, Below w1.heap.size w1 W → Calls Tryz.prog 36 #[.pointer (some ⟨s, 0, none⟩), .string t.1] W (RPost W t.2)) := fun W q => (HT.out.below (bmore HB1.out q)).get ht
      have H37 : Hid (∀ W, Below w1.heap.size w1 W → Calls Tryz.prog 37 #[.pointer (some ⟨r, 0, none⟩), .string t.1] W (RPost W t.2)) := fun W q => (HT.out.below (bmore HB1.out q)).rget HE.out.2 ht
      have HZ : Hid (t.2.length ≤ 1000 ∧ ∀ r ∈ t.2, r.1.length ≤ 1000) := HT.out.size ht
      obtain ⟨n, l⟩ := t
      simp only at HS H36 H37 HZ
      have KW : Below w1.heap.size w1 wr.drew := hB.out.drew
      have hS0 := HS.out _ KW
      have k36 := H36.out _ KW
      clear ht hn
      go_wp2_with fail
      go_region_held3 (fun W => W.cell? ⟨g, k, none⟩ = some (.string n)) (first | exact hS0 | exact HS.out _ KW) (first
        | (go_at_call 36; (with_reducible refine k36.mono ?_); rintro e y1 ⟨p3, c3, x3, rfl, r3, e3, C1⟩; replace KW := bmore KW C1; have k37 := H37.out _ KW; clear C1 k36 hS0)
        | (go_at_call 37; (with_reducible refine k37.mono ?_); rintro e y2 ⟨p4, c4, x4, rfl, r4, e4, C1⟩; replace KW := bmore KW C1; have k9 := same9 r3 C1 r4 e3 e4 (by have := HZ.out.1; omega) HZ.out.2; clear C1 k37)
        | (go_at_call 9; (with_reducible refine k9.mono ?_); rintro e y3 ⟨rfl, C1⟩; replace KW := bmore KW C1; clear C1 k9))
      go_wp2_with fail
      go_roundw
      case rel => exact ⟨k + 1, by simp, by show _ ≤ _; omega, KW⟩
      case measure => simp only [intOf]; omega
    · have hki : ¬ (k : Int) < (M : Int) := by omega
      have k41 := names41 k75 (HT.out.below (bmore HB1.out hB.out)).sm (by have := HE.out.1; omega) HT.out.sorted HT.out.keys
      have HO1 : Hid (OwnS w1 w.heap.size (.slice p1 M c1) (nms σ)) := hO1.out
      clear hO1
      go_wp2_with (first
        | (go_at_call 41; (with_reducible refine k41.mono ?_); rintro e y1 ⟨p3, c3, rfl, hO3, C1⟩; have HC1 : Hid (Below wr.heap.size wr y1) := C1; have k71 := sameTexts71 (zs := nms σ) hO3.out (c' := c1) (a' := p1) (by rw [HM.out]; exact (HO1.out.below hB.out).below C1) (by rw [HM.out]; omega); rw [HM.out] at k71 ⊢; clear C1 hO3)
        | (go_at_call 71; (with_reducible refine k71.mono ?_); rintro e y2 ⟨rfl, C2⟩))
      go_ret
      exact ⟨rfl, bmore (bmore (bmore HB1.out hB.out) HC1.out) C2⟩
end Go.Proofs.YtpagnphabchfcaaGreat
