/- The law RowsStates. -/
import Derived.Test.YtpagnphabchfcaaGreatTn
import Derived.Test.YtpagnphabchfcaaGreatQy
namespace Go.Proofs.YtpagnphabchfcaaGreat
open Go.RowKit Go.Shelf
set_option maxRecDepth 100000
/-- Both answer as many rows. -/
theorem Two.gets {w : World} {s m r : Nat} {E : List (List UInt8 × Value)} {σ : List Tab} (h : Two w s m r E σ) (hσ : σ.length ≤ 100) (n : ByteArray) (hn : n.size ≤ maxLen) :
    ∃ l, (∀ W, Below w.heap.size w W → Calls Tryz.prog 36 #[.pointer (some ⟨s, 0, none⟩), .string n] W (RPost W l)) ∧ ∀ W, Below w.heap.size w W → Calls Tryz.prog 37 #[.pointer (some ⟨r, 0, none⟩), .string n] W fun e w' => ∃ p c, e = .returned (.slice p l.length c) ∧ Below W.heap.size W w' := by
  by_cases hx : n ∈ nms σ
  · obtain ⟨t, ht, rfl⟩ := List.mem_map.1 hx
    obtain ⟨i, hi, he⟩ := List.getElem_of_mem ht
    have hi' : σ[i]? = some t := List.getElem?_eq_some_iff.2 ⟨hi, he⟩
    refine ⟨t.2, fun W q => (h.below q).get hi', fun W q => ((h.below q).rget hσ hi').mono ?_⟩
    rintro e w' ⟨p, c, es, rfl, _, h2, h3⟩
    exact ⟨p, c, by rw [← h2.out]; simp [rws], h3⟩
  · have hf : fnd E (bs n) = none := by
      cases q : fnd E (bs n) with
      | none => rfl
      | some y => exact absurd ((h.keys n).1 (by rw [q]; rfl)) hx
    refine ⟨[], fun W q => get36_none (h.below q).sm hn hf, fun W q => (rget37_none (h.below q).rs hσ (fun t ht e => hx (List.mem_map.2 ⟨t, ht, e⟩))).mono ?_⟩
    rintro e w' ⟨rfl, h3⟩
    exact ⟨none, 0, rfl, h3⟩
theorem eqS_refl (σ : List Tab) : eqS σ σ = true := eqS_t rfl
set_option maxHeartbeats 4000000 in
theorem rowsStates5 {w : World} {v v' : Value} {xs0 xs : List IEl} (h0 : IN w v xs0) (h : IN w v' xs) : Calls Tryz.prog 5 #[v, v'] w fun e w' => e = .returned (.bool true) ∧ Below w.heap.size w w' := by
  have k31 := play31 h0
  obtain ⟨a0, c0, rfl⟩ := h0.form
  obtain ⟨a, c, rfl⟩ := h.form
  obtain ⟨N0, hN0⟩ : ∃ N, xs0.length = N := ⟨_, rfl⟩
  have HV : Hid (IN w (.slice a xs.length c) xs) := h
  rw [hN0] at k31 ⊢
  generalize xs.length = N at *
  clear h hN0 h0
  go_enter Tryz.func5, Tryz.ntmps5
  go_wp2_with (first
    | (go_at_call 31; (with_reducible refine k31.mono ?_); rintro e w1 ⟨sa, ma, ra, rfl, hF1, _, B1⟩; have HB1 : Hid (Below w.heap.size w w1) := B1; have k31b := play31 (HV.out.below B1); clear B1 k31)
    | (go_at_call 31; (with_reducible refine k31b.mono ?_); rintro e w2 ⟨sb, mb, rb, rfl, hF2, _, B2⟩; have HB2 : Hid (Below w.heap.size w w2) := bmore HB1.out B2; have HF1 : Hid (Few 10 w2 sa ma ra) := hF1.out.below B2; have k8 := live13 w2; clear B2 k31b hF1)
    | (go_at_call 8; (with_reducible refine k8.mono ?_); rintro e w3 ⟨rfl, B3⟩; have HB3 : Hid (Below w.heap.size w w3) := bmore HB2.out B3; obtain ⟨E, σ, hT, hE, hσ⟩ := HF1.out.below B3; obtain ⟨E', τ, hT', hE', hσ'⟩ := hF2.out.below B3; have HT : Hid (Two w3 sa ma ra E σ) := hT; have HT' : Hid (Two w3 sb mb rb E' τ) := hT'; have HL : Hid (E.length ≤ 10 ∧ σ.length ≤ 10 ∧ E'.length ≤ 10 ∧ τ.length ≤ 10) := ⟨hE, hσ, hE', hσ'⟩; have k32 := sameSt32 (N := 10) ⟨E, σ, hT, hE, hσ⟩ (by omega); clear B3 k8 hT hT' hE hσ hE' hσ' HF1 hF2)
    | (go_at_call 32; (with_reducible refine k32.mono ?_); rintro e w4 ⟨rfl, B4⟩; have K := B4; have k33 := sameS33 (HT.out.below K) (HT'.out.below K); obtain ⟨bb, hbb⟩ : ∃ bb, eqS σ τ = bb := ⟨_, rfl⟩; have HBB : Hid (eqS σ τ = bb) := hbb; rw [hbb] at k33; clear B4 k32 hbb)
    | (go_at_call 33; (with_reducible refine k33.mono ?_); rintro e w5 ⟨rfl, B5⟩; replace K := bmore K B5; have k34 := rsame34 (HT.out.below K) (HT'.out.below K) (by have := HL.out.2.1; omega) (by have := HL.out.2.2.2; omega); rw [HBB.out] at k34; clear B5 k33)
    | (go_at_call 34; (with_reducible refine k34.mono ?_); rintro e w6 ⟨rfl, B6⟩; replace K := bmore K B6; have k35 := fork35 (HT.out.below K).sm; have hbe : (bb == bb) = true := (by simp); clear B6 k34)
    | (go_at_call 35; (with_reducible refine k35.mono ?_); rintro e w7 ⟨sc, mc, rfl, hSM, _, _, B7⟩; have KO := K; replace K := bmore K B7; have k33b := sameS33 (HT.out.below K) ((HT.out.below KO).fork B7 hSM ((HT.out.below K).rs)); rw [eqS_refl] at k33b; clear B7 k35 hSM KO)
    | (go_at_call 33; (with_reducible refine k33b.mono ?_); rintro e w8 ⟨rfl, B8⟩; replace K := bmore K B8; clear B8 k33b)
    | (go_at_call 33; (with_reducible refine (sameS33_nil).mono ?_); rintro e w9 ⟨rfl, rfl⟩; obtain ⟨l, q1, q2⟩ := HT.out.gets (by have := HL.out.2.1; omega) ⟨#[110, 111, 32, 115, 117, 99, 104, 32, 116, 97, 98, 108, 101]⟩ (by unfold maxLen; decide); have k36 := q1 _ K; have Q2 : Hid _ := q2; clear q1 q2)
    | (go_at_call 36; (with_reducible refine k36.mono ?_); rintro e w10 ⟨p3, c3, x3, rfl, _, e3, B10⟩; replace K := bmore K B10; have k37 := Q2.out _ K; have hxl : l.length = x3.length := (by rw [← e3.out]; simp [rws]); rw [hxl] at k37; clear B10 k36 hxl)
    | (go_at_call 37; (with_reducible refine k37.mono ?_); rintro e w11 ⟨p4, c4, rfl, B11⟩; replace K := bmore K B11; clear B11 k37))
  go_ret
  exact ⟨rfl, bmore HB3.out K⟩
end Go.Proofs.YtpagnphabchfcaaGreat
