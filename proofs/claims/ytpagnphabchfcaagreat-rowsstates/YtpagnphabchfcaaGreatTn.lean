/- Whether two states are the same: the document's. -/
import Derived.Test.YtpagnphabchfcaaGreatTm
namespace Go.Proofs.YtpagnphabchfcaaGreat
open Go.RowKit Go.Shelf
set_option maxRecDepth 100000
theorem rowsG9 {w : World} {v : Value} {l l' : List Rw} {p : Option Addr} {c : Nat} {x : List El} (h : RRow w (fun _ => False) v l) (h' : Hid (RL w (fun _ => False) (.slice p x.length c) x)) (e : Hid (rws x = l')) (hl : l'.length ≤ 1000) (hv : ∀ r ∈ l', r.1.length ≤ 1000) :
    Calls Tryz.prog 9 #[v, .slice p x.length c] w fun e w' => e = .returned (.bool (decide (l = l'))) ∧ Below w.heap.size w w' := by
  obtain ⟨es, h1, h2, h3, h4⟩ := h
  have q1 : x.length ≤ 100000 := by have := congrArg List.length e.out; simp [rws] at this; omega
  have := sameRows10 h1 h'.out h4 (rws_vals e.out hv) (by omega) q1
  rw [h2, e.out] at this
  exact this
set_option maxHeartbeats 2000000 in
theorem rsame34 {w : World} {s m r s' m' r' : Nat} {E E' : List (List UInt8 × Value)} {σ τ : List Tab} (h : Two w s m r E σ) (h' : Two w s' m' r' E' τ) (hσ : σ.length ≤ 100) (hτ : τ.length ≤ 100) :
    Calls Tryz.prog 34 #[.pointer (some ⟨r, 0, none⟩), .pointer (some ⟨r', 0, none⟩)] w fun e w' => e = .returned (.bool (eqS σ τ)) ∧ Below w.heap.size w w' := by
  have k70 := rnames70 h.rs hσ
  have H : Hid (Two w s m r E σ) := h
  have H' : Hid (Two w s' m' r' E' τ) := h'
  have Hτ : Hid (σ.length ≤ 100 ∧ τ.length ≤ 100) := ⟨hσ, hτ⟩
  by_cases hnm : nms σ = nms τ
  · have HE : Hid (nms σ = nms τ) := hnm
    obtain ⟨v0, ns, hb, hN, hT⟩ := h.rs.ex
    obtain ⟨a0, c0, rfl⟩ := hN.form
    obtain ⟨M, hM⟩ : ∃ M, ns.length = M := ⟨_, rfl⟩
    have HM : Hid (ns.length = M) := hM
    have HTM : Hid (σ.length = M) := by show _ = _; rw [← hT, ← hM]; simp [tabs]
    have HTM' : Hid (τ.length = M) := by show _ = _; have := congrArg List.length hnm; simp [nms] at this; rw [← this]; exact HTM.out
    have hM1 : M ≤ 100 := by have := HTM.out; omega
    have HN : Hid (NL w (fun b => b = r) (.slice a0 ns.length c0) ns) := hN
    have HT : Hid (tabs ns = σ) := hT
    have HRb : Hid (∀ W, Below w.heap.size w W → Blk W r [.slice a0 ns.length c0] 93) := fun W k => hb.below k
    rw [hM] at HN HRb
    clear h h' hσ hτ hb hN hT hM hnm
    go_enter Tryz.func34, Tryz.ntmps34
    go_wp2_with (first
      | (go_at_call 70; (with_reducible refine k70.mono ?_); rintro e w1 ⟨p1, c1, rfl, hO1, B1⟩; have HB1 : Hid (Below w.heap.size w w1) := B1; have k70b := rnames70 (H'.out.below B1).rs Hτ.out.2; clear k70 B1)
      | (go_at_call 70; (with_reducible refine k70b.mono ?_); rintro e w2 ⟨p2, c2, rfl, hO2, B2⟩; have HB2 : Hid (Below w.heap.size w w2) := bmore HB1.out B2; have k71 := sameTextsG (hO1.out.below B2) hO2.out (by simp [nms]; have := Hτ.out.1; omega); rw [eqL_t HE.out] at k71; clear k70b B2 hO1 hO2)
      | (go_at_call 71; (with_reducible refine k71.mono ?_); rintro e w3 ⟨rfl, B3⟩; have HB3 : Hid (Below w.heap.size w w3) := bmore HB2.out B3; clear B3 k71))
    go_loopw [5] (fun fi wr => ∃ (i : Nat), fi = .int .i64 (i : Int) ∧ Hid (i ≤ M) ∧ Hid (∀ j, j < i → σ[j]? = τ[j]?) ∧ Hid (Below w.heap.size w wr)) (fun fi _ => ((M : Int) - intOf fi).toNat)
    case atStart => exact ⟨0, rfl, Nat.zero_le _, fun j hj => by omega, HB3.out⟩
    case round =>
      obtain ⟨i, rfl, hi, hG, hB⟩ := hrel
      have y0 := (HRb.out _ hB.out).cell 0
      simp only [List.getElem?_cons_zero] at y0
      by_cases hiM : i < M
      · have hii : (i : Int) < (M : Int) := by omega
        have hi0 : (0 : Int) ≤ (i : Int) := by omega
        obtain ⟨e, he⟩ : ∃ e, ns[i]? = some e := ⟨_, List.getElem?_eq_getElem (by rw [HM.out]; exact hiM)⟩
        obtain ⟨g, o, rfl, _, _, _, _⟩ := (NL.below HN.out hB.out).get he
        have hti : σ[i]? = some (e.1, e.2.2) := by rw [← HT.out]; simp [tabs, he]
        obtain ⟨u, hu⟩ : ∃ u, τ[i]? = some u := ⟨_, List.getElem?_eq_getElem (by rw [HTM'.out]; exact hiM)⟩
        have hue : u.1 = e.1 := by
          have h1 : (nms σ)[i]? = (nms τ)[i]? := by rw [HE.out]
          unfold nms at h1
          rw [List.getElem?_map, List.getElem?_map, hti, hu] at h1
          exact (Option.some.inj h1).symm
        have HS : Hid (∀ W, Below w.heap.size w W → W.cell? ⟨r, 0, none⟩ = some (.slice (some ⟨g, o, none⟩) M c0) ∧ W.cell? ⟨g, o + i * 2, none⟩ = some (.string e.1) ∧ W.cell? ⟨g, o + i * 2 + 1, none⟩ = some e.2.1) := fun W q => ⟨(HRb.out _ q).cell 0, (NL.below HN.out q).at2 he⟩
        have HRR : Hid (∀ W, Below w.heap.size w W → RRow W (fun _ => False) e.2.1 e.2.2) := fun W q => ((HN.out.rows e (List.mem_of_getElem? he)).below q).mono (fun _ _ h => h.elim)
        have H37 : Hid (∀ W, Below w.heap.size w W → Calls Tryz.prog 37 #[.pointer (some ⟨r', 0, none⟩), .string e.1] W (RPost W u.2)) := fun W q => by rw [← hue]; exact (H'.out.below q).rget Hτ.out.2 hu
        have HZ : Hid (u.2.length ≤ 1000 ∧ ∀ r ∈ u.2, r.1.length ≤ 1000) := H'.out.size hu
        have HI : Hid (σ[i]? = some (e.1, e.2.2) ∧ τ[i]? = some (e.1, u.2)) := ⟨hti, by rw [← hue]; exact hu⟩
        obtain ⟨pe, le, ce, hfe⟩ := (HRR.out _ hB.out).form
        obtain ⟨n, sv, l⟩ := e
        obtain ⟨n', l'⟩ := u
        simp only at HS HRR H37 HZ HI hfe
        subst hfe
        have KW : Below w.heap.size w wr.drew := hB.out.drew
        have hS0 := HS.out _ KW
        have k37 := H37.out _ KW
        clear he hti hu hue
        by_cases hll : l = l'
        · go_wp2_with fail
          go_region_held3 (fun W => W.cell? ⟨r, 0, none⟩ = some (.slice (some ⟨g, o, none⟩) M c0) ∧ W.cell? ⟨g, o + i * 2, none⟩ = some (.string n) ∧ W.cell? ⟨g, o + i * 2 + 1, none⟩ = some (.slice pe le ce)) (first | exact hS0 | exact HS.out _ KW) (first
            | (go_at_call 37; (with_reducible refine k37.mono ?_); rintro e y1 ⟨p3, c3, x3, rfl, r3, e3, C1⟩; replace KW := bmore KW C1; have k9 := rowsG9 (HRR.out _ KW) r3 e3 HZ.out.1 HZ.out.2; rw [decide_eq_true hll] at k9; clear C1 k37 hS0)
            | (go_at_call 9; (with_reducible refine k9.mono ?_); rintro e y3 ⟨rfl, C1⟩; replace KW := bmore KW C1; clear C1 k9))
          go_wp2_with fail
          go_roundw
          case rel => exact ⟨i + 1, by simp, by show _ ≤ _; omega, fun j hj => by
            by_cases e : j = i
            · rw [e, HI.out.1, HI.out.2, hll]
            · exact hG.out j (by omega), KW⟩
          case measure => simp only [intOf]; omega
        · go_wp2_with fail
          go_region_held3 (fun W => W.cell? ⟨r, 0, none⟩ = some (.slice (some ⟨g, o, none⟩) M c0) ∧ W.cell? ⟨g, o + i * 2, none⟩ = some (.string n) ∧ W.cell? ⟨g, o + i * 2 + 1, none⟩ = some (.slice pe le ce)) (first | exact hS0 | exact HS.out _ KW) (first
            | (go_at_call 37; (with_reducible refine k37.mono ?_); rintro e y1 ⟨p3, c3, x3, rfl, r3, e3, C1⟩; replace KW := bmore KW C1; have k9 := rowsG9 (HRR.out _ KW) r3 e3 HZ.out.1 HZ.out.2; rw [decide_eq_false hll] at k9; clear C1 k37 hS0)
            | (go_at_call 9; (with_reducible refine k9.mono ?_); rintro e y3 ⟨rfl, C1⟩; replace KW := bmore KW C1; clear C1 k9))
          go_wp2_with fail
          go_ret
          have hno : ¬ σ = τ := fun q => by
            have h1 := HI.out.1
            rw [q, HI.out.2] at h1
            simp only [Option.some.injEq, Prod.mk.injEq] at h1
            exact hll h1.2.symm
          exact ⟨by rw [eqS_f hno]; rfl, KW⟩
      · have hii : ¬ (i : Int) < (M : Int) := by omega
        go_wp2
        go_ret
        have he : σ = τ := List.ext_getElem? fun j => by
          by_cases hj : j < i
          · exact hG.out j hj
          · rw [List.getElem?_eq_none (by rw [HTM.out]; omega), List.getElem?_eq_none (by rw [HTM'.out]; omega)]
        exact ⟨by rw [eqS_t he]; rfl, hB.out⟩
  · have HE : Hid (¬ nms σ = nms τ) := hnm
    clear h h' hσ hτ hnm
    go_enter Tryz.func34, Tryz.ntmps34
    go_wp2_with (first
      | (go_at_call 70; (with_reducible refine k70.mono ?_); rintro e w1 ⟨p1, c1, rfl, hO1, B1⟩; have HB1 : Hid (Below w.heap.size w w1) := B1; have k70b := rnames70 (H'.out.below B1).rs Hτ.out.2; clear k70 B1)
      | (go_at_call 70; (with_reducible refine k70b.mono ?_); rintro e w2 ⟨p2, c2, rfl, hO2, B2⟩; have HB2 : Hid (Below w.heap.size w w2) := bmore HB1.out B2; have k71 := sameTextsG (hO1.out.below B2) hO2.out (by simp [nms]; have := Hτ.out.1; omega); rw [eqL_f HE.out] at k71; clear k70b B2 hO1 hO2)
      | (go_at_call 71; (with_reducible refine k71.mono ?_); rintro e w3 ⟨rfl, B3⟩; have HB3 : Hid (Below w.heap.size w w3) := bmore HB2.out B3; clear B3 k71))
    go_ret
    exact ⟨by rw [eqS_f (fun q => HE.out (by rw [q]))]; rfl, HB3.out⟩
end Go.Proofs.YtpagnphabchfcaaGreat
