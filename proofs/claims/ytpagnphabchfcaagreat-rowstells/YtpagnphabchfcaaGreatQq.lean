/- The document's Keys. -/
import Derived.Test.YtpagnphabchfcaaGreatQp
namespace Go.Proofs.YtpagnphabchfcaaGreat
open Go.RowKit Go.Shelf
set_option maxRecDepth 100000
set_option maxHeartbeats 1000000 in
theorem rkeys23 {w : World} {X : Nat → Prop} {v : Value} {es : List El} (h : RL w X v es) (hl : es.length ≤ 100) (hv : ∀ e ∈ es, e.2.1.length ≤ 1000) :
    Calls Tryz.prog 23 #[v] w (KPost w (firsts (rws es))) := by
  have k11 := rsorted11 h (by omega) hv
  have HRS : Hid (Rise (sortR (rws es))) := sortR_rise _
  have HSn : Hid ((sortR (rws es)).length ≤ 100) := by show _ ≤ _; rw [sortR_len]; simpa [rws] using hl
  have HFF : Hid (∀ x, x ∈ firsts (sortR (rws es)) ↔ x ∈ firsts (rws es)) := fun x => firsts_perm (sortR_perm _) x
  obtain ⟨pa, c, rfl⟩ := h.form
  clear h hl hv
  generalize sortR (rws es) = S at *
  go_enter Tryz.func23, Tryz.ntmps23
  go_wp2_with (go_at_call 11; (with_reducible refine k11.mono ?_); rintro e w5 ⟨v5, x5, rfl, o5, e5, B5⟩; obtain ⟨p5, c5, hf5⟩ := (OwnR.rl o5).form; subst hf5; have HO5 : Hid (RL w5 (fun b => w5.heap.size ≤ b) (.slice p5 x5.length c5) x5) := RL.old (OwnR.rl o5); have HE5 : Hid (rws x5 = S) := e5; have HB5 : Hid (Below w.heap.size w w5) := B5; clear o5 e5 B5)
  obtain ⟨M, hM⟩ : ∃ M, x5.length = M := ⟨_, rfl⟩
  have HM : Hid (x5.length = M) := hM
  have HSM : Hid (S.length = M) := by show _ = _; rw [← HE5.out, ← hM]; simp [rws]
  have hM1 : M ≤ 100 := by have := HSn.out; have := HSM.out; omega
  rw [hM]
  rw [hM] at HO5
  clear hM k11
  go_loopw [3, 5] (fun fo fi wr => ∃ (i : Nat) (K : List Vt), fi = .int .i64 (i : Int) ∧ Hid (i ≤ M ∧ K.length ≤ i) ∧ Hid (OwnV wr w5.heap.size fo K) ∧ Hid (KeysOf (firsts (S.take i)) K) ∧ Hid (Below w5.heap.size w5 wr)) (fun _ fi _ => ((M : Int) - intOf fi).toNat)
  case atStart => exact ⟨0, [], rfl, ⟨Nat.zero_le _, Nat.le_refl _⟩, OwnV.nil _ _, ⟨List.Pairwise.nil, fun x => by simp [firsts]⟩, Below.refl _ _⟩
  case round =>
    obtain ⟨i, K, rfl, hi, hO, hK, hB⟩ := hrel
    by_cases hiM : i < M
    · have hii : (i : Int) < (M : Int) := by omega
      have hi0 : (0 : Int) ≤ (i : Int) := by omega
      obtain ⟨e, he⟩ : ∃ e, x5[i]? = some e := ⟨_, List.getElem?_eq_getElem (by rw [HM.out]; exact hiM)⟩
      obtain ⟨g, o, rfl, _, _, _⟩ := (RL.below HO5.out hB.out).get he
      have HC : Hid (∀ W, Below wr.heap.size wr W → W.cell? ⟨g, o + i * 3, none⟩ = some e.1) := fun W kk => (RL.at3 (RL.below HO5.out (bmore hB.out kk)) he).1
      have HSV : Hid (SV wr (fun x => w5.heap.size ≤ x) e.1 e.2.1) := (HO5.out.vals e (List.mem_of_getElem? he)).below hB.out
      have HSi : Hid (S[i]? = some e.2) := by show _ = _; rw [← HE5.out, rws, List.getElem?_map, he]; rfl
      have HTk : Hid (firsts (S.take (i + 1)) = firsts (S.take i) ++ e.2.1.head?.toList) := firsts_take HSi.out
      have HLe : Hid (∀ y, e.2.1.head? = some y → ∀ x ∈ firsts (S.take i), cmpT y x ≠ -1) := fun y hy => firsts_le HRS.out HSi.out hy
      have hnw : ∀ q, Below wr.heap.size wr (wr.drewN q) := fun q => ⟨rfl, rfl, rfl, Nat.le_refl _, fun _ _ => rfl⟩
      obtain ⟨sv, vs, f, t⟩ := e
      simp only at HC HSV HTk HLe
      obtain ⟨pb, cb, rfl⟩ := SV.form HSV.out
      obtain ⟨p3, c3, rfl⟩ := hO.out.form
      have y0 := fun q => HC.out _ (hnw q)
      clear he HSi
      cases vs with
      | nil =>
        have HK' : Hid (KeysOf (firsts (S.take (i + 1))) K) := by show KeysOf _ _; rw [HTk.out]; simp; exact hK.out
        simp only [List.length_nil] at *
        go_wp2_with fail
        go_big_quiet (fail)
        have Ky : Below wr.heap.size wr (wr.drewN nq) := hnw nq
        have HOz : Hid _ := OwnV.below hO.out Ky
        have HBz : Hid _ := bmore hB.out Ky
        generalize wr.drewN nq = wz at *
        clear y0 hnw Ky
        go_wp2_with fail
        go_roundw
        case rel => exact ⟨i + 1, K, by simp, ⟨by omega, by have := hi.out; omega⟩, HOz.out, HK'.out, HBz.out⟩
        case measure => simp only [intOf]; omega
      | cons y ys =>
        have HTy : Hid (firsts (S.take (i + 1)) = firsts (S.take i) ++ [y]) := by show _ = _; rw [HTk.out]; simp
        have HLy : Hid (∀ x ∈ firsts (S.take i), cmpT y x ≠ -1) := HLe.out y rfl
        obtain ⟨gv, ov, rfl, _⟩ := SV.first HSV.out
        have HQ : Hid (∀ W, Below wr.heap.size wr W → W.cell? ⟨gv, ov, none⟩ = some (.int .u8 y.1) ∧ W.cell? ⟨gv, ov + 1, none⟩ = some (.int .i64 y.2.1) ∧ W.cell? ⟨gv, ov + 2, none⟩ = some (.string y.2.2)) := fun W kk => by
          obtain ⟨g2, o2, e2, r0, r1, r2⟩ := SV.first (SV.below HSV.out kk)
          simp only [Option.some.injEq, Addr.mk.injEq] at e2
          obtain ⟨rfl, rfl, _⟩ := e2
          exact ⟨r0, r1, r2⟩
        have a0 := fun q => (HQ.out _ (hnw q)).1
        have a1 := fun q => (HQ.out _ (hnw q)).2.1
        have a2 := fun q => (HQ.out _ (hnw q)).2.2
        have hpos : (0 : Int) < (((y :: ys).length : Nat) : Int) := by simp only [List.length_cons]; omega
        have hposd : decide ((0 : Int) < (((y :: ys).length : Nat) : Int)) = true := decide_eq_true hpos
        have hpos2 : 0 < (y :: ys).length := by simp
        have hpos3 : decide (0 < (y :: ys).length) = true := decide_eq_true hpos2
        generalize hLn : (y :: ys).length = Ln at *
        clear hLn HTk HLe
        rcases List.eq_nil_or_concat K with hKe | ⟨K', z, hKe0⟩
        · subst hKe
          have HK' : Hid (KeysOf (firsts (S.take (i + 1))) [y]) := by show KeysOf _ _; rw [HTy.out]; exact hK.out.snoc HLy.out (by simp)
          simp only [List.length_nil] at *
          go_wp2_with fail
          go_big_quiet (fail)
          have Ky : Below wr.heap.size wr (wr.drewN nq) := hnw nq
          have z0 := HC.out _ Ky
          obtain ⟨b0, b1, b2⟩ := HQ.out _ Ky
          have HApp := ownV_app1 (y := y) (OwnV.below hO.out Ky) (bmore hB.out Ky) (by simp) (wr.drewN nq).heap.size rfl
          generalize wr.drewN nq = wz at *
          clear y0 a0 a1 a2 hnw Ky
          go_wp2_with (at_builtin; refine wpList_append_ex (by rfl) (.tmp 42) (.tmp 50) 35 (by rfl) _ _ (by rfl) (by rfl) HApp ?_; rintro v7 w7 ⟨hO7, hB7⟩)
          go_roundw
          case rel => exact ⟨i + 1, [y], by simp, ⟨by omega, by simp⟩, hO7.out, HK'.out, hB7.out⟩
          case measure => simp only [intOf]; omega
        · have hKe : K = K' ++ [z] := by rw [hKe0]; simp
          clear hKe0
          subst hKe
          obtain ⟨n', hn'⟩ : ∃ n', K'.length = n' := ⟨_, rfl⟩
          have hKn : (K' ++ [z]).length = n' + 1 := by simp [hn']
          have hgz : (K' ++ [z])[n']? = some z := by rw [← hn']; simp
          obtain ⟨L3, hL3⟩ : ∃ L3, (K' ++ [z]).length = L3 := ⟨_, rfl⟩
          have HL3 : Hid (L3 = n' + 1 ∧ n' + 1 ≤ i) := ⟨by omega, by have := hi.out; omega⟩
          have hz1 : ¬ (L3 : Int) = 0 := by omega
          have hz2 : ((L3 : Int) == 0) = false := by simpa using hz1
          have hz3 : decide ((L3 : Int) = 0) = false := decide_eq_false hz1
          have hz4 : ¬ L3 = 0 := by omega
          have hz5 : (L3 == 0) = false := by simpa using hz4
          have hn0 : (0 : Int) ≤ (n' : Int) := by omega
          have hnL : (n' : Int) < (L3 : Int) := by omega
          have hsub : IntKind.i64.wrap ((L3 : Int) - 1) = (n' : Int) := by rw [wrap_small _ (by omega) (by have := HL3.out; omega)]; omega
          have HOw : Hid (OwnV wr w5.heap.size (.slice p3 (K' ++ [z]).length c3) (K' ++ [z])) := hO.out
          rw [hL3]
          rw [hL3] at HOw
          obtain ⟨g3, hg3⟩ : ∃ g3, p3 = some ⟨g3, 0, none⟩ := by
            obtain ⟨_, ⟨h, h0⟩ | ⟨g3, cap, cur, h, _⟩⟩ := HOw.out
            · omega
            · simp only [Value.slice.injEq] at h; exact ⟨g3, h.1⟩
          subst hg3
          have HZ : Hid (∀ W, Below wr.heap.size wr W → W.cell? ⟨g3, n' * 3, none⟩ = some (.int .u8 z.1) ∧ W.cell? ⟨g3, n' * 3 + 1, none⟩ = some (.int .i64 z.2.1) ∧ W.cell? ⟨g3, n' * 3 + 2, none⟩ = some (.string z.2.2)) := fun W kk => ownV_at (OwnV.below HOw.out kk) hgz
          have d0 := fun q => (HZ.out _ (hnw q)).1
          have d1 := fun q => (HZ.out _ (hnw q)).2.1
          have d2 := fun q => (HZ.out _ (hnw q)).2.2
          have hneq := neq54 z y
          have HYes : Hid (z ≠ y → KeysOf (firsts (S.take (i + 1))) ((K' ++ [z]) ++ [y])) := fun q => by rw [HTy.out]; exact hK.out.snoc HLy.out (last_new hK.out HLy.out q)
          have HNo : Hid (z = y → KeysOf (firsts (S.take (i + 1))) (K' ++ [z])) := fun q => by rw [HTy.out]; exact hK.out.again (by rw [← q]; simp)
          have HDz : Hid (decide (z = y) = true ↔ z = y) := decide_eq_true_iff
          generalize decide (z = y) = bb at *
          clear hO hL3 hKn hn' hgz
          go_wp2_with fail
          go_big_quiet (fail)
          have Ky : Below wr.heap.size wr (wr.drewN nq) := hnw nq
          have z0 := HC.out _ Ky
          obtain ⟨b0, b1, b2⟩ := HQ.out _ Ky
          have HOz : Hid _ := OwnV.below HOw.out Ky
          have HBz : Hid _ := bmore hB.out Ky
          have HApp := ownV_app1 (y := y) HOz.out HBz.out (by rw [List.length_append]; simp; have := HL3.out; have := hi.out; simp at this; omega) (wr.drewN nq).heap.size rfl
          generalize wr.drewN nq = wz at *
          clear y0 a0 a1 a2 d0 d1 d2 hnw Ky hneq
          cases bb
          · have HK' : Hid _ := HYes.out (fun q => by have := HDz.out.2 q; cases this)
            clear HYes HNo HDz
            go_wp2_with (at_builtin; refine wpList_append_ex (by rfl) (.tmp 42) (.tmp 50) 35 (by rfl) _ _ (by rfl) (by rfl) HApp ?_; rintro v7 w7 ⟨hO7, hB7⟩)
            go_roundw
            case rel => exact ⟨i + 1, (K' ++ [z]) ++ [y], by simp, ⟨by omega, by have := hi.out; simp at this ⊢; omega⟩, hO7.out, HK'.out, hB7.out⟩
            case measure => simp only [intOf]; omega
          · have HK' : Hid _ := HNo.out (HDz.out.1 rfl)
            clear HYes HNo HDz HApp
            go_wp2_with fail
            go_roundw
            case rel => exact ⟨i + 1, K' ++ [z], by simp, ⟨by omega, by have := hi.out; omega⟩, HOz.out, HK'.out, HBz.out⟩
            case measure => simp only [intOf]; omega
    · have hki : ¬ (i : Int) < (M : Int) := by omega
      have HF : Hid (KeysOf (firsts (rws es)) K) := by
        have h1 := hK.out
        rw [List.take_of_length_le (by rw [HSM.out]; omega)] at h1
        exact ⟨h1.strict, fun x => (h1.mem x).trans (HFF.out x)⟩
      obtain ⟨p3, c3, rfl⟩ := hO.out.form
      go_wp2
      go_ret
      exact ⟨p3, c3, K, rfl, OwnV.sv hO.out (fun _ _ => id), HF.out, by have := hi.out; show _ ≤ _; omega, bmore HB5.out hB.out⟩
theorem sameVals21 {w : World} {p p' : Option Addr} {c c' : Nat} {K : List Vt} (h : SV w (fun _ => False) (.slice p K.length c) K) (h' : SV w (fun _ => False) (.slice p' K.length c') K) (hl : K.length ≤ 1000) :
    Calls Tryz.prog 21 #[.slice p K.length c, .slice p' K.length c'] w fun e w' => e = .returned (.bool true) ∧ Below w.heap.size w w' := by
  have k := same12 h h' (by omega) (by omega)
  rw [decide_eq_true rfl] at k
  clear h h' hl
  generalize K.length = n at *
  go_enter Tryz.func21, Tryz.ntmps21
  go_wp2_with (go_at_call 56; (with_reducible refine k.mono ?_); rintro e w1 ⟨rfl, B1⟩)
  go_ret
  exact ⟨rfl, B1⟩
end Go.Proofs.YtpagnphabchfcaaGreat
