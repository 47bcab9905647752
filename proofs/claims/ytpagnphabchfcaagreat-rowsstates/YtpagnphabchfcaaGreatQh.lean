/- The document's Canon. -/
import Derived.Test.YtpagnphabchfcaaGreatQg
import Derived.Test.YtpagnphabchfcaaGreatJh
namespace Go.Proofs.YtpagnphabchfcaaGreat
open Go.RowKit Go.Shelf
set_option maxRecDepth 100000
theorem endF_is {L : List (List Vt)} {i k : Nat} (hk : k ≤ L.length) (h1 : ∀ j, i ≤ j → j < k → L[j]? = L[i]?) (h2 : k = L.length ∨ L[k]? ≠ L[i]?) : ∀ f j, i ≤ j → j ≤ k → k ≤ j + f → endF L i f j = k
  | 0, j, _, h3, h4 => by unfold endF; omega
  | f + 1, j, h0, h3, h4 => by
    unfold endF
    by_cases e : j = k
    · subst e
      rw [if_neg]
      rintro ⟨h5, h6⟩
      rcases h2 with h2 | h2
      · omega
      · exact h2 h6.symm
    · rw [if_pos ⟨by omega, (h1 j h0 (by omega)).symm⟩]
      exact endF_is hk h1 h2 f (j + 1) (by omega) (by omega) (by omega)
theorem run_snoc {S : List Rw} {i k : Nat} {r : Rw} (hi : i ≤ k) (h : S[k]? = some r) : run S (i, k + 1) = run S (i, k) ++ [r] := by
  unfold run
  simp only
  rw [show k + 1 - i = k - i + 1 by omega, List.take_add_one, List.getElem?_drop, show i + (k - i) = k by omega, h]
  rfl
theorem run_len (S : List Rw) (i k : Nat) : (run S (i, k)).length ≤ k - i := by
  unfold run
  simp only [List.length_take]
  omega
theorem FI.app2 {w w6 : World} {fo sv : Value} {os : List El} {L : List Rw} {vs : List Vt} {f t : Int} (h : FI w w6 fo os L) (hn : L.length ≤ 100000) (hsv : SV w6 (fun b => fo.ownBlock = some b) sv vs) (g : Nat) (hg : w6.heap.size = g) :
    ∃ v7 w7, (Builtin.append_ #[22, 22] 22 #[fo, .slice (some ⟨g, 0, none⟩) 1 1]).run Tryz.prog (w6.alloc (.cells #[sv, .int .i64 f, .int .i64 t] 64)) = .ok v7 w7 ∧ Hid (∃ os', FI w w7 v7 os' (L ++ [(vs, f, t)])) ∧ Hid (∀ b l t, Blk w6 b l t → t ≠ 64 → Blk w7 b l t) := by
  subst hg
  have hal := al3 w6 sv f t
  have nb := blk_new w6 [sv, .int .i64 f, .int .i64 t] 64
  have hB := (bmore h.b hal).size
  obtain ⟨v7, w7, hr7, A7⟩ := OwnR.app (h.own.below hal) (by rw [h.len]; exact hn) hB 22 (gb := w6.heap.size) (c := 1) (e := (sv, vs, f, t)) (SV.below hsv hal) (nb.cell 0) (nb.cell 1) (nb.cell 2)
  refine ⟨v7, w7, hr7, ⟨_, A7.own, ?_, (bmore h.b hal).trans (A7.below (h.own.below hal) hB)⟩, fun b l t hb ht => (hb.below hal).keep (keep_of_grown A7.grown) (ownR_ne (h.own.below hal) (hb.below hal) ht)⟩
  rw [← h.rows]
  simp [rws]
theorem spOwn_blk {w w' : World} {B : Nat} {v : Value} {xs : List (Int × Int)} (h : Sp.Own w B v xs) (hk : ∀ b l t, Blk w b l t → t ≠ 64 → Blk w' b l t) : Sp.Own w' B v xs := by
  obtain ⟨hl, h | ⟨g, cap, cur, rfl, hg, hblk, r⟩⟩ := h
  · exact ⟨hl, .inl h⟩
  · exact ⟨hl, .inr ⟨g, cap, cur, rfl, hg, hk g cur.toList 39 hblk (by decide), r⟩⟩
theorem bcc {w w' : World} {b o : Nat} (k : Below w.heap.size w w') (hb : b < w.heap.size) : w'.cell? ⟨b, o, none⟩ = w.cell? ⟨b, o, none⟩ := (Keep.of (F := fun _ => False) k).cell hb id
theorem spOwn_below {w w' : World} {B : Nat} {v : Value} {xs : List (Int × Int)} (h : Sp.Own w B v xs) (k : Below w.heap.size w w') : Sp.Own w' B v xs := owns_keep h (fun j hj => k.block j (World.ownsRow.lt h j hj).2)
/-- Values that are copied onto an empty list. -/
theorem vals_copy {wr : World} {X : Nat → Prop} {sv : Value} {vs : List Vt} (h : SV wr X sv vs) (hl : vs.length ≤ 1000) :
    ∃ v7 w7, (Builtin.append_ #[35, 35] 35 #[.slice (some ⟨wr.heap.size, 0, none⟩) 0 0, sv]).run Tryz.prog (wr.alloc (.cells #[] 25)).drew = .ok v7 w7 ∧ Hid (SV w7 (fun b => b < wr.heap.size) v7 vs) ∧ Hid (Below wr.heap.size wr w7) := by
  have hA := al wr (.cells #[] 25)
  have hD : Below (wr.alloc (.cells #[] 25)).heap.size (wr.alloc (.cells #[] 25)) (wr.alloc (.cells #[] 25)).drew := (Below.refl _ _).drew
  obtain ⟨v7, w7, hr, o7, g7⟩ := ownV_apps (OwnV.below (own_build0V wr) hD) (h.below (bmore hA hD)) (by simpa using (by omega : vs.length ≤ 100000)) (bmore hA hD).size
  rw [List.nil_append] at o7
  have hk : Keep (fun b => b = wr.heap.size) wr w7 := ((Keep.of (F := fun b => b = wr.heap.size) (bmore hA hD)).trans (keep_of_grown g7) (fun i _ h => by cases h; rfl))
  exact ⟨v7, w7, hr, OwnV.sv o7 (fun b hb => by omega), hk.below (Nat.le_refl _) (fun i hi => by omega)⟩
set_option maxHeartbeats 2000000 in
theorem rcanon25 {w : World} {X : Nat → Prop} {v : Value} {es : List El} (h : RL w X v es) (hl : es.length ≤ 100) (hv : ∀ e ∈ es, e.2.1.length ≤ 1000) :
    Calls Tryz.prog 25 #[v] w (LPost w (canonR (rws es))) := by
  have k11 := rsorted11 h (by omega) hv
  have HS1 : Hid (∀ r ∈ sortR (rws es), r.1.length ≤ 1000) := sortR_vals (fun r hr => by obtain ⟨e, he, rfl⟩ := List.mem_map.1 hr; exact hv e he)
  have HS2 : Hid ((sortR (rws es)).length ≤ 100) := by show _ ≤ _; rw [sortR_len]; simpa [rws] using hl
  have HCR : Hid (canonR (rws es) = canonG (sortR (rws es)) (cutsF ((sortR (rws es)).map (·.1)) ((sortR (rws es)).map (·.1)).length 0)) := rfl
  have HCL : Hid ((canonR (rws es)).length ≤ 10000) := by have := canon_len (rws es); have h2 : (rws es).length ≤ 100 := by simpa [rws] using hl
                                                          show _ ≤ _; exact Nat.le_trans this (Nat.mul_le_mul h2 h2)
  obtain ⟨pa, c, rfl⟩ := h.form
  clear h hl hv
  generalize sortR (rws es) = S at *
  generalize canonR (rws es) = CR at *
  go_enter Tryz.func25, Tryz.ntmps25
  go_wp2_with (go_at_call 11; (with_reducible refine k11.mono ?_); rintro e w5 ⟨v5, x5, rfl, o5, e5, B5⟩; obtain ⟨p5, c5, hf5⟩ := (OwnR.rl o5).form; subst hf5; have HO5 : Hid (RL w5 (fun b => w5.heap.size ≤ b) (.slice p5 x5.length c5) x5) := RL.old (OwnR.rl o5); have HE5 : Hid (rws x5 = S) := e5; have HB5 : Hid (Below w.heap.size w w5) := B5; clear o5 e5 B5)
  obtain ⟨M, hM⟩ : ∃ M, x5.length = M := ⟨_, rfl⟩
  have HM : Hid (x5.length = M) := hM
  have HSM : Hid (S.length = M) := by show _ = _; rw [← HE5.out, ← hM]; simp [rws]
  have HLM : Hid ((S.map (·.1)).length = M) := by show _ = _; rw [List.length_map]; exact HSM.out
  have hM1 : M ≤ 100 := by have := HS2.out; have := HSM.out; omega
  rw [hM]
  rw [hM] at HO5
  clear hM k11
  go_loopw [4, 5] (fun fo fi wr => ∃ (i f : Nat) (os : List El) (R : List Rw), fi = .int .i64 (i : Int) ∧ Hid (i ≤ M ∧ M ≤ i + f) ∧ Hid (FI w5 wr fo os R) ∧ Hid (R ++ canonG S (cutsF (S.map (·.1)) f i) = CR)) (fun _ fi _ => ((M : Int) - intOf fi).toNat)
  case atStart => exact ⟨0, M, [], [], rfl, ⟨Nat.zero_le _, by omega⟩, FI.nil _, by show _ = _; rw [HCR.out, HLM.out]; rfl⟩
  case round =>
    obtain ⟨i, f, os, R, rfl, hi, hI, hC⟩ := hrel
    by_cases hiM : i < M
    · have hii : (i : Int) < (M : Int) := by omega
      have hi0 : (0 : Int) ≤ (i : Int) := by omega
      obtain ⟨e, he⟩ : ∃ e, x5[i]? = some e := ⟨_, List.getElem?_eq_getElem (by rw [HM.out]; exact hiM)⟩
      obtain ⟨g, o, rfl, _, _, _⟩ := (RL.below HO5.out hI.out.b).get he
      have HCi : Hid (∀ W, Below w5.heap.size w5 W → W.cell? ⟨g, o + i * 3, none⟩ = some e.1) := fun W kk => (RL.at3 (RL.below HO5.out kk) he).1
      have HSVi : Hid (SV w5 (fun x => w5.heap.size ≤ x) e.1 e.2.1) := HO5.out.vals e (List.mem_of_getElem? he)
      have HSi : Hid (S[i]? = some e.2) := by show _ = _; rw [← HE5.out, rws, List.getElem?_map, he]; rfl
      have HLe : Hid (e.2.1.length ≤ 1000) := HS1.out e.2 (List.mem_of_getElem? HSi.out)
      obtain ⟨f', hf⟩ : ∃ f', f = f' + 1 := ⟨f - 1, by have := hi.out; omega⟩
      have HCut : Hid (∀ k, i ≤ k → k ≤ M → (∀ j, i ≤ j → j < k → (S.map (·.1))[j]? = (S.map (·.1))[i]?) → (k = M ∨ (S.map (·.1))[k]? ≠ (S.map (·.1))[i]?) → i < k ∧ M ≤ k + f' ∧ R ++ (joinS ((run S (i, k)).map (·.2))).map (fun s => (e.2.1, s)) ++ canonG S (cutsF (S.map (·.1)) f' k) = CR) := fun k hik hk q1 q2 => by
        have hne : i < k := by
          rcases Nat.lt_or_ge i k with h | h
          · exact h
          · have hki : k = i := by omega
            subst hki
            rcases q2 with q2 | q2
            · omega
            · exact absurd rfl q2
        have hend := endF_is (L := S.map (·.1)) (i := i) (k := k) (by rw [HLM.out]; exact hk) q1 (by rw [HLM.out]; exact q2) (S.map (·.1)).length (i + 1) (by omega) (by omega) (by rw [HLM.out]; omega)
        refine ⟨hne, by have := hi.out; omega, ?_⟩
        have hC' := hC.out
        rw [hf] at hC'
        unfold cutsF at hC'
        rw [if_pos (by rw [HLM.out]; exact hiM), hend] at hC'
        rw [← hC', show ∀ x cs, canonG S (x :: cs) = canonX S x ++ canonG S cs from fun x cs => by simp [canonG], canonX_eq, valsAt_of (v := e.2.1) (by rw [List.getElem?_map, HSi.out]; rfl), List.append_assoc]
      have HVm : Hid ((S.map (·.1))[i]? = some e.2.1) := by show _ = _; rw [List.getElem?_map, HSi.out]; rfl
      have HRl : Hid (R.length ≤ 10000) := by have h1 := congrArg List.length hC.out; rw [List.length_append] at h1; have := HCL.out; show _ ≤ _; omega
      obtain ⟨sv, vs, fv, tv⟩ := e
      simp only at HCi HSVi HLe HCut HVm
      obtain ⟨pi, ci, rfl⟩ := SV.form HSVi.out
      obtain ⟨wa, hwa⟩ : ∃ wa, wa = wr := ⟨_, rfl⟩
      subst hwa
      have HBa : Hid (Below w5.heap.size w5 wa) := hI.out.b
      clear he hf HSi
      go_wp2_with fail
      go_loopw [6, 7] (fun fk fs wr => ∃ (k : Nat), fk = .int .i64 (k : Int) ∧ Hid (i ≤ k ∧ k ≤ M) ∧ Hid (∀ j, i ≤ j → j < k → (S.map (·.1))[j]? = (S.map (·.1))[i]?) ∧ Hid (Sp.Own wr wa.heap.size fs ((run S (i, k)).map (·.2))) ∧ Hid (Below wa.heap.size wa wr)) (fun fk _ _ => ((M : Int) - intOf fk).toNat)
      case atStart => exact ⟨i, rfl, ⟨Nat.le_refl _, by omega⟩, fun j h1 h2 => by omega, by show Sp.Own _ _ _ _; simp [run]; exact Sp.Own.nil _ _, Below.refl _ _⟩
      case round =>
        obtain ⟨k, rfl, hk, hQ, hO, hB⟩ := hrel
        by_cases hkM : k < M
        · have hki : (k : Int) < (M : Int) := by omega
          have hk0 : (0 : Int) ≤ (k : Int) := by omega
          have hkd : decide ((k : Int) < (M : Int)) = true := decide_eq_true hki
          have hkd2 : decide (k < M) = true := decide_eq_true hkM
          obtain ⟨e, he⟩ : ∃ e, x5[k]? = some e := ⟨_, List.getElem?_eq_getElem (by rw [HM.out]; exact hkM)⟩
          have HCk : Hid (∀ W, Below w5.heap.size w5 W → W.cell? ⟨g, o + k * 3, none⟩ = some e.1 ∧ W.cell? ⟨g, o + k * 3 + 1, none⟩ = some (.int .i64 e.2.2.1) ∧ W.cell? ⟨g, o + k * 3 + 2, none⟩ = some (.int .i64 e.2.2.2)) := fun W kk => RL.at3 (RL.below HO5.out kk) he
          have HSVk : Hid (SV w5 (fun x => w5.heap.size ≤ x) e.1 e.2.1) := HO5.out.vals e (List.mem_of_getElem? he)
          have HSk : Hid (S[k]? = some e.2) := by show _ = _; rw [← HE5.out, rws, List.getElem?_map, he]; rfl
          have HLk : Hid (e.2.1.length ≤ 1000) := HS1.out e.2 (List.mem_of_getElem? HSk.out)
          have HVk : Hid ((S.map (·.1))[k]? = some e.2.1) := by show _ = _; rw [List.getElem?_map, HSk.out]; rfl
          have HRn : Hid ((run S (i, k + 1)).map (·.2) = (run S (i, k)).map (·.2) ++ [e.2.2]) := by show _ = _; rw [run_snoc hk.out.1 HSk.out, List.map_append]; rfl
          obtain ⟨sk, vk, fk, tk⟩ := e
          simp only at HCk HSVk HLk HVk HRn
          obtain ⟨pk, ck, rfl⟩ := SV.form HSVk.out
          have HBw : Hid (Below w5.heap.size w5 wr) := bmore HBa.out hB.out
          have HS : Hid (∀ W, Below wr.heap.size wr W → W.cell? ⟨g, o + k * 3, none⟩ = some (.slice pk vk.length ck) ∧ W.cell? ⟨g, o + i * 3, none⟩ = some (.slice pi vs.length ci)) := fun W kk => ⟨(HCk.out W (bmore HBw.out kk)).1, HCi.out W (bmore HBw.out kk)⟩
          have K0 : Below wr.heap.size wr wr.drew := (Below.refl _ _).drew
          have hS0 := HS.out _ K0
          have k56 := same12 (w := wr.drew) (SV.below HSVk.out (bmore HBw.out K0)) (SV.below HSVi.out (bmore HBw.out K0)) (Nat.le_trans HLk.out (by decide)) (Nat.le_trans HLe.out (by decide))
          clear he HSk
          by_cases hq : vk = vs
          · rw [decide_eq_true hq] at k56
            have HQ' : Hid (∀ j, i ≤ j → j < k + 1 → (S.map (·.1))[j]? = (S.map (·.1))[i]?) := fun j h1 h2 => by
              by_cases hj : j < k
              · exact hQ.out j h1 hj
              · rw [show j = k by omega, HVk.out, HVm.out, hq]
            have HLr : Hid (((run S (i, k)).map (·.2)).length ≤ 100000) := by have := run_len S i k; show _ ≤ _; rw [List.length_map]; omega
            clear hq HVk
            go_wp2_with fail
            go_region_held3 (fun W => W.cell? ⟨g, o + k * 3, none⟩ = some (.slice pk vk.length ck) ∧ W.cell? ⟨g, o + i * 3, none⟩ = some (.slice pi vs.length ci)) (first | exact hS0 | exact HS.out _ K1) (first
              | (go_at_call 56; (with_reducible refine k56.mono ?_); rintro e w3 ⟨rfl, B3⟩; have K1 := bmore K0 B3))
            clear hS0
            obtain ⟨_, y1, y2⟩ := HCk.out _ (bmore HBw.out K1)
            have b3 := blk_new w3 [.int .i64 fk, .int .i64 tk] 39
            have HApp : ∃ v7 w7, (Builtin.append_ #[80, 80] 80 #[u7, .slice (some ⟨w3.heap.size, 0, none⟩) 1 1]).run Tryz.prog (w3.alloc (.cells #[.int .i64 fk, .int .i64 tk] 39)) = .ok v7 w7 ∧ Hid (Sp.Own w7 wa.heap.size v7 ((run S (i, k + 1)).map (·.2))) ∧ Hid (Below wa.heap.size wa w7) := by
              have hal := box39 w3 fk tk
              have h1 := spOwn_below hO.out (bmore K1 hal)
              obtain ⟨v7, w7, r1, r2, r3⟩ := Sp.Own.app h1 HLr.out (bmore hB.out (bmore K1 hal)).size 80 (gb := w3.heap.size) (c := 1) (f := fk) (t := tk) (b3.cell 0) (b3.cell 1)
              exact ⟨v7, w7, r1, by show Sp.Own _ _ _ _; rw [HRn.out]; exact r2, (bmore hB.out (bmore K1 hal)).trans r3⟩
            clear K1 K0 b3
            go_wp2_with (at_builtin; refine wpList_append_ex (by rfl) (.tmp 34) (.tmp 40) 80 (by rfl) _ _ (by rfl) (by rfl) HApp ?_; rintro v7 w7 ⟨hO7, hB7⟩)
            go_roundw
            case rel => exact ⟨k + 1, by simp, ⟨by have := hk.out.1; omega, by omega⟩, HQ'.out, hO7.out, hB7.out⟩
            case measure => simp only [intOf]; omega
          · rw [decide_eq_false hq] at k56
            have HX : Hid _ := HCut.out k hk.out.1 hk.out.2 hQ.out (.inr (by rw [HVk.out, HVm.out]; intro z; exact hq (Option.some.inj z)))
            clear hq HVk
            go_wp2_with fail
            go_region_held3 (fun W => W.cell? ⟨g, o + k * 3, none⟩ = some (.slice pk vk.length ck) ∧ W.cell? ⟨g, o + i * 3, none⟩ = some (.slice pi vs.length ci)) (first | exact hS0 | exact HS.out _ K1) (first
              | (go_at_call 56; (with_reducible refine k56.mono ?_); rintro e w3 ⟨rfl, B3⟩; have K1 := bmore K0 B3))
            clear hS0
            have HB3 : Hid (Below wa.heap.size wa w3) := bmore hB.out K1
            have HO3 : Hid (Sp.Own w3 wa.heap.size u7 ((run S (i, k)).map (·.2))) := spOwn_below hO.out K1
            clear K1 K0 HS HCk HSVk
            have HLr : Hid (((run S (i, k)).map (·.2)).length ≤ 100) := by have := run_len S i k; show _ ≤ _; rw [List.length_map]; have := hk.out; omega
            have k64 := Sp.join25 _ _ w3 (Nat.le_trans HLr.out (by decide)) HO3.out.srow
            go_wp2_with (go_at_call 64; (with_reducible refine k64.mono ?_); rintro e w8 ⟨v8, ys, rfl, hc8, hp8, _, o8, B8⟩; have HY : Hid (ys = joinS ((run S (i, k)).map (·.2))) := joinS_eq hc8 hp8; obtain ⟨p8, c8, hf8, _⟩ := Sp.Own.open o8; subst hf8; have HI8 : Hid (FI w5 w8 u4 os R) := FI.below hI.out (bmore HB3.out B8); have HO8 : Hid (Sp.Own w8 w5.heap.size (.slice p8 ys.length c8) ys) := Sp.Own.base o8 (bmore HBa.out HB3.out).size; clear hc8 hp8 o8 B8)
            obtain ⟨J, hJ⟩ : ∃ J, ys.length = J := ⟨_, rfl⟩
            have HJ : Hid (ys.length = J) := hJ
            have hJ1 : J ≤ 1000 := by have h1 := joinS_len ((run S (i, k)).map (·.2)); rw [← HY.out, hJ] at h1; have := HLr.out; omega
            rw [hJ]
            rw [hJ] at HO8
            have HXX : Hid (i < k ∧ M ≤ k + f' ∧ R ++ ys.map (fun s => (vs, s)) ++ canonG S (cutsF (S.map (·.1)) f' k) = CR) := by rw [HY.out]; exact HX.out
            clear hJ k64 HX HO3
            go_loopw [4, 9] (fun fo fn wr => ∃ (n : Nat) (os' : List El), fn = .int .i64 (n : Int) ∧ Hid (n ≤ J) ∧ Hid (FI w5 wr fo os' (R ++ (ys.take n).map (fun s => (vs, s)))) ∧ Hid (Sp.Own wr w5.heap.size (.slice p8 J c8) ys)) (fun _ fn _ => ((J : Int) - intOf fn).toNat)
            case atStart => exact ⟨0, os, rfl, Nat.zero_le _, by show FI _ _ _ _ _; simp; exact HI8.out, HO8.out⟩
            case round =>
              obtain ⟨n, os', rfl, hn, hIn, hOn⟩ := hrel
              by_cases hnJ : n < J
              · have hni : (n : Int) < (J : Int) := by omega
                have hn0 : (0 : Int) ≤ (n : Int) := by omega
                obtain ⟨y, hy⟩ : ∃ y, ys[n]? = some y := ⟨_, List.getElem?_eq_getElem (by rw [HJ.out]; exact hnJ)⟩
                obtain ⟨_, _, hfz, hop⟩ := Sp.Own.open hOn.out
                simp only [Value.slice.injEq] at hfz
                obtain ⟨jb, hjb, _, hjl, hjc⟩ := hop (by rw [HJ.out]; omega)
                have hpj : p8 = some ⟨jb, 0, none⟩ := hfz.1.trans hjb
                subst hpj
                clear hfz hjb
                have hyc := hjc n y hy
                have HTn : Hid (R ++ (ys.take (n + 1)).map (fun s => (vs, s)) = R ++ (ys.take n).map (fun s => (vs, s)) ++ [(vs, y.1, y.2)]) := by show _ = _; rw [List.take_add_one, hy]; simp
                have HBn : Hid (Below w5.heap.size w5 wr) := hIn.out.b
                have HS : Hid (∀ W, Below wr.heap.size wr W → W.cell? ⟨g, o + i * 3, none⟩ = some (.slice pi vs.length ci) ∧ W.cell? ⟨jb, n * 2, none⟩ = some (.int .i64 y.1) ∧ W.cell? ⟨jb, n * 2 + 1, none⟩ = some (.int .i64 y.2)) := fun W kk => ⟨HCi.out W (bmore HBn.out kk), (bcc kk hjl).trans hyc.1, (bcc kk hjl).trans hyc.2⟩
                have HLn : Hid ((R ++ (ys.take n).map (fun s => (vs, s))).length ≤ 100000) := by have := HRl.out; show _ ≤ _; rw [List.length_append, List.length_map, List.length_take]; omega
                have HApp1 := vals_copy (SV.below HSVi.out HBn.out) HLe.out
                have HApp2 : Hid (∀ v7 w7, SV w7 (fun b => b < wr.heap.size) v7 vs → Below wr.heap.size wr w7 → ∃ v8 w8, (Builtin.append_ #[22, 22] 22 #[u4, .slice (some ⟨w7.heap.size, 0, none⟩) 1 1]).run Tryz.prog (w7.alloc (.cells #[v7, .int .i64 y.1, .int .i64 y.2] 64)) = .ok v8 w8 ∧ Hid (∃ os', FI w5 w8 v8 os' (R ++ (ys.take (n + 1)).map (fun s => (vs, s)))) ∧ Hid (Sp.Own w8 w5.heap.size (.slice (some ⟨jb, 0, none⟩) J c8) ys) ∧ Hid (w8.cell? ⟨g, o + i * 3, none⟩ = some (.slice pi vs.length ci) ∧ w8.cell? ⟨jb, n * 2, none⟩ = some (.int .i64 y.1) ∧ w8.cell? ⟨jb, n * 2 + 1, none⟩ = some (.int .i64 y.2))) := fun v7 w7 h1 h2 => by
                  obtain ⟨v8, w8, r1, r2, r3⟩ := FI.app2 (f := y.1) (t := y.2) (FI.below hIn.out h2) HLn.out (SV.mono h1 (fun b _ q => (hIn.out.own.row.lt b q).2)) w7.heap.size rfl
                  have h8 := spOwn_blk (spOwn_below hOn.out h2) r3.out
                  obtain ⟨_, _, hfz, hop⟩ := Sp.Own.open h8
                  simp only [Value.slice.injEq] at hfz
                  obtain ⟨jb', hjb, _, _, hjc⟩ := hop (by rw [HJ.out]; omega)
                  have hpj : (some ⟨jb, 0, none⟩ : Option Addr) = some ⟨jb', 0, none⟩ := hfz.1.trans hjb
                  simp only [Option.some.injEq, Addr.mk.injEq] at hpj
                  obtain ⟨rfl, _, _⟩ := hpj
                  obtain ⟨os8, hos⟩ := r2.out
                  exact ⟨v8, w8, r1, by rw [HTn.out]; exact ⟨os8, hos⟩, h8, HCi.out _ hos.b, hjc n y hy⟩
                have hb0 := fun w => run_build0V w
                have K0 : Below wr.heap.size wr wr.drew := (Below.refl _ _).drew
                have hS0 := HS.out _ K0
                obtain ⟨y1, y2⟩ := y
                simp only at HS hS0 HApp2 hyc
                clear hy hjc hyc hop
                go_wp2_with fail
                go_region_held3 (fun W => W.cell? ⟨g, o + i * 3, none⟩ = some (.slice pi vs.length ci) ∧ W.cell? ⟨jb, n * 2, none⟩ = some (.int .i64 y1) ∧ W.cell? ⟨jb, n * 2 + 1, none⟩ = some (.int .i64 y2)) (first | exact hS0 | (refine HS.out _ ?_; (repeat (first | assumption | exact K9.out | exact Below.refl _ _ | refine Below.drew ?_ | refine bal ?_ _)); done) | exact hS9.out) (first
                  | (refine step_append_ex (by rfl) (.tmp 53) (.tmp 58) 35 (by rfl) _ _ (by rfl) (by rfl) HApp1 ?_; rintro v7 w7 ⟨hS7, K9⟩; obtain ⟨p7, c7, hf7⟩ := SV.form hS7.out; subst hf7; have HApp3 := HApp2.out _ _ hS7.out K9.out)
                  | (refine step_append_ex (by rfl) (.tmp 52) (.tmp 65) 22 (by rfl) _ _ (by rfl) (by rfl) HApp3 ?_; rintro v8 w8 ⟨hI9, hO9, hS9⟩))
                go_wp2_with fail
                go_roundw
                case rel =>
                  obtain ⟨os9, hI9'⟩ := hI9.out
                  exact ⟨n + 1, os9, by simp, by show _ ≤ _; omega, hI9', hO9.out⟩
                case measure => simp only [intOf]; omega
              · have hni : ¬ (n : Int) < (J : Int) := by omega
                have HF : Hid (FI w5 wr u4 os' (R ++ ys.map (fun s => (vs, s)))) := by have h1 := hIn.out; rwa [List.take_of_length_le (by rw [HJ.out]; omega)] at h1
                go_wp2_with fail
                go_roundw
                case rel => exact ⟨k, f', os', _, rfl, ⟨by have := hk.out.2; omega, HXX.out.2.1⟩, HF.out, HXX.out.2.2⟩
                case measure => have := HXX.out.1; simp only [intOf]; omega
        · have hki : ¬ (k : Int) < (M : Int) := by omega
          have hkd : decide ((k : Int) < (M : Int)) = false := decide_eq_false hki
          have hkd2 : decide (k < M) = false := decide_eq_false hkM
          have HX : Hid _ := HCut.out k hk.out.1 hk.out.2 hQ.out (.inl (by have := hk.out; omega))
          go_wp2_with fail
          go_big_quiet (fail)
          have Ky : Below wr.heap.size wr (wr.drewN nq) := ⟨rfl, rfl, rfl, Nat.le_refl _, fun _ _ => rfl⟩
          have HB3 : Hid (Below wa.heap.size wa (wr.drewN nq)) := bmore hB.out Ky
          have HO3 : Hid (Sp.Own (wr.drewN nq) wa.heap.size u7 ((run S (i, k)).map (·.2))) := spOwn_below hO.out Ky
          generalize wr.drewN nq = w3 at *
          have HLr : Hid (((run S (i, k)).map (·.2)).length ≤ 100) := by have := run_len S i k; show _ ≤ _; rw [List.length_map]; have := hk.out; omega
          have k64 := Sp.join25 _ _ w3 (Nat.le_trans HLr.out (by decide)) HO3.out.srow
          go_wp2_with (go_at_call 64; (with_reducible refine k64.mono ?_); rintro e w8 ⟨v8, ys, rfl, hc8, hp8, _, o8, B8⟩; have HY : Hid (ys = joinS ((run S (i, k)).map (·.2))) := joinS_eq hc8 hp8; obtain ⟨p8, c8, hf8, _⟩ := Sp.Own.open o8; subst hf8; have HI8 : Hid (FI w5 w8 u4 os R) := FI.below hI.out (bmore HB3.out B8); have HO8 : Hid (Sp.Own w8 w5.heap.size (.slice p8 ys.length c8) ys) := Sp.Own.base o8 (bmore HBa.out HB3.out).size; clear hc8 hp8 o8 B8)
          obtain ⟨J, hJ⟩ : ∃ J, ys.length = J := ⟨_, rfl⟩
          have HJ : Hid (ys.length = J) := hJ
          have hJ1 : J ≤ 1000 := by have h1 := joinS_len ((run S (i, k)).map (·.2)); rw [← HY.out, hJ] at h1; have := HLr.out; omega
          rw [hJ]
          rw [hJ] at HO8
          have HXX : Hid (i < k ∧ M ≤ k + f' ∧ R ++ ys.map (fun s => (vs, s)) ++ canonG S (cutsF (S.map (·.1)) f' k) = CR) := by rw [HY.out]; exact HX.out
          clear hJ k64 HX HO3
          go_loopw [4, 9] (fun fo fn wr => ∃ (n : Nat) (os' : List El), fn = .int .i64 (n : Int) ∧ Hid (n ≤ J) ∧ Hid (FI w5 wr fo os' (R ++ (ys.take n).map (fun s => (vs, s)))) ∧ Hid (Sp.Own wr w5.heap.size (.slice p8 J c8) ys)) (fun _ fn _ => ((J : Int) - intOf fn).toNat)
          case atStart => exact ⟨0, os, rfl, Nat.zero_le _, by show FI _ _ _ _ _; simp; exact HI8.out, HO8.out⟩
          case round =>
            obtain ⟨n, os', rfl, hn, hIn, hOn⟩ := hrel
            by_cases hnJ : n < J
            · have hni : (n : Int) < (J : Int) := by omega
              have hn0 : (0 : Int) ≤ (n : Int) := by omega
              obtain ⟨y, hy⟩ : ∃ y, ys[n]? = some y := ⟨_, List.getElem?_eq_getElem (by rw [HJ.out]; exact hnJ)⟩
              obtain ⟨_, _, hfz, hop⟩ := Sp.Own.open hOn.out
              simp only [Value.slice.injEq] at hfz
              obtain ⟨jb, hjb, _, hjl, hjc⟩ := hop (by rw [HJ.out]; omega)
              have hpj : p8 = some ⟨jb, 0, none⟩ := hfz.1.trans hjb
              subst hpj
              clear hfz hjb
              have hyc := hjc n y hy
              have HTn : Hid (R ++ (ys.take (n + 1)).map (fun s => (vs, s)) = R ++ (ys.take n).map (fun s => (vs, s)) ++ [(vs, y.1, y.2)]) := by show _ = _; rw [List.take_add_one, hy]; simp
              have HBn : Hid (Below w5.heap.size w5 wr) := hIn.out.b
              have HS : Hid (∀ W, Below wr.heap.size wr W → W.cell? ⟨g, o + i * 3, none⟩ = some (.slice pi vs.length ci) ∧ W.cell? ⟨jb, n * 2, none⟩ = some (.int .i64 y.1) ∧ W.cell? ⟨jb, n * 2 + 1, none⟩ = some (.int .i64 y.2)) := fun W kk => ⟨HCi.out W (bmore HBn.out kk), (bcc kk hjl).trans hyc.1, (bcc kk hjl).trans hyc.2⟩
              have HLn : Hid ((R ++ (ys.take n).map (fun s => (vs, s))).length ≤ 100000) := by have := HRl.out; show _ ≤ _; rw [List.length_append, List.length_map, List.length_take]; omega
              have HApp1 := vals_copy (SV.below HSVi.out HBn.out) HLe.out
              have HApp2 : Hid (∀ v7 w7, SV w7 (fun b => b < wr.heap.size) v7 vs → Below wr.heap.size wr w7 → ∃ v8 w8, (Builtin.append_ #[22, 22] 22 #[u4, .slice (some ⟨w7.heap.size, 0, none⟩) 1 1]).run Tryz.prog (w7.alloc (.cells #[v7, .int .i64 y.1, .int .i64 y.2] 64)) = .ok v8 w8 ∧ Hid (∃ os', FI w5 w8 v8 os' (R ++ (ys.take (n + 1)).map (fun s => (vs, s)))) ∧ Hid (Sp.Own w8 w5.heap.size (.slice (some ⟨jb, 0, none⟩) J c8) ys) ∧ Hid (w8.cell? ⟨g, o + i * 3, none⟩ = some (.slice pi vs.length ci) ∧ w8.cell? ⟨jb, n * 2, none⟩ = some (.int .i64 y.1) ∧ w8.cell? ⟨jb, n * 2 + 1, none⟩ = some (.int .i64 y.2))) := fun v7 w7 h1 h2 => by
                obtain ⟨v8, w8, r1, r2, r3⟩ := FI.app2 (f := y.1) (t := y.2) (FI.below hIn.out h2) HLn.out (SV.mono h1 (fun b _ q => (hIn.out.own.row.lt b q).2)) w7.heap.size rfl
                have h8 := spOwn_blk (spOwn_below hOn.out h2) r3.out
                obtain ⟨_, _, hfz, hop⟩ := Sp.Own.open h8
                simp only [Value.slice.injEq] at hfz
                obtain ⟨jb', hjb, _, _, hjc⟩ := hop (by rw [HJ.out]; omega)
                have hpj : (some ⟨jb, 0, none⟩ : Option Addr) = some ⟨jb', 0, none⟩ := hfz.1.trans hjb
                simp only [Option.some.injEq, Addr.mk.injEq] at hpj
                obtain ⟨rfl, _, _⟩ := hpj
                obtain ⟨os8, hos⟩ := r2.out
                exact ⟨v8, w8, r1, by rw [HTn.out]; exact ⟨os8, hos⟩, h8, HCi.out _ hos.b, hjc n y hy⟩
              have hb0 := fun w => run_build0V w
              have K0 : Below wr.heap.size wr wr.drew := (Below.refl _ _).drew
              have hS0 := HS.out _ K0
              obtain ⟨y1, y2⟩ := y
              simp only at HS hS0 HApp2 hyc
              clear hy hjc hyc hop
              go_wp2_with fail
              go_region_held3 (fun W => W.cell? ⟨g, o + i * 3, none⟩ = some (.slice pi vs.length ci) ∧ W.cell? ⟨jb, n * 2, none⟩ = some (.int .i64 y1) ∧ W.cell? ⟨jb, n * 2 + 1, none⟩ = some (.int .i64 y2)) (first | exact hS0 | (refine HS.out _ ?_; (repeat (first | assumption | exact K9.out | exact Below.refl _ _ | refine Below.drew ?_ | refine bal ?_ _)); done) | exact hS9.out) (first
                | (refine step_append_ex (by rfl) (.tmp 53) (.tmp 58) 35 (by rfl) _ _ (by rfl) (by rfl) HApp1 ?_; rintro v7 w7 ⟨hS7, K9⟩; obtain ⟨p7, c7, hf7⟩ := SV.form hS7.out; subst hf7; have HApp3 := HApp2.out _ _ hS7.out K9.out)
                | (refine step_append_ex (by rfl) (.tmp 52) (.tmp 65) 22 (by rfl) _ _ (by rfl) (by rfl) HApp3 ?_; rintro v8 w8 ⟨hI9, hO9, hS9⟩))
              go_wp2_with fail
              go_roundw
              case rel =>
                obtain ⟨os9, hI9'⟩ := hI9.out
                exact ⟨n + 1, os9, by simp, by show _ ≤ _; omega, hI9', hO9.out⟩
              case measure => simp only [intOf]; omega
            · have hni : ¬ (n : Int) < (J : Int) := by omega
              have HF : Hid (FI w5 wr u4 os' (R ++ ys.map (fun s => (vs, s)))) := by have h1 := hIn.out; rwa [List.take_of_length_le (by rw [HJ.out]; omega)] at h1
              go_wp2_with fail
              go_roundw
              case rel => exact ⟨k, f', os', _, rfl, ⟨by have := hk.out.2; omega, HXX.out.2.1⟩, HF.out, HXX.out.2.2⟩
              case measure => have := HXX.out.1; simp only [intOf]; omega
    · have hki : ¬ (i : Int) < (M : Int) := by omega
      have HE : Hid (R = CR) := by show _ = _; rw [← hC.out, cutsF_end _ _ _ (by rw [HLM.out]; omega)]; simp [canonG]
      go_wp2
      go_ret
      exact ⟨_, os, rfl, hI.out.own.base HB5.out.size, by rw [hI.out.rows, HE.out], bmore HB5.out hI.out.b⟩
end Go.Proofs.YtpagnphabchfcaaGreat
