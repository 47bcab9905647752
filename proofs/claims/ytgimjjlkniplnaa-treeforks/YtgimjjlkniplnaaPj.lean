/- inners. -/
import Derived.Test.YtgimjjlkniplnaaPi
namespace Go.Proofs.Ytgimjjlkniplnaa
open Go.RowKit Go.Shelf
set_option maxRecDepth 100000
theorem flat_app (A B : List Kd) : flat (A ++ B) = flat A ++ flat B := by simp [flat]
theorem halves_sub {α : Type} {l kp : List α} (h : kp ∈ halves l) : ∀ x ∈ kp, x ∈ l := by
  unfold halves at h
  intro x hx
  split at h
  · simp at h; subst h; exact hx
  · simp at h
    rcases h with rfl | rfl
    · exact List.mem_of_mem_take hx
    · exact List.mem_of_mem_drop hx
theorem halves_pos {α : Type} {l kp : List α} (h : kp ∈ halves l) (h0 : 0 < l.length) : 0 < kp.length ∧ kp.length ≤ l.length := by
  unfold halves at h
  split at h
  · simp at h; subst h; omega
  · simp at h
    rcases h with rfl | rfl
    · rw [List.length_take]; omega
    · rw [List.length_drop]; omega
theorem halves_flat {ks kp : List Kd} (h : kp ∈ halves ks) : (flat kp).length ≤ (flat ks).length := by
  unfold halves at h
  split at h
  · simp at h; subst h; omega
  · simp at h
    rcases h with rfl | rfl
    · exact flat_le _ _
    · conv => rhs; rw [← List.take_append_drop (ks.length / 2) ks]
      rw [flat_app, List.length_append]
      omega
/-- Kids of one height, each with enough. -/
def Kids (w : World) (h : Nat) (ks : List Kd) : Prop := ∀ k ∈ ks, ∃ m, 4 ≤ m ∧ m ≤ 8 ∧ Part w h m k.1 k.2
theorem Kids.below {w w' : World} (b : Below w.heap.size w w') {h : Nat} {ks : List Kd} (k : Kids w h ks) : Kids w' h ks := fun x hx => by
  obtain ⟨m, h1, h2, h3⟩ := k x hx
  exact ⟨m, h1, h2, h3.below b⟩
set_option maxHeartbeats 1000000 in
theorem inners54 {w : World} {h : Nat} {l : Value} {ks : List Kd} (hl : LV EK w l (ks.map (·.1))) (hk : Kids w h ks) (hn : ks.length ≤ 16) (h0 : 0 < ks.length) (hf : (flat ks).length ≤ 10000) : Calls Try.prog 54 #[l] w (SPost w (h + 1) ks.length (flat ks)) := by
  have k63 := halved65 hl (by rw [List.length_map]; omega)
  have HN : Hid (ks.length ≤ 16) := hn
  have H0 : Hid (0 < ks.length) := h0
  have HK : Hid (Kids w h ks) := hk
  have HF : Hid ((flat ks).length ≤ 10000) := hf
  obtain ⟨a, c, rfl⟩ := hl.form
  generalize (ks.map (·.1)).length = n0 at *
  clear hl hn hk h0 hf
  go_enter Try.func54, Try.ntmps54
  go_wp2_with (go_at_call 65; (with_reducible refine k63.mono ?_); rintro e w1 ⟨g, ls, rfl, HS, HE, HB1⟩)
  have HS : Hid (Ls EK w1 g ls) := HS
  have HE : Hid (ls.map (·.2) = (halves ks).map (List.map (·.1))) := by show _ = _; rw [HE, halves_map]
  have HB1 : Hid (Below w.heap.size w w1) := HB1
  have hMl : ls.length = (halves ks).length := by
    have h1 := congrArg List.length HE.out
    rwa [List.length_map, List.length_map] at h1
  have HMl : Hid _ := hMl
  have hM2 : ls.length ≤ 2 := by rw [hMl]; exact halves_len ks
  generalize hM : ls.length = M at *
  have HM : Hid (ls.length = M) := hM
  clear hM k63 hMl
  go_wp2_with fail
  go_loopw [3, 9] (fun fo fi wr => ∃ (j : Nat) (ps : List Bx), fi = .int .i64 (j : Int) ∧ Hid (j ≤ M) ∧ Hid (RW EK w1.heap.size wr fo ps) ∧ Hid (ps.length = j) ∧ Hid (∀ (i : Nat) (x : Bx) (kp : List Kd), ps[i]? = some x → (halves ks)[i]? = some kp → Part w1 (h + 1) kp.length x (flat kp)) ∧ Hid (Below w1.heap.size w1 wr)) (fun _ fi _ => ((M : Int) - intOf fi).toNat)
  case atStart => exact ⟨0, [], rfl, Nat.zero_le _, RW.nil _ _ _, rfl, (fun i x kp hx => by cases hx), Below.refl _ _⟩
  case round =>
    obtain ⟨j, ps, rfl, hj, hO, hps, hPt, hB⟩ := hrel
    by_cases hjM : j < M
    · have hji : (j : Int) < (M : Int) := by omega
      have hj0 : (0 : Int) ≤ (j : Int) := by omega
      obtain ⟨x, hx⟩ : ∃ x, ls[j]? = some x := ⟨_, List.getElem?_eq_getElem (by rw [HM.out]; exact hjM)⟩
      obtain ⟨kp, hkp⟩ : ∃ kp, (halves ks)[j]? = some kp := ⟨_, List.getElem?_eq_getElem (by rw [← HMl.out]; exact hjM)⟩
      have hxk : x.2 = kp.map (·.1) := by
        have h1 := congrArg (fun l => l[j]?) HE.out
        simp only [List.getElem?_map, hx, hkp] at h1
        simpa using h1
      have hmem := List.mem_of_getElem? hkp
      have d0 := (HS.out.below hB.out).cells j x hx
      have hV := (HS.out.rl x (List.mem_of_getElem? hx)).below hB.out
      rw [hxk] at hV
      have hKp : Kids wr h kp := fun k hk => (HK.out.below (bmore HB1.out hB.out)) k (halves_sub hmem k hk)
      have k44 := innerOf44 hV (fun k hk => by obtain ⟨m, q1, _, q3⟩ := hKp k hk; exact ⟨h, m, by omega, q3⟩) (Nat.le_trans (halves_flat hmem) HF.out) (by have := (halves_pos hmem H0.out).2; have := HN.out; omega) (halves_pos hmem H0.out).1
      obtain ⟨ax, cx, hxf⟩ := hV.form
      rw [hxf] at d0 k44
      have HA : Hid (∀ w2, Below wr.heap.size wr w2 → ∃ u' w', (Builtin.append_ #[69, 69] 69 #[u3, .slice (some ⟨w2.heap.size, 0, none⟩) 1 1]).run Try.prog (w2.alloc (.cells #[.iface 72 (.agg #[.slice ax (kp.map (·.1)).length cx, .string (fst (flat kp)), .int .i64 ((flat kp).length : Int)])] 60)) = .ok u' w' ∧ RW EK w1.heap.size w' u' (ps ++ [(72, .agg #[.slice ax (kp.map (·.1)).length cx, .string (fst (flat kp)), .int .i64 ((flat kp).length : Int)])]) ∧ Below w1.heap.size w2 w') := fun w2 h2 => by
        have hO2 : RW EK w1.heap.size w2 u3 ps := by
          refine ⟨hO.out.1, hO.out.2.imp id ?_⟩
          rintro ⟨g, cap, cur, q1, q2, q3, q4⟩
          exact ⟨g, cap, cur, q1, q2, (h2.block _ (Array.getElem?_eq_some_iff.1 q3).1).trans q3, q4⟩
        exact app_one hO2 (72, .agg #[.slice ax (kp.map (·.1)).length cx, .string (fst (flat kp)), .int .i64 ((flat kp).length : Int)]) (by rw [hps.out]; omega) (Nat.le_trans hB.out.size h2.size)
      have hV1 := HS.out.rl x (List.mem_of_getElem? hx)
      rw [hxk, hxf] at hV1
      have HP : Hid (Part w1 (h + 1) kp.length (72, .agg #[.slice ax (kp.map (·.1)).length cx, .string (fst (flat kp)), .int .i64 ((flat kp).length : Int)]) (flat kp)) :=
        ⟨_, kp, rfl, hV1, rfl, (halves_pos hmem H0.out).1, rfl, fun k hk => HK.out.below HB1.out k (halves_sub hmem k hk)⟩
      generalize (kp.map (·.1)).length = nk at *
      have HKP : Hid _ := hkp
      clear hx hkp hxk hV hV1 hKp hxf hmem
      go_wp2_with (first
        | (go_at_call 44; (with_reducible refine k44.mono ?_); rintro e w2 ⟨rfl, hB2⟩; have hA := HA.out w2 hB2)
        | (at_builtin; refine wpList_append_ex (by rfl) (.tmp 13) (.tmp 17) 69 (by rfl) _ _ (by rfl) (by rfl) hA ?_; rintro v7 w7 ⟨hO7, hB7⟩))
      go_roundw
      case rel =>
        refine ⟨j + 1, _, by simp, by show _ ≤ _; omega, hO7, by show _ = _; rw [List.length_append, hps.out]; rfl, ?_, bmore hB.out hB2 |>.trans hB7⟩
        intro i y kq hy hkq
        by_cases hi : i < ps.length
        · rw [List.getElem?_append_left hi] at hy
          exact hPt.out i y kq hy hkq
        · have hl := (List.getElem?_eq_some_iff.1 hy).1
          rw [List.length_append] at hl
          have hi2 : i = ps.length := by simp at hl; omega
          rw [hi2, List.getElem?_append_right (Nat.le_refl _), Nat.sub_self] at hy
          cases hy
          rw [hi2, hps.out, HKP.out] at hkq
          cases hkq
          exact HP.out
      case measure => simp only [intOf]; omega
    · have hji : ¬ (j : Int) < (M : Int) := by omega
      obtain rfl : j = M := by have := hj.out; omega
      have HR : Hid (∀ v, RW EK w1.heap.size wr v ps → SPost w (h + 1) ks.length (flat ks) (.returned v) wr) := fun v hv =>
        spost_of flat flat_app HN.out (by rw [hps.out, HMl.out]) hv.read (fun i x kp h1 h2 => (hPt.out i x kp h1 h2).below hB.out) (bmore HB1.out hB.out)
      go_wp2
      go_ret
      exact HR.out _ hO.out
end Go.Proofs.Ytgimjjlkniplnaa
