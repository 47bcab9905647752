/- The law CodecOrder, walked. -/
import Derived.Test.YtolggmmlaohpdabDoorOrdr
import Derived.Deep.RegionWith
import Derived.Deep.CutRange
import Derived.Deep.QuietTactic
import Derived.BigQuiet
namespace Go.Proofs.YtolggmmlaohpdabDoor
open Go.RowKit Go.Lib
set_option maxRecDepth 100000

/-- Two rows in two blocks of the call's. -/
structure OS (w : World) (v : Value) (f t : Int) (v' : Value) (f' t' : Int) (W : World) : Prop where
  x : Bx W w.heap.size v (.int .i64 f) (.int .i64 t)
  y : Bx W (w.heap.size + 1) v' (.int .i64 f') (.int .i64 t')
  st : St w W
variable {w : World} {v v' : Value} {f t f' t' : Int} {W W' : World}
theorem OS.below (h : OS w v f t v' f' t' W) (hb : Below W.heap.size W W') : OS w v f t v' f' t' W' := ⟨h.x.below hb, h.y.below hb, h.st.more hb⟩
theorem OS.put (h : OS w v f t v' f' t' W) (hg : Good w) (u u' : Value) : OS w u f t u' f' t' ((((((W.setCell ⟨w.heap.size, 0, none⟩ u).setCell ⟨w.heap.size, 1, none⟩ (.int .i64 f)).setCell ⟨w.heap.size, 2, none⟩ (.int .i64 t)).setCell ⟨w.heap.size + 1, 0, none⟩ u').setCell ⟨w.heap.size + 1, 1, none⟩ (.int .i64 f')).setCell ⟨w.heap.size + 1, 2, none⟩ (.int .i64 t')) := by
  have b := (((((h.st.2.setCell (p := ⟨w.heap.size, 0, none⟩) (Nat.le_refl _) u).setCell (p := ⟨w.heap.size, 1, none⟩) (Nat.le_refl _) (.int .i64 f)).setCell (p := ⟨w.heap.size, 2, none⟩) (Nat.le_refl _) (.int .i64 t)).setCell (p := ⟨w.heap.size + 1, 0, none⟩) (by simp) u').setCell (p := ⟨w.heap.size + 1, 1, none⟩) (by simp) (.int .i64 f')).setCell (p := ⟨w.heap.size + 1, 2, none⟩) (by simp) (.int .i64 t')
  exact ⟨(((((h.x.set0 u).set1 _).set2 _).far (by omega)).far (by omega)).far (by omega), (((((h.y.far (by omega)).far (by omega)).far (by omega)).set0 u').set1 _).set2 _, hg.below b, b⟩

theorem bs_front (lb : Bs) (n : Nat) : bs ((str lb).extract 0 n) = lb.take n := by
  simp [bs, ByteArray.data_extract]
theorem less_self (l : Bs) : Op.bytesLess l l = false := by
  rcases less_cases l l with ⟨_, h⟩ | ⟨h, _⟩ | ⟨h, _⟩
  · rw [cmp_self] at h; omega
  · exact h
  · exact h
theorem ord_facts {la lb : Bs} {C : Int} (h : ∀ P Q : Bs, compareBytes (la ++ P) (lb ++ Q) = if C = 0 then compareBytes P Q else C) :
    ((C = -1 ∧ Op.bytesLess (str la).toList (str lb).toList = true ∧ Op.bytesLess (str lb).toList (str la).toList = false ∧ ((str la).toList == (str lb).toList) = false) ∨ (C = 0 ∧ str la = str lb) ∨ (C = 1 ∧ Op.bytesLess (str la).toList (str lb).toList = false ∧ Op.bytesLess (str lb).toList (str la).toList = true ∧ ((str la).toList == (str lb).toList) = false)) ∧
    ((str la).size < (str lb).size → (((str lb).extract 0 (str la).size).toList == (str la).toList) = false) := by
  have ela : (str la).toList = la := (toList_data _).trans (bs_str la)
  have elb : (str lb).toList = lb := (toList_data _).trans (bs_str lb)
  have h0 := h [] []
  simp only [List.append_nil] at h0
  have h0' : compareBytes la lb = C := by
    by_cases hC : C = 0
    · rw [if_pos hC] at h0; rw [h0, hC]; rfl
    · rw [if_neg hC] at h0; exact h0
  constructor
  · simp only [ela, elb]
    rcases less_cases la lb with ⟨h1, h2⟩ | ⟨h1, h2, h3⟩ | ⟨h1, h2, h3⟩
    · refine .inl ⟨by rw [← h0', h2], h1, ?_, ?_⟩
      · rcases less_cases lb la with ⟨_, h5⟩ | ⟨h4, _⟩ | ⟨h4, _⟩
        · rw [cb_turn, h2] at h5; omega
        · exact h4
        · exact h4
      · rw [beq_eq_false_iff_ne]
        rintro rfl
        rw [cb_self] at h2; omega
    · refine .inr (.inr ⟨by rw [← h0', h3], h1, h2, ?_⟩)
      rw [beq_eq_false_iff_ne]
      rintro rfl
      rw [cb_self] at h3; omega
    · exact .inr (.inl ⟨by rw [← h0', h3], by rw [cb_zero _ _ h3]⟩)
  · intro hl
    refine ne_list fun e => ?_
    rw [str_size, str_size] at hl
    rw [str_size] at e
    clear ela elb
    have e2 : lb.take la.length = la := by
      have := congrArg bs e
      rw [bs_front, bs_str] at this
      exact this
    have h1 := h (lb.drop la.length) []
    rw [List.append_nil] at h1
    have e3 : la ++ lb.drop la.length = lb := by
      have := List.take_append_drop la.length lb
      rw [e2] at this
      exact this
    rw [e3, cb_self] at h1
    by_cases hC : C = 0
    · rw [if_pos hC] at h1
      have := congrArg List.length (cb_zero _ _ h1.symm)
      simp at this
      omega
    · rw [if_neg hC] at h1
      exact hC h1.symm

/-- What CodecOrder asks of a row that can be. -/
theorem ord_yes {S : World → Prop} {v : Value} {a : List Vt} {f t : Int} (hS : ∀ W, S W → SV W v a ∧ Good W) (hb : ∀ {A B : World}, S A → Below A.heap.size A B → S B) (hn : Few a) (hr : rightRow a f t = true) :
    ∀ W, S W → Calls Tryd.prog 19 #[RV v f t] W fun e w' => ∃ g c, e = .returned (.tuple #[.slice (some ⟨g, 0, none⟩) (encR a f t).length c, .int .i64 0]) ∧ S w' ∧ At w' g 0 (encR a f t) ∧ Below W.heap.size W w' := fun W h => by
  refine (enc_at v a f t W (hS W h).1 hn hr (hS W h).2).mono ?_
  rintro e w' ⟨g, c, rfl, hat, _, hbe⟩
  exact ⟨g, c, rfl, hb h hbe, hat, hbe⟩

set_option maxHeartbeats 600000 in
theorem order6_a (v v' : Value) (a b : List Vt) (f t f' t' : Int) (w : World) (ha : SV w v a) (hb : SV w v' b) (na : Few a) (nb : Few b) (hg : Good w) :
    Calls Tryd.prog 6 #[RV v f t, RV v' f' t'] w fun e w' => e = .returned (.bool true) ∧ Below w.heap.size w w' := by
  have k9 : Hid (∀ W, St w W → Calls Tryd.prog 9 #[RV v f t] W fun e w' => ∃ p n c, e = .returned (RV (.slice p n c) f t) ∧ SV w (.slice p n c) (a.take 8) ∧ Below W.heap.size W w') := fun W hW =>
    (few9 v a f t W (ha.below hW.2)).mono fun e w' ⟨p, n, c, h1, h2, h3⟩ => ⟨p, n, c, h1, h2 w ha, h3⟩
  have l9 : Hid (∀ W, St w W → Calls Tryd.prog 9 #[RV v' f' t'] W fun e w' => ∃ p n c, e = .returned (RV (.slice p n c) f' t') ∧ SV w (.slice p n c) (b.take 8) ∧ Below W.heap.size W w') := fun W hW =>
    (few9 v' b f' t' W (hb.below hW.2)).mono fun e w' ⟨p, n, c, h1, h2, h3⟩ => ⟨p, n, c, h1, h2 w hb, h3⟩
  have hk0 : OS w v f t v' f' t' ((w.alloc (.cells #[v, .int .i64 f, .int .i64 t] 26)).alloc (.cells #[v', .int .i64 f', .int .i64 t'] 26)).drew := by
    have b1 := bmore (al w (.cells #[v, .int .i64 f, .int .i64 t] 26)) (al _ (.cells #[v', .int .i64 f', .int .i64 t'] 26))
    refine OS.below (W := (w.alloc (.cells #[v, .int .i64 f, .int .i64 t] 26)).alloc (.cells #[v', .int .i64 f', .int .i64 t'] 26)) ⟨⟨by simp, by simp, by simp, by simp, by simp, by simp⟩, ⟨by simp, by simp, by simp, by simp, by simp, by simp⟩, (St.start hg).more b1⟩ (Below.refl _ _).drew
  clear ha hb
  go_enter Tryd.func6, Tryd.ntmps6
  go_wp2_with fail
  generalize (w.alloc (.cells #[v, .int .i64 f, .int .i64 t] 26)).alloc (.cells #[v', .int .i64 f', .int .i64 t'] 26) = W0 at *
  obtain ⟨⟨x0, x1, x2, x3, x4, x5⟩, ⟨y0, y1, y2, y3, y4, y5⟩, _⟩ := id hk0
  go_cut [] from 13 to 16 (fun wx => ∃ p n c p' n' c', SV w (.slice p n c) (a.take 8) ∧ SV w (.slice p' n' c') (b.take 8) ∧ OS w (.slice p n c) f t (.slice p' n' c') f' t' wx)
  case first =>
    go_region_with (first
      | (go_at_call 9; (with_reducible refine (k9.out _ hk0.st).mono ?_; rintro e w1 ⟨p, n, c, rfl, hs1, hb1⟩; have hk1 := hk0.below hb1; obtain ⟨⟨r0, r1, r2, r3, r4, r5⟩, ⟨q0, q1, q2, q3, q4, q5⟩, _⟩ := id hk1))
      | (go_at_call 9; (with_reducible refine (l9.out _ hk1.st).mono ?_; rintro e w2 ⟨p', n', c', rfl, hs2, hb2⟩; have hk2 := hk1.below hb2; obtain ⟨⟨o0, o1, o2, o3, o4, o5⟩, ⟨m0, m1, m2, m3, m4, m5⟩, _⟩ := id hk2)))
    all_goals (go_wp2_with fail; go_meet; exact ⟨p, n, c, p', n', c', hs1, hs2, hk2.put hg _ _⟩)
  case rest =>
    clear k9 l9 hk0 x0 x1 x2 x3 x4 x5 y0 y1 y2 y3 y4 y5
    obtain ⟨p, n, c, p', n', c', hsa, hsb, hk⟩ := hcut
    have nA : Few (a.take 8) := fun x hx => na x (List.mem_of_mem_take hx)
    have nB : Few (b.take 8) := fun x hx => nb x (List.mem_of_mem_take hx)
    have lA : (a.take 8).length ≤ 140737488355328 := by rw [List.length_take]; omega
    have lB : (b.take 8).length ≤ 140737488355328 := by rw [List.length_take]; omega
    generalize a.take 8 = A at *
    generalize b.take 8 = B at *
    have k10 : ∀ W, OS w (.slice p n c) f t (.slice p' n' c') f' t' W → Calls Tryd.prog 10 #[] W fun e w' => e = .returned (.bool true) ∧ OS w (.slice p n c) f t (.slice p' n' c') f' t' w' := fun W h => calls_s h OS.below (live10 W h.st.1)
    have eA : rightRow A f t = false → ∀ W, OS w (.slice p n c) f t (.slice p' n' c') f' t' W → Calls Tryd.prog 19 #[RV (.slice p n c) f t] W fun e w' => e = .returned (.tuple #[.slice none 0 0, .int .i64 3]) ∧ OS w (.slice p n c) f t (.slice p' n' c') f' t' w' := fun hr W h => calls_s h OS.below (encode19_no _ A f t W (hsa.below h.st.2) lA nA hr h.st.1)
    have eB : rightRow B f' t' = false → ∀ W, OS w (.slice p n c) f t (.slice p' n' c') f' t' W → Calls Tryd.prog 19 #[RV (.slice p' n' c') f' t'] W fun e w' => e = .returned (.tuple #[.slice none 0 0, .int .i64 3]) ∧ OS w (.slice p n c) f t (.slice p' n' c') f' t' w' := fun hr W h => calls_s h OS.below (encode19_no _ B f' t' W (hsb.below h.st.2) lB nB hr h.st.1)
    have yA := fun hr => ord_yes (S := OS w (.slice p n c) f t (.slice p' n' c') f' t') (v := .slice p n c) (a := A) (f := f) (t := t) (fun W h => ⟨hsa.below h.st.2, h.st.1⟩) OS.below nA hr
    have yB := fun hr => ord_yes (S := OS w (.slice p n c) f t (.slice p' n' c') f' t') (v := .slice p' n' c') (a := B) (f := f') (t := t') (fun W h => ⟨hsb.below h.st.2, h.st.1⟩) OS.below nB hr
    have k13 : ∀ W, OS w (.slice p n c) f t (.slice p' n' c') f' t' W → Calls Tryd.prog 13 #[RV (.slice p n c) f t, RV (.slice p' n' c') f' t'] W fun e w' => e = .returned (.int .i64 (cmpR A f t B f' t')) ∧ Below W.heap.size W w' := fun W h => compare13 _ _ A B f t f' t' W (hsa.below h.st.2) (hsb.below h.st.2) lA lB
    obtain ⟨⟨x0, x1, x2, _, _, _⟩, ⟨y0, y1, y2, _, _, _⟩, _⟩ := id hk
    cases hra : rightRow A f t
    · have eA := eA hra
      cases hrb : rightRow B f' t'
      · have eB := eB hrb
        clear yA yB k13 hsa hsb nA nB lA lB hra hrb na nb
        go_wp2_with (first
          | (go_at_call 19; (with_reducible refine (eA _ hk).mono ?_; rintro e w1 ⟨rfl, hk1⟩; obtain ⟨⟨r0, r1, r2, _, _, _⟩, ⟨q0, q1, q2, _, _, _⟩, _⟩ := id hk1))
          | (go_at_call 19; (with_reducible refine (eB _ hk1).mono ?_; rintro e w2 ⟨rfl, hk2⟩))
          | (go_at_call 10; (refine (k10 _ hk2).mono ?_; rintro e w3 ⟨rfl, hk3⟩)))
        go_ret
        exact ⟨rfl, hk3.st.2⟩
      · have yB := yB hrb
        generalize (encR B f' t').length = mB at *
        clear yA eB k13 hsa hsb nA nB lA lB hra hrb na nb
        go_wp2_with (first
          | (go_at_call 19; (with_reducible refine (eA _ hk).mono ?_; rintro e w1 ⟨rfl, hk1⟩; obtain ⟨⟨r0, r1, r2, _, _, _⟩, ⟨q0, q1, q2, _, _, _⟩, _⟩ := id hk1))
          | (go_at_call 19; (with_reducible refine (yB _ hk1).mono ?_; rintro e w2 ⟨g, cc, rfl, hk2, _, _⟩))
          | (go_at_call 10; (refine (k10 _ hk2).mono ?_; rintro e w3 ⟨rfl, hk3⟩)))
        go_ret
        exact ⟨rfl, hk3.st.2⟩
    · have yA := yA hra
      cases hrb : rightRow B f' t'
      · have eB := eB hrb
        generalize (encR A f t).length = mA at *
        clear yB eA k13 hsa hsb nA nB lA lB hra hrb na nb
        go_wp2_with (first
          | (go_at_call 19; (with_reducible refine (yA _ hk).mono ?_; rintro e w1 ⟨g, cc, rfl, hk1, _, _⟩; obtain ⟨⟨r0, r1, r2, _, _, _⟩, ⟨q0, q1, q2, _, _, _⟩, _⟩ := id hk1))
          | (go_at_call 19; (with_reducible refine (eB _ hk1).mono ?_; rintro e w2 ⟨rfl, hk2⟩))
          | (go_at_call 10; (refine (k10 _ hk2).mono ?_; rintro e w3 ⟨rfl, hk3⟩)))
        go_ret
        exact ⟨rfl, hk3.st.2⟩
      · have yB := yB hrb
        have HC := hideK (fun P Q => enc_cmp hra hrb nA nB P Q)
        clear eA eB hsa hsb nA nB lA lB hra hrb na nb
        generalize encR A f t = la at *
        generalize encR B f' t' = lb at *
        generalize cmpR A f t B f' t' = C at *
        go_wp2_with (first
          | (go_at_call 19; (with_reducible refine (yA _ hk).mono ?_; rintro e w1 ⟨g, cc, rfl, hk1, hat1, _⟩; obtain ⟨⟨r0, r1, r2, _, _, _⟩, ⟨q0, q1, q2, _, _, _⟩, _⟩ := id hk1))
          | (go_at_call 19; (with_reducible refine (yB _ hk1).mono ?_; rintro e w2 ⟨g', cc', rfl, hk2, hat2', hb2⟩; have hat2 := hat1.below hb2; obtain ⟨⟨o0, o1, o2, _, _, _⟩, ⟨m0, m1, m2, _, _, _⟩, _⟩ := id hk2))
          | (go_at_call 13; (refine (k13 _ hk2).mono ?_; rintro e w3 ⟨rfl, hb3⟩; have hk3 := hk2.below hb3; have hat3 := hat2.below hb3; have hat3' := hat2'.below hb3)))
        have cv : ∀ m, (convert 34 9 (.slice (some ⟨g, 0, none⟩) la.length cc)).run Tryd.prog (w3.drewN m) = .ok (.string (str la)) (w3.drewN m) := fun m => conv_at (fun i hi => by have := hat3 i hi; simpa using this)
        have cv' : ∀ m, (convert 34 9 (.slice (some ⟨g', 0, none⟩) lb.length cc')).run Tryd.prog (w3.drewN m) = .ok (.string (str lb)) (w3.drewN m) := fun m => conv_at (fun i hi => by have := hat3' i hi; simpa using this)
        go_quiet (fail)
        have hk4 := hk3.below (below_drewN (Below.refl _ _) nq)
        obtain ⟨FC, FL⟩ := ord_facts HC.out
        clear cv cv' hk3 hat3 hat3' hat2 hat2' hat1 hb2 hb3 HC yA yB k13 x0 x1 x2 y0 y1 y2 r0 r1 r2 q0 q1 q2 o0 o1 o2 m0 m1 m2 hk hk1 hk2
        generalize la.length = na' at *
        generalize lb.length = nb' at *
        generalize str la = sa at *
        generalize str lb = sb at *
        by_cases hL : sa.size < sb.size
        · have hne := FL hL
          have hL2 : (sa.size : Int) < (sb.size : Int) := by omega
          have hL3 : sa.size ≤ sb.size := by omega
          clear FL
          rcases FC with ⟨rfl, l1, l2, l3⟩ | ⟨rfl, rfl⟩ | ⟨rfl, l1, l2, l3⟩
          · go_wp2_with (go_at_call 10; (refine (k10 _ hk4).mono ?_; rintro e w5 ⟨rfl, hk5⟩))
            go_ret
            exact ⟨rfl, hk5.st.2⟩
          · omega
          · go_wp2_with (go_at_call 10; (refine (k10 _ hk4).mono ?_; rintro e w5 ⟨rfl, hk5⟩))
            go_ret
            exact ⟨rfl, hk5.st.2⟩
        · clear FL
          have hL2 : ¬ ((sa.size : Int) < (sb.size : Int)) := by omega
          rcases FC with ⟨rfl, l1, l2, l3⟩ | ⟨rfl, rfl⟩ | ⟨rfl, l1, l2, l3⟩
          · go_wp2_with (go_at_call 10; (refine (k10 _ hk4).mono ?_; rintro e w5 ⟨rfl, hk5⟩))
            go_ret
            exact ⟨rfl, hk5.st.2⟩
          · have l1 := less_self sa.toList
            go_wp2_with (go_at_call 10; (refine (k10 _ hk4).mono ?_; rintro e w5 ⟨rfl, hk5⟩))
            go_ret
            exact ⟨rfl, hk5.st.2⟩
          · go_wp2_with (go_at_call 10; (refine (k10 _ hk4).mono ?_; rintro e w5 ⟨rfl, hk5⟩))
            go_ret
            exact ⟨rfl, hk5.st.2⟩
end Go.Proofs.YtolggmmlaohpdabDoor
