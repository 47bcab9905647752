/- The law CodecTells, walked. -/
import Derived.Test.YtolggmmlaohpdabDoorTel3
import Derived.Test.YtolggmmlaohpdabDoorOrdl
namespace Go.Proofs.YtolggmmlaohpdabDoor
open Go.RowKit Go.Lib
set_option maxRecDepth 100000

set_option maxHeartbeats 1000000 in
theorem tells3_a (v v' : Value) (a b : List Vt) (f t f' t' : Int) (w : World) (ha : SV w v a) (hb : SV w v' b) (na : Few a) (hg : Good w) :
    Calls Tryd.prog 3 #[RV v f t, RV v' f' t'] w fun e w' => e = .returned (.bool true) ∧ Below w.heap.size w w' := by
  have k9 : Hid (∀ W, St w W → Calls Tryd.prog 9 #[RV v f t] W fun e w' => ∃ p n c, e = .returned (RV (.slice p n c) f t) ∧ SV w (.slice p n c) (a.take 8) ∧ Below W.heap.size W w') := fun W hW =>
    (few9 v a f t W (ha.below hW.2)).mono fun e w' ⟨p, n, c, h1, h2, h3⟩ => ⟨p, n, c, h1, h2 w ha, h3⟩
  have l9 : Hid (∀ W, St w W → Calls Tryd.prog 9 #[RV v' f' t'] W fun e w' => ∃ p n c, e = .returned (RV (.slice p n c) f' t') ∧ SV w (.slice p n c) (b.take 8) ∧ Below W.heap.size W w') := fun W hW =>
    (few9 v' b f' t' W (hb.below hW.2)).mono fun e w' ⟨p, n, c, h1, h2, h3⟩ => ⟨p, n, c, h1, h2 w hb, h3⟩
  have hk0 : OS w v f t v' f' t' ((w.alloc (.cells #[v, .int .i64 f, .int .i64 t] 26)).alloc (.cells #[v', .int .i64 f', .int .i64 t'] 26)).drew := by
    have b1 := bmore (al w (.cells #[v, .int .i64 f, .int .i64 t] 26)) (al _ (.cells #[v', .int .i64 f', .int .i64 t'] 26))
    refine OS.below (W := (w.alloc (.cells #[v, .int .i64 f, .int .i64 t] 26)).alloc (.cells #[v', .int .i64 f', .int .i64 t'] 26)) ⟨⟨by simp, by simp, by simp, by simp, by simp, by simp⟩, ⟨by simp, by simp, by simp, by simp, by simp, by simp⟩, (St.start hg).more b1⟩ (Below.refl _ _).drew
  clear ha hb
  go_enter Tryd.func3, Tryd.ntmps3
  go_wp2_with fail
  generalize (w.alloc (.cells #[v, .int .i64 f, .int .i64 t] 26)).alloc (.cells #[v', .int .i64 f', .int .i64 t'] 26) = W0 at *
  obtain ⟨⟨x0, x1, x2, x3, x4, x5⟩, ⟨y0, y1, y2, y3, y4, y5⟩, _⟩ := id hk0
  go_cut [] from 5 to 8 (fun wx => ∃ p n c p' n' c', SV w (.slice p n c) (a.take 8) ∧ SV w (.slice p' n' c') (b.take 8) ∧ OS w (.slice p n c) f t (.slice p' n' c') f' t' wx)
  case first =>
    go_region_with (first
      | (go_at_call 9; (with_reducible refine (k9.out _ hk0.st).mono ?_; rintro e w1 ⟨p, n, c, rfl, hs1, hb1⟩; have hk1 := hk0.below hb1; obtain ⟨⟨r0, r1, r2, r3, r4, r5⟩, ⟨q0, q1, q2, q3, q4, q5⟩, _⟩ := id hk1))
      | (go_at_call 9; (with_reducible refine (l9.out _ hk1.st).mono ?_; rintro e w2 ⟨p', n', c', rfl, hs2, hb2⟩; have hk2 := hk1.below hb2; obtain ⟨⟨o0, o1, o2, o3, o4, o5⟩, ⟨m0, m1, m2, m3, m4, m5⟩, _⟩ := id hk2)))
    all_goals (go_wp2_with fail; go_meet; exact ⟨p, n, c, p', n', c', hs1, hs2, hk2.put hg _ _⟩)
  case rest =>
    clear k9 l9 hk0 x0 x1 x2 x3 x4 x5 y0 y1 y2 y3 y4 y5
    obtain ⟨p, n, c, p', n', c', hsa, hsb, hk⟩ := hcut
    have nA : Few (a.take 8) := fun x hx => na x (List.mem_of_mem_take hx)
    have lA : (a.take 8).length ≤ 140737488355328 := by rw [List.length_take]; omega
    have lB : (b.take 8).length ≤ 140737488355328 := by rw [List.length_take]; omega
    generalize a.take 8 = A at *
    generalize b.take 8 = B at *
    obtain ⟨S, hS⟩ : ∃ S, S = OS w (.slice p n c) f t (.slice p' n' c') f' t' := ⟨_, rfl⟩
    have sx : ∀ W, S W → Bx W w.heap.size (.slice p n c) (.int .i64 f) (.int .i64 t) := fun W h => (hS ▸ h : OS w (.slice p n c) f t (.slice p' n' c') f' t' W).x
    have sy : ∀ W, S W → Bx W (w.heap.size + 1) (.slice p' n' c') (.int .i64 f') (.int .i64 t') := fun W h => (hS ▸ h : OS w (.slice p n c) f t (.slice p' n' c') f' t' W).y
    have ss : ∀ W, S W → St w W := fun W h => (hS ▸ h : OS w (.slice p n c) f t (.slice p' n' c') f' t' W).st
    have sb : ∀ {X Y : World}, S X → Below X.heap.size X Y → S Y := fun h hb => by subst hS; exact OS.below h hb
    rw [← hS] at hk
    clear hS
    have hk := sb hk (Below.refl _ _).drew
    have inh : Nonempty (GW S) := ⟨⟨_, hk⟩⟩
    have z4 := fun p : GW S => (sx _ p.h).c0
    have z5 := fun p : GW S => (sx _ p.h).c1
    have z6 := fun p : GW S => (sx _ p.h).c2
    have z7 := fun p : GW S => (sy _ p.h).c0
    have z8 := fun p : GW S => (sy _ p.h).c1
    have z9 := fun p : GW S => (sy _ p.h).c2
    have Q10 := hideK (fun q : GW S => calls_gw q (calls_s q.h sb (live10 q.w (ss _ q.h).1)))
    have Q11 := hideK (fun q : GW S => calls_gw q (calls_s q.h sb (rowRight _ A f t q.w (hsa.below (ss _ q.h).2) lA nA (ss _ q.h).1)))
    have Q12 := hideK (fun q : GW S => calls_gw q (calls_s q.h sb (rowRight12 _ A f t q.w (hsa.below (ss _ q.h).2) lA nA (ss _ q.h).1)))
    have Q13 := hideK (fun q : GW S => calls_gw q (calls_s q.h sb (compare13 _ _ A B f t f' t' q.w (hsa.below (ss _ q.h).2) (hsb.below (ss _ q.h).2) lA lB)))
    have Q14 := hideK (fun q : GW S => calls_gw q (calls_s q.h sb (compare14r _ _ A B f t f' t' q.w (hsa.below (ss _ q.h).2) (hsb.below (ss _ q.h).2) lA lB)))
    have Q15 := hideK (fun q : GW S => calls_gw q (calls_s q.h sb (same15 _ _ A B q.w (hsa.below (ss _ q.h).2) (hsb.below (ss _ q.h).2) lA lB)))
    have Q16 := hideK (fun q : GW S => calls_gw q (calls_s q.h sb (same16 _ _ A B q.w (hsa.below (ss _ q.h).2) (hsb.below (ss _ q.h).2) lA lB)))
    have Q17 := hideK (fun q : GW S => calls_gw q (calls_s q.h sb (key17 _ A f t q.w (hsa.below (ss _ q.h).2) nA (ss _ q.h).1)))
    have Q18 := hideK (fun q : GW S => calls_gw q (calls_s q.h sb (key18 _ A f t q.w (hsa.below (ss _ q.h).2) nA (ss _ q.h).1)))
    have hfin : ∀ W, S W → Below w.heap.size w W := fun W h => (ss W h).2
    generalize str (keyR A) = s5 at *
    generalize rightRow A f t = b5 at *
    generalize cmpR A f t B f' t' = c5 at *
    generalize (cmpL A B == 0) = e5 at *
    clear sx sy ss sb hsa hsb lA lB nA na
    go_wp2_with fail
    refine wp_region_gw S (by kernel_rfl) hk ?_
    repeat (go_big_quiet_step (first | (go_at_call 10; with_reducible exact Q10.out _) | (go_at_call 11; with_reducible exact Q11.out _) | (go_at_call 12; with_reducible exact Q12.out _) | (go_at_call 13; with_reducible exact Q13.out _) | (go_at_call 14; with_reducible exact Q14.out _) | (go_at_call 15; with_reducible exact Q15.out _) | (go_at_call 16; with_reducible exact Q16.out _) | (go_at_call 17; with_reducible exact Q17.out _) | (go_at_call 18; with_reducible exact Q18.out _)))
    refine wpQuiet_nil ?_
    intro _ hw'
    obtain ⟨⟨wq, hq⟩, hw''⟩ := hw'
    subst hw''
    go_wp2
    go_ret
    exact ⟨rfl, hfin _ hq⟩
end Go.Proofs.YtolggmmlaohpdabDoor
