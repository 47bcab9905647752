/- The law TopKeys, walked. -/
import Derived.Test.YtolggmmlaohpdabDoorKeys
namespace Go.Proofs.YtolggmmlaohpdabDoor
open Go.RowKit Go.Lib

theorem s9_start {v0 : Value} {a0 : List Vt} {f0 t0 : Int} {v1 : Value} {a1 : List Vt} {f1 t1 : Int} {v2 : Value} {a2 : List Vt} {f2 t2 : Int} {w : World} (h0 : SV w v0 a0) (h1 : SV w v1 a1) (h2 : SV w v2 a2) (hg : Good w) : S9 w w.heap.size v0 a0 f0 t0 v1 a1 f1 t1 v2 a2 f2 t2 (w.alloc (.cells #[v0, .int .i64 f0, .int .i64 t0, v1, .int .i64 f1, .int .i64 t1, v2, .int .i64 f2, .int .i64 t2] 41)) :=
  have b := al w (.cells #[v0, .int .i64 f0, .int .i64 t0, v1, .int .i64 f1, .int .i64 t1, v2, .int .i64 f2, .int .i64 t2] 41)
  ⟨⟨World.cell?_alloc_at _ _ _ _ rfl, World.cell?_alloc_at _ _ _ _ rfl, World.cell?_alloc_at _ _ _ _ rfl, World.cell?_alloc_at _ _ _ _ rfl, World.cell?_alloc_at _ _ _ _ rfl, World.cell?_alloc_at _ _ _ _ rfl, World.cell?_alloc_at _ _ _ _ rfl, World.cell?_alloc_at _ _ _ _ rfl, World.cell?_alloc_at _ _ _ _ rfl⟩, by simp, h0.below b, h1.below b, h2.below b, (St.start hg).more b⟩

/-- What the law asks of a row that can be. -/
structure RightK (S : World → Prop) (v : Value) (f t : Int) (s : ByteArray) (m : Nat) : Prop where
  kE : ∀ W, S W → Calls Tryd.prog 19 #[RV v f t] W fun e w' => ∃ g c, e = .returned (.tuple #[.slice (some ⟨g, 0, none⟩) m c, .int .i64 0]) ∧ m ≤ c ∧ S w' ∧ (∀ w'', Below w'.heap.size w' w'' → ∀ c', (convert 34 9 (.slice (some ⟨g, 0, none⟩) s.size c')).run Tryd.prog w'' = .ok (.string s) w'')
  kK : ∀ W, S W → Calls Tryd.prog 17 #[RV v f t] W fun e w' => e = .returned (.string s) ∧ S w' ∧ Below W.heap.size W w'
  pos : 0 < s.size
  le : s.size ≤ m
  few : m ≤ 200

theorem rightK {S : World → Prop} {v : Value} {a : List Vt} {f t : Int} (hS : ∀ W, S W → SV W v a ∧ Good W) (hb : ∀ {A B : World}, S A → Below A.heap.size A B → S B) (hn : Few a) (hr : rightRow a f t = true) :
    RightK S v f t (str (keyR a)) (encR a f t).length := by
  obtain ⟨k1, k2, k3⟩ := key_facts hr
  have hz : (str (keyR a)).size = (keyR a).length := by simp [ByteArray.size]
  refine ⟨fun W h => ?_, fun W h => ?_, by omega, by omega, enc_len hr⟩
  · refine (enc_at v a f t W (hS W h).1 hn hr (hS W h).2).mono ?_
    rintro e w' ⟨g, c, rfl, hat, hc, hbe⟩
    refine ⟨g, c, rfl, hc, hb h hbe, fun w'' h2 c' => ?_⟩
    have h3 := (hat.below h2).take (keyR a).length
    rw [k3] at h3
    rw [hz]
    exact conv_at h3
  · refine (key17 v a f t W (hS W h).1 hn (hS W h).2).mono ?_
    rintro e w' ⟨rfl, hbe⟩
    exact ⟨rfl, hb h hbe, hbe⟩


set_option maxRecDepth 100000 in
set_option maxHeartbeats 2000000 in
theorem keys7_no0 (v0 : Value) (a0 : List Vt) (f0 t0 : Int) (v1 : Value) (a1 : List Vt) (f1 t1 : Int) (v2 : Value) (a2 : List Vt) (f2 t2 : Int) (w : World) (h0 : SV w v0 a0) (h1 : SV w v1 a1) (h2 : SV w v2 a2)  (z0 : a0.length ≤ 140737488355328) (n0 : Few a0) (hg : Good w) (hr : rightRow a0 f0 t0 = false) :
    Calls Tryd.prog 7 #[.agg #[v0, .int .i64 f0, .int .i64 t0, v1, .int .i64 f1, .int .i64 t1, v2, .int .i64 f2, .int .i64 t2]] w fun e w' => e = .returned (.bool true) ∧ Below w.heap.size w w' := by
  have hs := s9_start (f0 := f0) (t0 := t0) (f1 := f1) (t1 := t1) (f2 := f2) (t2 := t2) h0 h1 h2 hg
  have k19 : ∀ W, S9 w w.heap.size v0 a0 f0 t0 v1 a1 f1 t1 v2 a2 f2 t2 W → Calls Tryd.prog 19 #[RV v0 f0 t0] W fun e w' => e = .returned (.tuple #[.slice none 0 0, .int .i64 3]) ∧ S9 w w.heap.size v0 a0 f0 t0 v1 a1 f1 t1 v2 a2 f2 t2 w' := fun W h => calls_s h S9.below (encode19_no v0 a0 f0 t0 W h.2.2.1 z0 n0 hr h.2.2.2.2.2.1)
  have k11 : ∀ W, S9 w w.heap.size v0 a0 f0 t0 v1 a1 f1 t1 v2 a2 f2 t2 W → Calls Tryd.prog 11 #[RV v0 f0 t0] W fun e w' => e = .returned (.bool false) ∧ S9 w w.heap.size v0 a0 f0 t0 v1 a1 f1 t1 v2 a2 f2 t2 w' := fun W h => calls_s h S9.below (by rw [← hr]; exact rowRight v0 a0 f0 t0 W h.2.2.1 z0 n0 h.2.2.2.2.2.1)
  clear h0 h1 h2 z0 n0 hr hg
  go_enter Tryd.func7, Tryd.ntmps7
  go_wp2_with fail
  generalize w.alloc (.cells #[v0, .int .i64 f0, .int .i64 t0, v1, .int .i64 f1, .int .i64 t1, v2, .int .i64 f2, .int .i64 t2] 41) = W0 at *
  obtain ⟨⟨p0, p1, p2, p3, p4, p5, p6, p7, p8⟩, _⟩ := id hs
  refine wp_loop_rounds 4 ?_
  rw [rounds_succ]
  go_wp2_with (first
    | (go_at_call 19; (refine (k19 _ hs).mono ?_; rintro e wn ⟨rfl, hn⟩; obtain ⟨⟨q0, q1, q2, q3, q4, q5, q6, q7, q8⟩, _⟩ := id hn))
    | (go_at_call 11; (refine (k11 _ hn).mono ?_; rintro e wm ⟨rfl, hm⟩)))
  go_ret
  exact ⟨rfl, hm.2.2.2.2.2.2⟩

set_option maxRecDepth 100000 in
set_option maxHeartbeats 2000000 in
theorem keys7_no1 (v0 : Value) (a0 : List Vt) (f0 t0 : Int) (v1 : Value) (a1 : List Vt) (f1 t1 : Int) (v2 : Value) (a2 : List Vt) (f2 t2 : Int) (w : World) (h0 : SV w v0 a0) (h1 : SV w v1 a1) (h2 : SV w v2 a2) (r0 : rightRow a0 f0 t0 = true) (n0 : Few a0) (z1 : a1.length ≤ 140737488355328) (n1 : Few a1) (hg : Good w) (hr : rightRow a1 f1 t1 = false) :
    Calls Tryd.prog 7 #[.agg #[v0, .int .i64 f0, .int .i64 t0, v1, .int .i64 f1, .int .i64 t1, v2, .int .i64 f2, .int .i64 t2]] w fun e w' => e = .returned (.bool true) ∧ Below w.heap.size w w' := by
  have hs := s9_start (f0 := f0) (t0 := t0) (f1 := f1) (t1 := t1) (f2 := f2) (t2 := t2) h0 h1 h2 hg
  have k19 : ∀ W, S9 w w.heap.size v0 a0 f0 t0 v1 a1 f1 t1 v2 a2 f2 t2 W → Calls Tryd.prog 19 #[RV v1 f1 t1] W fun e w' => e = .returned (.tuple #[.slice none 0 0, .int .i64 3]) ∧ S9 w w.heap.size v0 a0 f0 t0 v1 a1 f1 t1 v2 a2 f2 t2 w' := fun W h => calls_s h S9.below (encode19_no v1 a1 f1 t1 W h.2.2.2.1 z1 n1 hr h.2.2.2.2.2.1)
  have k11 : ∀ W, S9 w w.heap.size v0 a0 f0 t0 v1 a1 f1 t1 v2 a2 f2 t2 W → Calls Tryd.prog 11 #[RV v1 f1 t1] W fun e w' => e = .returned (.bool false) ∧ S9 w w.heap.size v0 a0 f0 t0 v1 a1 f1 t1 v2 a2 f2 t2 w' := fun W h => calls_s h S9.below (by rw [← hr]; exact rowRight v1 a1 f1 t1 W h.2.2.2.1 z1 n1 h.2.2.2.2.2.1)
  obtain ⟨E0, K0, x0, y0, d0⟩ := rightK (S := S9 w w.heap.size v0 a0 f0 t0 v1 a1 f1 t1 v2 a2 f2 t2) (fun W h => ⟨h.2.2.1, h.2.2.2.2.2.1⟩) S9.below n0 r0
  generalize str (keyR a0) = s0 at *
  generalize (encR a0 f0 t0).length = m0 at *
  have u0 : ¬ (s0 = ByteArray.empty) := by rintro rfl; simp at x0
  have o0 : ¬ (m0 < s0.size) := by omega
  clear h0 h1 h2 z1 n1 hr hg r0 n0
  go_enter Tryd.func7, Tryd.ntmps7
  go_wp2_with fail
  generalize w.alloc (.cells #[v0, .int .i64 f0, .int .i64 t0, v1, .int .i64 f1, .int .i64 t1, v2, .int .i64 f2, .int .i64 t2] 41) = W0 at *
  obtain ⟨⟨p0, p1, p2, p3, p4, p5, p6, p7, p8⟩, _⟩ := id hs
  refine wp_loop_rounds 4 ?_
  rw [rounds_succ]
  go_wp2_with (first
    | (go_at_call 19; (refine (E0 _ hs).mono ?_; rintro e we0 ⟨g0, c0, rfl, hc0, he0, hv0⟩; obtain ⟨⟨l00, l01, l02, l03, l04, l05, l06, l07, l08⟩, _⟩ := id he0))
    | (go_at_call 17; (refine (K0 _ he0).mono ?_; rintro e wk0 ⟨rfl, hs0, hb0⟩; have cv0 := hv0 _ hb0; have hcc0 : s0.size ≤ c0 := Nat.le_trans y0 hc0; obtain ⟨⟨b00, b01, b02, b03, b04, b05, b06, b07, b08⟩, _⟩ := id hs0)))
  rw [rounds_succ]
  go_wp2_with (first
    | (go_at_call 19; (refine (k19 _ hs0).mono ?_; rintro e wn ⟨rfl, hn⟩; obtain ⟨⟨q0, q1, q2, q3, q4, q5, q6, q7, q8⟩, _⟩ := id hn))
    | (go_at_call 11; (refine (k11 _ hn).mono ?_; rintro e wm ⟨rfl, hm⟩)))
  go_ret
  exact ⟨rfl, hm.2.2.2.2.2.2⟩

set_option maxRecDepth 100000 in
set_option maxHeartbeats 2000000 in
theorem keys7_no2 (v0 : Value) (a0 : List Vt) (f0 t0 : Int) (v1 : Value) (a1 : List Vt) (f1 t1 : Int) (v2 : Value) (a2 : List Vt) (f2 t2 : Int) (w : World) (h0 : SV w v0 a0) (h1 : SV w v1 a1) (h2 : SV w v2 a2) (r0 : rightRow a0 f0 t0 = true) (n0 : Few a0) (r1 : rightRow a1 f1 t1 = true) (n1 : Few a1) (z2 : a2.length ≤ 140737488355328) (n2 : Few a2) (hg : Good w) (hr : rightRow a2 f2 t2 = false) :
    Calls Tryd.prog 7 #[.agg #[v0, .int .i64 f0, .int .i64 t0, v1, .int .i64 f1, .int .i64 t1, v2, .int .i64 f2, .int .i64 t2]] w fun e w' => e = .returned (.bool true) ∧ Below w.heap.size w w' := by
  have hs := s9_start (f0 := f0) (t0 := t0) (f1 := f1) (t1 := t1) (f2 := f2) (t2 := t2) h0 h1 h2 hg
  have k19 : ∀ W, S9 w w.heap.size v0 a0 f0 t0 v1 a1 f1 t1 v2 a2 f2 t2 W → Calls Tryd.prog 19 #[RV v2 f2 t2] W fun e w' => e = .returned (.tuple #[.slice none 0 0, .int .i64 3]) ∧ S9 w w.heap.size v0 a0 f0 t0 v1 a1 f1 t1 v2 a2 f2 t2 w' := fun W h => calls_s h S9.below (encode19_no v2 a2 f2 t2 W h.2.2.2.2.1 z2 n2 hr h.2.2.2.2.2.1)
  have k11 : ∀ W, S9 w w.heap.size v0 a0 f0 t0 v1 a1 f1 t1 v2 a2 f2 t2 W → Calls Tryd.prog 11 #[RV v2 f2 t2] W fun e w' => e = .returned (.bool false) ∧ S9 w w.heap.size v0 a0 f0 t0 v1 a1 f1 t1 v2 a2 f2 t2 w' := fun W h => calls_s h S9.below (by rw [← hr]; exact rowRight v2 a2 f2 t2 W h.2.2.2.2.1 z2 n2 h.2.2.2.2.2.1)
  obtain ⟨E0, K0, x0, y0, d0⟩ := rightK (S := S9 w w.heap.size v0 a0 f0 t0 v1 a1 f1 t1 v2 a2 f2 t2) (fun W h => ⟨h.2.2.1, h.2.2.2.2.2.1⟩) S9.below n0 r0
  generalize str (keyR a0) = s0 at *
  generalize (encR a0 f0 t0).length = m0 at *
  have u0 : ¬ (s0 = ByteArray.empty) := by rintro rfl; simp at x0
  have o0 : ¬ (m0 < s0.size) := by omega
  obtain ⟨E1, K1, x1, y1, d1⟩ := rightK (S := S9 w w.heap.size v0 a0 f0 t0 v1 a1 f1 t1 v2 a2 f2 t2) (fun W h => ⟨h.2.2.2.1, h.2.2.2.2.2.1⟩) S9.below n1 r1
  generalize str (keyR a1) = s1 at *
  generalize (encR a1 f1 t1).length = m1 at *
  have u1 : ¬ (s1 = ByteArray.empty) := by rintro rfl; simp at x1
  have o1 : ¬ (m1 < s1.size) := by omega
  clear h0 h1 h2 z2 n2 hr hg r0 n0 r1 n1
  go_enter Tryd.func7, Tryd.ntmps7
  go_wp2_with fail
  generalize w.alloc (.cells #[v0, .int .i64 f0, .int .i64 t0, v1, .int .i64 f1, .int .i64 t1, v2, .int .i64 f2, .int .i64 t2] 41) = W0 at *
  obtain ⟨⟨p0, p1, p2, p3, p4, p5, p6, p7, p8⟩, _⟩ := id hs
  refine wp_loop_rounds 4 ?_
  rw [rounds_succ]
  go_wp2_with (first
    | (go_at_call 19; (refine (E0 _ hs).mono ?_; rintro e we0 ⟨g0, c0, rfl, hc0, he0, hv0⟩; obtain ⟨⟨l00, l01, l02, l03, l04, l05, l06, l07, l08⟩, _⟩ := id he0))
    | (go_at_call 17; (refine (K0 _ he0).mono ?_; rintro e wk0 ⟨rfl, hs0, hb0⟩; have cv0 := hv0 _ hb0; have hcc0 : s0.size ≤ c0 := Nat.le_trans y0 hc0; obtain ⟨⟨b00, b01, b02, b03, b04, b05, b06, b07, b08⟩, _⟩ := id hs0)))
  rw [rounds_succ]
  go_wp2_with (first
    | (go_at_call 19; (refine (E1 _ hs0).mono ?_; rintro e we1 ⟨g1, c1, rfl, hc1, he1, hv1⟩; obtain ⟨⟨l10, l11, l12, l13, l14, l15, l16, l17, l18⟩, _⟩ := id he1))
    | (go_at_call 17; (refine (K1 _ he1).mono ?_; rintro e wk1 ⟨rfl, hs1, hb1⟩; have cv1 := hv1 _ hb1; have hcc1 : s1.size ≤ c1 := Nat.le_trans y1 hc1; obtain ⟨⟨b10, b11, b12, b13, b14, b15, b16, b17, b18⟩, _⟩ := id hs1)))
  rw [rounds_succ]
  go_wp2_with (first
    | (go_at_call 19; (refine (k19 _ hs1).mono ?_; rintro e wn ⟨rfl, hn⟩; obtain ⟨⟨q0, q1, q2, q3, q4, q5, q6, q7, q8⟩, _⟩ := id hn))
    | (go_at_call 11; (refine (k11 _ hn).mono ?_; rintro e wm ⟨rfl, hm⟩)))
  go_ret
  exact ⟨rfl, hm.2.2.2.2.2.2⟩

set_option maxRecDepth 100000 in
set_option maxHeartbeats 2000000 in
theorem keys7_yes (v0 : Value) (a0 : List Vt) (f0 t0 : Int) (v1 : Value) (a1 : List Vt) (f1 t1 : Int) (v2 : Value) (a2 : List Vt) (f2 t2 : Int) (w : World) (h0 : SV w v0 a0) (h1 : SV w v1 a1) (h2 : SV w v2 a2) (r0 : rightRow a0 f0 t0 = true) (n0 : Few a0) (r1 : rightRow a1 f1 t1 = true) (n1 : Few a1) (r2 : rightRow a2 f2 t2 = true) (n2 : Few a2) (hg : Good w) :
    Calls Tryd.prog 7 #[.agg #[v0, .int .i64 f0, .int .i64 t0, v1, .int .i64 f1, .int .i64 t1, v2, .int .i64 f2, .int .i64 t2]] w fun e w' => e = .returned (.bool true) ∧ Below w.heap.size w w' := by
  have hs := s9_start (f0 := f0) (t0 := t0) (f1 := f1) (t1 := t1) (f2 := f2) (t2 := t2) h0 h1 h2 hg
  have len : ∀ {a : List Vt} {f t : Int}, rightRow a f t = true → a.length ≤ 140737488355328 := fun h => by have := (rightRow_parts h).2.1; omega
  have k01 : ∀ W, S9 w w.heap.size v0 a0 f0 t0 v1 a1 f1 t1 v2 a2 f2 t2 W → Calls Tryd.prog 13 #[RV v0 f0 t0, RV v1 f1 t1] W fun e w' => e = .returned (.int .i64 (cmpR a0 f0 t0 a1 f1 t1)) ∧ S9 w w.heap.size v0 a0 f0 t0 v1 a1 f1 t1 v2 a2 f2 t2 w' := fun W h => calls_s h S9.below (compare13 v0 v1 a0 a1 f0 t0 f1 t1 W h.2.2.1 h.2.2.2.1 (len r0) (len r1))
  have k12 : ∀ W, S9 w w.heap.size v0 a0 f0 t0 v1 a1 f1 t1 v2 a2 f2 t2 W → Calls Tryd.prog 13 #[RV v1 f1 t1, RV v2 f2 t2] W fun e w' => e = .returned (.int .i64 (cmpR a1 f1 t1 a2 f2 t2)) ∧ S9 w w.heap.size v0 a0 f0 t0 v1 a1 f1 t1 v2 a2 f2 t2 w' := fun W h => calls_s h S9.below (compare13 v1 v2 a1 a2 f1 t1 f2 t2 W h.2.2.2.1 h.2.2.2.2.1 (len r1) (len r2))
  have HK : Hid (cmpR a0 f0 t0 a1 f1 t1 ≤ 0 → cmpR a1 f1 t1 a2 f2 t2 ≤ 0 → str (keyR a0) = str (keyR a2) → str (keyR a1) = str (keyR a0)) := fun c1 c2 c3 => by
    rw [key_between r0 r1 r2 n0 n1 n2 c1 c2 ((str_eq.1 c3).trans (bs_str _))]
  generalize cmpR a0 f0 t0 a1 f1 t1 = C at *
  generalize cmpR a1 f1 t1 a2 f2 t2 = D at *
  obtain ⟨E0, K0, x0, y0, d0⟩ := rightK (S := S9 w w.heap.size v0 a0 f0 t0 v1 a1 f1 t1 v2 a2 f2 t2) (fun W h => ⟨h.2.2.1, h.2.2.2.2.2.1⟩) S9.below n0 r0
  generalize str (keyR a0) = s0 at *
  generalize (encR a0 f0 t0).length = m0 at *
  have u0 : ¬ (s0 = ByteArray.empty) := by rintro rfl; simp at x0
  have o0 : ¬ (m0 < s0.size) := by omega
  obtain ⟨E1, K1, x1, y1, d1⟩ := rightK (S := S9 w w.heap.size v0 a0 f0 t0 v1 a1 f1 t1 v2 a2 f2 t2) (fun W h => ⟨h.2.2.2.1, h.2.2.2.2.2.1⟩) S9.below n1 r1
  generalize str (keyR a1) = s1 at *
  generalize (encR a1 f1 t1).length = m1 at *
  have u1 : ¬ (s1 = ByteArray.empty) := by rintro rfl; simp at x1
  have o1 : ¬ (m1 < s1.size) := by omega
  obtain ⟨E2, K2, x2, y2, d2⟩ := rightK (S := S9 w w.heap.size v0 a0 f0 t0 v1 a1 f1 t1 v2 a2 f2 t2) (fun W h => ⟨h.2.2.2.2.1, h.2.2.2.2.2.1⟩) S9.below n2 r2
  generalize str (keyR a2) = s2 at *
  generalize (encR a2 f2 t2).length = m2 at *
  have u2 : ¬ (s2 = ByteArray.empty) := by rintro rfl; simp at x2
  have o2 : ¬ (m2 < s2.size) := by omega
  clear h0 h1 h2 hg r0 r1 r2 n0 n1 n2 len
  go_enter Tryd.func7, Tryd.ntmps7
  go_wp2_with fail
  generalize w.alloc (.cells #[v0, .int .i64 f0, .int .i64 t0, v1, .int .i64 f1, .int .i64 t1, v2, .int .i64 f2, .int .i64 t2] 41) = W0 at *
  obtain ⟨⟨p0, p1, p2, p3, p4, p5, p6, p7, p8⟩, _⟩ := id hs
  refine wp_loop_rounds 4 ?_
  rw [rounds_succ]
  go_wp2_with (first
    | (go_at_call 19; (refine (E0 _ hs).mono ?_; rintro e we0 ⟨g0, c0, rfl, hc0, he0, hv0⟩; obtain ⟨⟨l00, l01, l02, l03, l04, l05, l06, l07, l08⟩, _⟩ := id he0))
    | (go_at_call 17; (refine (K0 _ he0).mono ?_; rintro e wk0 ⟨rfl, hs0, hb0⟩; have cv0 := hv0 _ hb0; have hcc0 : s0.size ≤ c0 := Nat.le_trans y0 hc0; obtain ⟨⟨b00, b01, b02, b03, b04, b05, b06, b07, b08⟩, _⟩ := id hs0)))
  rw [rounds_succ]
  go_wp2_with (first
    | (go_at_call 19; (refine (E1 _ hs0).mono ?_; rintro e we1 ⟨g1, c1, rfl, hc1, he1, hv1⟩; obtain ⟨⟨l10, l11, l12, l13, l14, l15, l16, l17, l18⟩, _⟩ := id he1))
    | (go_at_call 17; (refine (K1 _ he1).mono ?_; rintro e wk1 ⟨rfl, hs1, hb1⟩; have cv1 := hv1 _ hb1; have hcc1 : s1.size ≤ c1 := Nat.le_trans y1 hc1; obtain ⟨⟨b10, b11, b12, b13, b14, b15, b16, b17, b18⟩, _⟩ := id hs1)))
  rw [rounds_succ]
  go_wp2_with (first
    | (go_at_call 19; (refine (E2 _ hs1).mono ?_; rintro e we2 ⟨g2, c2, rfl, hc2, he2, hv2⟩; obtain ⟨⟨l20, l21, l22, l23, l24, l25, l26, l27, l28⟩, _⟩ := id he2))
    | (go_at_call 17; (refine (K2 _ he2).mono ?_; rintro e wk2 ⟨rfl, hs2, hb2⟩; have cv2 := hv2 _ hb2; have hcc2 : s2.size ≤ c2 := Nat.le_trans y2 hc2; obtain ⟨⟨b20, b21, b22, b23, b24, b25, b26, b27, b28⟩, _⟩ := id hs2)))
  rw [rounds_succ]
  go_wp2_with fail
  have hk : S9 w w.heap.size v0 a0 f0 t0 v1 a1 f1 t1 v2 a2 f2 t2 wk2.drew := hs2.below (Below.refl _ _).drew
  have z0 := fun p : GW (S9 w w.heap.size v0 a0 f0 t0 v1 a1 f1 t1 v2 a2 f2 t2) => p.h.1.1
  have z1 := fun p : GW (S9 w w.heap.size v0 a0 f0 t0 v1 a1 f1 t1 v2 a2 f2 t2) => p.h.1.2.1
  have z2 := fun p : GW (S9 w w.heap.size v0 a0 f0 t0 v1 a1 f1 t1 v2 a2 f2 t2) => p.h.1.2.2.1
  have z3 := fun p : GW (S9 w w.heap.size v0 a0 f0 t0 v1 a1 f1 t1 v2 a2 f2 t2) => p.h.1.2.2.2.1
  have z4 := fun p : GW (S9 w w.heap.size v0 a0 f0 t0 v1 a1 f1 t1 v2 a2 f2 t2) => p.h.1.2.2.2.2.1
  have z5 := fun p : GW (S9 w w.heap.size v0 a0 f0 t0 v1 a1 f1 t1 v2 a2 f2 t2) => p.h.1.2.2.2.2.2.1
  have z6 := fun p : GW (S9 w w.heap.size v0 a0 f0 t0 v1 a1 f1 t1 v2 a2 f2 t2) => p.h.1.2.2.2.2.2.2.1
  have z7 := fun p : GW (S9 w w.heap.size v0 a0 f0 t0 v1 a1 f1 t1 v2 a2 f2 t2) => p.h.1.2.2.2.2.2.2.2.1
  have z8 := fun p : GW (S9 w w.heap.size v0 a0 f0 t0 v1 a1 f1 t1 v2 a2 f2 t2) => p.h.1.2.2.2.2.2.2.2.2
  have inh : Nonempty (GW (S9 w w.heap.size v0 a0 f0 t0 v1 a1 f1 t1 v2 a2 f2 t2)) := ⟨⟨_, hk⟩⟩
  have Q01 := hideK (fun p : GW (S9 w w.heap.size v0 a0 f0 t0 v1 a1 f1 t1 v2 a2 f2 t2) => calls_gw p (k01 p.w p.h))
  have Q12 := hideK (fun p : GW (S9 w w.heap.size v0 a0 f0 t0 v1 a1 f1 t1 v2 a2 f2 t2) => calls_gw p (k12 p.w p.h))
  have QK0 := hideK (fun p : GW (S9 w w.heap.size v0 a0 f0 t0 v1 a1 f1 t1 v2 a2 f2 t2) => calls_gw p ((K0 p.w p.h).mono fun _ _ ⟨e, h, _⟩ => ⟨e, h⟩))
  have QK1 := hideK (fun p : GW (S9 w w.heap.size v0 a0 f0 t0 v1 a1 f1 t1 v2 a2 f2 t2) => calls_gw p ((K1 p.w p.h).mono fun _ _ ⟨e, h, _⟩ => ⟨e, h⟩))
  have QK2 := hideK (fun p : GW (S9 w w.heap.size v0 a0 f0 t0 v1 a1 f1 t1 v2 a2 f2 t2) => calls_gw p ((K2 p.w p.h).mono fun _ _ ⟨e, h, _⟩ => ⟨e, h⟩))
  clear k01 k12 E0 E1 E2 K0 K1 K2 p0 p1 p2 p3 p4 p5 p6 p7 p8 l00 l01 l02 l03 l04 l05 l06 l07 l08 l10 l11 l12 l13 l14 l15 l16 l17 l18 l20 l21 l22 l23 l24 l25 l26 l27 l28 b00 b01 b02 b03 b04 b05 b06 b07 b08 b10 b11 b12 b13 b14 b15 b16 b17 b18 b20 b21 b22 b23 b24 b25 b26 b27 b28 cv0 hv0 hb0 hcc0 hc0 x0 y0 d0 u0 o0 he0 cv1 hv1 hb1 hcc1 hc1 x1 y1 d1 u1 o1 he1 cv2 hv2 hb2 hcc2 hc2 x2 y2 d2 u2 o2 he2 hs hs0 hs1 hs2
  by_cases hC : C ≤ 0
  · by_cases hD : D ≤ 0
    · by_cases hE : s0 = s2
      · have hF := HK.out hC hD hE
        subst hE
        subst hF
        refine wp_region_gw (S9 w w.heap.size v0 a0 f0 t0 v1 a1 f1 t1 v2 a2 f2 t2) (by kernel_rfl) hk ?_
        repeat (go_big_quiet_step (first | (go_at_call 13; with_reducible exact Q01.out _) | (go_at_call 13; with_reducible exact Q12.out _) | (go_at_call 17; with_reducible exact QK0.out _) | (go_at_call 17; with_reducible exact QK2.out _)))
        refine wpQuiet_nil ?_
        intro _ hw'
        obtain ⟨⟨wq, hq⟩, hw''⟩ := hw'
        subst hw''
        go_wp2_with fail
        refine wp_region_gw (S9 w w.heap.size v0 a0 f0 t0 v1 a1 f1 t1 v2 a2 f2 t2) (by kernel_rfl) (hq.below (Below.refl _ _).drew) ?_
        repeat (go_big_quiet_step (first | (go_at_call 17; with_reducible exact QK1.out _) | (go_at_call 17; with_reducible exact QK0.out _)))
        refine wpQuiet_nil ?_
        intro _ hw3
        obtain ⟨⟨wr, hr⟩, hw4⟩ := hw3
        subst hw4
        go_wp2
        go_ret
        exact ⟨rfl, hr.2.2.2.2.2.2⟩
      · have hE' := ne_list hE
        refine wp_region_gw (S9 w w.heap.size v0 a0 f0 t0 v1 a1 f1 t1 v2 a2 f2 t2) (by kernel_rfl) hk ?_
        repeat (go_big_quiet_step (first | (go_at_call 13; with_reducible exact Q01.out _) | (go_at_call 13; with_reducible exact Q12.out _) | (go_at_call 17; with_reducible exact QK0.out _) | (go_at_call 17; with_reducible exact QK2.out _)))
        refine wpQuiet_nil ?_
        intro _ hw'
        obtain ⟨⟨wq, hq⟩, hw''⟩ := hw'
        subst hw''
        go_wp2
        go_ret
        exact ⟨rfl, hq.2.2.2.2.2.2⟩
    · refine wp_region_gw (S9 w w.heap.size v0 a0 f0 t0 v1 a1 f1 t1 v2 a2 f2 t2) (by kernel_rfl) hk ?_
      repeat (go_big_quiet_step (first | (go_at_call 13; with_reducible exact Q01.out _) | (go_at_call 13; with_reducible exact Q12.out _) | (go_at_call 17; with_reducible exact QK0.out _) | (go_at_call 17; with_reducible exact QK2.out _)))
      refine wpQuiet_nil ?_
      intro _ hw'
      obtain ⟨⟨wq, hq⟩, hw''⟩ := hw'
      subst hw''
      go_wp2
      go_ret
      exact ⟨rfl, hq.2.2.2.2.2.2⟩
  · refine wp_region_gw (S9 w w.heap.size v0 a0 f0 t0 v1 a1 f1 t1 v2 a2 f2 t2) (by kernel_rfl) hk ?_
    repeat (go_big_quiet_step (first | (go_at_call 13; with_reducible exact Q01.out _) | (go_at_call 13; with_reducible exact Q12.out _) | (go_at_call 17; with_reducible exact QK0.out _) | (go_at_call 17; with_reducible exact QK2.out _)))
    refine wpQuiet_nil ?_
    intro _ hw'
    obtain ⟨⟨wq, hq⟩, hw''⟩ := hw'
    subst hw''
    go_wp2
    go_ret
    exact ⟨rfl, hq.2.2.2.2.2.2⟩

/-- The law TopKeys. -/
theorem topKeys7 (v0 : Value) (a0 : List Vt) (f0 t0 : Int) (v1 : Value) (a1 : List Vt) (f1 t1 : Int) (v2 : Value) (a2 : List Vt) (f2 t2 : Int) (w : World) (h0 : SV w v0 a0) (h1 : SV w v1 a1) (h2 : SV w v2 a2) (z0 : a0.length ≤ 140737488355328) (z1 : a1.length ≤ 140737488355328) (z2 : a2.length ≤ 140737488355328) (n0 : Few a0) (n1 : Few a1) (n2 : Few a2) (hg : Good w) :
    Calls Tryd.prog 7 #[.agg #[v0, .int .i64 f0, .int .i64 t0, v1, .int .i64 f1, .int .i64 t1, v2, .int .i64 f2, .int .i64 t2]] w fun e w' => e = .returned (.bool true) ∧ Below w.heap.size w w' := by
  cases r0 : rightRow a0 f0 t0
  · exact keys7_no0 v0 a0 f0 t0 v1 a1 f1 t1 v2 a2 f2 t2 w h0 h1 h2 z0 n0 hg r0
  · cases r1 : rightRow a1 f1 t1
    · exact keys7_no1 v0 a0 f0 t0 v1 a1 f1 t1 v2 a2 f2 t2 w h0 h1 h2 r0 n0 z1 n1 hg r1
    · cases r2 : rightRow a2 f2 t2
      · exact keys7_no2 v0 a0 f0 t0 v1 a1 f1 t1 v2 a2 f2 t2 w h0 h1 h2 r0 n0 r1 n1 z2 n2 hg r2
      · exact keys7_yes v0 a0 f0 t0 v1 a1 f1 t1 v2 a2 f2 t2 w h0 h1 h2 r0 n0 r1 n1 r2 n2 hg

end Go.Proofs.YtolggmmlaohpdabDoor
