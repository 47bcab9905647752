/- The reference's Parse of a short text. -/
import Derived.Test.YtipnaphikbjhbaaDoorNumb
import Derived.Test.YtipnaphikbjhbaaDoorPrt
namespace Go.Proofs.YtipnaphikbjhbaaDoor
open Go.RowKit Go.Lib Go.Joins

/-- What a text might say, by the reference. -/
def candV (l : Bs) : Int × Int × Bs := if (unq l).2.2 = 0 ∧ (unq l).2.1 = l.length then (2, 0, (unq l).1) else (1, numV l, [])
def rprsV (l : Bs) : Int × Int × Bs × Nat := if prV (candV l).1 (candV l).2.1 (candV l).2.2 = (l, 0) then ((candV l).1, (candV l).2.1, (candV l).2.2, 0) else (0, 0, [], 3)

theorem candV_in (l : Bs) : inI64 (candV l).2.1 := by
  unfold candV
  split
  · show inI64 0; unfold inI64; omega
  · exact numF_in _ _
theorem pr_right {k n : Int} {x l : Bs} (h : prV k n x = (l, 0)) : rightV k n x = true ∧ printV k n x = l := by
  cases hR : rightV k n x
  · rw [prV_no hR] at h; simp at h
  · rw [prV_yes hR] at h; exact ⟨rfl, by simpa using h⟩
theorem unq_itoa (n : Int) : unq (itoa n) = ([], 0, 8) := by
  cases h : itoa n with
  | nil => exact absurd h (itoa_ne n)
  | cons b t => exact unq_other (itoa_first n h)

/-- Parse of a value's text is the value. -/
theorem prs_print {k n : Int} {x : Bs} (hr : rightV k n x = true) (hn : inI64 n) : prsV (printV k n x) = (k, n, x, 0) := by
  have hp := prV_yes hr
  rcases rightV_cases hr with ⟨rfl, rfl⟩ | ⟨rfl, rfl, hs⟩
  · rw [printV_int] at hp ⊢
    unfold prsV
    rw [saidV_num (parse_itoa n hn)]
    simp [hp]
  · rw [printV_text] at hp ⊢
    have h1 : saidV (39 :: dbl x ++ [39]) = (2, 0, x, true) := by
      rw [saidV_text (fun m => by rw [List.cons_append, parse_mark]; simp), unq_quote hs]; rfl
    unfold prsV
    rw [h1]
    simp only [hp, and_self, if_true]
theorem rprs_print {k n : Int} {x : Bs} (hr : rightV k n x = true) (hn : inI64 n) : rprsV (printV k n x) = (k, n, x, 0) := by
  have hp := prV_yes hr
  rcases rightV_cases hr with ⟨rfl, rfl⟩ | ⟨rfl, rfl, hs⟩
  · rw [printV_int] at hp ⊢
    have h1 : candV (itoa n) = (1, n, []) := by
      unfold candV
      rw [unq_itoa, if_neg (by simp), num_itoa n hn]
    unfold rprsV
    rw [h1]
    simp only [hp, if_true]
  · rw [printV_text] at hp ⊢
    have h1 : candV (39 :: dbl x ++ [39]) = (2, 0, x) := by
      unfold candV
      rw [unq_quote hs, if_pos ⟨rfl, rfl⟩]
    unfold rprsV
    rw [h1]
    simp only [hp, if_true]
theorem prs_same (l : Bs) : rprsV l = prsV l := by
  by_cases h : ∃ k n x, rightV k n x = true ∧ inI64 n ∧ printV k n x = l
  · obtain ⟨k, n, x, hr, hn, rfl⟩ := h
    rw [prs_print hr hn, rprs_print hr hn]
  · have h1 : prsV l = (0, 0, [], 3) := by
      unfold prsV
      rw [if_neg]
      rintro ⟨_, e⟩
      exact h ⟨_, _, _, (pr_right e).1, saidV_in l, (pr_right e).2⟩
    have h2 : rprsV l = (0, 0, [], 3) := by
      unfold rprsV
      rw [if_neg]
      intro e
      exact h ⟨_, _, _, (pr_right e).1, candV_in l, (pr_right e).2⟩
    rw [h1, h2]

theorem candV_len (l : Bs) : (candV l).2.2.length ≤ l.length := by
  unfold candV
  split
  · exact unq_len l
  · simp

theorem two_over {w w1 : World} {o1 o2 : Obj} (h : Below ((w.alloc o1).alloc o2).heap.size ((w.alloc o1).alloc o2) w1) : Below w.heap.size w w1 := bmore (bmore (al w o1) (al _ o2)) h
/-- Two blocks that were laid, behind a call. -/
theorem two_blocks {w w1 : World} {o1 o2 : Obj} (h : Below ((w.alloc o1).alloc o2).heap.size ((w.alloc o1).alloc o2) w1) (i : Nat) :
    (w1.cell? ⟨w.heap.size, i, none⟩ = (w.alloc o1).cell? ⟨w.heap.size, i, none⟩ ∧ w1.frozen? ⟨w.heap.size, i, none⟩ = (w.alloc o1).frozen? ⟨w.heap.size, i, none⟩) ∧
    (w1.cell? ⟨w.heap.size + 1, i, none⟩ = ((w.alloc o1).alloc o2).cell? ⟨w.heap.size + 1, i, none⟩ ∧ w1.frozen? ⟨w.heap.size + 1, i, none⟩ = ((w.alloc o1).alloc o2).frozen? ⟨w.heap.size + 1, i, none⟩) := by
  have b2 : Below (w.alloc o1).heap.size (w.alloc o1) w1 := bmore (al _ o2) h
  exact ⟨⟨b2.cell (p := ⟨w.heap.size, i, none⟩) (by simp), b2.frozen (p := ⟨w.heap.size, i, none⟩) (by simp)⟩, h.cell (p := ⟨w.heap.size + 1, i, none⟩) (by simp), h.frozen (p := ⟨w.heap.size + 1, i, none⟩) (by simp)⟩

theorem two_size {w w1 : World} {o1 o2 : Obj} (h : Below ((w.alloc o1).alloc o2).heap.size ((w.alloc o1).alloc o2) w1) : w.heap.size + 1 < w1.heap.size := by
  have := h.size
  simp at this
  omega
theorem num_mid {w w1 : World} (h : Below w.heap.size w w1) (x y z t : Value) : Below w.heap.size w ((((w1.setCell ⟨w.heap.size + 1, 2, none⟩ t).setCell ⟨w.heap.size + 1, 0, none⟩ x).setCell ⟨w.heap.size + 1, 1, none⟩ y).setCell ⟨w.heap.size + 1, 2, none⟩ z) :=
  (((h.setCell (by simp) _).setCell (by simp) _).setCell (by simp) _).setCell (by simp) _

set_option maxRecDepth 100000 in
set_option maxHeartbeats 1000000 in
/-- A text, as it should be. -/
theorem parse20_ty (s t : ByteArray) (w : World) (hg2 : ∀ W, Below w.heap.size w W → Good W)
    (c35 : ∀ w1, Good w1 → Calls Tryd.prog 65 #[.string s] w1 fun e w' => e = .returned (.tuple #[.string t, .int .i64 (s.size : Int), .int .i64 0]) ∧ Below w1.heap.size w1 w')
    (c10 : ∀ w1, Good w1 → Calls Tryd.prog 70 #[V 2 0 t] w1 fun e w' => e = .returned (.tuple #[.string s, .int .i64 0]) ∧ Below w1.heap.size w1 w') :
    Calls Tryd.prog 64 #[.string s] w fun e w' => e = .returned (.tuple #[V 2 0 t, .int .i64 0]) ∧ Below w.heap.size w w' := by
  go_enter Tryd.func64, Tryd.ntmps64
  go_wp2_with (first
    | (go_at_call 65; (refine (c35 _ (hg2 _ (bmore (al _ _) (al _ _)))).mono ?_; rintro e w1 ⟨rfl, hb⟩; have e0 := two_blocks hb 0; have e1 := two_blocks hb 1; have e2 := two_blocks hb 2; simp at e0 e1 e2; obtain ⟨⟨a0, b0⟩, p0, q0⟩ := e0; obtain ⟨⟨a1, b1⟩, p1, q1⟩ := e1; obtain ⟨⟨a2, b2⟩, p2, q2⟩ := e2; have hz := two_size hb; have hz0 := Nat.lt_of_succ_lt hz; have hw1 := two_over hb))
    | (go_at_call 70; (refine (c10 _ (hg2 _ (hw1.setCell (by simp) _))).mono ?_; rintro e w3 ⟨rfl, hb3⟩; obtain ⟨hcc, hff⟩ := bcell hb3; have hw3 := bmore (hw1.setCell (by simp) _) hb3)))
  exact bodyPost_ret (v := .tuple #[V 2 0 t, .int .i64 0]) (by simp [results, Tryd.results64, go_sem, hcc, hz0, a0, a1, a2]) rfl ⟨rfl, set3 hw3 _ _ _⟩

set_option maxRecDepth 100000 in
set_option maxHeartbeats 1000000 in
/-- A text, written otherwise. -/
theorem parse20_tn (s t : ByteArray) (q : ByteArray) (w : World) (hg2 : ∀ W, Below w.heap.size w W → Good W)
    (c35 : ∀ w1, Good w1 → Calls Tryd.prog 65 #[.string s] w1 fun e w' => e = .returned (.tuple #[.string t, .int .i64 (s.size : Int), .int .i64 0]) ∧ Below w1.heap.size w1 w')
    (c10 : ∀ w1, Good w1 → Calls Tryd.prog 70 #[V 2 0 t] w1 fun e w' => e = .returned (.tuple #[.string q, .int .i64 0]) ∧ Below w1.heap.size w1 w') (hnd : (q.toList == s.toList) = false) :
    Calls Tryd.prog 64 #[.string s] w fun e w' => e = .returned (.tuple #[V 0 0 ⟨#[]⟩, .int .i64 3]) ∧ Below w.heap.size w w' := by
  go_enter Tryd.func64, Tryd.ntmps64
  go_wp2_with (first
    | (go_at_call 65; (refine (c35 _ (hg2 _ (bmore (al _ _) (al _ _)))).mono ?_; rintro e w1 ⟨rfl, hb⟩; have e0 := two_blocks hb 0; have e1 := two_blocks hb 1; have e2 := two_blocks hb 2; simp at e0 e1 e2; obtain ⟨⟨a0, b0⟩, p0, q0⟩ := e0; obtain ⟨⟨a1, b1⟩, p1, q1⟩ := e1; obtain ⟨⟨a2, b2⟩, p2, q2⟩ := e2; have hz := two_size hb; have hz0 := Nat.lt_of_succ_lt hz; have hw1 := two_over hb))
    | (go_at_call 70; (refine (c10 _ (hg2 _ (hw1.setCell (by simp) _))).mono ?_; rintro e w3 ⟨rfl, hb3⟩; obtain ⟨hcc, hff⟩ := bcell hb3; have hw3 := bmore (hw1.setCell (by simp) _) hb3)))
  exact bodyPost_ret (v := .tuple #[V 0 0 ⟨#[]⟩, .int .i64 3]) (by simp [results, Tryd.results64, go_sem, hcc, hz0, a0, a1, a2]) rfl ⟨rfl, set3 hw3 _ _ _⟩

set_option maxRecDepth 100000 in
set_option maxHeartbeats 1000000 in
/-- A text that can not be. -/
theorem parse20_te (s t : ByteArray) (q : ByteArray) (e10 : Nat) (w : World) (hg2 : ∀ W, Below w.heap.size w W → Good W)
    (c35 : ∀ w1, Good w1 → Calls Tryd.prog 65 #[.string s] w1 fun e w' => e = .returned (.tuple #[.string t, .int .i64 (s.size : Int), .int .i64 0]) ∧ Below w1.heap.size w1 w')
    (c10 : ∀ w1, Good w1 → Calls Tryd.prog 70 #[V 2 0 t] w1 fun e w' => e = .returned (.tuple #[.string q, .int .i64 (e10 : Int)]) ∧ Below w1.heap.size w1 w') (hez : ((e10 : Int) != 0) = true) (_hez2 : ¬ ((e10 : Int) = 0)) :
    Calls Tryd.prog 64 #[.string s] w fun e w' => e = .returned (.tuple #[V 0 0 ⟨#[]⟩, .int .i64 3]) ∧ Below w.heap.size w w' := by
  go_enter Tryd.func64, Tryd.ntmps64
  go_wp2_with (first
    | (go_at_call 65; (refine (c35 _ (hg2 _ (bmore (al _ _) (al _ _)))).mono ?_; rintro e w1 ⟨rfl, hb⟩; have e0 := two_blocks hb 0; have e1 := two_blocks hb 1; have e2 := two_blocks hb 2; simp at e0 e1 e2; obtain ⟨⟨a0, b0⟩, p0, q0⟩ := e0; obtain ⟨⟨a1, b1⟩, p1, q1⟩ := e1; obtain ⟨⟨a2, b2⟩, p2, q2⟩ := e2; have hz := two_size hb; have hz0 := Nat.lt_of_succ_lt hz; have hw1 := two_over hb))
    | (go_at_call 70; (refine (c10 _ (hg2 _ (hw1.setCell (by simp) _))).mono ?_; rintro e w3 ⟨rfl, hb3⟩; obtain ⟨hcc, hff⟩ := bcell hb3; have hw3 := bmore (hw1.setCell (by simp) _) hb3)))
  exact bodyPost_ret (v := .tuple #[V 0 0 ⟨#[]⟩, .int .i64 3]) (by simp [results, Tryd.results64, go_sem, hcc, hz0, a0, a1, a2]) rfl ⟨rfl, set3 hw3 _ _ _⟩

set_option maxRecDepth 100000 in
set_option maxHeartbeats 1000000 in
/-- A number, as it should be. -/
theorem parse20_nye (s u : ByteArray) (m er : Nat) (n : Int) (w : World) (hg2 : ∀ W, Below w.heap.size w W → Good W)
    (c35 : ∀ w1, Good w1 → Calls Tryd.prog 65 #[.string s] w1 fun e w' => e = .returned (.tuple #[.string u, .int .i64 (m : Int), .int .i64 (er : Int)]) ∧ Below w1.heap.size w1 w')
    (c36 : ∀ w1, Calls Tryd.prog 69 #[.string s] w1 fun e w' => e = .returned (.int .i64 n) ∧ w' = w1)
    (c10 : ∀ w1, Good w1 → Calls Tryd.prog 70 #[V 1 n ⟨#[]⟩] w1 fun e w' => e = .returned (.tuple #[.string s, .int .i64 0]) ∧ Below w1.heap.size w1 w') (her : ((er : Int) != 0) = true) (_her2 : ¬ ((er : Int) = 0)) :
    Calls Tryd.prog 64 #[.string s] w fun e w' => e = .returned (.tuple #[V 1 n ⟨#[]⟩, .int .i64 0]) ∧ Below w.heap.size w w' := by
  go_enter Tryd.func64, Tryd.ntmps64
  go_wp2_with (first
    | (go_at_call 65; (refine (c35 _ (hg2 _ (bmore (al _ _) (al _ _)))).mono ?_; rintro e w1 ⟨rfl, hb⟩; have e0 := two_blocks hb 0; have e1 := two_blocks hb 1; have e2 := two_blocks hb 2; simp at e0 e1 e2; obtain ⟨⟨a0, b0⟩, p0, q0⟩ := e0; obtain ⟨⟨a1, b1⟩, p1, q1⟩ := e1; obtain ⟨⟨a2, b2⟩, p2, q2⟩ := e2; have hz := two_size hb; have hz0 := Nat.lt_of_succ_lt hz; have hw1 := two_over hb))
    | (go_at_call 69; refine (c36 _).mono ?_; rintro e w2 ⟨rfl, rfl⟩)
    | (go_at_call 70; (refine (c10 _ (hg2 _ (num_mid hw1 _ _ _ _))).mono ?_; rintro e w3 ⟨rfl, hb3⟩; obtain ⟨hcc, hff⟩ := bcell hb3; have hw3 := bmore (num_mid hw1 _ _ _ _) hb3)))
  exact bodyPost_ret (v := .tuple #[V 1 n ⟨#[]⟩, .int .i64 0]) (by simp [results, Tryd.results64, go_sem, hcc, hz0, a0, a1, a2]) rfl ⟨rfl, set3 hw3 _ _ _⟩

set_option maxRecDepth 100000 in
set_option maxHeartbeats 1000000 in
/-- A number, written otherwise. -/
theorem parse20_nne (s u : ByteArray) (m er : Nat) (n : Int) (q : ByteArray) (w : World) (hg2 : ∀ W, Below w.heap.size w W → Good W)
    (c35 : ∀ w1, Good w1 → Calls Tryd.prog 65 #[.string s] w1 fun e w' => e = .returned (.tuple #[.string u, .int .i64 (m : Int), .int .i64 (er : Int)]) ∧ Below w1.heap.size w1 w')
    (c36 : ∀ w1, Calls Tryd.prog 69 #[.string s] w1 fun e w' => e = .returned (.int .i64 n) ∧ w' = w1)
    (c10 : ∀ w1, Good w1 → Calls Tryd.prog 70 #[V 1 n ⟨#[]⟩] w1 fun e w' => e = .returned (.tuple #[.string q, .int .i64 0]) ∧ Below w1.heap.size w1 w') (hnd : (q.toList == s.toList) = false) (her : ((er : Int) != 0) = true) (_her2 : ¬ ((er : Int) = 0)) :
    Calls Tryd.prog 64 #[.string s] w fun e w' => e = .returned (.tuple #[V 0 0 ⟨#[]⟩, .int .i64 3]) ∧ Below w.heap.size w w' := by
  go_enter Tryd.func64, Tryd.ntmps64
  go_wp2_with (first
    | (go_at_call 65; (refine (c35 _ (hg2 _ (bmore (al _ _) (al _ _)))).mono ?_; rintro e w1 ⟨rfl, hb⟩; have e0 := two_blocks hb 0; have e1 := two_blocks hb 1; have e2 := two_blocks hb 2; simp at e0 e1 e2; obtain ⟨⟨a0, b0⟩, p0, q0⟩ := e0; obtain ⟨⟨a1, b1⟩, p1, q1⟩ := e1; obtain ⟨⟨a2, b2⟩, p2, q2⟩ := e2; have hz := two_size hb; have hz0 := Nat.lt_of_succ_lt hz; have hw1 := two_over hb))
    | (go_at_call 69; refine (c36 _).mono ?_; rintro e w2 ⟨rfl, rfl⟩)
    | (go_at_call 70; (refine (c10 _ (hg2 _ (num_mid hw1 _ _ _ _))).mono ?_; rintro e w3 ⟨rfl, hb3⟩; obtain ⟨hcc, hff⟩ := bcell hb3; have hw3 := bmore (num_mid hw1 _ _ _ _) hb3)))
  exact bodyPost_ret (v := .tuple #[V 0 0 ⟨#[]⟩, .int .i64 3]) (by simp [results, Tryd.results64, go_sem, hcc, hz0, a0, a1, a2]) rfl ⟨rfl, set3 hw3 _ _ _⟩

set_option maxRecDepth 100000 in
set_option maxHeartbeats 1000000 in
/-- A number, as it should be. -/
theorem parse20_nyl (s u : ByteArray) (m er : Nat) (n : Int) (w : World) (hg2 : ∀ W, Below w.heap.size w W → Good W)
    (c35 : ∀ w1, Good w1 → Calls Tryd.prog 65 #[.string s] w1 fun e w' => e = .returned (.tuple #[.string u, .int .i64 (m : Int), .int .i64 (er : Int)]) ∧ Below w1.heap.size w1 w')
    (c36 : ∀ w1, Calls Tryd.prog 69 #[.string s] w1 fun e w' => e = .returned (.int .i64 n) ∧ w' = w1)
    (c10 : ∀ w1, Good w1 → Calls Tryd.prog 70 #[V 1 n ⟨#[]⟩] w1 fun e w' => e = .returned (.tuple #[.string s, .int .i64 0]) ∧ Below w1.heap.size w1 w') (her : (er : Int) = 0) (hml : ((m : Int) != (s.size : Int)) = true) (_hml2 : ¬ ((m : Int) = (s.size : Int))) :
    Calls Tryd.prog 64 #[.string s] w fun e w' => e = .returned (.tuple #[V 1 n ⟨#[]⟩, .int .i64 0]) ∧ Below w.heap.size w w' := by
  go_enter Tryd.func64, Tryd.ntmps64
  go_wp2_with (first
    | (go_at_call 65; (refine (c35 _ (hg2 _ (bmore (al _ _) (al _ _)))).mono ?_; rintro e w1 ⟨rfl, hb⟩; have e0 := two_blocks hb 0; have e1 := two_blocks hb 1; have e2 := two_blocks hb 2; simp at e0 e1 e2; obtain ⟨⟨a0, b0⟩, p0, q0⟩ := e0; obtain ⟨⟨a1, b1⟩, p1, q1⟩ := e1; obtain ⟨⟨a2, b2⟩, p2, q2⟩ := e2; have hz := two_size hb; have hz0 := Nat.lt_of_succ_lt hz; have hw1 := two_over hb))
    | (go_at_call 69; refine (c36 _).mono ?_; rintro e w2 ⟨rfl, rfl⟩)
    | (go_at_call 70; (refine (c10 _ (hg2 _ (num_mid hw1 _ _ _ _))).mono ?_; rintro e w3 ⟨rfl, hb3⟩; obtain ⟨hcc, hff⟩ := bcell hb3; have hw3 := bmore (num_mid hw1 _ _ _ _) hb3)))
  exact bodyPost_ret (v := .tuple #[V 1 n ⟨#[]⟩, .int .i64 0]) (by simp [results, Tryd.results64, go_sem, hcc, hz0, a0, a1, a2]) rfl ⟨rfl, set3 hw3 _ _ _⟩

set_option maxRecDepth 100000 in
set_option maxHeartbeats 1000000 in
/-- A number, written otherwise. -/
theorem parse20_nnl (s u : ByteArray) (m er : Nat) (n : Int) (q : ByteArray) (w : World) (hg2 : ∀ W, Below w.heap.size w W → Good W)
    (c35 : ∀ w1, Good w1 → Calls Tryd.prog 65 #[.string s] w1 fun e w' => e = .returned (.tuple #[.string u, .int .i64 (m : Int), .int .i64 (er : Int)]) ∧ Below w1.heap.size w1 w')
    (c36 : ∀ w1, Calls Tryd.prog 69 #[.string s] w1 fun e w' => e = .returned (.int .i64 n) ∧ w' = w1)
    (c10 : ∀ w1, Good w1 → Calls Tryd.prog 70 #[V 1 n ⟨#[]⟩] w1 fun e w' => e = .returned (.tuple #[.string q, .int .i64 0]) ∧ Below w1.heap.size w1 w') (hnd : (q.toList == s.toList) = false) (her : (er : Int) = 0) (hml : ((m : Int) != (s.size : Int)) = true) (_hml2 : ¬ ((m : Int) = (s.size : Int))) :
    Calls Tryd.prog 64 #[.string s] w fun e w' => e = .returned (.tuple #[V 0 0 ⟨#[]⟩, .int .i64 3]) ∧ Below w.heap.size w w' := by
  go_enter Tryd.func64, Tryd.ntmps64
  go_wp2_with (first
    | (go_at_call 65; (refine (c35 _ (hg2 _ (bmore (al _ _) (al _ _)))).mono ?_; rintro e w1 ⟨rfl, hb⟩; have e0 := two_blocks hb 0; have e1 := two_blocks hb 1; have e2 := two_blocks hb 2; simp at e0 e1 e2; obtain ⟨⟨a0, b0⟩, p0, q0⟩ := e0; obtain ⟨⟨a1, b1⟩, p1, q1⟩ := e1; obtain ⟨⟨a2, b2⟩, p2, q2⟩ := e2; have hz := two_size hb; have hz0 := Nat.lt_of_succ_lt hz; have hw1 := two_over hb))
    | (go_at_call 69; refine (c36 _).mono ?_; rintro e w2 ⟨rfl, rfl⟩)
    | (go_at_call 70; (refine (c10 _ (hg2 _ (num_mid hw1 _ _ _ _))).mono ?_; rintro e w3 ⟨rfl, hb3⟩; obtain ⟨hcc, hff⟩ := bcell hb3; have hw3 := bmore (num_mid hw1 _ _ _ _) hb3)))
  exact bodyPost_ret (v := .tuple #[V 0 0 ⟨#[]⟩, .int .i64 3]) (by simp [results, Tryd.results64, go_sem, hcc, hz0, a0, a1, a2]) rfl ⟨rfl, set3 hw3 _ _ _⟩

end Go.Proofs.YtipnaphikbjhbaaDoor
