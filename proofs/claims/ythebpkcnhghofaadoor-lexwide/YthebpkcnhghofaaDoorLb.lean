/- lex.begun: the token that a text begins with. -/
import Derived.Test.YthebpkcnhghofaaDoorLs
namespace Go.Proofs.YthebpkcnhghofaaDoor
open Go.RowKit Go.Lib Go.Joins
set_option maxRecDepth 100000

/-- The result's block behind a call of the result's form. -/
theorem bs_take (s : ByteArray) (n : Nat) : bs (s.extract 0 n) = (bs s).take n := by rw [ext_take]; simp
theorem bs_drop1 {s : ByteArray} {b : UInt8} {t : Bs} (h : bs s = b :: t) : bs (s.extract 1 s.size) = t := by
  rw [ext_take, List.take_of_length_le (by rw [bs_length]; omega), h]; rfl
/-- What begun answers, given its parts. -/
def BegPost (w : World) (x : Q4) : Ending → World → Prop := fun e w' => e = .returned (.tuple #[TV x.1 (str x.2.1) x.2.2.1 0, .int .i64 (x.2.2.2 : Nat)]) ∧ Below w.heap.size w w'

set_option maxHeartbeats 4000000 in
theorem begun17_num (s : ByteArray) (b : UInt8) (t : Bs) (hs : s.size ≤ 1000) (ht : bs s = b :: t) (w : World) (hg : Good w) :
    Calls Tryd.prog 17 #[.int .i32 45, .string s] w (BegPost w (numT ((b :: t).take (1 + runP digI t)))) := by
  have hgo : ∀ o, Good (w.alloc o) := fun o => hg.below (al _ _)
  have hsz : 1 ≤ s.size := by rw [← bs_length, ht]; simp
  have hr := runP_le digI t
  have htl : t.length + 1 = s.size := by rw [← bs_length, ht]; simp
  have c22 := fun w1 => run22 20 digI (fun r h => digI_high h) (.inl rfl) digit20 (s.extract 1 s.size) w1
  rw [bs_drop1 ht] at c22
  have c21 := fun w1 h => number21 (s.extract 0 (1 + runP digI t)) w1 (by simp; omega) h
  rw [bs_take, ht] at c21
  unfold BegPost
  generalize numT ((b :: t).take (1 + runP digI t)) = x at *
  generalize runP digI t = m at *
  have z1 : (1 : Int) ≤ (s.size : Int) := by omega
  have z2 : (1 : Int) + (m : Int) ≤ (s.size : Int) := by omega
  have z3 : (0 : Int) ≤ (1 : Int) + (m : Int) := by omega
  have z4 : ((1 : Int) + (m : Int)).toNat = 1 + m := by omega
  obtain ⟨x0, x1, x2, x3⟩ := x
  simp only at c21 ⊢
  generalize str x1 = x1s at *
  go_enter Tryd.func17, Tryd.ntmps17
  go_wp2_with (first
    | (go_at_call 22; refine (c22 _).mono ?_; rintro e w1 ⟨rfl, hb1⟩)
    | (go_at_call 21; refine (c21 _ ((hgo _).below hb1)).mono ?_; rintro e w2 ⟨rfl, hb2⟩; have e0 := res_after hb1 hb2 0; have e1 := res_after hb1 hb2 1; have e2 := res_after hb1 hb2 2; have e3 := res_after hb1 hb2 3; simp at e0 e1 e2 e3; obtain ⟨e0, f0⟩ := e0; obtain ⟨e1, f1⟩ := e1; obtain ⟨e2, f2⟩ := e2; obtain ⟨e3, f3⟩ := e3))
  exact bodyPost_ret (v := .tuple #[TV x0 x1s x2 0, .int .i64 (x3 : Int)]) (by simp [results, Tryd.results17, go_sem, e0, e1, e2, e3]) rfl ⟨rfl, set4 (bmore (bmore (al _ _) hb1) hb2) _ _ _ _⟩

theorem ext_all (s : ByteArray) : s.extract 0 s.size = s := by
  rw [ext_take, List.take_of_length_le (by rw [bs_length]; omega)]; exact str_of_list s

set_option maxHeartbeats 4000000 in
theorem begun17_dig (s : ByteArray) (r : Int) (hs : s.size ≤ 1000) (w : World) (hg : Good w) (h45 : r ≠ 45) (hd : digI r = true) :
    Calls Tryd.prog 17 #[.int .i32 r, .string s] w (BegPost w (numT ((bs s).take (runP digI (bs s))))) := by
  have hgo : ∀ o, Good (w.alloc o) := fun o => hg.below (al _ _)
  have hr := runP_le digI (bs s)
  rw [bs_length] at hr
  have c20 := fun w1 => digit20 r w1
  rw [hd] at c20
  have c22 := fun w1 => run22 20 digI (fun r h => digI_high h) (.inl rfl) digit20 s w1
  have c21 := fun w1 h => number21 (s.extract 0 (runP digI (bs s))) w1 (by simp; omega) h
  rw [bs_take] at c21
  unfold BegPost
  generalize numT ((bs s).take (runP digI (bs s))) = x at *
  generalize runP digI (bs s) = m at *
  have z2 : (m : Int) ≤ (s.size : Int) := by omega
  have hxa := ext_all s
  obtain ⟨x0, x1, x2, x3⟩ := x
  simp only at c21 ⊢
  generalize str x1 = x1s at *
  clear hd
  go_enter Tryd.func17, Tryd.ntmps17
  go_wp2_with (first
    | (go_at_call 20; refine (c20 _).mono ?_; rintro e w0 ⟨rfl, rfl⟩)
    | (go_at_call 22; refine (c22 _).mono ?_; rintro e w1 ⟨rfl, hb1⟩)
    | (go_at_call 21; refine (c21 _ ((hgo _).below hb1)).mono ?_; rintro e w2 ⟨rfl, hb2⟩; have e0 := res_after hb1 hb2 0; have e1 := res_after hb1 hb2 1; have e2 := res_after hb1 hb2 2; have e3 := res_after hb1 hb2 3; simp at e0 e1 e2 e3; obtain ⟨e0, f0⟩ := e0; obtain ⟨e1, f1⟩ := e1; obtain ⟨e2, f2⟩ := e2; obtain ⟨e3, f3⟩ := e3))
  exact bodyPost_ret (v := .tuple #[TV x0 x1s x2 0, .int .i64 (x3 : Int)]) (by simp [results, Tryd.results17, go_sem, e0, e1, e2, e3]) rfl ⟨rfl, set4 (bmore (bmore (al _ _) hb1) hb2) _ _ _ _⟩

set_option maxHeartbeats 4000000 in
theorem begun17_word (s : ByteArray) (r : Int) (w : World) (h45 : r ≠ 45) (hd : digI r = false) (hl : ltrI r = true) :
    Calls Tryd.prog 17 #[.int .i32 r, .string s] w (BegPost w (wordT ((bs s).take (runP goI (bs s))))) := by
  have hr := runP_le goI (bs s)
  rw [bs_length] at hr
  have c20 := fun w1 => digit20 r w1
  have c23 := fun w1 => letter23 r w1
  rw [hd] at c20
  rw [hl] at c23
  have c22 := fun w1 => run22 25 goI (fun r h => goI_high h) (.inr rfl) goes25 s w1
  have c24 := fun w1 => word24 (s.extract 0 (runP goI (bs s))) w1
  rw [bs_take] at c24
  unfold BegPost
  generalize wordT ((bs s).take (runP goI (bs s))) = x at *
  generalize runP goI (bs s) = m at *
  have z2 : (m : Int) ≤ (s.size : Int) := by omega
  obtain ⟨x0, x1, x2, x3⟩ := x
  simp only at c24 ⊢
  generalize str x1 = x1s at *
  clear hd hl
  go_enter Tryd.func17, Tryd.ntmps17
  go_wp2_with (first
    | (go_at_call 20; refine (c20 _).mono ?_; rintro e w0 ⟨rfl, rfl⟩)
    | (go_at_call 23; refine (c23 _).mono ?_; rintro e w0 ⟨rfl, rfl⟩)
    | (go_at_call 22; refine (c22 _).mono ?_; rintro e w1 ⟨rfl, hb1⟩)
    | (go_at_call 24; refine (c24 _).mono ?_; rintro e w2 ⟨rfl, hb2⟩; have e0 := res_after hb1 hb2 0; have e1 := res_after hb1 hb2 1; have e2 := res_after hb1 hb2 2; have e3 := res_after hb1 hb2 3; simp at e0 e1 e2 e3; obtain ⟨e0, f0⟩ := e0; obtain ⟨e1, f1⟩ := e1; obtain ⟨e2, f2⟩ := e2; obtain ⟨e3, f3⟩ := e3))
  exact bodyPost_ret (v := .tuple #[TV x0 x1s x2 0, .int .i64 (x3 : Int)]) (by simp [results, Tryd.results17, go_sem, e0, e1, e2, e3]) rfl ⟨rfl, set4 (bmore (bmore (al _ _) hb1) hb2) _ _ _ _⟩

set_option maxHeartbeats 4000000 in
theorem begun17_quo (s : ByteArray) (hs : s.size ≤ 1000) (w : World) (hg : Good w) :
    Calls Tryd.prog 17 #[.int .i32 39, .string s] w (BegPost w (quoT (bs s))) := by
  have hgo : ∀ o, Good (w.alloc o) := fun o => hg.below (al _ _)
  have c20 := fun w1 => digit20 39 w1
  have c23 := fun w1 => letter23 39 w1
  rw [show digI 39 = false by decide] at c20
  rw [show ltrI 39 = false by decide] at c23
  have c26 := fun w1 h => quoted26 s w1 hs h
  unfold BegPost
  generalize quoT (bs s) = x at *
  obtain ⟨x0, x1, x2, x3⟩ := x
  simp only at c26 ⊢
  generalize str x1 = x1s at *
  go_enter Tryd.func17, Tryd.ntmps17
  go_wp2_with (first
    | (go_at_call 20; refine (c20 _).mono ?_; rintro e w0 ⟨rfl, rfl⟩)
    | (go_at_call 23; refine (c23 _).mono ?_; rintro e w0 ⟨rfl, rfl⟩)
    | (go_at_call 26; refine (c26 _ (hgo _)).mono ?_; rintro e w2 ⟨rfl, hb⟩; have e0 := new_cells hb 0; have e1 := new_cells hb 1; have e2 := new_cells hb 2; have e3 := new_cells hb 3; simp at e0 e1 e2 e3; obtain ⟨e0, f0⟩ := e0; obtain ⟨e1, f1⟩ := e1; obtain ⟨e2, f2⟩ := e2; obtain ⟨e3, f3⟩ := e3))
  exact bodyPost_ret (v := .tuple #[TV x0 x1s x2 0, .int .i64 (x3 : Int)]) (by simp [results, Tryd.results17, go_sem, e0, e1, e2, e3]) rfl ⟨rfl, set4 (bmore (al _ _) hb) _ _ _ _⟩

set_option maxHeartbeats 4000000 in
theorem begun17_sgn (s : ByteArray) (r : Int) (w : World) (hg : Good w) (h45 : r ≠ 45) (hd : digI r = false) (hl : ltrI r = false) (h39 : r ≠ 39) :
    Calls Tryd.prog 17 #[.int .i32 r, .string s] w (BegPost w (sgnT (bs s))) := by
  have hgo : ∀ o, Good (w.alloc o) := fun o => hg.below (al _ _)
  have c20 := fun w1 => digit20 r w1
  have c23 := fun w1 => letter23 r w1
  rw [hd] at c20
  rw [hl] at c23
  have c13 := fun w1 h => signed13 s w1 h
  unfold BegPost sgnT
  have HZ : Hid ((str (signB (bs s))).size = (signB (bs s)).length) := str_size _
  generalize signB (bs s) = x at *
  simp only
  rw [← HZ.out]
  generalize str x = xs at *
  clear hd hl HZ
  go_enter Tryd.func17, Tryd.ntmps17
  go_wp2_with (first
    | (go_at_call 20; refine (c20 _).mono ?_; rintro e w0 ⟨rfl, rfl⟩)
    | (go_at_call 23; refine (c23 _).mono ?_; rintro e w0 ⟨rfl, rfl⟩)
    | (go_at_call 13; refine (c13 _ (hgo _)).mono ?_; rintro e w2 ⟨rfl, rfl⟩))
  exact bodyPost_ret (v := .tuple #[TV 4 xs 0 0, .int .i64 (xs.size : Int)]) (by simp [results, Tryd.results17, go_sem]) rfl ⟨rfl, al _ _⟩

/-- The token that a text begins with; r is its first rune. -/
theorem begun17 (s : ByteArray) (b : UInt8) (t : Bs) (hs : s.size ≤ 1000) (ht : bs s = b :: t) (r : Nat) (hr : (b.toNat < 128 ∧ r = b.toNat) ∨ (128 ≤ b.toNat ∧ 128 ≤ r)) (w : World) (hg : Good w) :
    Calls Tryd.prog 17 #[.int .i32 (r : Int), .string s] w (BegPost w (begB (bs s))) := by
  rw [ht, begB_cons]
  rcases hr with ⟨hlow, rfl⟩ | ⟨h1, h2⟩
  · by_cases h45 : b = 45
    · rw [if_pos h45, h45]
      exact begun17_num s 45 t hs (by rw [ht, h45]) w hg
    · have h45' : (b.toNat : Int) ≠ 45 := fun e => h45 (by apply UInt8.toNat_inj.1; show b.toNat = 45; omega)
      rw [if_neg h45]
      cases hd : digI (b.toNat : Int)
      · rw [if_neg (by simp)]
        cases hl : ltrI (b.toNat : Int)
        · rw [if_neg (by simp)]
          by_cases h39 : b = 39
          · rw [if_pos h39, ← ht]
            subst h39
            exact begun17_quo s hs w hg
          · have h39' : (b.toNat : Int) ≠ 39 := fun e => h39 (by apply UInt8.toNat_inj.1; show b.toNat = 39; omega)
            rw [if_neg h39, ← ht]
            exact begun17_sgn s _ w hg h45' hd hl h39'
        · rw [if_pos rfl, ← ht]
          exact begun17_word s _ w h45' hd hl
      · rw [if_pos rfl, ← ht]
        exact begun17_dig s _ hs w hg h45' hd
  · rw [if_neg (fun e => by rw [e] at h1; exact absurd h1 (by decide)), digI_high (by omega), ltrI_high (by omega), if_neg (by simp), if_neg (by simp), if_neg (fun e => by rw [e] at h1; exact absurd h1 (by decide)), ← ht]
    exact begun17_sgn s _ w hg (by omega) (digI_high (by omega)) (ltrI_high (by omega)) (by omega)
end Go.Proofs.YthebpkcnhghofaaDoor
