/- The reference's Parse, whole; the law ValueParses: in every good world it answers true. -/
import Derived.Test.YtolggmmlaohpdaaDoorRefp
import Derived.Test.YtolggmmlaohpdaaDoorReads
namespace Go.Proofs.YtolggmmlaohpdaaDoor
open Go.RowKit Go.Lib Go.Joins

theorem parse20 (s : ByteArray) (w : World) (hs : s.size ≤ 1000) (hg : Good w) :
    Calls Tryd.prog 20 #[.string s] w fun e w' => e = .returned (.tuple #[V (rprsV (bs s)).1 (rprsV (bs s)).2.1 (str (rprsV (bs s)).2.2.1), .int .i64 ((rprsV (bs s)).2.2.2 : Nat)]) ∧ Below w.heap.size w w' := by
  have c35 := fun w1 h => unquote28 s w1 (by omega) h
  have c36 := fun w1 => number36 s w1 hs
  have hg2 : ∀ W, Below w.heap.size w W → Good W := fun W h => hg.below h
  have hul := unq_len (bs s)
  rw [bs_length] at hul
  by_cases hc : (unq (bs s)).2.2 = 0 ∧ (unq (bs s)).2.1 = (bs s).length
  · have hcand : candV (bs s) = (2, 0, (unq (bs s)).1) := by unfold candV; rw [if_pos hc]
    have c10 := fun w1 h => print10 2 0 (str (unq (bs s)).1) w1 (by rw [str_size]; omega) (by unfold inI64; omega) h
    rw [bs_str] at c10
    unfold rprsV
    rw [hcand]
    rw [hc.1, hc.2, bs_length] at c35
    simp only
    generalize (unq (bs s)).1 = x at *
    cases hpe : prV 2 0 x with
    | mk p er =>
      rw [hpe] at c10
      by_cases hyes : p = bs s ∧ er = 0
      · obtain ⟨hp, rfl⟩ := hyes
        rw [hp] at c10 ⊢
        simp only [str_bs] at c10
        simp only [if_true]
        exact parse20_ty s (str x) w hg2 c35 c10
      · have hno : ¬ ((p, er) = (bs s, 0)) := fun e => hyes (by simpa using e)
        rw [if_neg hno]
        by_cases he : er = 0
        · subst he
          exact parse20_tn s (str x) (str p) w hg2 c35 c10 (ne_list fun e => hyes ⟨str_eq.1 e, rfl⟩)
        · exact parse20_te s (str x) (str p) er w hg2 c35 c10 (by simpa using he) (by omega)
  · have hcand : candV (bs s) = (1, numV (bs s), []) := by unfold candV; rw [if_neg hc]
    have c10 := fun w1 h => print10 1 (numV (bs s)) ⟨#[]⟩ w1 (by decide) (numF_in _ _) h
    have hpr : prV 1 (numV (bs s)) (bs ⟨#[]⟩) = (itoa (numV (bs s)), 0) := by
      rw [prV_yes (by rw [rightV_int]; rfl), printV_int]
    rw [hpr] at c10
    unfold rprsV
    rw [hcand]
    rw [show bs ⟨#[]⟩ = [] from rfl] at hpr
    simp only [hpr]
    generalize numV (bs s) = n at *
    generalize hu : (unq (bs s)).1 = u at *
    by_cases hyes : itoa n = bs s
    · rw [hyes] at c10 ⊢
      simp only [str_bs] at c10
      simp only [if_true]
      by_cases h1 : (unq (bs s)).2.2 = 0
      · have h2 : ¬ (unq (bs s)).2.1 = s.size := fun e => hc ⟨h1, e⟩
        exact parse20_nyl s (str u) _ _ n w hg2 c35 c36 c10 (by rw [h1]; rfl) (by simpa using fun e => h2 (by omega)) (by omega)
      · exact parse20_nye s (str u) _ _ n w hg2 c35 c36 c10 (by simpa using h1) (by omega)
    · have hno : ¬ ((itoa n, 0) = (bs s, 0)) := fun e => hyes (by simpa using e)
      rw [if_neg hno]
      have hnd : ((str (itoa n)).toList == s.toList) = false := ne_list fun e => hyes (str_eq.1 e)
      by_cases h1 : (unq (bs s)).2.2 = 0
      · have h2 : ¬ (unq (bs s)).2.1 = s.size := fun e => hc ⟨h1, e⟩
        exact parse20_nnl s (str u) _ _ n (str (itoa n)) w hg2 c35 c36 c10 hnd (by rw [h1]; rfl) (by simpa using fun e => h2 (by omega)) (by omega)
      · exact parse20_nne s (str u) _ _ n (str (itoa n)) w hg2 c35 c36 c10 hnd (by simpa using h1) (by omega)

theorem short18 (s : ByteArray) (w : World) : Calls Tryd.prog 18 #[.string s] w fun e w' => e = .returned (.string (str ((bs s).take 100))) ∧ w' = w := by
  by_cases h : 100 < s.size
  · have hz : (100 : Int) < (s.size : Int) := by omega
    have hz2 : (100 : Int) ≤ (s.size : Int) := by omega
    have hx : s.extract 0 100 = str ((bs s).take 100) := by rw [ext_take]; simp
    go_enter Tryd.func18, Tryd.ntmps18
    go_wp2
    go_ret
    exact ⟨rfl, rfl⟩
  · have hz : ¬ ((100 : Int) < (s.size : Int)) := by omega
    have hx : str ((bs s).take 100) = s := by rw [List.take_of_length_le (by rw [bs_length]; omega), str_bs]
    rw [hx]
    go_enter Tryd.func18, Tryd.ntmps18
    go_wp2
    go_ret
    exact ⟨rfl, rfl⟩

set_option maxRecDepth 100000 in
set_option maxHeartbeats 2000000 in
theorem parses4 (s0 : ByteArray) (k n : Int) (v : ByteArray) (w : World) (hn : inI64 n) (hz : v.size ≤ 140737488355328) (hg : Good w) :
    Calls Tryd.prog 4 #[.string s0, V k n v] w fun e w' => e = .returned (.bool true) ∧ Below w.heap.size w w' := by
  have c18 := short18 s0
  have hsz : (str ((bs s0).take 100)).size ≤ 100 := by rw [str_size, List.length_take]; omega
  generalize str ((bs s0).take 100) = s at *
  have hk := One.start hg k n v (v := .slice none 0 0) (l := []) (.inl ⟨_, _, rfl, rfl⟩)
  have k19 : ∀ W, Good W → Calls Tryd.prog 19 #[.string s] W fun e w' => e = .returned (.tuple #[V (prsV (bs s)).1 (prsV (bs s)).2.1 (str (prsV (bs s)).2.2.1), .int .i64 ((prsV (bs s)).2.2.2 : Nat)]) ∧ Below W.heap.size W w' := fun W h => parse19 s W (by omega) h
  have k20 : ∀ W, Good W → Calls Tryd.prog 20 #[.string s] W fun e w' => e = .returned (.tuple #[V (prsV (bs s)).1 (prsV (bs s)).2.1 (str (prsV (bs s)).2.2.1), .int .i64 ((prsV (bs s)).2.2.2 : Nat)]) ∧ Below W.heap.size W w' := fun W h => by
    have := parse20 s W (by omega) h
    rw [prs_same] at this
    exact this
  have k11 : ∀ W, Good W → Calls Tryd.prog 11 #[] W fun e w' => e = .returned (.bool true) ∧ Below W.heap.size W w' := fun W h =>
    (live11 (St.start h)).mono (by rintro e w' ⟨h1, h2⟩; exact ⟨h1, h2.2⟩)
  have k9 := fun W (h : Good W) => print9 k n v W (by omega) hn h
  generalize (prsV (bs s)).1 = pk at *
  generalize (prsV (bs s)).2.1 = pn at *
  generalize str (prsV (bs s)).2.2.1 = px at *
  generalize (prsV (bs s)).2.2.2 = pe at *
  obtain ⟨c0, c1, c2⟩ := hk.1
  cases hR : rightV k n (bs v)
  · rw [prV_no hR] at k9
    clear hR hn hz hg hsz
    go_enter Tryd.func4, Tryd.ntmps4
    go_wp2_with (first
      | (go_at_call 18; (refine (c18 _).mono ?_; rintro e w1 ⟨rfl, rfl⟩))
      | (go_at_call 19; (refine (k19 _ hk.2.2.2.1).mono ?_; rintro e w2 ⟨rfl, hb2⟩; have hk2 := hk.below hb2; clear hk k19; have hk2a : ∀ o, One w w.heap.size k n v (.slice none 0 0) [] (w2.alloc o) := fun o => hk2.below (al _ _)))
      | (go_at_call 20; (refine (k20 _ (hk2a _).2.2.2.1).mono ?_; rintro e w3 ⟨rfl, HA⟩; have hk3 := (hk2a _).below HA; clear hk2a hk2; have hk3a : ∀ o, One w w.heap.size k n v (.slice none 0 0) [] (w3.alloc o) := fun o => hk3.below (al _ _); have HA3 := fun o => bmore HA (al w3 o); have hd := fun o => (hk3a o).1))
      | (go_at_call 9; (refine (k9 _ (hk3a _).2.2.2.1).mono ?_; rintro e w4 ⟨rfl, HB⟩; have hk4 := (hk3a _).below HB; have HA4 := bmore (HA3 _) HB; clear hk3a HA3 hk3))
      | (go_at_call 11; (refine (k11 _ hk4.2.2.2.1).mono ?_; rintro e w6 ⟨rfl, hb6⟩; have hk6 := hk4.below hb6; have HA6 := bmore HA4 hb6; have HB6 := bmore HB hb6; have m0 := (new_cells HA6 0).1; have m1 := (new_cells HA6 1).1; have m2 := (new_cells HA6 2).1; have q0 := (new_cells HB6 0).1; have q1 := (new_cells HB6 1).1; have q2 := (new_cells HB6 2).1; simp at m0 m1 m2 q0 q1 q2)))
    go_ret
    exact ⟨rfl, hk6.2.2.2.2⟩
  · rw [prV_yes hR] at k9
    have hprt : (printV k n (bs v)).length ≤ 1000 := by
      rcases rightV_cases hR with ⟨rfl, _⟩ | ⟨rfl, rfl, hs⟩
      · rw [printV_int]; have := itoa_len n hn; omega
      · rw [printV_text]
        have h1 := dbl_le (bs v)
        have h2 := right_len hs
        simp at h1 h2 ⊢
        omega
    have kT : ∀ W, Good W → Calls Tryd.prog 19 #[.string (str (printV k n (bs v)))] W fun e w' => e = .returned (.tuple #[V k n v, .int .i64 0]) ∧ Below W.heap.size W w' := fun W h => by
      have := parse19 (str (printV k n (bs v))) W (by rw [str_size]; exact hprt) h
      rw [bs_str, prs_print hR hn] at this
      simp only [str_bs] at this
      exact this
    generalize str (printV k n (bs v)) = t at *
    clear hR hn hz hg hsz hprt
    go_enter Tryd.func4, Tryd.ntmps4
    go_wp2_with (first
      | (go_at_call 18; (refine (c18 _).mono ?_; rintro e w1 ⟨rfl, rfl⟩))
      | (go_at_call 19; (refine (k19 _ hk.2.2.2.1).mono ?_; rintro e w2 ⟨rfl, hb2⟩; have hk2 := hk.below hb2; clear hk k19; have hk2a : ∀ o, One w w.heap.size k n v (.slice none 0 0) [] (w2.alloc o) := fun o => hk2.below (al _ _)))
      | (go_at_call 20; (refine (k20 _ (hk2a _).2.2.2.1).mono ?_; rintro e w3 ⟨rfl, HA⟩; have hk3 := (hk2a _).below HA; clear hk2a hk2; have hk3a : ∀ o, One w w.heap.size k n v (.slice none 0 0) [] (w3.alloc o) := fun o => hk3.below (al _ _); have HA3 := fun o => bmore HA (al w3 o); have hd := fun o => (hk3a o).1))
      | (go_at_call 9; (refine (k9 _ (hk3a _).2.2.2.1).mono ?_; rintro e w4 ⟨rfl, HB⟩; have hk4 := (hk3a _).below HB; have HA4 := bmore (HA3 _) HB; clear hk3a HA3 hk3))
      | (go_at_call 19; (refine (kT _ hk4.2.2.2.1).mono ?_; rintro e w5 ⟨rfl, hb5⟩; have hk5 : ∀ o, One w w.heap.size k n v (.slice none 0 0) [] (w5.alloc o) := fun o => (hk4.below hb5).below (al _ _); have HA5 := fun o => bmore (bmore HA4 hb5) (al w5 o); have HB5 := fun o => bmore (bmore HB hb5) (al w5 o); have hd5 := fun o => (hk5 o).1; clear kT hk4))
      | (go_at_call 11; (refine (k11 _ (hk5 _).2.2.2.1).mono ?_; rintro e w6 ⟨rfl, hb6⟩; have hk6 := (hk5 _).below hb6; have HA6 := bmore (HA5 _) hb6; have HB6 := bmore (HB5 _) hb6; have m0 := (new_cells HA6 0).1; have m1 := (new_cells HA6 1).1; have m2 := (new_cells HA6 2).1; have q0 := (new_cells HB6 0).1; have q1 := (new_cells HB6 1).1; have q2 := (new_cells HB6 2).1; simp at m0 m1 m2 q0 q1 q2)))
    go_ret
    exact ⟨rfl, hk6.2.2.2.2⟩

end Go.Proofs.YtolggmmlaohpdaaDoor
