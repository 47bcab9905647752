/- value.Parse of a short text. -/
import Derived.Test.YthebpkcnhghofaaDoorPrs
namespace Go.Proofs.YthebpkcnhghofaaDoor
open Go.RowKit Go.Lib Go.Joins

/-- What Parse answers: kind, number, text, error. -/
def prsV (l : Bs) : Int × Int × Bs × Nat := if (saidV l).2.2.2 = true ∧ prV (saidV l).1 (saidV l).2.1 (saidV l).2.2.1 = (l, 0) then ((saidV l).1, (saidV l).2.1, (saidV l).2.2.1, 0) else (0, 0, [], 3)

theorem saidV_in (l : Bs) : inI64 (saidV l).2.1 := by
  unfold saidV
  split
  · rename_i n h
    have := parseIntB_bounds h
    simp at this
    exact ⟨by show _ ≤ n; omega, by show n ≤ _; omega⟩
  · split <;> (unfold inI64; simp)
theorem scan_len : ∀ {l x : Bs} {k : Nat}, scan l = some (x, k) → x.length ≤ l.length := fun {l x k} h => by
  have h1 := scan_some _ l x k (Nat.le_refl _) h
  have h2 := undbl_le _ (l.take k) (Nat.le_refl _)
  rw [h1.2, List.length_take] at h2
  omega
theorem unq_len (l : Bs) : (unq l).1.length ≤ l.length := by
  unfold unq
  split
  · simp
  · split
    · split
      · simp
      · rename_i h
        have := scan_len h
        split <;> simp; omega
    · simp
theorem saidV_len (l : Bs) : (saidV l).2.2.1.length ≤ l.length := by
  unfold saidV
  split
  · simp
  · split
    · exact unq_len l
    · simp

theorem ne_list {a b : ByteArray} (h : a ≠ b) : (a.toList == b.toList) = false := by
  rw [beq_eq_false_iff_ne, toList_data, toList_data]
  intro e
  exact h (ByteArray.ext (Array.toList_inj.1 e))
theorem str_eq {l : Bs} {s : ByteArray} : str l = s ↔ l = bs s := by
  constructor
  · intro h; rw [← h, bs_str]
  · intro h; rw [h, str_bs]

set_option maxRecDepth 100000 in
set_option maxHeartbeats 4000000 in
theorem parse19 (s : ByteArray) (w : World) (hs : s.size ≤ 1000) (hg : Good w) :
    Calls Tryd.prog 34 #[.string s] w fun e w' => e = .returned (.tuple #[V (prsV (bs s)).1 (prsV (bs s)).2.1 (str (prsV (bs s)).2.2.1), .int .i64 ((prsV (bs s)).2.2.2 : Nat)]) ∧ Below w.heap.size w w' := by
  have hgo : ∀ o, Good (w.alloc o) := fun o => hg.below (al _ _)
  have c34 := fun w1 h => said34 s w1 hs h
  have c9 := fun w1 h => print9 (saidV (bs s)).1 (saidV (bs s)).2.1 (str (saidV (bs s)).2.2.1) w1 (by rw [str_size]; have := saidV_len (bs s); rw [bs_length] at this; omega) (saidV_in (bs s)) h
  rw [bs_str] at c9
  unfold prsV
  generalize (saidV (bs s)).1 = k at *
  generalize (saidV (bs s)).2.1 = n at *
  generalize (saidV (bs s)).2.2.1 = x at *
  generalize (saidV (bs s)).2.2.2 = ok at *
  cases ok
  · simp only [Bool.false_eq_true, false_and, if_false]
    go_enter Tryd.func34, Tryd.ntmps34
    go_wp2_with (go_at_call 40; refine (c34 _ (hgo _)).mono ?_; rintro e w1 ⟨rfl, hb⟩; have e0 := new_cells hb 0; have e1 := new_cells hb 1; have e2 := new_cells hb 2; simp at e0 e1 e2; obtain ⟨e0, f0⟩ := e0; obtain ⟨e1, f1⟩ := e1; obtain ⟨e2, f2⟩ := e2; have hz : w.heap.size < w1.heap.size := by { have := hb.size; simp at this; omega }; have hnz : ¬ (w.heap.size = w1.heap.size) := by omega)
    exact bodyPost_ret (v := .tuple #[V 0 0 ⟨#[]⟩, .int .i64 3]) (by simp [results, Tryd.results34, go_sem, e0, e1, e2, hnz, World.cell?_alloc_old]) rfl ⟨rfl, (set3 (bmore (al _ _) hb) _ _ _).alloc (by simp; omega) _⟩
  · simp only [true_and]
    obtain ⟨p, hp⟩ : ∃ p, (prV k n x).1 = p := ⟨_, rfl⟩
    obtain ⟨er, her⟩ : ∃ er, (prV k n x).2 = er := ⟨_, rfl⟩
    have hpe : prV k n x = (p, er) := by rw [← hp, ← her]
    rw [hpe] at c9 ⊢
    clear hp her hpe
    by_cases hyes : p = bs s ∧ er = 0
    · obtain ⟨hp, rfl⟩ := hyes
      have hps : str p = s := str_eq.2 hp
      rw [hps] at c9
      rw [hp]
      simp only [if_true]
      clear hp hps
      generalize str x = t at *
      go_enter Tryd.func34, Tryd.ntmps34
      go_wp2_with (first
        | (go_at_call 40; refine (c34 _ (hgo _)).mono ?_; rintro e w1 ⟨rfl, hb⟩)
        | (go_at_call 41; refine (c9 _ (((hgo _).below hb).below (al _ _))).mono ?_; rintro e w2 ⟨rfl, hb2⟩; have e0 := res_cells hb hb2 0; have e1 := res_cells hb hb2 1; have e2 := res_cells hb hb2 2; simp at e0 e1 e2; obtain ⟨e0, f0⟩ := e0; obtain ⟨e1, f1⟩ := e1; obtain ⟨e2, f2⟩ := e2; have g0 := (new_cells hb2 0).1; have g1 := (new_cells hb2 1).1; have g2 := (new_cells hb2 2).1; simp at g0 g1 g2))
      exact bodyPost_ret (v := .tuple #[V k n t, .int .i64 0]) (by simp [results, Tryd.results34, go_sem, e0, e1, e2]) rfl ⟨rfl, set3 (two_below hb hb2) _ _ _⟩
    · have hno : ¬ ((p, er) = (bs s, 0)) := fun e => hyes (by simpa using e)
      rw [if_neg hno]
      by_cases he : er = 0
      · subst he
        have hne : str p ≠ s := fun e => hyes ⟨str_eq.1 e, rfl⟩
        have hnd := ne_list hne
        clear hyes hno
        generalize str p = q at *
        clear hne
        generalize str x = t at *
        go_enter Tryd.func34, Tryd.ntmps34
        go_wp2_with (first
          | (go_at_call 40; refine (c34 _ (hgo _)).mono ?_; rintro e w1 ⟨rfl, hb⟩)
          | (go_at_call 41; refine (c9 _ (((hgo _).below hb).below (al _ _))).mono ?_; rintro e w2 ⟨rfl, hb2⟩; have e0 := res_cells hb hb2 0; have e1 := res_cells hb hb2 1; have e2 := res_cells hb hb2 2; simp at e0 e1 e2; obtain ⟨e0, f0⟩ := e0; obtain ⟨e1, f1⟩ := e1; obtain ⟨e2, f2⟩ := e2))
        exact bodyPost_ret (v := .tuple #[V 0 0 ⟨#[]⟩, .int .i64 3]) (by simp [results, Tryd.results34, go_sem, e0, e1, e2]) rfl ⟨rfl, set3 (two_below hb hb2) _ _ _⟩
      · have hez : ((er : Int) != 0) = true := by simpa using he
        have hez2 : ¬ ((er : Int) = 0) := by omega
        clear hyes hno
        generalize str p = q at *
        generalize str x = t at *
        go_enter Tryd.func34, Tryd.ntmps34
        go_wp2_with (first
          | (go_at_call 40; refine (c34 _ (hgo _)).mono ?_; rintro e w1 ⟨rfl, hb⟩)
          | (go_at_call 41; refine (c9 _ (((hgo _).below hb).below (al _ _))).mono ?_; rintro e w2 ⟨rfl, hb2⟩; have e0 := res_cells hb hb2 0; have e1 := res_cells hb hb2 1; have e2 := res_cells hb hb2 2; simp at e0 e1 e2; obtain ⟨e0, f0⟩ := e0; obtain ⟨e1, f1⟩ := e1; obtain ⟨e2, f2⟩ := e2))
        exact bodyPost_ret (v := .tuple #[V 0 0 ⟨#[]⟩, .int .i64 3]) (by simp [results, Tryd.results34, go_sem, e0, e1, e2]) rfl ⟨rfl, set3 (two_below hb hb2) _ _ _⟩

end Go.Proofs.YthebpkcnhghofaaDoor
