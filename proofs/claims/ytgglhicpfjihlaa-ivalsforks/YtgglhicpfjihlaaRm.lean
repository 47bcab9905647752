/- Plain facts of trees: what is left when one is taken out. -/
import Derived.Test.YtgglhicpfjihlaaAw
namespace Go.Proofs.Ytgglhicpfjihlaa
set_option maxRecDepth 100000

namespace T
def lm : T → St
  | .nil => ⟨0, 0, 0⟩
  | .node .nil s _ => s
  | .node (.node a b c) _ _ => lm (.node a b c)
def joinT : T → T → T → T
  | .nil, r, _ => r
  | .node a b c, .nil, _ => .node a b c
  | .node a b c, .node d e g, r' => bal (.node (.node a b c) (T.node d e g).lm r')
def rem : T → St → T
  | .nil, _ => .nil
  | .node l x r, s => if cs s x < 0 then bal (.node (l.rem s) x r) else if cs s x > 0 then bal (.node l x (r.rem s)) else joinT l r (r.rem r.lm)
theorem lm_head : ∀ (l : T) (s : St) (r : T), ∃ tl, (T.node l s r).inord = (T.node l s r).lm :: tl
  | .nil, s, r => ⟨r.inord, rfl⟩
  | .node a b c, s, r => by
    obtain ⟨tl, h⟩ := lm_head a b c
    refine ⟨tl ++ s :: r.inord, ?_⟩
    rw [show (T.node (.node a b c) s r).inord = (T.node a b c).inord ++ s :: r.inord from rfl, h]
    rfl
theorem rem_both (a : T) (b : St) (c : T) (x : St) (d : T) (e : St) (g : T) (s : St) (h1 : ¬ cs s x < 0) (h2 : ¬ cs s x > 0) :
    rem (.node (.node a b c) x (.node d e g)) s = bal (.node (.node a b c) (T.node d e g).lm ((T.node d e g).rem (T.node d e g).lm)) := by
  rw [rem, if_neg h1, if_neg h2, joinT]

theorem rem_avl : ∀ (t : T) (s : St), t.avl → (t.rem s).avl ∧ (t.rem s).ht ≤ t.ht ∧ t.ht ≤ (t.rem s).ht + 1
  | .nil, _, _ => by simp [rem, avl, ht]
  | .node l x r, s, ⟨hl, hr, h1, h2⟩ => by
    have step1 : ∀ l' : T, l'.avl → l'.ht ≤ l.ht → l.ht ≤ l'.ht + 1 → ∀ y, (bal (.node l' y r)).avl ∧ (bal (.node l' y r)).ht ≤ (T.node l x r).ht ∧ (T.node l x r).ht ≤ (bal (.node l' y r)).ht + 1 := by
      intro l' a b c y
      obtain ⟨p, q, u, v⟩ := bal_avl (s := y) a hr (by omega) (by omega)
      by_cases h : r.ht ≤ l'.ht + 1
      · have e := v (by omega) h
        rw [e] at p ⊢
        refine ⟨p, ?_, ?_⟩ <;> simp only [ht] <;> omega
      · refine ⟨p, ?_, ?_⟩ <;> simp only [ht] <;> omega
    have step2 : ∀ r' : T, r'.avl → r'.ht ≤ r.ht → r.ht ≤ r'.ht + 1 → ∀ y, (bal (.node l y r')).avl ∧ (bal (.node l y r')).ht ≤ (T.node l x r).ht ∧ (T.node l x r).ht ≤ (bal (.node l y r')).ht + 1 := by
      intro r' a b c y
      obtain ⟨p, q, u, v⟩ := bal_avl (s := y) hl a (by omega) (by omega)
      by_cases h : l.ht ≤ r'.ht + 1
      · have e := v h (by omega)
        rw [e] at p ⊢
        refine ⟨p, ?_, ?_⟩ <;> simp only [ht] <;> omega
      · refine ⟨p, ?_, ?_⟩ <;> simp only [ht] <;> omega
    by_cases c1 : cs s x < 0
    · rw [rem, if_pos c1]
      obtain ⟨a, b, c⟩ := rem_avl l s hl
      exact step1 _ a b c x
    · by_cases c2 : cs s x > 0
      · rw [rem, if_neg c1, if_pos c2]
        obtain ⟨a, b, c⟩ := rem_avl r s hr
        exact step2 _ a b c x
      · cases l with
        | nil =>
          rw [rem, if_neg c1, if_neg c2, joinT]
          refine ⟨hr, ?_, ?_⟩ <;> simp only [ht] at * <;> omega
        | node a b c =>
          cases r with
          | nil =>
            rw [rem, if_neg c1, if_neg c2, joinT]
            refine ⟨hl, ?_, ?_⟩ <;> simp only [ht] at * <;> omega
          | node d e g =>
            rw [rem_both a b c x d e g s c1 c2]
            obtain ⟨u, v, w⟩ := rem_avl (.node d e g) (T.node d e g).lm hr
            exact step2 _ u v w _
end T

theorem inord_rem : ∀ (t : T) (s : St), Sorted t.inord → s ∈ t.inord → (t.rem s).inord = t.inord.erase s
  | .nil, _, _, h => by simp [T.inord] at h
  | .node l x r, s, hs, hm => by
    unfold Sorted at hs
    simp only [T.inord] at hs
    rw [List.pairwise_append, List.pairwise_cons] at hs
    obtain ⟨h1, ⟨h2, h3⟩, h4⟩ := hs
    simp only [T.inord, List.mem_append, List.mem_cons] at hm
    by_cases c1 : cs s x < 0
    · rw [T.rem, if_pos c1, T.inord_bal]
      rw [cs_lt] at c1
      have hl : s ∈ l.inord := by
        rcases hm with h | rfl | h
        · exact h
        · exact (lt_irr _ c1).elim
        · exact (lt_irr _ (lt_trans' c1 (h2 s h))).elim
      simp only [T.inord]
      rw [inord_rem l s h1 hl, List.erase_append_left _ hl]
    · by_cases c2 : cs s x > 0
      · rw [T.rem, if_neg c1, if_pos c2, T.inord_bal]
        have c2' : 0 < cs s x := c2
        rw [cs_gt] at c2'
        have hr : s ∈ r.inord := by
          rcases hm with h | rfl | h
          · exact (lt_irr _ (lt_trans' c2' (h4 s h x (by simp)))).elim
          · exact (lt_irr _ c2').elim
          · exact h
        have hnl : s ∉ l.inord := fun h => lt_irr _ (h4 s h s (by simp [hr]))
        have hne : x ≠ s := fun e => lt_irr s (by rw [e] at c2'; exact c2')
        simp only [T.inord]
        rw [inord_rem r s h3 hr, List.erase_append_right _ hnl, List.erase_cons_tail (by simpa using hne)]
      · have hx : s = x := by
          have c2' : ¬ 0 < cs s x := c2
          have c1' := c1
          rw [cs_lt] at c1'
          rw [cs_gt] at c2'
          exact (lt_tri s x).elim (fun h => (c1' h).elim) (fun h => h.elim id (fun h => (c2' h).elim))
        subst hx
        have hnl : s ∉ l.inord := fun h => lt_irr _ (h4 s h s (by simp))
        have he : (T.node l s r).inord.erase s = l.inord ++ r.inord := by
          simp only [T.inord]
          rw [List.erase_append_right _ hnl, List.erase_cons_head]
        rw [he]
        cases l with
        | nil => rw [T.rem, if_neg c1, if_neg c2, T.joinT]; rfl
        | node a b c =>
          cases r with
          | nil => rw [T.rem, if_neg c1, if_neg c2, T.joinT]; simp [T.inord]
          | node d e g =>
            obtain ⟨tl, htl⟩ := T.lm_head d e g
            rw [T.rem_both a b c s d e g s c1 c2, T.inord_bal]
            show (T.node a b c).inord ++ (T.node d e g).lm :: ((T.node d e g).rem (T.node d e g).lm).inord = _
            rw [inord_rem (.node d e g) (T.node d e g).lm h3 (by rw [htl]; simp), htl, List.erase_cons_head]
theorem size_rem {t : T} {s : St} (h : Sorted t.inord) (hm : s ∈ t.inord) : (t.rem s).size + 1 = t.size := by
  rw [← T.inord_length, ← T.inord_length, inord_rem t s h hm, List.length_erase_of_mem hm]
  have := List.length_pos_of_mem hm
  omega
theorem rem_sorted {t : T} {s : St} (h : Sorted t.inord) (hm : s ∈ t.inord) : Sorted (t.rem s).inord := by
  rw [inord_rem t s h hm]
  exact h.sublist List.erase_sublist
theorem mem_has : ∀ (t : T) (s : St), Sorted t.inord → s ∈ t.inord → t.has s = true
  | .nil, _, _, h => by simp [T.inord] at h
  | .node l x r, s, hs, hm => by
    unfold Sorted at hs
    simp only [T.inord] at hs
    rw [List.pairwise_append, List.pairwise_cons] at hs
    obtain ⟨h1, ⟨h2, h3⟩, h4⟩ := hs
    simp only [T.inord, List.mem_append, List.mem_cons] at hm
    unfold T.has
    rcases hm with h | rfl | h
    · have := h4 s h x (by simp)
      rw [if_pos ((cs_lt s x).2 this)]
      exact mem_has l s h1 h
    · rw [if_neg (fun h => lt_irr _ ((cs_lt s s).1 h)), if_neg (fun h => lt_irr _ ((cs_gt s s).1 h))]
    · have := h2 s h
      rw [if_neg (fun h => lt_irr _ (lt_trans' this ((cs_lt s x).1 h))), if_pos ((cs_gt s x).2 this)]
      exact mem_has r s h3 h
end Go.Proofs.Ytgglhicpfjihlaa
