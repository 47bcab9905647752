/- Plain facts of trees: what lies in order, how high they are. -/
import Derived.Test.YtgglhicpfjihlaaTr
namespace Go.Proofs.Ytgglhicpfjihlaa
set_option maxRecDepth 100000

namespace T
theorem inord_turnR (t : T) : (turnR t).inord = t.inord := by
  cases t with
  | nil => rfl
  | node l s r => cases l with
    | nil => rfl
    | node a x b => simp [turnR, inord]
theorem inord_turnL (t : T) : (turnL t).inord = t.inord := by
  cases t with
  | nil => rfl
  | node l s r => cases r with
    | nil => rfl
    | node a x b => simp [turnL, inord]
theorem inord_bal (t : T) : (bal t).inord = t.inord := by
  unfold bal
  split
  · cases t with
    | nil => rfl
    | node l s r => simp [turnRR, inord_turnR, inord, inord_turnL]
  · split
    · exact inord_turnR t
    · split
      · cases t with
        | nil => rfl
        | node l s r => simp [turnLL, inord_turnL, inord, inord_turnR]
      · split
        · exact inord_turnL t
        · rfl
theorem size_bal (t : T) : (bal t).size = t.size := by rw [← inord_length, inord_bal, inord_length]
theorem bal_node (l : T) (s : St) (r : T) : ∃ l' s' r', bal (.node l s r) = .node l' s' r' := by
  cases h : bal (.node l s r) with
  | nil => have := size_bal (.node l s r); rw [h] at this; simp [size] at this; omega
  | node a b c => exact ⟨_, _, _, rfl⟩
theorem size_ins : ∀ (t : T) (s : St), (t.ins s).size = t.size + 1
  | .nil, _ => rfl
  | .node l x r, s => by
    unfold ins
    split
    · rw [size_bal]; simp only [size, size_ins l s]; omega
    · rw [size_bal]; simp only [size, size_ins r s]; omega

def avl : T → Prop
  | .nil => True
  | .node l _ r => l.avl ∧ r.avl ∧ l.ht ≤ r.ht + 1 ∧ r.ht ≤ l.ht + 1

theorem bal_avl {l r : T} {s : St} (hl : l.avl) (hr : r.avl) (h1 : l.ht ≤ r.ht + 2) (h2 : r.ht ≤ l.ht + 2) :
    (bal (.node l s r)).avl ∧ (bal (.node l s r)).ht ≤ max l.ht r.ht + 1 ∧ max l.ht r.ht ≤ (bal (.node l s r)).ht ∧ (l.ht ≤ r.ht + 1 → r.ht ≤ l.ht + 1 → bal (.node l s r) = .node l s r) := by
  unfold bal
  split
  · rename_i h
    cases l with
    | nil => simp [lean, ht] at h; omega
    | node a x b =>
      cases b with
      | nil => simp [lean, left, ht] at h; omega
      | node b y c =>
        simp only [lean, left, ht] at h
        simp only [avl, ht] at hl h1 h2 ⊢
        simp only [turnRR, turnL, turnR, avl, ht]
        obtain ⟨ha, ⟨hb, hc, h3, h4⟩, h5, h6⟩ := hl
        refine ⟨⟨⟨ha, hb, ?_, ?_⟩, ⟨hc, hr, ?_, ?_⟩, ?_, ?_⟩, ?_, ?_, fun h7 h8 => ?_⟩ <;> omega
  · split
    · rename_i h h'
      cases l with
      | nil => simp [lean, ht] at h'; omega
      | node a x b =>
        simp only [lean, left, ht] at h h'
        simp only [avl, ht] at hl h1 h2 ⊢
        simp only [turnR, avl, ht]
        obtain ⟨ha, hb, h5, h6⟩ := hl
        refine ⟨⟨ha, ⟨hb, hr, ?_, ?_⟩, ?_, ?_⟩, ?_, ?_, fun h7 h8 => ?_⟩ <;> omega
    · split
      · rename_i h h' h''
        cases r with
        | nil => simp [lean, ht] at h''; omega
        | node b y c =>
          cases b with
          | nil => simp [lean, right, ht] at h''; omega
          | node b z d =>
            simp only [lean, right, ht] at h''
            simp only [avl, ht] at hr h1 h2 ⊢
            simp only [turnLL, turnR, turnL, avl, ht]
            obtain ⟨⟨hb, hd, h3, h4⟩, hc, h5, h6⟩ := hr
            refine ⟨⟨⟨hl, hb, ?_, ?_⟩, ⟨hd, hc, ?_, ?_⟩, ?_, ?_⟩, ?_, ?_, fun h7 h8 => ?_⟩ <;> omega
      · split
        · rename_i h h' h'' h3
          cases r with
          | nil => simp [lean, ht] at h3; omega
          | node b y c =>
            simp only [lean, right, ht] at h'' h3
            simp only [avl, ht] at hr h1 h2 ⊢
            simp only [turnL, avl, ht]
            obtain ⟨hb, hc, h5, h6⟩ := hr
            refine ⟨⟨⟨hl, hb, ?_, ?_⟩, hc, ?_, ?_⟩, ?_, ?_, fun h7 h8 => ?_⟩ <;> omega
        · rename_i h h' h'' h3
          simp only [lean] at h' h3
          simp only [avl, ht]
          refine ⟨⟨hl, hr, ?_, ?_⟩, ?_, ?_, fun _ _ => trivial⟩ <;> omega

theorem ins_avl : ∀ (t : T) (s : St), t.avl → (t.ins s).avl ∧ t.ht ≤ (t.ins s).ht ∧ (t.ins s).ht ≤ t.ht + 1
  | .nil, _, _ => by simp [ins, avl, ht]
  | .node l x r, s, ⟨hl, hr, h1, h2⟩ => by
    unfold ins
    split
    · obtain ⟨a, b, c⟩ := ins_avl l s hl
      obtain ⟨p, q, u, v⟩ := bal_avl (s := x) a hr (by omega) (by omega)
      refine ⟨p, ?_, ?_⟩
      · by_cases h : (l.ins s).ht ≤ r.ht + 1
        · rw [v h (by omega)]; simp only [ht]; omega
        · simp only [ht]; omega
      · by_cases h : (l.ins s).ht ≤ r.ht + 1
        · rw [v h (by omega)]; simp only [ht]; omega
        · simp only [ht]; omega
    · obtain ⟨a, b, c⟩ := ins_avl r s hr
      obtain ⟨p, q, u, v⟩ := bal_avl (s := x) hl a (by omega) (by omega)
      refine ⟨p, ?_, ?_⟩
      · by_cases h : (r.ins s).ht ≤ l.ht + 1
        · rw [v (by omega) h]; simp only [ht]; omega
        · simp only [ht]; omega
      · by_cases h : (r.ins s).ht ≤ l.ht + 1
        · rw [v (by omega) h]; simp only [ht]; omega
        · simp only [ht]; omega
end T

/-! ### the order -/
theorem ci_three (x y : Int) : (x < y ∧ ci x y = -1) ∨ (x = y ∧ ci x y = 0) ∨ (y < x ∧ ci x y = 1) := by
  unfold ci
  rcases Int.lt_trichotomy x y with h | h | h
  · exact .inl ⟨h, by simp [h]⟩
  · exact .inr (.inl ⟨h, by simp [h]⟩)
  · exact .inr (.inr ⟨h, by rw [if_neg (by omega), if_pos h]⟩)
/-- One stretch is ahead of another. -/
def lt (a b : St) : Prop := a.f < b.f ∨ a.f = b.f ∧ (a.t < b.t ∨ a.t = b.t ∧ a.i < b.i)
theorem cs_lt (a b : St) : cs a b < 0 ↔ lt a b := by
  unfold cs lt
  rcases ci_three a.f b.f with ⟨h1, h2⟩ | ⟨h1, h2⟩ | ⟨h1, h2⟩ <;> rcases ci_three a.t b.t with ⟨h3, h4⟩ | ⟨h3, h4⟩ | ⟨h3, h4⟩ <;> rcases ci_three a.i b.i with ⟨h5, h6⟩ | ⟨h5, h6⟩ | ⟨h5, h6⟩ <;> simp [h2, h4, h6] <;> omega
theorem cs_gt (a b : St) : 0 < cs a b ↔ lt b a := by
  unfold cs lt
  rcases ci_three a.f b.f with ⟨h1, h2⟩ | ⟨h1, h2⟩ | ⟨h1, h2⟩ <;> rcases ci_three a.t b.t with ⟨h3, h4⟩ | ⟨h3, h4⟩ | ⟨h3, h4⟩ <;> rcases ci_three a.i b.i with ⟨h5, h6⟩ | ⟨h5, h6⟩ | ⟨h5, h6⟩ <;> simp [h2, h4, h6] <;> omega
theorem st_ext {a b : St} (h1 : a.f = b.f) (h2 : a.t = b.t) (h3 : a.i = b.i) : a = b := by cases a; cases b; simp_all
theorem lt_irr (a : St) : ¬ lt a a := by unfold lt; omega
theorem lt_trans' {a b c : St} (h : lt a b) (k : lt b c) : lt a c := by unfold lt at *; omega
theorem lt_tri (a b : St) : lt a b ∨ a = b ∨ lt b a := by
  by_cases h : a = b
  · exact .inr (.inl h)
  · have : ¬ (a.f = b.f ∧ a.t = b.t ∧ a.i = b.i) := fun ⟨h1, h2, h3⟩ => h (st_ext h1 h2 h3)
    unfold lt; omega
def Sorted (l : List St) : Prop := l.Pairwise lt
end Go.Proofs.Ytgglhicpfjihlaa
