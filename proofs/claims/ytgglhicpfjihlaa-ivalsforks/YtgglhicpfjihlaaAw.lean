/- Plain facts of trees: what is met, and what an insertion leaves in order. -/
import Derived.Test.YtgglhicpfjihlaaHw
import Derived.Test.YtgglhicpfjihlaaMe
namespace Go.Proofs.Ytgglhicpfjihlaa
set_option maxRecDepth 100000

theorem rc_max : ∀ (t : T) (s : St), s ∈ t.inord → s.t ≤ t.rc
  | .nil, _, h => by simp [T.inord] at h
  | .node l x r, s, h => by
    simp only [T.inord, List.mem_append, List.mem_cons] at h
    simp only [T.rc]
    rcases h with h | rfl | h
    · have := rc_max l s h; omega
    · omega
    · have := rc_max r s h; omega
def met (a b : Int) (s : St) : Bool := decide (s.f ≤ b) && decide (a < s.t)
theorem lt_f {a b : St} (h : lt a b) : a.f ≤ b.f := by unfold lt at h; omega

theorem meets_eq : ∀ (t : T) (a b : Int), Sorted t.inord → t.meets a b = t.inord.filter (met a b)
  | .nil, _, _, _ => rfl
  | .node l s r, a, b, hs => by
    rw [T.meets]
    split
    · rename_i h
      symm
      rw [List.filter_eq_nil_iff]
      intro x hx
      have := rc_max _ x hx
      simp [met]
      omega
    · have hs' := hs
      unfold Sorted at hs'
      simp only [T.inord] at hs'
      rw [List.pairwise_append] at hs'
      obtain ⟨h1, h2, h3⟩ := hs'
      rw [List.pairwise_cons] at h2
      rw [meets_eq l a b h1, meets_eq r a b h2.2]
      simp only [T.inord, List.filter_append, List.filter_cons]
      congr 1
      by_cases h4 : s.f > b
      · have h5 : r.inord.filter (met a b) = [] := by
          rw [List.filter_eq_nil_iff]
          intro x hx
          have := lt_f (h2.1 x hx)
          simp [met]
          omega
        have h6 : met a b s = false := by simp [met]; omega
        rw [if_pos h4, h5, h6]
        rfl
      · rw [if_neg h4]
        by_cases h5 : s.t > a
        · have h6 : met a b s = true := by simp [met]; omega
          rw [if_pos h5, h6]
          rfl
        · have h6 : met a b s = false := by simp [met]; omega
          rw [if_neg h5, h6]
          rfl

theorem ins_perm : ∀ (t : T) (s : St), ((t.ins s).inord).Perm (s :: t.inord)
  | .nil, _ => List.Perm.refl _
  | .node l x r, s => by
    unfold T.ins
    split
    · rw [T.inord_bal]
      simp only [T.inord]
      exact (List.Perm.append_right _ (ins_perm l s))
    · rw [T.inord_bal]
      simp only [T.inord]
      refine (List.Perm.append_left l.inord ((ins_perm r s).cons x)).trans ?_
      refine (List.Perm.append_left l.inord (List.Perm.swap s x r.inord)).trans ?_
      exact List.perm_middle
theorem ins_sorted : ∀ (t : T) (s : St), Sorted t.inord → s ∉ t.inord → Sorted (t.ins s).inord
  | .nil, s, _, _ => by simp [T.ins, T.inord, Sorted]
  | .node l x r, s, hs, hn => by
    unfold Sorted at hs
    simp only [T.inord] at hs
    rw [List.pairwise_append] at hs
    obtain ⟨h1, h2, h3⟩ := hs
    simp only [T.inord, List.mem_append, List.mem_cons, not_or] at hn
    unfold T.ins
    split
    · rename_i hc
      rw [cs_lt] at hc
      rw [T.inord_bal]
      unfold Sorted
      simp only [T.inord]
      rw [List.pairwise_append]
      refine ⟨ins_sorted l s h1 hn.1, h2, fun a ha b hb => ?_⟩
      rcases List.mem_cons.1 ((ins_perm l s).mem_iff.1 ha) with rfl | ha
      · rcases List.mem_cons.1 hb with rfl | hb
        · exact hc
        · exact lt_trans' hc ((List.pairwise_cons.1 h2).1 b hb)
      · exact h3 a ha b hb
    · rename_i hc
      rw [cs_lt] at hc
      have hxs : lt x s := (lt_tri s x).elim (fun h => (hc h).elim) (fun h => h.elim (fun h => (hn.2.1 h).elim) id)
      rw [T.inord_bal]
      unfold Sorted
      simp only [T.inord]
      rw [List.pairwise_append, List.pairwise_cons]
      rw [List.pairwise_cons] at h2
      refine ⟨h1, ⟨fun b hb => ?_, ins_sorted r s h2.2 hn.2.2⟩, fun a ha b hb => ?_⟩
      · rcases List.mem_cons.1 ((ins_perm r s).mem_iff.1 hb) with rfl | hb
        · exact hxs
        · exact h2.1 b hb
      · rcases List.mem_cons.1 hb with rfl | hb
        · exact h3 a ha b (by simp)
        · rcases List.mem_cons.1 ((ins_perm r s).mem_iff.1 hb) with rfl | hb
          · exact lt_trans' (h3 a ha x (by simp)) hxs
          · exact h3 a ha b (by simp [hb])
theorem has_mem : ∀ (t : T) (s : St), t.has s = true → s ∈ t.inord
  | .nil, _, h => by simp [T.has] at h
  | .node l x r, s, h => by
    unfold T.has at h
    simp only [T.inord, List.mem_append, List.mem_cons]
    split at h
    · exact .inl (has_mem l s h)
    · split at h
      · exact .inr (.inr (has_mem r s h))
      · rename_i h1 h2
        rw [cs_lt] at h1
        have h2' : ¬ (0 < cs s x) := h2
        rw [cs_gt] at h2'
        exact .inr (.inl ((lt_tri s x).elim (fun h => (h1 h).elim) (fun h => h.elim id (fun h => (h2' h).elim))))
end Go.Proofs.Ytgglhicpfjihlaa
