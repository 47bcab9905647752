/- The program's state and the document's, side by side. -/
import Derived.Test.YtpagnphabchfcaaGreatTg
namespace Go.Proofs.YtpagnphabchfcaaGreat
open Go.RowKit Go.Shelf
set_option maxRecDepth 100000
section
variable {w w' : World} {X : Nat → Prop} {v : Value} {m : Nat} {k : TypeId} {n : Nat} {D : DataW Value}
theorem SV.offM {vs : List Vt} (h : SV w X v vs) (hb : w.ownsMap Tryz.prog k heldR m n D) : SV w (fun b => b = m ∨ X b) v vs := by
  obtain ⟨a, c, rfl, hh⟩ := h
  refine ⟨a, c, rfl, fun h0 => ?_⟩
  obtain ⟨g, o, rfl, hg, hx, hc⟩ := hh h0
  refine ⟨g, o, rfl, hg, fun q => q.elim (fun q => ?_) hx, hc⟩
  subst q
  obtain ⟨x, hx⟩ : ∃ x, vs[0]? = some x := ⟨_, List.getElem?_eq_getElem h0⟩
  have h1 := (hc 0 x hx).2.1
  rw [cell_map hb] at h1
  cases h1
theorem RL.offM {es : List El} (h : RL w X v es) (hb : w.ownsMap Tryz.prog k heldR m n D) : RL w (fun b => b = m ∨ X b) v es := by
  refine ⟨?_, fun e he => (h.vals e he).offM hb⟩
  obtain ⟨a, c, rfl, hh⟩ := h.at'
  refine ⟨a, c, rfl, fun h0 => ?_⟩
  obtain ⟨g, o, rfl, hg, hx, hc⟩ := hh h0
  refine ⟨g, o, rfl, hg, fun q => q.elim (fun q => ?_) hx, hc⟩
  subst q
  obtain ⟨x, hx⟩ : ∃ x, es[0]? = some x := ⟨_, List.getElem?_eq_getElem h0⟩
  have h1 := (hc 0 x hx).2.1
  rw [cell_map hb] at h1
  cases h1
theorem RRow.offM {l : List Rw} (h : RRow w X v l) (hb : w.ownsMap Tryz.prog k heldR m n D) : RRow w (fun b => b = m ∨ X b) v l := by
  obtain ⟨es, h1, h2⟩ := h
  exact ⟨es, h1.offM hb, h2⟩
theorem RRow.offR {l : List Rw} {r : Nat} {u : Value} {t : TypeId} (h : RRow w X v l) (hb : Blk w r [u] t) : RRow w (fun b => b = r ∨ X b) v l := by
  obtain ⟨es, h1, h2⟩ := h
  exact ⟨es, h1.not hb, h2⟩
theorem NL.offM {ns : List NEl} (h : NL w X v ns) (hb : w.ownsMap Tryz.prog k heldR m n D) : NL w (fun b => b = m ∨ X b) v ns := by
  refine ⟨?_, fun e he => (h.rows e he).offM hb, h.small⟩
  obtain ⟨a, c, rfl, hh⟩ := h.at'
  refine ⟨a, c, rfl, fun h0 => ?_⟩
  obtain ⟨g, o, rfl, hg, hx, hc⟩ := hh h0
  refine ⟨g, o, rfl, hg, fun q => q.elim (fun q => ?_) hx, hc⟩
  subst q
  obtain ⟨x, hx⟩ : ∃ x, ns[0]? = some x := ⟨_, List.getElem?_eq_getElem h0⟩
  have h1 := (hc 0 x hx).1
  rw [cell_map hb] at h1
  cases h1
end
/-- The program's state at s (its map at m) and the document's at r hold the same. -/
structure Two (w : World) (s m r : Nat) (E : List (List UInt8 × Value)) (σ : List Tab) : Prop where
  sm : SM w s m E
  rs : RSt w r σ
  sorted : SortedS σ
  rise : ∀ t ∈ σ, sortR t.2 = t.2
  small : ∀ t ∈ σ, t.1.size ≤ maxLen
  keys : ∀ x, (fnd E (bs x)).isSome = true ↔ x ∈ nms σ
  rows : ∀ x l, getS σ x = some l → ∃ y, fnd E (bs x) = some y ∧ RRow w (fun _ => False) y.2 l
theorem Two.below {w w' : World} {s m r : Nat} {E : List (List UInt8 × Value)} {σ : List Tab} (h : Two w s m r E σ) (k : Below w.heap.size w w') : Two w' s m r E σ :=
  ⟨h.sm.below k, h.rs.below k, h.sorted, h.rise, h.small, h.keys, fun x l hx => by
    obtain ⟨y, h1, h2⟩ := h.rows x l hx
    exact ⟨y, h1, h2.below k⟩⟩
theorem RSt.blk {w : World} {r : Nat} {σ : List Tab} (h : RSt w r σ) : ∃ v, Blk w r [v] 93 := by
  obtain ⟨v, _, h1, _⟩ := h.ex
  exact ⟨v, h1⟩
theorem Two.ne {w : World} {s m r : Nat} {E : List (List UInt8 × Value)} {σ : List Tab} (h : SM w s m E) (hr : RSt w r σ) : s ≠ m ∧ s ≠ r ∧ r ≠ m := by
  obtain ⟨v, hb⟩ := hr.blk
  refine ⟨fun q => ?_, fun q => ?_, fun q => ?_⟩
  · have h1 := h.blk.cell 0
    rw [q, cell_map h.map] at h1
    cases h1
  · have h1 : w.heap[s]? = _ := h.blk
    have h2 : w.heap[r]? = _ := hb
    rw [q, h2] at h1
    simp at h1
  · have h1 := hb.cell 0
    rw [q, cell_map h.map] at h1
    cases h1
theorem RSt.keepM {w w' : World} {s m r : Nat} {E : List (List UInt8 × Value)} {σ : List Tab} (hr : RSt w r σ) (h : SM w s m E) (k : Keep (fun b => b = m) w w') : RSt w' r σ := by
  obtain ⟨_, _, h3⟩ := Two.ne h hr
  obtain ⟨v, ns, h1, h2, h4⟩ := hr.ex
  exact ⟨v, ns, h1.keep k h3, (h2.offM h.map).keep (k.mono (fun _ _ q => .inl q)) (fun _ _ q => .inr q), h4⟩
theorem fnd_cons (y : List UInt8 × Value) (E : List (List UInt8 × Value)) (s : List UInt8) : fnd (y :: E) s = if y.1 = s then some y else fnd E s := by
  unfold fnd
  rw [List.find?_cons]
  by_cases e : y.1 = s
  · simp [e]
  · have : (y.1 == s) = false := by simpa using e
    simp [this, e]
theorem nms_put {n : ByteArray} {l : List Rw} {σ : List Tab} (hs : SortedS σ) (x : ByteArray) : x ∈ nms (putS n l σ) ↔ x = n ∨ x ∈ nms σ := by
  unfold nms
  rw [getS_some, getS_put x hs, getS_some]
  by_cases e : x = n
  · simp [e]
  · simp [e]
theorem sortR_twice (l : List Rw) : sortR (sortR l) = sortR l := (sortR_of (sortR_rise l) (List.Perm.refl _)).symm
theorem putS_rise {n : ByteArray} {l : List Rw} (hl : sortR l = l) {σ : List Tab} (hs : SortedS σ) (h : ∀ t ∈ σ, sortR t.2 = t.2) : ∀ t ∈ putS n l σ, sortR t.2 = t.2 := by
  intro t ht
  obtain ⟨i, hi, he⟩ := List.getElem_of_mem ht
  have h1 := (getS_at (putS_sorted hs) (List.getElem?_eq_some_iff.2 ⟨hi, he⟩)).1
  rw [getS_put _ hs] at h1
  split at h1
  · cases h1; exact hl
  · unfold getS at h1
    obtain ⟨u, hu, e⟩ := Option.map_eq_some_iff.1 h1
    rw [← e]
    exact h u (List.mem_of_find?_eq_some hu)
/-- Both Puts. -/
theorem Two.put {w w1 w2 w3 w4 : World} {s m r : Nat} {E : List (List UInt8 × Value)} {σ : List Tab} {n : ByteArray} {l : List Rw} {e2 e4 : Ending} (h : Two w s m r E σ) (hn : n.size ≤ maxLen) (hl : l.length ≤ 1000) (hv : ∀ x ∈ l, x.1.length ≤ 1000)
    (k1 : Below w.heap.size w w1) (h2 : PuPost w1 s m E n (sortR l) e2 w2) (k3 : Below w2.heap.size w2 w3) (h4 : RPuPost w3 r (putS n (sortR l) σ) e4 w4) :
    (∃ v2, Two w4 s m r ((bs n, v2) :: E) (putS n (sortR l) σ)) ∧ Keep (fun b => b = m ∨ b = r) w w4 := by
  obtain ⟨_, v2, es2, hSM, _, hO, hE, hK⟩ := h2
  obtain ⟨_, hRS, hK4⟩ := h4
  have h1 := h.below k1
  have hRS2 := (h1.rs.keepM h1.sm hK).below k3
  have hSM3 := hSM.below k3
  obtain ⟨n1, n2, n3⟩ := Two.ne hSM3 hRS2
  obtain ⟨u, hub⟩ := hRS2.blk
  have hSM4 := hSM3.keep hK4 n2 n3.symm
  have hrow : RRow w2 (fun _ => False) v2 (sortR l) := ⟨es2, hO.rl, hE, by have := congrArg List.length hE; rw [sortR_len] at this; simp [rws] at this; omega, fun e he => by
    have hm : (e.2 : Rw) ∈ sortR l := by rw [← hE]; exact List.mem_map.2 ⟨e, he, rfl⟩
    exact sortR_vals hv _ hm⟩
  have hrow4 : ∀ {v' : Value} {l' : List Rw}, RRow w2 (fun _ => False) v' l' → RRow w4 (fun _ => False) v' l' := fun hh =>
    ((hh.below k3).offR hub).keep (hK4.mono (fun _ _ q => .inl q)) (fun _ _ q => q.elim)
  refine ⟨⟨v2, hSM4, hRS, putS_sorted h.sorted, putS_rise (sortR_twice l) h.sorted h.rise, fun t ht => ?_, fun x => ?_, fun x l' hx => ?_⟩, ?_⟩
  · rcases putS_mem (List.mem_map.2 ⟨t, ht, rfl⟩) with e | e
    · rw [e]; exact hn
    · obtain ⟨q, hq, e⟩ := List.mem_map.1 e
      rw [← e]
      exact h.small q hq
  · rw [nms_put h.sorted, fnd_cons]
    by_cases e : x = n
    · subst e; simp
    · rw [if_neg (fun q => e (bs_inj q).symm), h.keys]
      simp [e]
  · rw [getS_put x h.sorted] at hx
    rw [fnd_cons]
    by_cases e : x = n
    · subst e
      rw [if_pos rfl] at hx
      cases hx
      exact ⟨_, if_pos rfl, hrow4 hrow⟩
    · rw [if_neg e] at hx
      obtain ⟨y, q1, q2⟩ := h1.rows x l' hx
      exact ⟨y, by rw [if_neg (fun q => e (bs_inj q).symm)]; exact q1, hrow4 (((q2.offM h1.sm.map)).keep (hK.mono (fun _ _ q => .inl q)) (fun _ _ q => q.elim))⟩
  · refine (((Keep.of k1).trans (hK.mono (G := fun b => b = m ∨ b = r) (fun _ _ q => .inl q)) (fun _ _ q => q)).trans (Keep.of (F := fun b => b = m ∨ b = r) k3) (fun _ _ q => q)).trans (hK4.mono (G := fun b => b = m ∨ b = r) (fun _ _ q => .inr q)) (fun _ _ q => q)
theorem Two.new {w1 w2 : World} {s m r : Nat} (h1 : SM w1 s m []) (k2 : Below w1.heap.size w1 w2) (h2 : RSt w2 r []) : Two w2 s m r [] [] :=
  ⟨h1.below k2, h2, List.Pairwise.nil, fun t ht => (by cases ht), fun t ht => (by cases ht), fun x => by simp [fnd, nms], fun x l hx => by simp [getS] at hx⟩
end Go.Proofs.YtpagnphabchfcaaGreat
