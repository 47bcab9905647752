/- The law TopLine: in every good world it answers true. -/
import Derived.Test.YthfkmedpcmiibaaDoorVrow
import Derived.Deep.QuietTactic
import Derived.BigQuiet
namespace Go.Proofs.YthfkmedpcmiibaaDoor
open Go.RowKit Go.Lib

/-- The bytes of values, one behind the other. -/
def flat (l : List Vt) : Bs := l.flatMap bytesT
theorem flat_snoc (l : List Vt) (x : Vt) : flat (l ++ [x]) = flat l ++ bytesT x := by simp [flat]
theorem flat_cons (l : List Vt) (x : Vt) : flat (x :: l) = bytesT x ++ flat l := by simp [flat]
theorem bytesT_len {x : Vt} (h : okV x = true) : (bytesT x).length ≤ 34 ∧ 2 ≤ (bytesT x).length := by
  rcases rightV_cases h with ⟨e, _⟩ | ⟨e, e2, hs⟩
  · unfold bytesT; rw [e, bytesV_int, List.length_cons, be8_length]; omega
  · unfold bytesT; rw [e, e2, bytesV_text]; have := right_len hs; simp at this ⊢; omega
theorem flat_len : ∀ (l : List Vt), (∀ x ∈ l, okV x = true) → (flat l).length ≤ 34 * l.length
  | [], _ => by simp [flat]
  | x :: t, h => by
    have h1 := bytesT_len (h x (by simp))
    have h2 := flat_len t (fun y hy => h y (by simp [hy]))
    rw [flat_cons, List.length_append, List.length_cons]; omega
theorem keep_snoc (vs : List Vt) (k : Nat) (x : Vt) (hx : vs[k]? = some x) : (vs.take (k + 1)).filter okV = (vs.take k).filter okV ++ (if okV x then [x] else []) := by
  have hk : k < vs.length := (List.getElem?_eq_some_iff.1 hx).1
  have e : vs[k] = x := (List.getElem?_eq_some_iff.1 hx).2
  rw [List.take_succ_eq_append_getElem hk, List.filter_append, e]
  cases h : okV x <;> simp [h]
theorem keep_ok (vs : List Vt) (k : Nat) : ∀ x ∈ (vs.take k).filter okV, okV x = true := fun _ hx => (List.mem_filter.1 hx).2
theorem keep_len (vs : List Vt) (k : Nat) : ((vs.take k).filter okV).length ≤ k := by
  have h1 := List.length_filter_le okV (vs.take k)
  have h2 : (vs.take k).length ≤ k := List.length_take_le _ _
  omega

theorem rdV_none : rdV [] = (0, 0, [], 0, 3) := by unfold rdV begunV; simp [rightV_none]
theorem sb_rest {w w' : World} {gb ob cb M Q : Nat} {Y R : Bs} (hM : Y.length = M) (hQ : R.length = Q) (hc : M + Q ≤ cb) (hcm : cb ≤ maxLen) (hat : At w gb ob (Y ++ R)) (hb : Below w.heap.size w w') :
    SB w' (.slice (if cb = M then some ⟨gb, ob, none⟩ else some ⟨gb, ob + M, none⟩) Q (cb - M)) R := by
  by_cases h0 : Q = 0
  · subst h0
    exact .inl ⟨_, _, rfl, List.eq_nil_of_length_eq_zero hQ⟩
  · rw [if_neg (by omega)]
    refine .inr ⟨gb, ob + M, cb - M, by rw [hQ], by omega, by omega, by omega, ?_⟩
    have h1 := (hat.below hb).drop M
    rw [List.drop_append_of_le_length (by omega), List.drop_eq_nil_of_le (by omega), List.nil_append] at h1
    exact h1
theorem vrow_at {B g n c : Nat} {l : List Vt} {w : World} (h : VRow B (.slice (some ⟨g, 0, none⟩) n c) l w) (i : Nat) (x : Vt) (hx : l[i]? = some x) : w.cell? ⟨g, i * 3, none⟩ = some (.int .u8 x.1) ∧ w.cell? ⟨g, i * 3 + 1, none⟩ = some (.int .i64 x.2.1) ∧ w.cell? ⟨g, i * 3 + 2, none⟩ = some (.string x.2.2) := by
  obtain ⟨c0, c1, c2⟩ := cellsV_at l i x hx
  have k0 := World.ownsRow.cells h (g := g) rfl _ _ c0
  have k1 := World.ownsRow.cells h (g := g) rfl _ _ c1
  have k2 := World.ownsRow.cells h (g := g) rfl _ _ c2
  rw [add_offv, Nat.zero_add] at k0 k1 k2
  exact ⟨k0, k1, k2⟩

end Go.Proofs.YthfkmedpcmiibaaDoor
