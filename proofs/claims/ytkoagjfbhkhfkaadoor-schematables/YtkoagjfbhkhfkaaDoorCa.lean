/- A catalog: New, Get. -/
import Derived.Test.YtkoagjfbhkhfkaaDoorCt
import Derived.Maps.OwnSet
import Derived.Maps.AppendAt
namespace Go.Proofs.YtkoagjfbhkhfkaaDoor
open Go.RowKit Go.Lib
set_option maxRecDepth 100000

/-- A table: its name, its columns, its parent's name, the place of what refers to it. -/
structure Tb where
  n : Bs
  cols : List Cl
  p : Bs
  r : Int
/-- A table that is kept, and the block of its columns. -/
abbrev En := Tb × Nat
def tv (x : En) : Value := TB (str x.1.n) (.slice (some ⟨x.2, 0, none⟩) x.1.cols.length x.1.cols.length) (str x.1.p) x.1.r
def heldR (v : Value) : Option (DataW Value × List MemPlace) := some (.held v, [])
/-- The map of the tables, the newest one first. -/
def DT : List En → DataW Value
  | [] => .map []
  | x :: E => (DT E).put (.string x.1.n) (.held (tv x))
def fnd (E : List En) (s : Bs) : Option En := E.find? (fun x => x.1.n == s)
theorem isMap_DT : ∀ E, Maps.IsMap (DT E)
  | [] => Maps.isMap_empty
  | _ :: E => (isMap_DT E).put _ _
theorem atKey_DT (s : Bs) (z : DataW Value) : ∀ E, (DT E).atKey (.string s) z = ((fnd E s).map fun x => DataW.held (tv x)).getD z
  | [] => rfl
  | x :: E => by
    by_cases h : x.1.n = s
    · subst h
      rw [DT, Maps.atKey_put_same (k := .string x.1.n) (isMap_DT E) trivial]
      simp [fnd]
    · rw [DT, Maps.atKey_put_other (by simpa using Ne.symm h), atKey_DT s z E]
      have : (x.1.n == s) = false := by simpa using h
      simp [fnd, this]
theorem has_DT (s : Bs) : ∀ E, Maps.has (DT E) (.string s) = (fnd E s).isSome
  | [] => rfl
  | x :: E => by
    by_cases h : x.1.n = s
    · subst h
      rw [DT, Maps.has_put_same (k := .string x.1.n) (isMap_DT E) trivial]
      simp [fnd]
    · rw [DT, Maps.has_put_other (by simpa using Ne.symm h), has_DT s E]
      have : (x.1.n == s) = false := by simpa using h
      simp [fnd, this]
def namesV (E : List En) : List Value := E.reverse.map fun x => Value.string (str x.1.n)
theorem namesV_cons (x : En) (E : List En) : namesV (x :: E) = namesV E ++ [.string (str x.1.n)] := by simp [namesV]
/-- The blocks of a catalog. -/
def catB (c m : Nat) (nv : Value) (E : List En) (k : Nat) : Prop := k = c ∨ k = m ∨ nv.ownBlock = some k ∨ ∃ x ∈ E, k = x.2
/-- The catalog at c has these tables. -/
structure Cat (w : World) (c m : Nat) (nv : Value) (E : List En) : Prop where
  blk : Blk w c [.map (some m), nv] 61
  map : w.ownsMap Tryd.prog 9 heldR m E.length (DT E)
  names : w.ownsRow 0 9 1 nv E.length (namesV E)
  cols : ∀ x ∈ E, Blk w x.2 (cellsC x.1.cols) 44
  ok : ∀ x ∈ E, rtB x.1.n x.1.cols x.1.p x.1.r = true
  few : E.length ≤ 3
section
variable {w w' : World} {c m : Nat} {nv : Value} {E : List En}
theorem ownsRow_block {e : TypeId} {sz n : Nat} {v : Value} {xs : List Value} (h : w.ownsRow 0 e sz v n xs) (hk : ∀ g, v.ownBlock = some g → w'.heap[g]? = w.heap[g]?) : w'.ownsRow 0 e sz v n xs := by
  obtain ⟨h1, h2⟩ := h
  refine ⟨h1, ?_⟩
  rcases h2 with h2 | ⟨g, cap, cur, rfl, h3, h4, h5⟩
  · exact .inl h2
  · exact .inr ⟨g, cap, cur, rfl, h3, (hk g rfl).trans h4, h5⟩
theorem ownsRow_lt {e : TypeId} {sz n : Nat} {v : Value} {xs : List Value} (h : w.ownsRow 0 e sz v n xs) {g : Nat} (hg : v.ownBlock = some g) : ∃ cur, w.heap[g]? = some (.cells cur e (0, 0)) := by
  rcases h.2 with ⟨rfl, _⟩ | ⟨g', cap, cur, rfl, h3, h4, h5⟩
  · cases hg
  · cases hg
    exact ⟨cur, h4⟩
theorem Cat.lt (h : Cat w c m nv E) {k : Nat} (hk : catB c m nv E k) : k < w.heap.size := by
  rcases hk with rfl | rfl | hk | ⟨x, hx, rfl⟩
  · exact h.blk.lt
  · exact h.map.lt
  · obtain ⟨cur, hc⟩ := ownsRow_lt h.names hk
    exact (Array.getElem?_eq_some_iff.1 hc).1
  · exact (h.cols x hx).lt
theorem Cat.keep (h : Cat w c m nv E) (hk : ∀ k, catB c m nv E k → w'.heap[k]? = w.heap[k]?) : Cat w' c m nv E := by
  refine ⟨h.blk.block (hk _ (.inl rfl)), ?_, ownsRow_block h.names (fun g hg => hk g (.inr (.inr (.inl hg)))), fun x hx => (h.cols x hx).block (hk _ (.inr (.inr (.inr ⟨x, hx, rfl⟩)))), h.ok, h.few⟩
  obtain ⟨es, cl, h1, h2⟩ := h.map
  exact ⟨es, cl, (hk m (.inr (.inl rfl))).trans h1, h2⟩
theorem Cat.below (h : Cat w c m nv E) (hb : Below w.heap.size w w') : Cat w' c m nv E := h.keep fun k hk => hb.block k (h.lt hk)
end
theorem new4 (w : World) : Calls Tryd.prog 25 #[] w fun e w' => ∃ c m, e = .returned (.pointer (some ⟨c, 0, none⟩)) ∧ Cat w' c m (.slice none 0 0) [] ∧ w.heap.size ≤ c ∧ w.heap.size ≤ m ∧ Below w.heap.size w w' := by
  have hmm : ∀ t (w1 : World), (Instr.makeMap t none).run Tryd.prog w1 = .ok (.map (some w1.heap.size)) (w1.alloc (.map #[] 0)) := fun t w1 => rfl
  go_enter Tryd.func25, Tryd.ntmps25
  go_wp2
  go_ret
  refine ⟨_, w.heap.size, rfl, ⟨blk_at _ [.map (some w.heap.size), .slice none 0 0] 61 (by simp), ?_, ?_, by simp, by simp, by simp⟩, by simp, by simp, bal (al _ _) _⟩
  · exact (World.ownsMap_made w Tryd.prog 9 heldR).alloc _
  · exact ⟨rfl, .inl ⟨rfl, rfl⟩⟩
abbrev TB0 : Value := TB ⟨#[]⟩ (.slice none 0 0) ⟨#[]⟩ 0
theorem zero32 (w : World) : (zeroValue 32).run Tryd.prog w = .ok TB0 w := by kernel_rfl
theorem Cat.look {w : World} {c m : Nat} {nv : Value} {E : List En} (h : Cat w c m nv E) (s : ByteArray) (hs : s.size ≤ maxLen) :
    (Instr.lookup 59 (.map (some m)) (.string s) true).run Tryd.prog w = .ok (.tuple #[((fnd E (bs s)).map tv).getD TB0, .bool (fnd E (bs s)).isSome]) w := by
  have hkey : keyOf Tryd.prog 9 (.string s) = some (.string (bs s)) := WideMaps.keyOf_string_mk Tryd.underlying9 hs
  obtain ⟨v, ps, h1, h2⟩ := h.map.look_ok keyed9 Tryd.underlying59 (zero32 w) (show heldR TB0 = some (.held TB0, []) from rfl) hkey
  rw [has_DT] at h1
  rw [atKey_DT] at h2
  have : v = ((fnd E (bs s)).map tv).getD TB0 := by
    simp only [heldR, Option.some.injEq, Prod.mk.injEq] at h2
    cases hf : fnd E (bs s) with
    | none => rw [hf] at h2; have := h2.1; simp at this; simpa using this
    | some x => rw [hf] at h2; have := h2.1; simp at this; simpa using this
  rw [← this]
  exact h1
end Go.Proofs.YtkoagjfbhkhfkaaDoor
