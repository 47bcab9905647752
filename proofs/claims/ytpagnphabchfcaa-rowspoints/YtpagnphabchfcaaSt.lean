/- A state: New, Put, Get. -/
import Derived.Test.YtpagnphabchfcaaCa
import Derived.Maps.OwnSet
namespace Go.Proofs.Ytpagnphabchfcaa
open Go.RowKit Go.Shelf
set_option maxRecDepth 100000
theorem keyed9 : Maps.Keyed Try.prog 9 := Maps.string_keyed Try.underlying9
def heldR (v : Value) : Option (DataW Value × List MemPlace) := some (.held v, [])
/-- The map of the tables, the newest one first. -/
def DT : List (List UInt8 × Value) → DataW Value
  | [] => .map []
  | x :: E => (DT E).put (.string x.1) (.held x.2)
def fnd (E : List (List UInt8 × Value)) (s : List UInt8) : Option (List UInt8 × Value) := E.find? (fun x => x.1 == s)
theorem isMap_DT : ∀ E, Maps.IsMap (DT E)
  | [] => Maps.isMap_empty
  | _ :: E => (isMap_DT E).put _ _
theorem atKey_DT (s : List UInt8) (z : DataW Value) : ∀ E, (DT E).atKey (.string s) z = ((fnd E s).map fun x => DataW.held x.2).getD z
  | [] => rfl
  | x :: E => by
    by_cases h : x.1 = s
    · subst h
      rw [DT, Maps.atKey_put_same (k := .string x.1) (isMap_DT E) trivial]
      simp [fnd]
    · rw [DT, Maps.atKey_put_other (by simpa using Ne.symm h), atKey_DT s z E]
      have : (x.1 == s) = false := by simpa using h
      simp [fnd, this]
/-- The state at s, its map at m, has these tables. -/
structure SM (w : World) (s m : Nat) (E : List (List UInt8 × Value)) : Prop where
  blk : Blk w s [.map (some m)] 71
  map : w.ownsMap Try.prog 9 heldR m E.length (DT E)
theorem SM.keep {w w' : World} {s m : Nat} {E : List (List UInt8 × Value)} {F : Nat → Prop} (h : SM w s m E) (k : Keep F w w') (h1 : ¬ F s) (h2 : ¬ F m) : SM w' s m E := by
  refine ⟨h.blk.keep k h1, ?_⟩
  have hl := h.map.lt
  obtain ⟨es, cl, q1, q2⟩ := h.map
  exact ⟨es, cl, (k.block m hl h2).trans q1, q2⟩
theorem SM.below {w w' : World} {s m : Nat} {E : List (List UInt8 × Value)} (h : SM w s m E) (k : Below w.heap.size w w') : SM w' s m E := h.keep (F := fun _ => False) (Keep.of k) id id
theorem new27 (w : World) : Calls Try.prog 27 #[] w fun e w' => ∃ s m, e = .returned (.pointer (some ⟨s, 0, none⟩)) ∧ SM w' s m [] ∧ w.heap.size ≤ s ∧ w.heap.size ≤ m ∧ Below w.heap.size w w' := by
  have hmm : ∀ t (w1 : World), (Instr.makeMap t none).run Try.prog w1 = .ok (.map (some w1.heap.size)) (w1.alloc (.map #[] 0)) := fun t w1 => rfl
  go_enter Try.func27, Try.ntmps27
  go_wp2
  go_ret
  refine ⟨_, w.heap.size, rfl, ⟨blk_at _ [.map (some w.heap.size)] 71 (by simp), ?_⟩, by simp, by simp, bal (al _ _) _⟩
  exact (World.ownsMap_made w Try.prog 9 heldR).alloc _
theorem zero22 (w : World) : (zeroValue 22).run Try.prog w = .ok (.slice none 0 0) w := by kernel_rfl
theorem SM.look {w : World} {s m : Nat} {E : List (List UInt8 × Value)} (h : SM w s m E) (n : ByteArray) (hn : n.size ≤ maxLen) :
    (Instr.lookup 69 (.map (some m)) (.string n) false).run Try.prog w = .ok (((fnd E (bs n)).map (·.2)).getD (.slice none 0 0)) w := by
  have hkey : keyOf Try.prog 9 (.string n) = some (.string (bs n)) := WideMaps.keyOf_string_mk Try.underlying9 hn
  obtain ⟨v, ps, h1, h2⟩ := h.map.lookup keyed9 Try.underlying69 (zero22 w) (show heldR (.slice none 0 0) = some (.held (.slice none 0 0), []) from rfl) hkey
  rw [atKey_DT] at h2
  have : v = ((fnd E (bs n)).map (·.2)).getD (.slice none 0 0) := by
    simp only [heldR, Option.some.injEq, Prod.mk.injEq] at h2
    cases hf : fnd E (bs n) with
    | none => rw [hf] at h2; have := h2.1; simp at this; simpa using this
    | some x => rw [hf] at h2; have := h2.1; simp at this; simpa using this
  rw [← this]
  exact h1
theorem SM.put {w : World} {s m : Nat} {E : List (List UInt8 × Value)} (h : SM w s m E) (hE : E.length ≤ 1000) (n : ByteArray) (hn : n.size ≤ maxLen) (v : Value) :
    ∃ w', (Instr.mapUpdate 69 (.map (some m)) (.string n) v).run Try.prog w = .ok () w' ∧ w'.ownsMap Try.prog 9 heldR m (E.length + 1) (DT ((bs n, v) :: E)) ∧ w.grownBy w' (some m) :=
  h.map.update keyed9 Try.underlying69 (by unfold maxLen; omega) (key := .string n) (kl := .string (bs n)) (WideMaps.keyOf_string_mk Try.underlying9 hn) (show heldR v = some (.held v, []) from rfl)
/-- Values, and rows, do not lie where a map lies. -/
theorem cell_map {w : World} {m : Nat} {k : TypeId} {n : Nat} {D : DataW Value} (h : w.ownsMap Try.prog k heldR m n D) (o : Nat) : w.cell? ⟨m, o, none⟩ = none := by
  obtain ⟨es, cl, q1, _⟩ := h
  simp [World.cell?, q1]
theorem SV.notMap {w : World} {X : Nat → Prop} {v : Value} {vs : List Vt} {m : Nat} {k : TypeId} {n : Nat} {D : DataW Value} (h : SV w X v vs) (hb : w.ownsMap Try.prog k heldR m n D) : SV w (fun b => b = m) v vs := by
  obtain ⟨a, c, rfl, hh⟩ := h
  refine ⟨a, c, rfl, fun h0 => ?_⟩
  obtain ⟨g, o, rfl, hg, hx, hc⟩ := hh h0
  refine ⟨g, o, rfl, hg, fun q => ?_, hc⟩
  subst q
  obtain ⟨x, hx⟩ : ∃ x, vs[0]? = some x := ⟨_, List.getElem?_eq_getElem h0⟩
  have h1 := (hc 0 x hx).2.1
  rw [cell_map hb] at h1
  cases h1
def PuPost (w : World) (s m : Nat) (E : List (List UInt8 × Value)) (n : ByteArray) (l : List Rw) (e : Ending) (w' : World) : Prop := e = .returned (.int .i64 0) ∧ ∃ v2 es2, SM w' s m ((bs n, v2) :: E) ∧ v2 ≠ .slice none 0 0 ∧ OwnR w' w.heap.size v2 es2 ∧ rws es2 = l ∧ Keep (fun b => b = m) w w'
set_option maxHeartbeats 1000000 in
theorem put28 {w : World} {X : Nat → Prop} {s m : Nat} {E : List (List UInt8 × Value)} {n : ByteArray} {v : Value} {es : List El} (h : SM w s m E) (hE : E.length ≤ 1000) (hn : n.size ≤ maxLen) (hn0 : (n.toList == []) = false) (hr : RL w X v es) (hl : es.length ≤ 1000) (hv : ∀ e ∈ es, e.2.1.length ≤ 1000) :
    Calls Try.prog 28 #[.pointer (some ⟨s, 0, none⟩), .string n, v] w (PuPost w s m E n (sortR (rws es))) := by
  have HS : Hid (∀ W, Below w.heap.size w W → SM W s m E) := fun W k => h.below k
  have K0 : Below w.heap.size w w.drew := (Below.refl _ _).drew
  have k17 := sorted17 (hr.below K0) hl hv
  have HP : Hid (∀ W, Below w.heap.size w W → ∀ v2, ∃ w', (Instr.mapUpdate 69 (.map (some m)) (.string n) v2).run Try.prog W = .ok () w' ∧ w'.ownsMap Try.prog 9 heldR m (E.length + 1) (DT ((bs n, v2) :: E)) ∧ W.grownBy w' (some m)) := fun W k v2 => (h.below k).put hE n hn v2
  have hS0 : w.drew.cell? ⟨s, 0, none⟩ = some (.map (some m)) := (HS.out _ K0).blk.cell 0
  have hsm : s ≠ m := fun q => by
    have h1 := h.blk.cell 0
    rw [q, cell_map h.map] at h1
    cases h1
  have HSM : Hid (s ≠ m ∧ m < w.heap.size) := ⟨hsm, h.map.lt⟩
  obtain ⟨a, c, rfl⟩ := hr.form
  clear h hr hsm
  go_enter Try.func28, Try.ntmps28
  go_wp2_with fail
  go_region_held3 (fun W => W.cell? ⟨s, 0, none⟩ = some (.map (some m))) (first | exact hS0 | exact (HS.out _ K1).blk.cell 0 | exact hS4) (first
    | (go_at_call 17; (with_reducible refine k17.mono ?_); rintro e w2 ⟨v2, es2, rfl, hn2, hO2, hE2, hB2⟩; have K1 := bmore K0 hB2; obtain ⟨w4, hrun4, hown4, hgr4⟩ := HP.out _ K1 v2; have hS4 : w4.cell? ⟨s, 0, none⟩ = some (.map (some m)) := ((HS.out _ K1).blk.keep (keep_of_grown hgr4) (fun q => HSM.out.1 (Option.some.inj q).symm)).cell 0))
  go_wp2_with fail
  go_ret
  have hk4 : Keep (fun b => b = m) w2 w4 := (keep_of_grown hgr4).mono (fun b _ q => (Option.some.inj q).symm)
  refine ⟨rfl, v2, es2, ⟨(HS.out _ K1).blk.keep hk4 HSM.out.1, hown4⟩, hn2, ⟨owns_keep hO2.row (fun j hj => hk4.block j (hO2.row.lt j hj).2 (fun q => by have h1 := (hO2.row.lt j hj).1; have h2 := HSM.out.2; have h3 := K0.size; omega)), fun e he => sv_both (hO2.vals e he) ((hO2.vals e he).notMap (HS.out _ K1).map) hk4⟩, hE2, (Keep.of K1).trans hk4 (fun _ _ h => h)⟩
set_option maxHeartbeats 1000000 in
theorem get29 {w : World} {X : Nat → Prop} {s m : Nat} {E : List (List UInt8 × Value)} {n : ByteArray} {es : List El} (h : SM w s m E) (hn : n.size ≤ maxLen) {x : List UInt8 × Value} (hf : fnd E (bs n) = some x) (hr : RL w X x.2 es) (hl : es.length ≤ 1000) (hv : ∀ e ∈ es, e.2.1.length ≤ 1000) :
    Calls Try.prog 29 #[.pointer (some ⟨s, 0, none⟩), .string n] w (SPost w (rws es)) := by
  have k35 := copied35 hr hl hv
  have hlk := h.look n hn
  rw [hf] at hlk
  simp only [Option.map_some, Option.getD_some] at hlk
  have hc0 := h.blk.cell 0
  simp only [List.getElem?_cons_zero] at hc0
  obtain ⟨x1, x2⟩ := x
  simp only at hr hlk k35
  obtain ⟨a, c, rfl⟩ := hr.form
  clear h hr hf
  go_enter Try.func29, Try.ntmps29
  go_wp2_with (go_at_call 35; (with_reducible refine k35.mono ?_); rintro e w1 ⟨v1, es1, rfl, hO, hE, B1⟩)
  go_ret
  exact ⟨v1, es1, rfl, hO.out.1, hO.out.2, hE.out, B1⟩
end Go.Proofs.Ytpagnphabchfcaa
