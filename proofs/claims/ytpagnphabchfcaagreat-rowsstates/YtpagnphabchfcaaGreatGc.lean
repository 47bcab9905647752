/- A state: New, Put, Get. · slices.Sort and slices.Compact at ints: the library's contracts. · Points. · live's rows, by plain data. · live. · An append of rows to rows. · The document's Compare, Values, Same, SameRows, SameAt. · The document's Values, Same, Compare, SameRow, SameRows, SameAt. · The document's SameAt, Compare of rows, SameRow, SameRows. · The document's Compare of rows, SameRow, SameRows. · The document's SameRows. -/
import Derived.Test.YtpagnphabchfcaaGreatGb
import Derived.Maps.OwnSet
import Derived.Shelf.Sort.Plain
import Derived.Ground.Names2Prog
import Derived.Shelf.Slices.CompactI
import Derived.Shelf.Slices.In.SortNone
import Derived.Test.YtpagnphabchfcaaGreatProg
import Derived.Sort.OwnSortedInts
import Derived.Lib.RowBridge
import Derived.Deep.AppendSrc
import Derived.ArgAppend
import Derived.Deep.Upon
/-! ### A state: New, Put, Get. -/
namespace Go.Proofs.YtpagnphabchfcaaGreat
open Go.RowKit Go.Shelf
set_option maxRecDepth 100000
theorem keyed9 : Maps.Keyed Tryz.prog 9 := Maps.string_keyed Tryz.underlying9
def heldR (v : Value) : Option (DataW Value × List MemPlace) := some (.held v, [])
/-- The map of the tables, the newest one first. -/
def DT : List (List UInt8 × Value) → DataW Value
  | [] => .map []
  | x :: E => (DT E).put (.string x.1) (.held x.2)
def fnd (E : List (List UInt8 × Value)) (s : List UInt8) : Option (List UInt8 × Value) := E.find? (fun x => x.1 == s)
theorem isMap_DT : ∀ E, Maps.IsMap (DT E)
  | [] => Maps.isMap_empty
  | _ :: E => (isMap_DT E).put _ _
theorem atKey_DT (s : List UInt8) (z : DataW Value) : ∀ E, (DT E).atKey (.string s) z = ((fnd E s).map fun x => DataW.held x.2).getD z
  | [] => rfl
  | x :: E => by
    by_cases h : x.1 = s
    · subst h
      rw [DT, Maps.atKey_put_same (k := .string x.1) (isMap_DT E) trivial]
      simp [fnd]
    · rw [DT, Maps.atKey_put_other (by simpa using Ne.symm h), atKey_DT s z E]
      have : (x.1 == s) = false := by simpa using h
      simp [fnd, this]
/-- The state at s, its map at m, has these tables. -/
structure SM (w : World) (s m : Nat) (E : List (List UInt8 × Value)) : Prop where
  blk : Blk w s [.map (some m)] 90
  map : w.ownsMap Tryz.prog 9 heldR m E.length (DT E)
theorem SM.keep {w w' : World} {s m : Nat} {E : List (List UInt8 × Value)} {F : Nat → Prop} (h : SM w s m E) (k : Keep F w w') (h1 : ¬ F s) (h2 : ¬ F m) : SM w' s m E := by
  refine ⟨h.blk.keep k h1, ?_⟩
  have hl := h.map.lt
  obtain ⟨es, cl, q1, q2⟩ := h.map
  exact ⟨es, cl, (k.block m hl h2).trans q1, q2⟩
theorem SM.below {w w' : World} {s m : Nat} {E : List (List UInt8 × Value)} (h : SM w s m E) (k : Below w.heap.size w w') : SM w' s m E := h.keep (F := fun _ => False) (Keep.of k) id id
theorem new27 (w : World) : Calls Tryz.prog 42 #[] w fun e w' => ∃ s m, e = .returned (.pointer (some ⟨s, 0, none⟩)) ∧ SM w' s m [] ∧ w.heap.size ≤ s ∧ w.heap.size ≤ m ∧ Below w.heap.size w w' := by
  have hmm : ∀ t (w1 : World), (Instr.makeMap t none).run Tryz.prog w1 = .ok (.map (some w1.heap.size)) (w1.alloc (.map #[] 0)) := fun t w1 => rfl
  go_enter Tryz.func42, Tryz.ntmps42
  go_wp2
  go_ret
  refine ⟨_, w.heap.size, rfl, ⟨blk_at _ [.map (some w.heap.size)] 90 (by simp), ?_⟩, by simp, by simp, bal (al _ _) _⟩
  exact (World.ownsMap_made w Tryz.prog 9 heldR).alloc _
theorem zero22 (w : World) : (zeroValue 22).run Tryz.prog w = .ok (.slice none 0 0) w := by kernel_rfl
theorem SM.look {w : World} {s m : Nat} {E : List (List UInt8 × Value)} (h : SM w s m E) (n : ByteArray) (hn : n.size ≤ maxLen) :
    (Instr.lookup 88 (.map (some m)) (.string n) false).run Tryz.prog w = .ok (((fnd E (bs n)).map (·.2)).getD (.slice none 0 0)) w := by
  have hkey : keyOf Tryz.prog 9 (.string n) = some (.string (bs n)) := WideMaps.keyOf_string_mk Tryz.underlying9 hn
  obtain ⟨v, ps, h1, h2⟩ := h.map.lookup keyed9 Tryz.underlying88 (zero22 w) (show heldR (.slice none 0 0) = some (.held (.slice none 0 0), []) from rfl) hkey
  rw [atKey_DT] at h2
  have : v = ((fnd E (bs n)).map (·.2)).getD (.slice none 0 0) := by
    simp only [heldR, Option.some.injEq, Prod.mk.injEq] at h2
    cases hf : fnd E (bs n) with
    | none => rw [hf] at h2; have := h2.1; simp at this; simpa using this
    | some x => rw [hf] at h2; have := h2.1; simp at this; simpa using this
  rw [← this]
  exact h1
theorem SM.put {w : World} {s m : Nat} {E : List (List UInt8 × Value)} (h : SM w s m E) (hE : E.length ≤ 1000) (n : ByteArray) (hn : n.size ≤ maxLen) (v : Value) :
    ∃ w', (Instr.mapUpdate 88 (.map (some m)) (.string n) v).run Tryz.prog w = .ok () w' ∧ w'.ownsMap Tryz.prog 9 heldR m (E.length + 1) (DT ((bs n, v) :: E)) ∧ w.grownBy w' (some m) :=
  h.map.update keyed9 Tryz.underlying88 (by unfold maxLen; omega) (key := .string n) (kl := .string (bs n)) (WideMaps.keyOf_string_mk Tryz.underlying9 hn) (show heldR v = some (.held v, []) from rfl)
/-- Values, and rows, do not lie where a map lies. -/
theorem cell_map {w : World} {m : Nat} {k : TypeId} {n : Nat} {D : DataW Value} (h : w.ownsMap Tryz.prog k heldR m n D) (o : Nat) : w.cell? ⟨m, o, none⟩ = none := by
  obtain ⟨es, cl, q1, _⟩ := h
  simp [World.cell?, q1]
theorem SV.notMap {w : World} {X : Nat → Prop} {v : Value} {vs : List Vt} {m : Nat} {k : TypeId} {n : Nat} {D : DataW Value} (h : SV w X v vs) (hb : w.ownsMap Tryz.prog k heldR m n D) : SV w (fun b => b = m) v vs := by
  obtain ⟨a, c, rfl, hh⟩ := h
  refine ⟨a, c, rfl, fun h0 => ?_⟩
  obtain ⟨g, o, rfl, hg, hx, hc⟩ := hh h0
  refine ⟨g, o, rfl, hg, fun q => ?_, hc⟩
  subst q
  obtain ⟨x, hx⟩ : ∃ x, vs[0]? = some x := ⟨_, List.getElem?_eq_getElem h0⟩
  have h1 := (hc 0 x hx).2.1
  rw [cell_map hb] at h1
  cases h1
def PuPost (w : World) (s m : Nat) (E : List (List UInt8 × Value)) (n : ByteArray) (l : List Rw) (e : Ending) (w' : World) : Prop := e = .returned (.int .i64 0) ∧ ∃ v2 es2, SM w' s m ((bs n, v2) :: E) ∧ v2 ≠ .slice none 0 0 ∧ OwnR w' w.heap.size v2 es2 ∧ rws es2 = l ∧ Keep (fun b => b = m) w w'
set_option maxHeartbeats 1000000 in
theorem put28 {w : World} {X : Nat → Prop} {s m : Nat} {E : List (List UInt8 × Value)} {n : ByteArray} {v : Value} {es : List El} (h : SM w s m E) (hE : E.length ≤ 1000) (hn : n.size ≤ maxLen) (hn0 : (n.toList == []) = false) (hr : RL w X v es) (hl : es.length ≤ 1000) (hv : ∀ e ∈ es, e.2.1.length ≤ 1000) :
    Calls Tryz.prog 39 #[.pointer (some ⟨s, 0, none⟩), .string n, v] w (PuPost w s m E n (sortR (rws es))) := by
  have HS : Hid (∀ W, Below w.heap.size w W → SM W s m E) := fun W k => h.below k
  have K0 : Below w.heap.size w w.drew := (Below.refl _ _).drew
  have k17 := sorted17 (hr.below K0) hl hv
  have HP : Hid (∀ W, Below w.heap.size w W → ∀ v2, ∃ w', (Instr.mapUpdate 88 (.map (some m)) (.string n) v2).run Tryz.prog W = .ok () w' ∧ w'.ownsMap Tryz.prog 9 heldR m (E.length + 1) (DT ((bs n, v2) :: E)) ∧ W.grownBy w' (some m)) := fun W k v2 => (h.below k).put hE n hn v2
  have hS0 : w.drew.cell? ⟨s, 0, none⟩ = some (.map (some m)) := (HS.out _ K0).blk.cell 0
  have hsm : s ≠ m := fun q => by
    have h1 := h.blk.cell 0
    rw [q, cell_map h.map] at h1
    cases h1
  have HSM : Hid (s ≠ m ∧ m < w.heap.size) := ⟨hsm, h.map.lt⟩
  obtain ⟨a, c, rfl⟩ := hr.form
  clear h hr hsm
  go_enter Tryz.func39, Tryz.ntmps39
  go_wp2_with fail
  go_region_held3 (fun W => W.cell? ⟨s, 0, none⟩ = some (.map (some m))) (first | exact hS0 | exact (HS.out _ K1).blk.cell 0 | exact hS4) (first
    | (go_at_call 10; (with_reducible refine k17.mono ?_); rintro e w2 ⟨v2, es2, rfl, hn2, hO2, hE2, hB2⟩; have K1 := bmore K0 hB2; obtain ⟨w4, hrun4, hown4, hgr4⟩ := HP.out _ K1 v2; have hS4 : w4.cell? ⟨s, 0, none⟩ = some (.map (some m)) := ((HS.out _ K1).blk.keep (keep_of_grown hgr4) (fun q => HSM.out.1 (Option.some.inj q).symm)).cell 0))
  go_wp2_with fail
  go_ret
  have hk4 : Keep (fun b => b = m) w2 w4 := (keep_of_grown hgr4).mono (fun b _ q => (Option.some.inj q).symm)
  refine ⟨rfl, v2, es2, ⟨(HS.out _ K1).blk.keep hk4 HSM.out.1, hown4⟩, hn2, ⟨owns_keep hO2.row (fun j hj => hk4.block j (hO2.row.lt j hj).2 (fun q => by have h1 := (hO2.row.lt j hj).1; have h2 := HSM.out.2; have h3 := K0.size; omega)), fun e he => sv_both (hO2.vals e he) ((hO2.vals e he).notMap (HS.out _ K1).map) hk4⟩, hE2, (Keep.of K1).trans hk4 (fun _ _ h => h)⟩
set_option maxHeartbeats 1000000 in
theorem get29 {w : World} {X : Nat → Prop} {s m : Nat} {E : List (List UInt8 × Value)} {n : ByteArray} {es : List El} (h : SM w s m E) (hn : n.size ≤ maxLen) {x : List UInt8 × Value} (hf : fnd E (bs n) = some x) (hr : RL w X x.2 es) (hl : es.length ≤ 1000) (hv : ∀ e ∈ es, e.2.1.length ≤ 1000) :
    Calls Tryz.prog 36 #[.pointer (some ⟨s, 0, none⟩), .string n] w (SPost w (rws es)) := by
  have k35 := copied35 hr hl hv
  have hlk := h.look n hn
  rw [hf] at hlk
  simp only [Option.map_some, Option.getD_some] at hlk
  have hc0 := h.blk.cell 0
  simp only [List.getElem?_cons_zero] at hc0
  obtain ⟨x1, x2⟩ := x
  simp only at hr hlk k35
  obtain ⟨a, c, rfl⟩ := hr.form
  clear h hr hf
  go_enter Tryz.func36, Tryz.ntmps36
  go_wp2_with (go_at_call 44; (with_reducible refine k35.mono ?_); rintro e w1 ⟨v1, es1, rfl, hO, hE, B1⟩)
  go_ret
  exact ⟨v1, es1, rfl, hO.out.1, hO.out.2, hE.out, B1⟩
end Go.Proofs.YtpagnphabchfcaaGreat
/-! ### slices.Sort and slices.Compact at ints: the library's contracts. -/
namespace Go.Proofs
open Go.Shelf
def Tryz.lays189_ren : Go.Shelf.Ren := ⟨fun | 189 => 53 | 125 => 78 | 257 => 83 | 128 => 103 | 129 => 104 | 294 => 108 | 295 => 109 | 296 => 110 | 297 => 111 | 298 => 112 | 299 => 113 | 216 => 114 | 300 => 115 | 301 => 116 | 328 => 144 | 329 => 140 | 330 => 141 | 331 => 145 | 332 => 146 | 215 => 105 | 343 => 156 | n => n, fun | 28 => 31 | 3 => 3 | 46 => 100 | 0 => 0 | 51 => 124 | 53 => 126 | 4 => 4 | 183 => 117 | 182 => 116 | 131 => 121 | 5 => 5 | 9 => 9 | 218 => 147 | 222 => 151 | 228 => 160 | 229 => 161 | n => n, fun | n => n⟩
theorem Tryz.lays189 : Go.Proofs.Lays.n189 Tryz.prog Tryz.lays189_ren := {
  mixed := by kernel_rfl
  f125 := Tryz.func78.trans (congrArg some (by kernel_rfl))
  f128 := Tryz.func103.trans (congrArg some (by kernel_rfl))
  f129 := Tryz.func104.trans (congrArg some (by kernel_rfl))
  f189 := Tryz.func53.trans (congrArg some (by kernel_rfl))
  f215 := Tryz.func105.trans (congrArg some (by kernel_rfl))
  f216 := Tryz.func114.trans (congrArg some (by kernel_rfl))
  f257 := Tryz.func83.trans (congrArg some (by kernel_rfl))
  f294 := Tryz.func108.trans (congrArg some (by kernel_rfl))
  f295 := Tryz.func109.trans (congrArg some (by kernel_rfl))
  f296 := Tryz.func110.trans (congrArg some (by kernel_rfl))
  f297 := Tryz.func111.trans (congrArg some (by kernel_rfl))
  f298 := Tryz.func112.trans (congrArg some (by kernel_rfl))
  f299 := Tryz.func113.trans (congrArg some (by kernel_rfl))
  f300 := Tryz.func115.trans (congrArg some (by kernel_rfl))
  f301 := Tryz.func116.trans (congrArg some (by kernel_rfl))
  f328 := Tryz.func144.trans (congrArg some (by kernel_rfl))
  f329 := Tryz.func140.trans (congrArg some (by kernel_rfl))
  f330 := Tryz.func141.trans (congrArg some (by kernel_rfl))
  f331 := Tryz.func145.trans (congrArg some (by kernel_rfl))
  f332 := Tryz.func146.trans (congrArg some (by kernel_rfl))
  f343 := Tryz.func156.trans (congrArg some (by kernel_rfl))
  t0 := Tryz.underlying0
  a0 := Tryz.isAgg0
  z0 := Tryz.sizeOf0
  v0 := Tryz.zeroValue0
  t3 := Tryz.underlying3
  a3 := Tryz.isAgg3
  z3 := Tryz.sizeOf3
  v3 := Tryz.zeroValue3
  t4 := Tryz.underlying4
  a4 := Tryz.isAgg4
  z4 := Tryz.sizeOf4
  v4 := Tryz.zeroValue4
  t5 := Tryz.underlying5
  a5 := Tryz.isAgg5
  z5 := Tryz.sizeOf5
  v5 := Tryz.zeroValue5
  t9 := Tryz.underlying9
  a9 := Tryz.isAgg9
  z9 := Tryz.sizeOf9
  v9 := Tryz.zeroValue9
  t28 := Tryz.underlying31
  a28 := Tryz.isAgg31
  z28 := Tryz.sizeOf31
  v28 := Tryz.zeroValue31
  t46 := Tryz.underlying100
  a46 := Tryz.isAgg100
  z46 := Tryz.sizeOf100
  v46 := Tryz.zeroValue100
  t51 := Tryz.underlying124
  a51 := Tryz.isAgg124
  z51 := Tryz.sizeOf124
  v51 := Tryz.zeroValue124
  t53 := Tryz.underlying126
  a53 := Tryz.isAgg126
  z53 := Tryz.sizeOf126
  v53 := Tryz.zeroValue126
  t131 := Tryz.underlying121
  a131 := Tryz.isAgg121
  z131 := Tryz.sizeOf121
  v131 := Tryz.zeroValue121
  t182 := Tryz.underlying116
  a182 := Tryz.isAgg116
  z182 := Tryz.sizeOf116
  v182 := Tryz.zeroValue116
  t183 := Tryz.underlying117
  a183 := Tryz.isAgg117
  z183 := Tryz.sizeOf117
  v183 := Tryz.zeroValue117
  t218 := Tryz.underlying147
  a218 := Tryz.isAgg147
  z218 := Tryz.sizeOf147
  v218 := Tryz.zeroValue147
  t222 := Tryz.underlying151
  a222 := Tryz.isAgg151
  z222 := Tryz.sizeOf151
  v222 := Tryz.zeroValue151
  t228 := Tryz.underlying160
  a228 := Tryz.isAgg160
  z228 := Tryz.sizeOf160
  v228 := Tryz.zeroValue160
  t229 := Tryz.underlying161
  a229 := Tryz.isAgg161
  z229 := Tryz.sizeOf161
  v229 := Tryz.zeroValue161 }
def Tryz.laysNm220_ren : Go.Shelf.Ren := ⟨fun | 20 => 54 | n => n, fun | 22 => 31 | 3 => 3 | 4 => 4 | 0 => 0 | n => n, fun | n => n⟩
theorem Tryz.laysNm220 : Go.Proofs.Lays2.n20 Tryz.prog Tryz.laysNm220_ren := {
  mixed := by kernel_rfl
  f20 := Tryz.func54.trans (congrArg some (by kernel_rfl))
  t0 := Tryz.underlying0
  a0 := Tryz.isAgg0
  z0 := Tryz.sizeOf0
  v0 := Tryz.zeroValue0
  t3 := Tryz.underlying3
  a3 := Tryz.isAgg3
  z3 := Tryz.sizeOf3
  v3 := Tryz.zeroValue3
  t4 := Tryz.underlying4
  a4 := Tryz.isAgg4
  z4 := Tryz.sizeOf4
  v4 := Tryz.zeroValue4
  t22 := Tryz.underlying31
  a22 := Tryz.isAgg31
  z22 := Tryz.sizeOf31
  v22 := Tryz.zeroValue31
  i3 := by kernel_rfl }
end Go.Proofs
/-! ### Points. -/
namespace Go.Proofs.YtpagnphabchfcaaGreat
open Go.Shelf Go.RowKit Go.Lib Go.Sort
set_option maxRecDepth 100000
/-- Ints in a block of one's own. -/
def OwnI (w : World) (B : Nat) (v : Value) (zs : List Int) : Prop := w.ownsRow B 3 1 v zs.length (zs.map (Value.int .i64))
theorem OwnI.nil (w : World) (B : Nat) : OwnI w B (.slice none 0 0) [] := World.ownsRow_nil _ _ _ _
theorem info3 : (Tryz.prog.info? 3).map (fun i => (i.zero, i.size, i.bytes)) = some (some (.int .i64 0), 1, 8) := by kernel_rfl
def sortI (zs : List Int) : List Int := zs.mergeSort fun x y => decide (x ≤ y)
theorem sort24 {v : Value} {zs : List Int} {w : World} {B : Nat} (hown : OwnI w B v zs) (hB : B ≤ w.heap.size) (hl : zs.length ≤ 100000) :
    Calls Tryz.prog 53 #[v] w fun e w' => e = .returned (.tuple #[]) ∧ OwnI w' B v (sortI zs) ∧ Below B w w' := by
  have hown0 := hown
  obtain ⟨h1, h2⟩ := hown
  rcases h2 with ⟨rfl, hn⟩ | ⟨g, cap, cur, rfl, hb, hg, hnc, hcm, hcs, htake⟩
  · have hx : zs = [] := List.eq_nil_of_length_eq_zero hn
    subst hx
    have hcon := Any.slices_Sort_int_none Tryz.lays189 none 0 w
    change Calls Tryz.prog 53 _ _ _ at hcon
    refine hcon.mono ?_
    rintro e w' ⟨rfl, rfl⟩
    exact ⟨rfl, by simpa [sortI] using hown0, Below.refl _ _⟩
  · have hcon := Any.slices_Sort_int Tryz.lays189 g 0 cap zs w (holds_of_blockI hg (by simpa using htake)) (Array.getElem?_eq_some_iff.1 hg).1 (by omega)
    change Calls Tryz.prog 53 _ _ _ at hcon
    refine hcon.mono ?_
    rintro e w' ⟨rfl, n, os, rfl⟩
    have hp : (zs.mergeSort fun x y => decide (x ≤ y)).Perm zs := List.mergeSort_perm _ _
    refine ⟨rfl, ?_, ?_⟩
    · have := ownsRow_sortedI (n := n) (os := os) (ts := zs.mergeSort fun x y => decide (x ≤ y)) hp.length_eq hb hg hnc hcm hcs
      unfold OwnI sortI
      rw [hp.length_eq]
      exact this
    · exact (Below.refl _ _).grown (grownBy_sortedI _) hB (fun k hk => by simp at hk; omega)
/-- The first ones of a row. -/
theorem rowCut {w : World} {B g cap n : Nat} {C R : List Int} (h : w.ownsRow B 3 1 (.slice (some ⟨g, 0, none⟩) n cap) n ((C ++ R).map (Value.int .i64))) (hle : C.length ≤ n) : w.ownsRow B 3 1 (.slice (some ⟨g, 0, none⟩) C.length cap) C.length (C.map (Value.int .i64)) := by
  obtain ⟨h1, ⟨h, _⟩ | ⟨g', cap', cur, hv, q1, q2, q3, q4, q5, q6⟩⟩ := h
  · cases h
  · simp only [Value.slice.injEq, Option.some.injEq, Addr.mk.injEq] at hv
    obtain ⟨⟨rfl, _⟩, _, rfl⟩ := hv
    refine ⟨by simp, .inr ⟨g, cap, cur, rfl, q1, q2, by omega, q4, q5, ?_⟩⟩
    have := congrArg (List.take C.length) q6
    rw [List.take_take, Nat.mul_one, Nat.min_eq_left hle, List.map_append, List.take_left' (by simp)] at this
    rw [Nat.mul_one]
    exact this
theorem compact25 {v : Value} {zs : List Int} {w : World} {B : Nat} (hown : OwnI w B v zs) (hB : B ≤ w.heap.size) (hl : zs.length ≤ 100000) :
    Calls Tryz.prog 54 #[v] w fun e w' => ∃ v', e = .returned v' ∧ OwnI w' B v' (Lib.compact zs) ∧ Below B w w' := by
  have hown0 := hown
  obtain ⟨h1, h2⟩ := hown
  rcases h2 with ⟨rfl, hn⟩ | ⟨g, cap, cur, rfl, hb, hg, hnc, hcm, hcs, htake⟩
  · have hx : zs = [] := List.eq_nil_of_length_eq_zero hn
    subst hx
    have hcon := Any.slices_Compact_int_empty Tryz.laysNm220 none 0 w
    change Calls Tryz.prog 54 _ _ _ at hcon
    refine hcon.mono ?_
    rintro e w' ⟨rfl, rfl⟩
    exact ⟨_, rfl, hown0, Below.refl _ _⟩
  · have hcon := Any.slices_Compact_int Tryz.laysNm220 g 0 cap zs w (holds_of_blockI hg (by simpa using htake)) (by omega) hnc
    change Calls Tryz.prog 54 _ _ _ at hcon
    refine hcon.mono ?_
    rintro e w' ⟨rfl, q, rfl⟩
    have hle := Lib.compact_length_le zs
    obtain ⟨C, hC⟩ : ∃ C, Lib.compact zs = C := ⟨_, rfl⟩
    rw [hC] at hle ⊢
    have hw : ∀ W : World, grow W #[] = W := fun W => by simp [grow]
    have big := ownsRow_sortedI (n := q) (os := #[]) (ss := zs) (ts := C ++ List.replicate (zs.length - C.length) 0) (by simp; omega) hb hg hnc hcm hcs
    have gb := grownBy_sortedI (w := w) (g := g) (n := q) (os := #[]) (C ++ List.replicate (zs.length - C.length) 0).toArray
    rw [hw] at big gb
    refine ⟨_, rfl, ?_, (Below.refl _ _).grown gb hB (fun k hk => by simp at hk; omega)⟩
    exact rowCut big hle
def ptsL (l : List Rw) : List Int := l.flatMap fun r => if Sp.rightB r.2.1 r.2.2 = true then [r.2.1, r.2.2] else []
def pointsR (l : List Rw) : List Int := Lib.compact (sortI (ptsL l))
theorem OwnI.app2 {w : World} {B : Nat} {v : Value} {zs : List Int} (h : OwnI w B v zs) (hn : zs.length ≤ 100000) (hB : B ≤ w.heap.size) {gb : Nat} {f t : Int} (hb : Blk w gb [.int .i64 f, .int .i64 t] 3) :
    ∃ v' w', (Builtin.append_ #[31, 31] 31 #[v, .slice (some ⟨gb, 0, none⟩) 2 2]).run Tryz.prog w = .ok v' w' ∧ OwnI w' B v' (zs ++ [f, t]) ∧ Below B w w' := by
  obtain ⟨i0, hi, hz0, hz1, hz2⟩ := info_parts' info3
  obtain ⟨v', w', hrun, r1, r2, r3, r4⟩ := run_append_own_at (P := Tryz.prog) w B 31 31 3 i0 (.int .i64 0) 1 8 Tryz.underlying31 hi hz0 hz1 hz2 rfl (by decide) v zs.length (zs.map (Value.int .i64)) h ⟨gb, 0, none⟩ 2 2 [.int .i64 f, .int .i64 t] rfl (fun j x hx => by rw [Addr.add_mid, Nat.zero_add]; exact (hb.cell j).trans hx) (by intro u hu; simp at hu; rcases hu with rfl | rfl <;> rfl) (by unfold maxLen; omega) (by omega) hB
  refine ⟨v', w', hrun, ?_, ⟨r2.os, r2.tape, r2.output, r2.size, fun k hk => r2.block k (by omega) (fun e => by have := (World.ownsRow.lt h k e.symm).1; omega)⟩⟩
  unfold OwnI
  rw [List.length_append, List.map_append]
  exact r1
theorem OwnI.below {w w' : World} {B : Nat} {v : Value} {zs : List Int} (h : OwnI w B v zs) (k : Below w.heap.size w w') : OwnI w' B v zs := owns_keep h (fun j hj => k.block j (World.ownsRow.lt h j hj).2)
def IPost (w : World) (l : List Int) (e : Ending) (w' : World) : Prop := ∃ v1, e = .returned v1 ∧ OwnI w' w.heap.size v1 l ∧ Below w.heap.size w w'
set_option maxHeartbeats 1000000 in
theorem points11 {w : World} {X : Nat → Prop} {v : Value} {es : List El} (h : RL w X v es) (hl : es.length ≤ 1000) :
    Calls Tryz.prog 17 #[v] w (IPost w (pointsR (rws es))) := by
  obtain ⟨a, c, rfl⟩ := h.form
  obtain ⟨N, hN⟩ : ∃ N, es.length = N := ⟨_, rfl⟩
  have HN : Hid (es.length = N) := hN
  have HR : Hid (RL w X (.slice a es.length c) es) := h
  rw [hN] at hl ⊢
  clear h hN
  go_enter Tryz.func17, Tryz.ntmps17
  go_wp2_with fail
  go_loopw [3, 8] (fun fo fi wr => ∃ (k : Nat) (zs : List Int), fi = .int .i64 (k : Int) ∧ Hid (k ≤ N ∧ zs.length ≤ k * 2) ∧ Hid (OwnI wr w.heap.size fo zs) ∧ Hid (zs = ptsL ((rws es).take k)) ∧ Hid (Below w.heap.size w wr)) (fun _ fi _ => ((N : Int) - intOf fi).toNat)
  case atStart => exact ⟨0, [], rfl, ⟨Nat.zero_le _, by simp⟩, OwnI.nil _ _, rfl, Below.refl _ _⟩
  case round =>
    obtain ⟨k, zs, rfl, hk, hO, hE, hB⟩ := hrel
    obtain ⟨hk1, hk2⟩ := hk.out
    by_cases hkN : k < N
    · have hki : (k : Int) < (N : Int) := by omega
      have hk0 : (0 : Int) ≤ (k : Int) := by omega
      obtain ⟨e, he⟩ : ∃ e, es[k]? = some e := ⟨_, List.getElem?_eq_getElem (by rw [HN.out]; exact hkN)⟩
      obtain ⟨g, o, rfl, _, _, d0, d1, d2⟩ := (RL.below HR.out hB.out).get he
      have HSV : Hid (SV w X e.1 e.2.1) := HR.out.vals e (List.mem_of_getElem? he)
      have HTk : Hid (ptsL ((rws es).take (k + 1)) = zs ++ if Sp.rightB e.2.2.1 e.2.2.2 = true then [e.2.2.1, e.2.2.2] else []) := by
        show _ = _
        rw [hE.out, List.take_add_one, rws, List.getElem?_map, he]
        simp [ptsL]
      obtain ⟨sv, vs, f, t⟩ := e
      simp only at d0 d1 d2 HSV HTk
      obtain ⟨pa, ca, rfl⟩ := SV.form HSV.out
      have hA := al3 wr (.slice pa vs.length ca) f t
      have b5 := blk_new wr [.slice pa vs.length ca, .int .i64 f, .int .i64 t] 64
      change Blk (wr.alloc (.cells #[.slice pa vs.length ca, .int .i64 f, .int .i64 t] 64)) _ _ _ at b5
      have b6 := b5.below (al _ (.cells #[.int .i64 f, .int .i64 t] 39))
      have HA6 : Hid (Below wr.heap.size wr ((wr.alloc (.cells #[.slice pa vs.length ca, .int .i64 f, .int .i64 t] 64)).alloc (.cells #[.int .i64 f, .int .i64 t] 39))) := bal hA _
      have k23 := Sp.right12 f t (wr.alloc (.cells #[.slice pa vs.length ca, .int .i64 f, .int .i64 t] 64))
      have z1 := b6.cell 1
      have z2 := b6.cell 2
      clear he b5 b6 hA
      have HApp : Hid (∀ (w6 : World) (H : Nat), w6.heap.size = H → Hid (Below wr.heap.size wr w6) → ∃ v7 w7, (Builtin.append_ #[31, 31] 31 #[u3, .slice (some ⟨H, 0, none⟩) 2 2]).run Tryz.prog (w6.alloc (.cells #[.int .i64 f, .int .i64 t] 3)) = .ok v7 w7 ∧ Hid (OwnI w7 w.heap.size v7 (zs ++ [f, t])) ∧ Hid (Below w.heap.size w w7)) := fun w6 H hH hB6 => by
        subst hH
        have hal := al w6 (.cells #[.int .i64 f, .int .i64 t] 3)
        have hbase := (bmore (bmore hB.out hB6.out) hal).size
        obtain ⟨v7, w7, hr7, A7, B7⟩ := OwnI.app2 (hO.out.below (bmore hB6.out hal)) (by omega) hbase (blk_new w6 [.int .i64 f, .int .i64 t] 3)
        exact ⟨v7, w7, hr7, A7, (bmore (bmore hB.out hB6.out) hal).trans B7⟩
      generalize Sp.rightB f t = T at *
      cases T
      · go_wp2_with (go_at_call 52; (with_reducible refine k23.mono ?_); rintro e w1 ⟨rfl, rfl⟩)
        go_roundw
        case rel => exact ⟨k + 1, zs, by simp, ⟨by omega, by omega⟩, hO.out.below HA6.out, by show _ = _; rw [HTk.out]; simp, bmore hB.out HA6.out⟩
        case measure => simp only [intOf]; omega
      · go_wp2_with (first
          | (go_at_call 52; (with_reducible refine k23.mono ?_); rintro e w1 ⟨rfl, rfl⟩)
          | (at_builtin; refine wpList_append_ex (by rfl) (.tmp 15) (.tmp 22) 31 (by rfl) _ _ (by rfl) (by rfl) (HApp.out _ (wr.heap.size + 1 + 1) (by simp) HA6) ?_; rintro v7 w7 ⟨hO7, hB7⟩))
        go_roundw
        case rel => exact ⟨k + 1, zs ++ [f, t], by simp, ⟨by omega, by simp; omega⟩, hO7.out, by show _ = _; rw [HTk.out]; simp, hB7.out⟩
        case measure => simp only [intOf]; omega
    · have hki : ¬ (k : Int) < (N : Int) := by omega
      have HF : Hid (zs = ptsL (rws es)) := by show _ = _; rw [hE.out, List.take_of_length_le (by rw [rws, List.length_map, HN.out]; omega)]
      have k24 := sort24 hO.out hB.out.size (by omega)
      have HSl : Hid ((sortI zs).length ≤ 100000) := by show _ ≤ _; unfold sortI; rw [List.length_mergeSort]; omega
      go_wp2_with (first
        | (go_at_call 53; (with_reducible refine k24.mono ?_); rintro e w1 ⟨rfl, hO1, hB1⟩; have k25 := compact25 hO1 (Nat.le_trans hB.out.size hB1.size) HSl.out)
        | (go_at_call 54; (with_reducible refine k25.mono ?_); rintro e w2 ⟨v2, rfl, hO2, hB2⟩))
      go_ret
      exact ⟨_, rfl, by rw [pointsR, ← HF.out]; exact hO2, (hB.out.trans hB1).trans hB2⟩
end Go.Proofs.YtpagnphabchfcaaGreat
/-! ### live's rows, by plain data. -/
namespace Go.Proofs.YtpagnphabchfcaaGreat
open Go.RowKit Go.Shelf
set_option maxRecDepth 100000
def one : List Vt := [(1, 1, ⟨#[]⟩)]
theorem cmp_one (f t f' t' : Int) : cmpR (one, f, t) (one, f', t') = lexP Lib.compareInt Lib.compareInt (f, t) (f', t') := by
  unfold cmpR
  have h : cmpL one one = 0 := (ordL.eq _ _).2 rfl
  simp [lexP, h]
theorem sort_live : sortR [(one, 3, 5), (one, 0, 3)] = [(one, 0, 3), (one, 3, 5)] := by
  refine (sortR_of ?_ (List.Perm.swap _ _ _)).symm
  unfold Rise
  refine List.pairwise_cons.2 ⟨fun x hx => ?_, List.pairwise_singleton _ _⟩
  simp only [List.mem_singleton] at hx
  subst hx
  rw [cmp_one]
  decide
theorem sort_one (r : Rw) : sortR [r] = [r] := by simp [sortR]
theorem join_live : joinS [(0, 3), (3, 5)] = [(0, 5)] := by
  refine (joinS_eq ?_ ?_).symm
  · refine ⟨fun x hx => ?_, List.pairwise_singleton _ _⟩
    simp only [List.mem_singleton] at hx
    subst hx
    decide
  · intro p
    unfold Sp.Has Sp.Pt Sp.rights
    rw [show ([(0, 3), (3, 5)] : List (Int × Int)).filter (fun x => Sp.rightB x.1 x.2) = [(0, 3), (3, 5)] by decide]
    constructor
    · rintro ⟨x, hx, h1, h2⟩
      simp only [List.mem_singleton] at hx
      subst hx
      simp only at h1 h2
      by_cases h : p < 3
      · exact ⟨(0, 3), by simp, h1, h⟩
      · exact ⟨(3, 5), by simp, by simp; omega, h2⟩
    · rintro ⟨x, hx, h1, h2⟩
      simp only [List.mem_cons, List.not_mem_nil, or_false] at hx
      refine ⟨(0, 5), by simp, ?_⟩
      rcases hx with rfl | rfl <;> simp only at h1 h2 ⊢ <;> omega
theorem cuts_two : cuts [one, one] = [(0, 2)] := by
  simp [cuts, cutsF, endF]
theorem cuts_one : cuts [one] = [(0, 1)] := by
  simp [cuts, cutsF, endF]
theorem canon_live : canonR [(one, 3, 5), (one, 0, 3)] = [(one, 0, 5)] := by
  unfold canonR
  rw [sort_live]
  simp only [List.map_cons, List.map_nil, cuts_two, canonG, List.flatMap_cons, List.flatMap_nil, List.append_nil, canonX, run, List.drop_zero, List.take, Nat.sub_zero, join_live]
  rfl
theorem at_live : (atR [(one, 0, 5)] 4).length = 1 := by
  unfold atR
  rw [show ([(one, 0, 5)] : List Rw).filter (hasR 4) = [(one, 0, 5)] by simp [hasR, Sp.hasB, Sp.rightB], sort_one]
  simp [cuts_one]
theorem points_live : pointsR [(one, 0, 5)] = [0, 5] := by
  unfold pointsR ptsL
  rw [show ([(one, 0, 5)] : List Rw).flatMap (fun r => if Sp.rightB r.2.1 r.2.2 = true then [r.2.1, r.2.2] else []) = [0, 5] by simp [Sp.rightB], show sortI [0, 5] = [0, 5] by unfold sortI; first | exact List.mergeSort_of_pairwise (by decide) | exact List.mergeSort_of_sorted (by decide) | simp [List.mergeSort, List.merge]]
  decide
end Go.Proofs.YtpagnphabchfcaaGreat
/-! ### live. -/
namespace Go.Proofs.YtpagnphabchfcaaGreat
open Go.RowKit Go.Shelf
set_option maxRecDepth 100000
theorem rl_live (w : World) : RL ((w.alloc (.cells #[.int .u8 1, .int .i64 1, .string ⟨#[]⟩] 25)).alloc (.cells #[.slice (some ⟨w.heap.size, 0, none⟩) 1 1, .int .i64 3, .int .i64 5, .slice (some ⟨w.heap.size, 0, none⟩) 1 1, .int .i64 0, .int .i64 3] 64)) (fun _ => False) (.slice (some ⟨w.heap.size + 1, 0, none⟩) 2 2) [(.slice (some ⟨w.heap.size, 0, none⟩) 1 1, one, 3, 5), (.slice (some ⟨w.heap.size, 0, none⟩) 1 1, one, 0, 3)] := by
  have b1 := (blk_new w [.int .u8 1, .int .i64 1, .string ⟨#[]⟩] 25).below (al _ (.cells #[.slice (some ⟨w.heap.size, 0, none⟩) 1 1, .int .i64 3, .int .i64 5, .slice (some ⟨w.heap.size, 0, none⟩) 1 1, .int .i64 0, .int .i64 3] 64))
  have b2 := blk_at (w.alloc (.cells #[.int .u8 1, .int .i64 1, .string ⟨#[]⟩] 25)) [.slice (some ⟨w.heap.size, 0, none⟩) 1 1, .int .i64 3, .int .i64 5, .slice (some ⟨w.heap.size, 0, none⟩) 1 1, .int .i64 0, .int .i64 3] 64 (g := w.heap.size + 1) (by simp)
  have hs : SV ((w.alloc (.cells #[.int .u8 1, .int .i64 1, .string ⟨#[]⟩] 25)).alloc (.cells #[.slice (some ⟨w.heap.size, 0, none⟩) 1 1, .int .i64 3, .int .i64 5, .slice (some ⟨w.heap.size, 0, none⟩) 1 1, .int .i64 0, .int .i64 3] 64)) (fun _ => False) (.slice (some ⟨w.heap.size, 0, none⟩) 1 1) one := by
    refine ⟨_, _, rfl, fun _ => ⟨w.heap.size, 0, rfl, by simp; omega, id, fun i x hx => ?_⟩⟩
    match i with
    | 0 =>
      simp [one] at hx
      subst hx
      exact ⟨b1.cell 0, b1.cell 1, b1.cell 2⟩
    | i + 1 => simp [one] at hx
  refine ⟨⟨_, _, rfl, fun _ => ⟨w.heap.size + 1, 0, rfl, by simp, id, fun i e he => ?_⟩⟩, fun e he => ?_⟩
  · match i with
    | 0 =>
      simp at he
      subst he
      exact ⟨b2.cell 0, b2.cell 1, b2.cell 2⟩
    | 1 =>
      simp at he
      subst he
      exact ⟨b2.cell 3, b2.cell 4, b2.cell 5⟩
    | i + 2 => simp at he
  · simp at he
    rcases he with rfl | rfl <;> exact hs
theorem one_row {es : List El} {r : Rw} (h : rws es = [r]) : ∃ v, es = [(v, r)] := by
  match es, h with
  | [(v, r')], h =>
    simp [rws] at h
    subst h
    exact ⟨v, rfl⟩
set_option maxHeartbeats 4000000 in
theorem live13 (w : World) : Calls Tryz.prog 8 #[] w fun e w' => e = .returned (.bool true) ∧ Below w.heap.size w w' := by
  have hR0 := rl_live w
  have k7 := canon7 hR0 (by simp) (by intro e he; simp at he; rcases he with rfl | rfl <;> simp [one])
  rw [show rws [(.slice (some ⟨w.heap.size, 0, none⟩) 1 1, one, 3, 5), (.slice (some ⟨w.heap.size, 0, none⟩) 1 1, one, 0, 3)] = [(one, 3, 5), (one, 0, 3)] from rfl, canon_live] at k7
  have K0 : Below w.heap.size w ((w.alloc (.cells #[.int .u8 1, .int .i64 1, .string ⟨#[]⟩] 25)).alloc (.cells #[.slice (some ⟨w.heap.size, 0, none⟩) 1 1, .int .i64 3, .int .i64 5, .slice (some ⟨w.heap.size, 0, none⟩) 1 1, .int .i64 0, .int .i64 3] 64)) := bal (al _ _) _
  go_enter Tryz.func8, Tryz.ntmps8
  go_wp2_with (first
    | (go_at_call 24; (with_reducible refine k7.mono ?_); rintro e w2 ⟨v1, x1, rfl, hO1, hE1, hB1⟩; obtain ⟨sv1, rfl⟩ := one_row hE1; have hR1 := RL.bound (OwnR.rl hO1); obtain ⟨a1, c1, hv1⟩ := hR1.form; subst hv1; simp only [List.length_cons, List.length_nil, Nat.zero_add] at hR1 hO1; have k27 := new27 w2))
  go_at_call 42
  (with_reducible refine k27.mono ?_)
  rintro e w3 ⟨s, m, rfl, hSM, hs, hm, hB3⟩
  have hR3 := hR1.below hB3
  have k28 := put28 (n := ⟨#[116]⟩) hSM (by simp) (by unfold maxLen; decide) (by rw [Lib.toList_data]; rfl) hR3 (by simp) (by intro e he; simp at he; subst he; simp [one])
  go_wp2_with fail
  go_at_call 39
  (with_reducible refine k28.mono ?_)
  rintro e w4 ⟨rfl, v2, es2, hSM2, hn2, hO2, hE2, hK2⟩
  rw [show rws [(sv1, one, 0, 5)] = [(one, 0, 5)] from rfl, sort_one] at hE2
  obtain ⟨sv2, rfl⟩ := one_row hE2
  have hR4 := hR3.keep (hK2.mono (fun b _ q => (.inr (by rw [q]; exact hm) : False ∨ w2.heap.size ≤ b))) (fun _ _ h => h)
  have k29 := get29 (n := ⟨#[116]⟩) hSM2 (by unfold maxLen; decide) (x := (bs ⟨#[116]⟩, v2)) (by simp [fnd]) (OwnR.rl hO2) (by simp) (by intro e he; simp at he; subst he; simp [one])
  have K4 : Below w.heap.size w w4 := (bmore K0 (bmore hB1 hB3)).trans (hK2.below (by have := (bmore K0 (bmore hB1 hB3)).size; omega) (fun b hb q => by have := (bmore K0 hB1).size; omega))
  go_wp2_with fail
  go_at_call 36
  (with_reducible refine k29.mono ?_)
  rintro e w5 ⟨v5, es5, rfl, hn5, hO5, hE5, hB5⟩
  rw [show rws [(sv2, one, 0, 5)] = [(one, 0, 5)] from rfl] at hE5
  obtain ⟨sv5, rfl⟩ := one_row hE5
  have hR5 := hR4.below hB5
  have hQ5 := RL.bound (OwnR.rl hO5)
  obtain ⟨a5, c5, hv5⟩ := hQ5.form
  subst hv5
  have K5 := bmore K4 hB5
  simp only [List.length_cons, List.length_nil, Nat.zero_add] at hQ5
  obtain ⟨g1, o1, rfl, _, _, _, _, d2⟩ := hR5.get (k := 0) rfl
  simp only [Nat.zero_mul, Nat.add_zero] at d2
  have HR : Hid (∀ W, Below w5.heap.size w5 W → RL W (fun _ => False) (.slice (some ⟨g1, o1, none⟩) 1 c1) [(sv1, one, 0, 5)]) := fun W k => (hR5.below k).mono (fun _ _ h => h.elim)
  have HQ : Hid (∀ W, Below w5.heap.size w5 W → RL W (fun _ => False) (.slice a5 1 c5) [(sv5, one, 0, 5)]) := fun W k => (hQ5.below k).mono (fun _ _ h => h.elim)
  have hv1 : ∀ (v : Value), ∀ e ∈ [((v, one, 0, 5) : El)], e.2.1.length ≤ 1000 := by intro v e he; simp at he; subst he; simp [one]
  have H9 : Hid (∀ W, Below w5.heap.size w5 W → Calls Tryz.prog 29 #[.slice (some ⟨g1, o1, none⟩) 1 c1, .int .i64 4] W fun e w' => (∃ a c, e = .returned (.slice a 1 c)) ∧ Below W.heap.size W w') := fun W k => (at9 (p := 4) (HR.out W k) (by simp) (hv1 _)).mono (by
    rintro e w' ⟨v, vv, rfl, h1, _, h3, h4⟩
    obtain ⟨a, n, c, rfl⟩ := rowForm h1
    have hl : vv.length = 1 := by
      have := congrArg List.length h3
      rw [show rws [(sv1, one, 0, 5)] = [(one, 0, 5)] from rfl, at_live] at this
      simpa using this
    refine ⟨⟨a, c, ?_⟩, h4⟩
    rw [hl] at h1
    obtain ⟨_, ⟨h, q⟩ | ⟨g, cap, cur, h, _⟩⟩ := h1
    · cases q
    · cases h; rfl)
  have H11 : Hid (∀ W, Below w5.heap.size w5 W → Calls Tryz.prog 17 #[.slice (some ⟨g1, o1, none⟩) 1 c1] W fun e w' => (∃ a c, e = .returned (.slice a 2 c)) ∧ Below W.heap.size W w') := fun W k => (points11 (HR.out W k) (by simp)).mono (by
    rintro e w' ⟨v, rfl, h1, h4⟩
    rw [show rws [(sv1, one, 0, 5)] = [(one, 0, 5)] from rfl, points_live] at h1
    refine ⟨?_, h4⟩
    obtain ⟨_, ⟨h, q⟩ | ⟨g, cap, cur, h, _⟩⟩ := h1
    · cases q
    · exact ⟨_, _, by rw [h]; rfl⟩)
  have H15 : Hid (∀ W, Below w5.heap.size w5 W → Calls Tryz.prog 12 #[.slice (some ⟨g1, o1, none⟩) 1 c1, .slice a5 1 c5] W fun e w' => e = .returned (.bool true) ∧ Below W.heap.size W w') := fun W k => (same15 (HR.out W k) (HQ.out W k) (by simp) (by simp) (hv1 _) (hv1 _)).mono (by
    rintro e w' ⟨rfl, h⟩
    exact ⟨by simp [rws], h⟩)
  have H14 : Hid (∀ W, Below w5.heap.size w5 W → Calls Tryz.prog 14 #[.slice (some ⟨g1, o1, none⟩) 1 c1, .slice none 0 0] W fun e w' => (∃ a c, e = .returned (.slice a 1 c)) ∧ Below W.heap.size W w') := fun W k => (less14 (HR.out W k) (RL.nil none 0) (by simp) (by simp) (hv1 _) (by intro e he; cases he)).mono (by
    rintro e w' ⟨v, x, rfl, h1, h2, h4⟩
    rw [show rws [(sv1, one, 0, 5)] = [(one, 0, 5)] from rfl, show rws ([] : List El) = [] from rfl, show lessR [(one, 0, 5)] [] = [(one, 0, 5)] by unfold lessR; rw [sort_one, show sortR [] = [] by simp [sortR], lessL_nil]; simp [lessL]] at h2
    obtain ⟨sv, rfl⟩ := one_row h2
    obtain ⟨a, c, h⟩ := h1.rl.form
    exact ⟨⟨a, c, by rw [h]; rfl⟩, h4⟩)
  have B5 : Below w5.heap.size w5 w5 := Below.refl _ _
  clear hR0 hR1 hR3 hR4 hR5 hQ5 hO1 hO2 hO5 hSM hSM2 hK2 hE1 hE2 hE5 hv1 k7 k27 k28 k29 hn2 hn5
  go_wp2_with (first
    | (go_at_call 29; (with_reducible refine (H9.out _ B5).mono ?_); rintro e w6 ⟨⟨a6, c6, rfl⟩, hB6⟩; have B6 := bmore B5 hB6)
    | (go_at_call 17; (with_reducible refine (H11.out _ B6).mono ?_); rintro e w7 ⟨⟨a7, c7, rfl⟩, hB7⟩; have B7 := bmore B6 hB7)
    | (go_at_call 12; (with_reducible refine (H15.out _ B7).mono ?_); rintro e w8 ⟨rfl, hB8⟩; have B8 := bmore B7 hB8)
    | (go_at_call 14; (with_reducible refine (H14.out _ B8).mono ?_); rintro e w9 ⟨⟨a9, c9, rfl⟩, hB9⟩; have B9 := bmore B8 hB9))
  go_ret
  exact ⟨rfl, bmore K5 B9⟩
end Go.Proofs.YtpagnphabchfcaaGreat
/-! ### An append of rows to rows. -/
namespace Go.Proofs.YtpagnphabchfcaaGreat
open Go.RowKit Go.Shelf
set_option maxRecDepth 100000
theorem newsE {w : World} {es : List El} {g o : Nat} (h : ∀ (i : Nat) (e : El), es[i]? = some e → w.cell? ⟨g, o + i * 3, none⟩ = some e.1 ∧ w.cell? ⟨g, o + i * 3 + 1, none⟩ = some (.int .i64 e.2.2.1) ∧ w.cell? ⟨g, o + i * 3 + 2, none⟩ = some (.int .i64 e.2.2.2)) : ∀ j u, (cellsE es)[j]? = some u → w.cell? ((⟨g, o, none⟩ : Addr).add j) = some u := fun j u hu => by
  have hj := (List.getElem?_eq_some_iff.1 hu).1
  rw [cellsE_length] at hj
  obtain ⟨s, hs⟩ : ∃ s, es[j / 3]? = some s := ⟨_, List.getElem?_eq_getElem (by omega)⟩
  obtain ⟨c1, c2, c3⟩ := cellsE_get es _ s hs
  obtain ⟨d1, d2, d3⟩ := h _ s hs
  rw [Addr.add_mid]
  have hm : j % 3 = 0 ∨ j % 3 = 1 ∨ j % 3 = 2 := by omega
  rcases hm with hr | hr | hr
  · rw [show j / 3 * 3 = j by omega, hu] at c1
    rw [show o + j / 3 * 3 = o + j by omega] at d1
    rw [d1, c1]
  · rw [show j / 3 * 3 + 1 = j by omega, hu] at c2
    rw [show o + j / 3 * 3 + 1 = o + j by omega] at d2
    rw [d2, c2]
  · rw [show j / 3 * 3 + 2 = j by omega, hu] at c3
    rw [show o + j / 3 * 3 + 2 = o + j by omega] at d3
    rw [d3, c3]
theorem ownR_apps {w : World} {B : Nat} {X : Nat → Prop} {u lv : Value} {es es' : List El} (h : OwnR w B u es) (hV : RL w X lv es') (hX : ∀ b, u.ownBlock = some b → X b) (hn : es.length + es'.length ≤ 100000) (hB : B ≤ w.heap.size) :
    ∃ u' w', (Builtin.append_ #[22, 22] 22 #[u, lv]).run Tryz.prog w = .ok u' w' ∧ OwnR w' B u' (es ++ es') ∧ Below B w w' := by
  obtain ⟨i0, hi, hz0, hz1, hz2⟩ := info_parts' info34
  have hcap := h.cap
  obtain ⟨a, c, rfl, hat⟩ := hV.at'
  by_cases h0 : es' = []
  · subst h0
    rw [List.append_nil]
    have hsrc : Src Tryz.prog i0.size 22 (.slice a 0 c) 0 [] w := by
      cases a with
      | none => exact Src.ofNil w Tryz.underlying22 c
      | some a => exact Src.ofSlice w Tryz.underlying22 a 0 c [] (by simp) (by simp) (by simp)
    obtain ⟨b, n, k, rfl⟩ := h.form
    exact ⟨_, w, run_append_nothing w 22 22 22 64 i0 Tryz.underlying22 hi b n k (hcap _ _ _ rfl) _ hsrc, h, Below.refl _ _⟩
  · have hpos : 0 < es'.length := List.length_pos_iff.2 h0
    obtain ⟨g, o, rfl, _, _, hta⟩ := hat hpos
    obtain ⟨v', w', hrun, r1, r2, r3, r4⟩ := run_append_own_at (P := Tryz.prog) w B 22 22 64 i0 (.agg #[.slice none 0 0, .int .i64 0, .int .i64 0]) 3 40 Tryz.underlying22 hi hz0 hz1 hz2 rfl (by decide) u es.length (cellsE es) h.row ⟨g, o, none⟩ es'.length c (cellsE es') (cellsE_length es') (newsE hta) (by
      intro v hv
      obtain ⟨e, he, hv⟩ := List.mem_flatMap.1 hv
      obtain ⟨pa, ca, hf⟩ := (hV.vals e he).form
      simp [encE] at hv
      rcases hv with rfl | rfl | rfl
      · rw [hf]; rfl
      · rfl
      · rfl) (by unfold maxLen; omega) (by omega) hB
    have hnew : ∀ k, v'.ownBlock = some k → u.ownBlock = some k ∨ w.heap.size ≤ k := fun k hk => r4.elim (fun q => .inl (q ▸ hk)) (fun q => .inr (by rw [q] at hk; cases hk; exact Nat.le_refl _))
    refine ⟨v', w', hrun, ⟨?_, fun x hx => ?_⟩, ⟨r2.os, r2.tape, r2.output, r2.size, fun k hk => r2.block k (by omega) (fun e => by have := (h.row.lt k e.symm).1; omega)⟩⟩
    · rw [List.length_append, cellsE_app]
      exact r1
    · have hs : SV w (fun b => u.ownBlock = some b) x.1 x.2.1 := by
        rcases List.mem_append.1 hx with hx | hx
        · exact h.vals x hx
        · exact (hV.vals x hx).mono (fun b _ q => hX b q)
      exact hs.keep (keep_of_grown r2) (fun b hb hy => (hnew b hy).elim id (fun h => by omega))
theorem run_build0 (w : World) : (Instr.buildSlice 22 0 #[]).run Tryz.prog w = .ok (.slice (some ⟨w.heap.size, 0, none⟩) 0 0) (w.alloc (.cells #[] 64)) := by
  obtain ⟨i, hi, hz0, hz1, hz2⟩ := info_parts' info34
  simp [Instr.buildSlice, Sem.run_bind, run_underlying Tryz.underlying22, sizeOf, typeInfo, hi, Instr.fill, newRow, newObj]
  rw [show (Array.map (fun _ => (default : Value)) (Array.range 0)) = #[] by simp]
  rfl
theorem own_build0 (w : World) : OwnR (w.alloc (.cells #[] 64)) w.heap.size (.slice (some ⟨w.heap.size, 0, none⟩) 0 0) [] :=
  ⟨⟨rfl, .inr ⟨w.heap.size, 0, #[], rfl, Nat.le_refl _, (MapKept.heap_alloc w _).1, Nat.le_refl _, by unfold maxLen; omega, rfl, rfl⟩⟩, fun e he => by cases he⟩
/-! ### plain -/
theorem less_perm (A B : List Rw) : (lessR A B ++ lessR A (lessR A B)).Perm A := by
  rw [List.perm_iff_count]
  intro z
  rw [List.count_append, lessR_count, lessR_count, lessR_count]
  omega
theorem nil_of_count {l : List Rw} (h : ∀ z, l.count z = 0) : l = [] := by
  apply List.eq_nil_iff_forall_not_mem.2
  intro z hz
  have := List.count_pos_iff.2 hz
  have := h z
  omega
theorem less_both (A B : List Rw) : lessR (lessR A (lessR A B)) B = [] := nil_of_count fun z => by rw [lessR_count, lessR_count, lessR_count]; omega
theorem less_self (A : List Rw) : lessR A A = [] := nil_of_count fun z => by rw [lessR_count]; omega
end Go.Proofs.YtpagnphabchfcaaGreat
/-! ### The document's Compare, Values, Same, SameRows, SameAt. -/
namespace Go.Proofs.YtpagnphabchfcaaGreat
open Go.RowKit Go.Shelf
set_option maxRecDepth 100000
theorem less_cases : ∀ a b : List UInt8, (Op.bytesLess a b = true ∧ Lib.compareBytes a b = -1) ∨ (Op.bytesLess a b = false ∧ Op.bytesLess b a = true ∧ Lib.compareBytes a b = 1) ∨ (Op.bytesLess a b = false ∧ Op.bytesLess b a = false ∧ Lib.compareBytes a b = 0)
  | [], [] => .inr (.inr ⟨rfl, rfl, rfl⟩)
  | [], _ :: _ => .inl ⟨rfl, rfl⟩
  | _ :: _, [] => .inr (.inl ⟨rfl, rfl, rfl⟩)
  | x :: a, y :: b => by
    have ih := less_cases a b
    by_cases h1 : x < y
    · exact .inl ⟨by simp [Op.bytesLess, h1], by simp [Lib.compareBytes, h1]⟩
    · by_cases h2 : y < x
      · have hne : ¬ (x = y) := fun e => by subst e; exact h1 h2
        exact .inr (.inl ⟨by simp [Op.bytesLess, h1, hne], by simp [Op.bytesLess, h2], by simp [Lib.compareBytes, h1, h2]⟩)
      · obtain rfl : x = y := UInt8.le_antisymm (UInt8.not_lt.1 h2) (UInt8.not_lt.1 h1)
        simpa [Op.bytesLess, Lib.compareBytes, h1] using ih
set_option maxHeartbeats 2000000 in
theorem cmp63 (a b : ByteArray) (w : World) : Calls Tryz.prog 74 #[.string a, .string b] w fun e w' => e = .returned (.int .i64 (cmpS a b)) ∧ w' = w := by
  have ea : a.toList = bs a := Lib.toList_data a
  have eb : b.toList = bs b := Lib.toList_data b
  unfold cmpS
  rcases less_cases (bs a) (bs b) with ⟨h1, h2⟩ | ⟨h1, h2, h3⟩ | ⟨h1, h2, h3⟩
  · rw [h2]
    go_enter Tryz.func74, Tryz.ntmps74
    go_wp2
    go_ret
    exact ⟨rfl, rfl⟩
  · have hne : (bs a == bs b) = false := by
      rw [beq_eq_false_iff_ne]
      intro e
      have := (ordB.eq _ _).2 e
      omega
    rw [h3]
    go_enter Tryz.func74, Tryz.ntmps74
    go_wp2
    go_ret
    exact ⟨rfl, rfl⟩
  · have heq : (bs a == bs b) = true := by rw [beq_iff_eq]; exact (ordB.eq _ _).1 h3
    rw [h3]
    go_enter Tryz.func74, Tryz.ntmps74
    go_wp2
    go_ret
    exact ⟨rfl, rfl⟩
theorem ints43 (x y : Int) (w : World) : Calls Tryz.prog 107 #[.int .i64 x, .int .i64 y] w fun e w' => e = .returned (.int .i64 (Lib.compareInt x y)) ∧ w' = w := by
  unfold Lib.compareInt
  by_cases h1 : x < y
  · simp only [h1, if_true]
    go_enter Tryz.func107, Tryz.ntmps107
    go_wp2
    go_ret
    exact ⟨rfl, rfl⟩
  · by_cases h2 : y < x
    · simp only [h1, h2, if_true, if_false]
      go_enter Tryz.func107, Tryz.ntmps107
      go_wp2
      go_ret
      exact ⟨rfl, rfl⟩
    · simp only [h1, h2, if_false]
      go_enter Tryz.func107, Tryz.ntmps107
      go_wp2
      go_ret
      exact ⟨rfl, rfl⟩
set_option maxHeartbeats 2000000 in
theorem cmp42 (x y : Vt) (w : World) : Calls Tryz.prog 106 #[V x, V y] w fun e w' => e = .returned (.int .i64 (cmpT x y)) ∧ Below w.heap.size w w' := by
  have hA : ∀ o o', Below w.heap.size w ((w.alloc o).alloc o') := fun o o' => bmore (al _ o) (al _ o')
  have hr : cmpT x y = if x.1 < y.1 then -1 else if y.1 < x.1 then 1 else if x.2.1 < y.2.1 then -1 else if y.2.1 < x.2.1 then 1 else cmpS x.2.2 y.2.2 := by
    simp only [cmpT, lexP, Lib.compareInt]
    repeat' split
    all_goals first | rfl | omega
  rw [hr]
  clear hr
  obtain ⟨k, n, s⟩ := x
  obtain ⟨k', n', s'⟩ := y
  simp only
  have c := cmp63 s s'
  by_cases h1 : k < k'
  · simp only [h1, if_true]
    go_enter Tryz.func106, Tryz.ntmps106
    go_wp2
    go_ret
    exact ⟨rfl, hA _ _⟩
  · by_cases h2 : k' < k
    · simp only [h1, h2, if_true, if_false]
      go_enter Tryz.func106, Tryz.ntmps106
      go_wp2
      go_ret
      exact ⟨rfl, hA _ _⟩
    · by_cases h3 : n < n'
      · simp only [h1, h2, h3, if_true, if_false]
        go_enter Tryz.func106, Tryz.ntmps106
        go_wp2
        go_ret
        exact ⟨rfl, hA _ _⟩
      · by_cases h4 : n' < n
        · simp only [h1, h2, h3, h4, if_true, if_false]
          go_enter Tryz.func106, Tryz.ntmps106
          go_wp2
          go_ret
          exact ⟨rfl, hA _ _⟩
        · simp only [h1, h2, h3, h4, if_false]
          go_enter Tryz.func106, Tryz.ntmps106
          go_wp2_with (go_at_call 74; refine (c _).mono ?_; rintro e w1 ⟨rfl, rfl⟩)
          go_ret
          exact ⟨rfl, hA _ _⟩
end Go.Proofs.YtpagnphabchfcaaGreat
/-! ### The document's Values, Same, Compare, SameRow, SameRows, SameAt. -/
namespace Go.Proofs.YtpagnphabchfcaaGreat
open Go.RowKit Go.Shelf
set_option maxRecDepth 100000
set_option maxHeartbeats 2000000 in
theorem values26 {w : World} {X : Nat → Prop} {v v' : Value} {a b : List Vt} (ha : SV w X v a) (hb : SV w X v' b) (hza : a.length ≤ 1000000) (hzb : b.length ≤ 1000000) :
    Calls Tryz.prog 81 #[v, v'] w fun e w' => e = .returned (.int .i64 (cmpL a b)) ∧ Below w.heap.size w w' := by
  obtain ⟨pa, ca, rfl⟩ := ha.form
  obtain ⟨pb, cb, rfl⟩ := hb.form
  obtain ⟨n, hn⟩ : ∃ n, a.length = n := ⟨_, rfl⟩
  obtain ⟨m, hm⟩ : ∃ m, b.length = m := ⟨_, rfl⟩
  have HA : Hid (SV w X (.slice pa a.length ca) a) := ha
  have HB : Hid (SV w X (.slice pb b.length cb) b) := hb
  have HN : Hid (a.length = n) := hn
  have HM : Hid (b.length = m) := hm
  rw [hn] at hza ⊢
  rw [hm] at hzb ⊢
  clear hn hm ha hb
  have c43 := ints43 (n : Int) (m : Int)
  go_enter Tryz.func81, Tryz.ntmps81
  go_wp2_with fail
  go_loopw [5] (fun i wr => ∃ k : Nat, i = .int .i64 (k : Int) ∧ Hid (k ≤ n ∧ k ≤ m) ∧ Hid (cmpL a b = cmpL (a.drop k) (b.drop k)) ∧ Hid (Below w.heap.size w wr)) (fun i _ => ((n : Int) - intOf i).toNat)
  case atStart => exact ⟨0, rfl, ⟨by omega, by omega⟩, rfl, Below.refl _ _⟩
  case round =>
    obtain ⟨k, rfl, hkk, hcmp, hbe⟩ := hrel
    obtain ⟨hk1, hk2⟩ := hkk.out
    by_cases hlt : k < n
    · have hkz : (k : Int) < (n : Int) := by omega
      have hk0 : (0 : Int) ≤ (k : Int) := by omega
      by_cases hlm : k < m
      · have hkz3 : (k : Int) < (m : Int) := by omega
        obtain ⟨x, hx⟩ : ∃ x, a[k]? = some x := ⟨_, List.getElem?_eq_getElem (by rw [HN.out]; exact hlt)⟩
        obtain ⟨y, hy⟩ : ∃ y, b[k]? = some y := ⟨_, List.getElem?_eq_getElem (by rw [HM.out]; exact hlm)⟩
        have HS : Hid (cmpL a b = if cmpT x y = 0 then cmpL (a.drop (k + 1)) (b.drop (k + 1)) else cmpT x y) := by
          show _ = _
          rw [hcmp.out]; exact lexL_step hx hy
        obtain ⟨b1, o1, rfl, _⟩ := (SV.below HA.out hbe.out).at hx
        obtain ⟨b2, o2, rfl, _⟩ := (SV.below HB.out hbe.out).at hy
        have HC : Hid (∀ W, Below wr.heap.size wr W → W.cell? ⟨b1, o1 + k * 3, none⟩ = some (.int .u8 x.1) ∧ W.cell? ⟨b1, o1 + k * 3 + 1, none⟩ = some (.int .i64 x.2.1) ∧ W.cell? ⟨b1, o1 + k * 3 + 2, none⟩ = some (.string x.2.2) ∧ W.cell? ⟨b2, o2 + k * 3, none⟩ = some (.int .u8 y.1) ∧ W.cell? ⟨b2, o2 + k * 3 + 1, none⟩ = some (.int .i64 y.2.1) ∧ W.cell? ⟨b2, o2 + k * 3 + 2, none⟩ = some (.string y.2.2)) := fun W kk => by
          obtain ⟨g1, p1, e1, r0, r1, r2⟩ := (SV.below HA.out (bmore hbe.out kk)).at hx
          obtain ⟨g2, p2, e2, s0, s1, s2⟩ := (SV.below HB.out (bmore hbe.out kk)).at hy
          simp only [Option.some.injEq, Addr.mk.injEq] at e1 e2
          obtain ⟨rfl, rfl, _⟩ := e1
          obtain ⟨rfl, rfl, _⟩ := e2
          exact ⟨r0, r1, r2, s0, s1, s2⟩
        have c42 := cmp42 x y
        have K0 : Below wr.heap.size wr wr.drew := (Below.refl _ _).drew
        have hS0 := HC.out _ K0
        generalize hT : cmpT x y = T at *
        clear hT hx hy hcmp
        obtain ⟨xk, xn, xs⟩ := x
        obtain ⟨yk, yn, ys⟩ := y
        simp only at HC c42 hS0
        by_cases hT0 : T = 0
        · subst hT0
          go_wp2_with fail
          go_region_held3 (fun W => W.cell? ⟨b1, o1 + k * 3, none⟩ = some (.int .u8 xk) ∧ W.cell? ⟨b1, o1 + k * 3 + 1, none⟩ = some (.int .i64 xn) ∧ W.cell? ⟨b1, o1 + k * 3 + 2, none⟩ = some (.string xs) ∧ W.cell? ⟨b2, o2 + k * 3, none⟩ = some (.int .u8 yk) ∧ W.cell? ⟨b2, o2 + k * 3 + 1, none⟩ = some (.int .i64 yn) ∧ W.cell? ⟨b2, o2 + k * 3 + 2, none⟩ = some (.string ys)) (first | exact hS0 | exact HC.out _ K1) (first
            | (go_at_call 106; (with_reducible refine (c42 _).mono ?_); rintro e w1 ⟨rfl, hb1⟩; have K1 := bmore K0 hb1))
          clear hS0
          go_wp2_with fail
          go_roundw
          case rel => exact ⟨k + 1, by simp, ⟨by omega, by omega⟩, by rw [HS.out]; rfl, bmore hbe.out K1⟩
          case measure => simp only [intOf]; omega
        · have hT1 : (T != 0) = true := by simpa using hT0
          go_wp2_with fail
          go_region_held3 (fun W => W.cell? ⟨b1, o1 + k * 3, none⟩ = some (.int .u8 xk) ∧ W.cell? ⟨b1, o1 + k * 3 + 1, none⟩ = some (.int .i64 xn) ∧ W.cell? ⟨b1, o1 + k * 3 + 2, none⟩ = some (.string xs) ∧ W.cell? ⟨b2, o2 + k * 3, none⟩ = some (.int .u8 yk) ∧ W.cell? ⟨b2, o2 + k * 3 + 1, none⟩ = some (.int .i64 yn) ∧ W.cell? ⟨b2, o2 + k * 3 + 2, none⟩ = some (.string ys)) (first | exact hS0 | exact HC.out _ K1) (first
            | (go_at_call 106; (with_reducible refine (c42 _).mono ?_); rintro e w1 ⟨rfl, hb1⟩; have K1 := bmore K0 hb1))
          clear hS0
          go_wp2_with fail
          go_ret
          exact ⟨by rw [HS.out, if_neg hT0]; rfl, bmore hbe.out K1⟩
      · have hkz3 : ¬ ((k : Int) < (m : Int)) := by omega
        have HS : Hid (cmpL a b = Lib.compareInt (n : Int) (m : Int)) := by
          show _ = _
          rw [hcmp.out, show b.drop k = [] from List.drop_eq_nil_of_le (by rw [HM.out]; omega), List.drop_eq_getElem_cons (by rw [HN.out]; omega : k < a.length)]
          simp only [cmpL, lexL, Lib.compareInt]
          rw [if_neg (by omega), if_pos (by omega)]
        clear hcmp
        go_wp2_with (go_at_call 107; (refine (c43 _).mono ?_; rintro e w1 ⟨rfl, rfl⟩))
        go_ret
        exact ⟨by rw [HS.out]; rfl, hbe.out⟩
    · have hkz : ¬ ((k : Int) < (n : Int)) := by omega
      have HS : Hid (cmpL a b = Lib.compareInt (n : Int) (m : Int)) := by
        show _ = _
        rw [hcmp.out, show a.drop k = [] from List.drop_eq_nil_of_le (by rw [HN.out]; omega)]
        by_cases hnm : n < m
        · rw [List.drop_eq_getElem_cons (by rw [HM.out]; omega : k < b.length)]
          simp only [cmpL, lexL, Lib.compareInt]
          rw [if_pos (by omega)]
        · rw [show b.drop k = [] from List.drop_eq_nil_of_le (by rw [HM.out]; omega)]
          simp only [cmpL, lexL, Lib.compareInt]
          rw [if_neg (by omega), if_neg (by omega)]
      clear hcmp
      go_wp2_with (go_at_call 107; (refine (c43 _).mono ?_; rintro e w1 ⟨rfl, rfl⟩))
      go_ret
      exact ⟨by rw [HS.out]; rfl, hbe.out⟩
theorem same12 {w : World} {X : Nat → Prop} {v v' : Value} {a b : List Vt} (ha : SV w X v a) (hb : SV w X v' b) (hza : a.length ≤ 1000000) (hzb : b.length ≤ 1000000) :
    Calls Tryz.prog 56 #[v, v'] w fun e w' => e = .returned (.bool (decide (a = b))) ∧ Below w.heap.size w w' := by
  have c26 := values26 ha hb hza hzb
  rw [show decide (a = b) = (cmpL a b == 0) by rw [Bool.eq_iff_iff]; simp [ordL.eq]]
  generalize cmpL a b = C at *
  clear ha hb
  go_enter Tryz.func56, Tryz.ntmps56
  go_wp2_with (go_at_call 81; (with_reducible refine c26.mono ?_); rintro e w1 ⟨rfl, hb1⟩)
  go_ret
  exact ⟨rfl, hb1⟩
end Go.Proofs.YtpagnphabchfcaaGreat
/-! ### The document's SameAt, Compare of rows, SameRow, SameRows. -/
namespace Go.Proofs.YtpagnphabchfcaaGreat
open Go.RowKit Go.Shelf
set_option maxRecDepth 100000
/-- Lists of values behind a slice. -/
structure VL (w : World) (v : Value) (vv : List (Value × List Vt)) : Prop where
  at' : ∃ a c, v = .slice a vv.length c ∧ (0 < vv.length → ∃ g o, a = some ⟨g, o, none⟩ ∧ g < w.heap.size ∧ ∀ (i : Nat) (e : Value × List Vt), vv[i]? = some e → w.cell? ⟨g, o + i, none⟩ = some e.1)
  vals : ∀ e ∈ vv, SV w (fun _ => False) e.1 e.2
theorem VL.below {w w' : World} {v : Value} {vv : List (Value × List Vt)} (h : VL w v vv) (k : Below w.heap.size w w') : VL w' v vv := by
  refine ⟨?_, fun e he => (h.vals e he).below k⟩
  obtain ⟨a, c, rfl, hh⟩ := h.at'
  refine ⟨a, c, rfl, fun h0 => ?_⟩
  obtain ⟨g, o, rfl, hg, hc⟩ := hh h0
  exact ⟨g, o, rfl, Nat.lt_of_lt_of_le hg k.size, fun i e he => (k.cell (p := ⟨g, o + i, none⟩) hg).trans (hc i e he)⟩
theorem VL.form {w : World} {v : Value} {vv : List (Value × List Vt)} (h : VL w v vv) : ∃ a c, v = .slice a vv.length c := by
  obtain ⟨a, c, h, _⟩ := h.at'
  exact ⟨a, c, h⟩
theorem VL.get {w : World} {a : Option Addr} {n c : Nat} {vv : List (Value × List Vt)} (h : VL w (.slice a n c) vv) {k : Nat} {e : Value × List Vt} (hy : vv[k]? = some e) : ∃ g o, a = some ⟨g, o, none⟩ ∧ w.cell? ⟨g, o + k, none⟩ = some e.1 := by
  obtain ⟨a', c', hv, hh⟩ := h.at'
  simp only [Value.slice.injEq] at hv
  obtain ⟨rfl, -, -⟩ := hv
  obtain ⟨g, o, rfl, hg, hc⟩ := hh (by have := (List.getElem?_eq_some_iff.1 hy).1; omega)
  exact ⟨g, o, rfl, hc k e hy⟩
theorem vl_of {w : World} {B : Nat} {v : Value} {vv : List (Value × List Vt)} (h : w.ownsRow B 35 1 v vv.length (vv.map (·.1))) (hv : ∀ x ∈ vv, SV w (fun b => v.ownBlock = some b) x.1 x.2) : VL w v vv := by
  refine ⟨?_, fun e he => (hv e he).mono (fun _ _ h => h.elim)⟩
  have hc := fun g hg => World.ownsRow.cells h (g := g) hg
  have hlt := World.ownsRow.lt h
  obtain ⟨_, ⟨rfl, h0⟩ | ⟨g, c, cur, rfl, _⟩⟩ := h
  · exact ⟨none, 0, by rw [h0], fun h => by omega⟩
  · refine ⟨_, c, rfl, fun _ => ⟨g, 0, rfl, (hlt g rfl).2, fun i e he => ?_⟩⟩
    have q := hc g rfl i e.1 (by rw [List.getElem?_map, he]; rfl)
    rw [Addr.add_mid] at q
    exact q
set_option maxHeartbeats 2000000 in
theorem sameAt8 {w : World} {v v' : Value} {a b : List (Value × List Vt)} (ha : VL w v a) (hb : VL w v' b) (hza : ∀ e ∈ a, e.2.length ≤ 1000) (hzb : ∀ e ∈ b, e.2.length ≤ 1000) (hl : a.length ≤ 100000) (hl' : b.length ≤ 100000) :
    Calls Tryz.prog 28 #[v, v'] w fun e w' => e = .returned (.bool (decide (a.map (·.2) = b.map (·.2)))) ∧ Below w.heap.size w w' := by
  obtain ⟨pa, ca, rfl⟩ := ha.form
  obtain ⟨pb, cb, rfl⟩ := hb.form
  obtain ⟨n, hn⟩ : ∃ n, a.length = n := ⟨_, rfl⟩
  obtain ⟨m, hm⟩ : ∃ m, b.length = m := ⟨_, rfl⟩
  have HA : Hid (VL w (.slice pa a.length ca) a) := ha
  have HB : Hid (VL w (.slice pb b.length cb) b) := hb
  have HN : Hid (a.length = n) := hn
  have HM : Hid (b.length = m) := hm
  have HZA : Hid _ := hza
  have HZB : Hid _ := hzb
  rw [hn] at hl ⊢
  rw [hm] at hl' ⊢
  clear hn hm ha hb hza hzb
  by_cases hnm : n = m
  · subst hnm
    go_enter Tryz.func28, Tryz.ntmps28
    go_wp2_with fail
    go_loopw [5] (fun i wr => ∃ k : Nat, i = .int .i64 (k : Int) ∧ Hid (k ≤ n) ∧ Hid (decide (a.map (·.2) = b.map (·.2)) = decide ((a.drop k).map (·.2) = (b.drop k).map (·.2))) ∧ Hid (Below w.heap.size w wr)) (fun i _ => ((n : Int) - intOf i).toNat)
    case atStart => exact ⟨0, rfl, Nat.zero_le _, by show _ = _; simp, Below.refl _ _⟩
    case round =>
      obtain ⟨k, rfl, hkn, hcmp, hbe⟩ := hrel
      by_cases hlt : k < n
      · have hkz : (k : Int) < (n : Int) := by omega
        have hk0 : (0 : Int) ≤ (k : Int) := by omega
        obtain ⟨x, hx⟩ : ∃ x, a[k]? = some x := ⟨_, List.getElem?_eq_getElem (by rw [HN.out]; exact hlt)⟩
        obtain ⟨y, hy⟩ : ∃ y, b[k]? = some y := ⟨_, List.getElem?_eq_getElem (by rw [HM.out]; exact hlt)⟩
        obtain ⟨g1, o1, rfl, _⟩ := (VL.below HA.out hbe.out).get hx
        obtain ⟨g2, o2, rfl, _⟩ := (VL.below HB.out hbe.out).get hy
        have HC : Hid (∀ W, Below wr.heap.size wr W → W.cell? ⟨g1, o1 + k, none⟩ = some x.1 ∧ W.cell? ⟨g2, o2 + k, none⟩ = some y.1) := fun W kk => by
          obtain ⟨_, _, e1, r0⟩ := (VL.below HA.out (bmore hbe.out kk)).get hx
          obtain ⟨_, _, e2, s0⟩ := (VL.below HB.out (bmore hbe.out kk)).get hy
          simp only [Option.some.injEq, Addr.mk.injEq] at e1 e2
          obtain ⟨rfl, rfl, _⟩ := e1
          obtain ⟨rfl, rfl, _⟩ := e2
          exact ⟨r0, s0⟩
        have HS : Hid (decide (a.map (·.2) = b.map (·.2)) = (decide (x.2 = y.2) && decide ((a.drop (k + 1)).map (·.2) = (b.drop (k + 1)).map (·.2)))) := by
          show _ = _
          have h1 := List.getElem?_eq_some_iff.1 hx
          have h2 := List.getElem?_eq_some_iff.1 hy
          rw [hcmp.out, List.drop_eq_getElem_cons h1.1, List.drop_eq_getElem_cons h2.1, h1.2, h2.2]
          simp
        have HSx : Hid (SV w (fun _ => False) x.1 x.2) := HA.out.vals x (List.mem_of_getElem? hx)
        have HSy : Hid (SV w (fun _ => False) y.1 y.2) := HB.out.vals y (List.mem_of_getElem? hy)
        have HLx : Hid (x.2.length ≤ 1000) := HZA.out x (List.mem_of_getElem? hx)
        have HLy : Hid (y.2.length ≤ 1000) := HZB.out y (List.mem_of_getElem? hy)
        obtain ⟨sx, vx⟩ := x
        obtain ⟨sy, vy⟩ := y
        simp only at HC HS HSx HSy HLx HLy
        obtain ⟨px, cx, rfl⟩ := SV.form HSx.out
        obtain ⟨py, cy, rfl⟩ := SV.form HSy.out
        have K0 : Below wr.heap.size wr wr.drew := (Below.refl _ _).drew
        have c12 := same12 (SV.below HSx.out (bmore hbe.out K0)) (SV.below HSy.out (bmore hbe.out K0)) (Nat.le_trans HLx.out (by decide)) (Nat.le_trans HLy.out (by decide))
        have hS0 := HC.out _ K0
        generalize decide (vx = vy) = T at *
        clear hx hy hcmp
        cases T
        · go_wp2_with fail
          go_region_held3 (fun W => W.cell? ⟨g1, o1 + k, none⟩ = some (.slice px vx.length cx) ∧ W.cell? ⟨g2, o2 + k, none⟩ = some (.slice py vy.length cy)) (first | exact hS0 | exact HC.out _ K1) (first
            | (go_at_call 56; (with_reducible refine c12.mono ?_); rintro e w1 ⟨rfl, hb1⟩; have K1 := bmore K0 hb1))
          clear hS0
          go_wp2_with fail
          go_ret
          exact ⟨by rw [HS.out]; rfl, bmore hbe.out K1⟩
        · go_wp2_with fail
          go_region_held3 (fun W => W.cell? ⟨g1, o1 + k, none⟩ = some (.slice px vx.length cx) ∧ W.cell? ⟨g2, o2 + k, none⟩ = some (.slice py vy.length cy)) (first | exact hS0 | exact HC.out _ K1) (first
            | (go_at_call 56; (with_reducible refine c12.mono ?_); rintro e w1 ⟨rfl, hb1⟩; have K1 := bmore K0 hb1))
          clear hS0
          go_wp2_with fail
          go_roundw
          case rel => exact ⟨k + 1, by simp, by show _ ≤ _; omega, by show _ = _; rw [HS.out]; simp, bmore hbe.out K1⟩
          case measure => simp only [intOf]; omega
      · have hkz : ¬ ((k : Int) < (n : Int)) := by omega
        have HS : Hid (decide (a.map (·.2) = b.map (·.2)) = true) := by
          show _ = _
          rw [hcmp.out, show a.drop k = [] from List.drop_eq_nil_of_le (by rw [HN.out]; omega), show b.drop k = [] from List.drop_eq_nil_of_le (by rw [HM.out]; omega)]
          simp
        clear hcmp
        go_wp2_with fail
        go_ret
        exact ⟨by rw [HS.out]; rfl, hbe.out⟩
  · have hne : ((n : Int) != (m : Int)) = true := by simp; omega
    have HS : Hid (decide (a.map (·.2) = b.map (·.2)) = false) := by
      show _ = _
      rw [decide_eq_false_iff_not]
      intro h
      have := congrArg List.length h
      simp [HN.out, HM.out] at this
      exact hnm this
    go_enter Tryz.func28, Tryz.ntmps28
    go_wp2_with fail
    go_ret
    exact ⟨by rw [HS.out]; rfl, Below.refl _ _⟩
end Go.Proofs.YtpagnphabchfcaaGreat
/-! ### The document's Compare of rows, SameRow, SameRows. -/
namespace Go.Proofs.YtpagnphabchfcaaGreat
open Go.RowKit Go.Shelf
set_option maxRecDepth 100000
set_option maxHeartbeats 2000000 in
theorem spans51 (f t f' t' : Int) (w : World) :
    Calls Tryz.prog 82 #[.agg #[.int .i64 f, .int .i64 t], .agg #[.int .i64 f', .int .i64 t']] w fun e w' => e = .returned (.int .i64 (lexP Lib.compareInt Lib.compareInt (f, t) (f', t'))) ∧ Below w.heap.size w w' := by
  have c1 := ints43 f f'
  have c2 := ints43 t t'
  have hA : ∀ o o', Below w.heap.size w ((w.alloc o).alloc o') := fun o o' => bmore (al _ o) (al _ o')
  simp only [lexP]
  by_cases hf : Lib.compareInt f f' = 0
  · rw [if_pos hf]
    rw [hf] at c1
    generalize Lib.compareInt t t' = D at *
    clear hf
    go_enter Tryz.func82, Tryz.ntmps82
    go_wp2_with (first
      | (go_at_call 107; (with_reducible refine (c1 _).mono ?_); rintro e w1 ⟨rfl, rfl⟩; clear c1)
      | (go_at_call 107; (with_reducible refine (c2 _).mono ?_); rintro e w1 ⟨rfl, rfl⟩))
    go_ret
    exact ⟨rfl, hA _ _⟩
  · rw [if_neg hf]
    generalize Lib.compareInt f f' = C at *
    have hC : (C != 0) = true := by simpa using hf
    go_enter Tryz.func82, Tryz.ntmps82
    go_wp2_with (go_at_call 107; (with_reducible refine (c1 _).mono ?_); rintro e w1 ⟨rfl, rfl⟩)
    go_ret
    exact ⟨rfl, hA _ _⟩
set_option maxHeartbeats 2000000 in
theorem compare39 {w : World} {X : Nat → Prop} {v v' : Value} {r r' : Rw} (ha : SV w X v r.1) (hb : SV w X v' r'.1) (hza : r.1.length ≤ 1000000) (hzb : r'.1.length ≤ 1000000) :
    Calls Tryz.prog 48 #[RV v r, RV v' r'] w fun e w' => e = .returned (.int .i64 (cmpR r r')) ∧ Below w.heap.size w w' := by
  obtain ⟨pa, ca, hv⟩ := ha.form
  obtain ⟨pb, cb, hv'⟩ := hb.form
  subst hv hv'
  obtain ⟨vs, f, t⟩ := r
  obtain ⟨vs', f', t'⟩ := r'
  simp only at ha hb hza hzb ⊢
  have hal : Below w.heap.size w ((w.alloc (.cells #[.slice pa vs.length ca, .int .i64 f, .int .i64 t] 64)).alloc (.cells #[.slice pb vs'.length cb, .int .i64 f', .int .i64 t'] 64)) := bal (al _ _) _
  have b1 := (blk_new w [.slice pa vs.length ca, .int .i64 f, .int .i64 t] 64).below (al _ (.cells #[.slice pb vs'.length cb, .int .i64 f', .int .i64 t'] 64))
  have b2 := blk_at (w.alloc (.cells #[.slice pa vs.length ca, .int .i64 f, .int .i64 t] 64)) [.slice pb vs'.length cb, .int .i64 f', .int .i64 t'] 64 (g := w.heap.size + 1) (by simp)
  have c26 := values26 (ha.below hal) (hb.below hal) hza hzb
  have c51 := spans51 f t f' t'
  have HC : Hid (∀ W, Below ((w.alloc (.cells #[.slice pa vs.length ca, .int .i64 f, .int .i64 t] 64)).alloc (.cells #[.slice pb vs'.length cb, .int .i64 f', .int .i64 t'] 64)).heap.size ((w.alloc (.cells #[.slice pa vs.length ca, .int .i64 f, .int .i64 t] 64)).alloc (.cells #[.slice pb vs'.length cb, .int .i64 f', .int .i64 t'] 64)) W → (W.cell? ⟨w.heap.size, 1, none⟩ = some (.int .i64 f) ∧ W.cell? ⟨w.heap.size, 2, none⟩ = some (.int .i64 t)) ∧ W.cell? ⟨w.heap.size + 1, 1, none⟩ = some (.int .i64 f') ∧ W.cell? ⟨w.heap.size + 1, 2, none⟩ = some (.int .i64 t')) := fun W k => ⟨⟨(b1.below k).cell 1, (b1.below k).cell 2⟩, (b2.below k).cell 1, (b2.below k).cell 2⟩
  have HAl : Hid _ := hal
  rw [show cmpR (vs, f, t) (vs', f', t') = if cmpL vs vs' = 0 then lexP Lib.compareInt Lib.compareInt (f, t) (f', t') else cmpL vs vs' from rfl]
  generalize cmpL vs vs' = C at *
  generalize lexP Lib.compareInt Lib.compareInt (f, t) (f', t') = D at *
  clear ha hb hza hzb b1 b2 hal
  by_cases hC : C = 0
  · subst hC
    simp only [if_true]
    go_enter Tryz.func48, Tryz.ntmps48
    go_wp2_with (first
      | (go_at_call 81; (with_reducible refine c26.mono ?_); rintro e w1 ⟨rfl, hb1⟩; obtain ⟨⟨y1, y2⟩, y3, y4⟩ := HC.out _ hb1)
      | (go_at_call 82; (with_reducible refine (c51 _).mono ?_); rintro e w2 ⟨rfl, hb2⟩))
    go_ret
    exact ⟨rfl, bmore (bmore HAl.out hb1) hb2⟩
  · have hCb : (C != 0) = true := by simpa using hC
    simp only [hC, if_false]
    go_enter Tryz.func48, Tryz.ntmps48
    go_wp2_with (go_at_call 81; (with_reducible refine c26.mono ?_); rintro e w1 ⟨rfl, hb1⟩)
    go_ret
    exact ⟨rfl, bmore HAl.out hb1⟩
theorem sameRow22 {w : World} {X : Nat → Prop} {v v' : Value} {r r' : Rw} (ha : SV w X v r.1) (hb : SV w X v' r'.1) (hza : r.1.length ≤ 1000000) (hzb : r'.1.length ≤ 1000000) :
    Calls Tryz.prog 43 #[RV v r, RV v' r'] w fun e w' => e = .returned (.bool (decide (r = r'))) ∧ Below w.heap.size w w' := by
  obtain ⟨pa, ca, hv⟩ := ha.form
  obtain ⟨pb, cb, hv'⟩ := hb.form
  subst hv hv'
  have H39 : Hid (∀ W, Below w.heap.size w W → Calls Tryz.prog 48 #[RV (.slice pa r.1.length ca) r, RV (.slice pb r'.1.length cb) r'] W fun e w' => e = .returned (.int .i64 (cmpR r r')) ∧ Below W.heap.size W w') := fun W k => compare39 (ha.below k) (hb.below k) hza hzb
  rw [show decide (r = r') = (cmpR r r' == 0) by rw [Bool.eq_iff_iff]; simp [ordR.eq]]
  generalize cmpR r r' = C at *
  clear ha hb
  obtain ⟨vs, f, t⟩ := r
  obtain ⟨vs', f', t'⟩ := r'
  simp only at H39 ⊢
  have K : Below w.heap.size w w := Below.refl _ _
  go_enter Tryz.func43, Tryz.ntmps43
  go_wp2_with (go_at_call 48; (first | (with_reducible refine (H39.out _ K).mono ?_) | (refine (H39.out _ (bal (al _ _) _)).mono ?_)); rintro e w1 ⟨rfl, hb1⟩)
  go_ret
  first
    | exact ⟨rfl, hb1⟩
    | exact ⟨rfl, bmore (bal (al _ _) _) hb1⟩
end Go.Proofs.YtpagnphabchfcaaGreat
/-! ### The document's SameRows. -/
namespace Go.Proofs.YtpagnphabchfcaaGreat
open Go.RowKit Go.Shelf
set_option maxRecDepth 100000
set_option maxHeartbeats 2000000 in
theorem sameRows10 {w : World} {v v' : Value} {a b : List El} (ha : RL w (fun _ => False) v a) (hb : RL w (fun _ => False) v' b) (hza : ∀ e ∈ a, e.2.1.length ≤ 1000) (hzb : ∀ e ∈ b, e.2.1.length ≤ 1000) (hl : a.length ≤ 100000) (hl' : b.length ≤ 100000) :
    Calls Tryz.prog 9 #[v, v'] w fun e w' => e = .returned (.bool (decide (rws a = rws b))) ∧ Below w.heap.size w w' := by
  obtain ⟨pa, ca, rfl⟩ := ha.form
  obtain ⟨pb, cb, rfl⟩ := hb.form
  obtain ⟨n, hn⟩ : ∃ n, a.length = n := ⟨_, rfl⟩
  obtain ⟨m, hm⟩ : ∃ m, b.length = m := ⟨_, rfl⟩
  have HA : Hid (RL w (fun _ => False) (.slice pa a.length ca) a) := ha
  have HB : Hid (RL w (fun _ => False) (.slice pb b.length cb) b) := hb
  have HN : Hid (a.length = n) := hn
  have HM : Hid (b.length = m) := hm
  have HZA : Hid _ := hza
  have HZB : Hid _ := hzb
  rw [hn] at hl ⊢
  rw [hm] at hl' ⊢
  clear hn hm ha hb hza hzb
  by_cases hnm : n = m
  · subst hnm
    go_enter Tryz.func9, Tryz.ntmps9
    go_wp2_with fail
    go_loopw [5] (fun i wr => ∃ k : Nat, i = .int .i64 (k : Int) ∧ Hid (k ≤ n) ∧ Hid (decide (rws a = rws b) = decide (rws (a.drop k) = rws (b.drop k))) ∧ Hid (Below w.heap.size w wr)) (fun i _ => ((n : Int) - intOf i).toNat)
    case atStart => exact ⟨0, rfl, Nat.zero_le _, by show _ = _; simp, Below.refl _ _⟩
    case round =>
      obtain ⟨k, rfl, hkn, hcmp, hbe⟩ := hrel
      by_cases hlt : k < n
      · have hkz : (k : Int) < (n : Int) := by omega
        have hk0 : (0 : Int) ≤ (k : Int) := by omega
        obtain ⟨x, hx⟩ : ∃ x, a[k]? = some x := ⟨_, List.getElem?_eq_getElem (by rw [HN.out]; exact hlt)⟩
        obtain ⟨y, hy⟩ : ∃ y, b[k]? = some y := ⟨_, List.getElem?_eq_getElem (by rw [HM.out]; exact hlt)⟩
        obtain ⟨g1, o1, rfl, _⟩ := (RL.below HA.out hbe.out).get hx
        obtain ⟨g2, o2, rfl, _⟩ := (RL.below HB.out hbe.out).get hy
        have HC : Hid (∀ W, Below wr.heap.size wr W → W.cell? ⟨g1, o1 + k * 3, none⟩ = some x.1 ∧ W.cell? ⟨g1, o1 + k * 3 + 1, none⟩ = some (.int .i64 x.2.2.1) ∧ W.cell? ⟨g1, o1 + k * 3 + 2, none⟩ = some (.int .i64 x.2.2.2) ∧ W.cell? ⟨g2, o2 + k * 3, none⟩ = some y.1 ∧ W.cell? ⟨g2, o2 + k * 3 + 1, none⟩ = some (.int .i64 y.2.2.1) ∧ W.cell? ⟨g2, o2 + k * 3 + 2, none⟩ = some (.int .i64 y.2.2.2)) := fun W kk => by
          obtain ⟨r0, r1, r2⟩ := (RL.below HA.out (bmore hbe.out kk)).at3 hx
          obtain ⟨s0, s1, s2⟩ := (RL.below HB.out (bmore hbe.out kk)).at3 hy
          exact ⟨r0, r1, r2, s0, s1, s2⟩
        have HS : Hid (decide (rws a = rws b) = (decide (x.2 = y.2) && decide (rws (a.drop (k + 1)) = rws (b.drop (k + 1))))) := by
          show _ = _
          have h1 := List.getElem?_eq_some_iff.1 hx
          have h2 := List.getElem?_eq_some_iff.1 hy
          rw [hcmp.out, List.drop_eq_getElem_cons h1.1, List.drop_eq_getElem_cons h2.1, h1.2, h2.2, show rws (x :: a.drop (k + 1)) = x.2 :: rws (a.drop (k + 1)) from rfl, show rws (y :: b.drop (k + 1)) = y.2 :: rws (b.drop (k + 1)) from rfl]
          rw [Bool.eq_iff_iff]
          simp only [List.cons.injEq, Bool.and_eq_true, decide_eq_true_eq]
        have HSx : Hid (SV w (fun _ => False) x.1 x.2.1) := HA.out.vals x (List.mem_of_getElem? hx)
        have HSy : Hid (SV w (fun _ => False) y.1 y.2.1) := HB.out.vals y (List.mem_of_getElem? hy)
        have HLx : Hid (x.2.1.length ≤ 1000) := HZA.out x (List.mem_of_getElem? hx)
        have HLy : Hid (y.2.1.length ≤ 1000) := HZB.out y (List.mem_of_getElem? hy)
        have K0 : Below wr.heap.size wr wr.drew := (Below.refl _ _).drew
        obtain ⟨sx, vx, fx, tx⟩ := x
        obtain ⟨sy, vy, fy, ty⟩ := y
        simp only at HC HS HSx HSy HLx HLy
        obtain ⟨px, cx, rfl⟩ := SV.form HSx.out
        obtain ⟨py, cy, rfl⟩ := SV.form HSy.out
        have c22 := sameRow22 (r := (vx, fx, tx)) (r' := (vy, fy, ty)) (SV.below HSx.out (bmore hbe.out K0)) (SV.below HSy.out (bmore hbe.out K0)) (Nat.le_trans HLx.out (by decide)) (Nat.le_trans HLy.out (by decide))
        have hS0 := HC.out _ K0
        generalize decide ((vx, fx, tx) = (vy, fy, ty)) = T at *
        clear hx hy hcmp
        cases T
        · go_wp2_with fail
          go_region_held3 (fun W => W.cell? ⟨g1, o1 + k * 3, none⟩ = some (.slice px vx.length cx) ∧ W.cell? ⟨g1, o1 + k * 3 + 1, none⟩ = some (.int .i64 fx) ∧ W.cell? ⟨g1, o1 + k * 3 + 2, none⟩ = some (.int .i64 tx) ∧ W.cell? ⟨g2, o2 + k * 3, none⟩ = some (.slice py vy.length cy) ∧ W.cell? ⟨g2, o2 + k * 3 + 1, none⟩ = some (.int .i64 fy) ∧ W.cell? ⟨g2, o2 + k * 3 + 2, none⟩ = some (.int .i64 ty)) (first | exact hS0 | exact HC.out _ K1) (first
            | (go_at_call 43; (with_reducible refine c22.mono ?_); rintro e w1 ⟨rfl, hb1⟩; have K1 := bmore K0 hb1))
          clear hS0
          go_wp2_with fail
          go_ret
          exact ⟨by rw [HS.out]; rfl, bmore hbe.out K1⟩
        · go_wp2_with fail
          go_region_held3 (fun W => W.cell? ⟨g1, o1 + k * 3, none⟩ = some (.slice px vx.length cx) ∧ W.cell? ⟨g1, o1 + k * 3 + 1, none⟩ = some (.int .i64 fx) ∧ W.cell? ⟨g1, o1 + k * 3 + 2, none⟩ = some (.int .i64 tx) ∧ W.cell? ⟨g2, o2 + k * 3, none⟩ = some (.slice py vy.length cy) ∧ W.cell? ⟨g2, o2 + k * 3 + 1, none⟩ = some (.int .i64 fy) ∧ W.cell? ⟨g2, o2 + k * 3 + 2, none⟩ = some (.int .i64 ty)) (first | exact hS0 | exact HC.out _ K1) (first
            | (go_at_call 43; (with_reducible refine c22.mono ?_); rintro e w1 ⟨rfl, hb1⟩; have K1 := bmore K0 hb1))
          clear hS0
          go_wp2_with fail
          go_roundw
          case rel => exact ⟨k + 1, by simp, by show _ ≤ _; omega, by show _ = _; rw [HS.out]; simp, bmore hbe.out K1⟩
          case measure => simp only [intOf]; omega
      · have hkz : ¬ ((k : Int) < (n : Int)) := by omega
        have HS : Hid (decide (rws a = rws b) = true) := by
          show _ = _
          rw [hcmp.out, show a.drop k = [] from List.drop_eq_nil_of_le (by rw [HN.out]; omega), show b.drop k = [] from List.drop_eq_nil_of_le (by rw [HM.out]; omega)]
          simp
        clear hcmp
        go_wp2_with fail
        go_ret
        exact ⟨by rw [HS.out]; rfl, hbe.out⟩
  · have hne : ((n : Int) != (m : Int)) = true := by simp; omega
    have HS : Hid (decide (rws a = rws b) = false) := by
      show _ = _
      rw [decide_eq_false_iff_not]
      intro h
      have := congrArg List.length h
      simp [rws, HN.out, HM.out] at this
      exact hnm this
    go_enter Tryz.func9, Tryz.ntmps9
    go_wp2_with fail
    go_ret
    exact ⟨by rw [HS.out]; rfl, Below.refl _ _⟩
end Go.Proofs.YtpagnphabchfcaaGreat
