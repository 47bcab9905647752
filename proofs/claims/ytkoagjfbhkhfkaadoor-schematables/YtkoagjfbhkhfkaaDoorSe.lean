/- Both catalogs tell the same: parts. -/
import Derived.Test.YtkoagjfbhkhfkaaDoorSd
namespace Go.Proofs.YtkoagjfbhkhfkaaDoor
open Go.RowKit Go.Lib
set_option maxRecDepth 100000
variable {w w' : World} {B c m r : Nat} {nv lv : Value} {E : List En} {L : List Tv} {Q : Nat → Prop}
def tabOf (E : List En) (s : Bs) : Tb := ((fnd E s).map (·.1)).getD ⟨[], [], [], 0⟩
theorem get_t (h : Cat w c m nv E) (s : ByteArray) (hs : s.size ≤ maxLen) :
    Calls Tryd.prog 22 #[.pointer (some ⟨c, 0, none⟩), .string s] w fun e w' => (∃ va vn vc, e = .returned (.tuple #[TB (str (tabOf E (bs s)).n) (.slice va vn vc) (str (tabOf E (bs s)).p) (tabOf E (bs s)).r, .bool (fnd E (bs s)).isSome]) ∧ SC w' (.slice va vn vc) (tabOf E (bs s)).cols) ∧ Below w.heap.size w w' := by
  cases hf : fnd E (bs s) with
  | none =>
    refine (get5_none h s hs hf).mono fun e w' ⟨h1, h2⟩ => ⟨⟨none, 0, 0, ?_, ?_⟩, h2⟩
    · rw [h1]; simp [tabOf, hf]
    · simp only [tabOf, hf]; exact ⟨none, 0, rfl, fun h => by simp at h⟩
  | some x =>
    refine (get5_some h s hs hf).mono fun e w' ⟨g, h1, _, h3, h2⟩ => ⟨⟨some ⟨g, 0, none⟩, x.1.cols.length, x.1.cols.length, ?_, ?_⟩, h2⟩
    · rw [h1]; simp [tabOf, hf, tv]
    · simp only [tabOf, hf]; exact SC.blk h3
theorem rget_t (h : Two B w c m nv E r lv L) (s : ByteArray) :
    Calls Tryd.prog 28 #[.pointer (some ⟨r, 0, none⟩), .string s] w fun e w' => (∃ va vn vc, e = .returned (.tuple #[TB (str (tabOf E (bs s)).n) (.slice va vn vc) (str (tabOf E (bs s)).p) (tabOf E (bs s)).r, .bool (fnd E (bs s)).isSome]) ∧ SC w' (.slice va vn vc) (tabOf E (bs s)).cols) ∧ Below w.heap.size w w' := by
  have hfd := h.find (bs s)
  refine (rget28 h.rc s).mono fun e w' ⟨h1, h2⟩ => ⟨?_, h1⟩
  rcases h2 with ⟨h3, h4⟩ | ⟨x, va, vc, h3, h4, h5⟩
  · have hf : fnd E (bs s) = none := by rw [h3] at hfd; simpa using hfd.symm
    refine ⟨none, 0, 0, ?_, ?_⟩
    · rw [h4]; simp [tabOf, hf]
    · simp only [tabOf, hf]; exact ⟨none, 0, rfl, fun h => by simp at h⟩
  · rw [h3] at hfd
    obtain ⟨y, hy, hyx⟩ := Option.map_eq_some_iff.1 hfd.symm
    refine ⟨va, x.1.cols.length, vc, ?_, ?_⟩
    · rw [h4]; simp [tabOf, hy, hyx]
    · simp only [tabOf, hy, Option.map_some, Option.getD_some, hyx]; exact h5.sc
theorem tabOf_cols (h : Cat w c m nv E) (s : Bs) : (tabOf E s).cols.length ≤ 1000 := by
  unfold tabOf
  cases hf : fnd E s with
  | none => simp
  | some x =>
    have := rtB_cols (h.ok x (fnd_mem hf).1)
    simp only [Option.map_some, Option.getD_some]
    omega
theorem children24_nil (c : Nat) (w : World) : Calls Tryd.prog 24 #[.pointer (some ⟨c, 0, none⟩), .string ⟨#[]⟩] w fun e w' => e = .returned (.slice none 0 0) ∧ Below w.heap.size w w' := by
  go_enter Tryd.func24, Tryd.ntmps24
  go_wp2
  go_ret
  exact ⟨rfl, Below.refl _ _⟩
theorem filter_both {E : List En} {L : List Tv} (he : L.map (·.1) = (E.map (·.1)).reverse) (s : Bs) : (L.filter (fun x => x.1.p == s)).map (fun x => str x.1.n) = (chB E s).map (fun x => str x.1.n) := by
  have h1 : (L.filter (fun x => x.1.p == s)).map (fun x => str x.1.n) = ((L.map (·.1)).filter (fun t => t.p == s)).map (fun t => str t.n) := by
    rw [List.filter_map, List.map_map]; rfl
  have h2 : (chB E s).map (fun x => str x.1.n) = (((E.map (·.1)).reverse).filter (fun t => t.p == s)).map (fun t => str t.n) := by
    rw [← List.map_reverse, List.filter_map, List.map_map]; rfl
  rw [h1, h2, he]
/-- Who refers to a name, from both. -/
theorem kids_t (h : Two B w c m nv E r lv L) (s : ByteArray) :
    Calls Tryd.prog 24 #[.pointer (some ⟨c, 0, none⟩), .string s] w (fun e w' => (∃ va vn vc, e = .returned (.slice va vn vc) ∧ SX w' (.slice va vn vc) (chR L (bs s))) ∧ Below w.heap.size w w') := by
  by_cases hs : bs s = []
  · obtain rfl : s = ⟨#[]⟩ := by have := congrArg str hs; rw [str_bs] at this; exact this
    refine (children24_nil c w).mono fun e w' ⟨h1, h2⟩ => ⟨⟨none, 0, 0, h1, ?_⟩, h2⟩
    rw [hs, chR_empty]
    exact ⟨none, 0, rfl, fun h => by simp at h⟩
  · refine (children24 h.cat h.nd s hs).mono fun e w' ⟨⟨va, vc, h1, h2⟩, h3⟩ => ⟨⟨va, _, vc, h1, ?_⟩, h3⟩
    have : stV (chB E (bs s)) = (chR L (bs s)).map Value.string := by
      rw [chR, if_neg hs, filter_both h.eq]
      simp [stV]
    rw [this] at h2
    exact SX.own h2
theorem rkids_t (h : RCat Q w r lv L) (s : ByteArray) :
    Calls Tryd.prog 31 #[.pointer (some ⟨r, 0, none⟩), .string s] w (fun e w' => (∃ va vn vc, e = .returned (.slice va vn vc) ∧ SX w' (.slice va vn vc) (chR L (bs s))) ∧ Below w.heap.size w w') :=
  (rchildren31 h s).mono fun e w' ⟨⟨v, h1, h2, _⟩, h3⟩ => by
    obtain ⟨va, vc, hv, _⟩ := id h2
    subst hv
    exact ⟨⟨va, _, vc, h1, h2⟩, h3⟩
theorem names_t (h : Two B w c m nv E r lv L) : Calls Tryd.prog 23 #[.pointer (some ⟨c, 0, none⟩)] w (fun e w' => (∃ va vn vc, e = .returned (.slice va vn vc) ∧ SX w' (.slice va vn vc) (nmsR L)) ∧ Below w.heap.size w w') :=
  (names7 h.cat).mono fun e w' ⟨g, h1, _, h3, h2⟩ => by
    refine ⟨⟨some ⟨g, 0, none⟩, E.length, E.length, h1, SX.blk (t := 9) ?_ _ _ (by rw [nmsR, List.length_map]; exact h.len)⟩, h2⟩
    have : (nmsR L).map Value.string = namesV E := by
      have e1 : nmsR L = (L.map (·.1)).map (fun t => str t.n) := by simp [nmsR]
      rw [e1, h.eq, namesV]
      simp
    rw [this]
    exact h3
/-- Texts appended. -/
def RS (B : Nat) (w : World) (u : Value) (xs : List ByteArray) : Prop := (xs = [] ∧ ∃ b : Addr, u = .slice (some b) 0 0) ∨ (xs ≠ [] ∧ w.ownsRow B 9 1 u xs.length (xs.map Value.string))
theorem run_appS0 {v : Value} {xs : List ByteArray} (hv : SX w v xs) (hfew : xs.length ≤ 3) (b : Addr) : ∃ u w', (Builtin.append_ #[51, 51] 51 #[.slice (some b) 0 0, v]).run Tryd.prog w = .ok u w' ∧ RS w.heap.size w' u xs ∧ w.grownBy w' none := by
  obtain ⟨a, cc, rfl, hat⟩ := hv
  obtain ⟨i, hi, hzz⟩ := Option.map_eq_some_iff.1 info9
  simp only [Prod.mk.injEq] at hzz
  obtain ⟨hz, hs, hb⟩ := hzz
  by_cases h0 : xs = []
  · subst h0
    refine ⟨_, w, ?_, .inl ⟨rfl, b, rfl⟩, ⟨rfl, rfl, rfl, Nat.le_refl _, fun _ _ _ => rfl⟩⟩
    have hl : ∀ (x : Addr), (loadCells x 0).run Tryd.prog w = .ok #[] w := fun x => by simpa using run_loadCells_list (P := Tryd.prog) w x [] (by simp)
    cases a <;> simp [Builtin.append_, run_underlying Tryd.underlying51, sizeOf, typeInfo, hi, Builtin.lenOf, Builtin.firstCells, hl, storeCells]
  · have hpos : 0 < xs.length := List.length_pos_iff.2 h0
    obtain ⟨g, o, rfl, _, hta⟩ := hat hpos
    obtain ⟨v', w', h1, h2, h3⟩ := run_append_arg_grows (P := Tryd.prog) w 51 51 9 i _ 1 16 Tryd.underlying51 hi hz hs hb rfl (by decide) b 0 0 [] rfl (by simp) ⟨g, o, none⟩ xs.length cc (xs.map Value.string) (by simp) (fun j u hu => by
      rw [show (⟨g, o, none⟩ : Addr).add j = ⟨g, o + j, none⟩ by unfold Addr.add; split <;> simp_all]
      rw [List.getElem?_map] at hu
      obtain ⟨s, hs1, hs2⟩ := Option.map_eq_some_iff.1 hu
      rw [← hs2]
      exact hta j s hs1) (by omega) (by unfold maxLen; omega) (by omega)
    refine ⟨v', w', h1, .inr ⟨h0, ?_⟩, h3⟩
    rw [Nat.zero_add, List.nil_append] at h2
    exact h2
theorem RS.below {B : Nat} {u : Value} {xs : List ByteArray} (h : RS B w u xs) (hb : Below w.heap.size w w') : RS B w' u xs := h.imp id fun ⟨h0, h1⟩ => ⟨h0, ownsRow_below h1 hb⟩
theorem run_appS1 {B : Nat} {u : Value} {xs : List ByteArray} (hU : RS B w u xs) (hfew : xs.length ≤ 3) (hB : B ≤ w.heap.size) {e : Nat} {s : ByteArray} (he : Blk w e [.string s] 9) : ∃ va vn vc w', (Builtin.append_ #[51, 51] 51 #[u, .slice (some ⟨e, 0, none⟩) 1 1]).run Tryd.prog w = .ok (.slice va vn vc) w' ∧ vn = xs.length + 1 ∧ SX w' (.slice va vn vc) (xs ++ [s]) ∧ Below B w w' := by
  obtain ⟨i, hi, hzz⟩ := Option.map_eq_some_iff.1 info9
  simp only [Prod.mk.injEq] at hzz
  obtain ⟨hz, hs, hb⟩ := hzz
  rcases hU with ⟨rfl, b, rfl⟩ | ⟨h0, hown⟩
  · obtain ⟨v', w', h1, h2, h3⟩ := run_append_arg_grows (P := Tryd.prog) w 51 51 9 i _ 1 16 Tryd.underlying51 hi hz hs hb rfl (by decide) b 0 0 [] rfl (by simp) ⟨e, 0, none⟩ 1 1 [.string s] rfl (World.news_of_block he) (by omega) (by unfold maxLen; omega) (by omega)
    obtain ⟨g, cap, rfl, hg, _⟩ := h2.form (by omega)
    exact ⟨_, _, _, w', h1, rfl, SX.own (xs := [s]) h2, ⟨h3.os, h3.tape, h3.output, h3.size, fun k hk => h3.block k (by omega) (by simp)⟩⟩
  · obtain ⟨g, cap, w', h1, h2, h3, h4, h5⟩ := run_append_lies (P := Tryd.prog) w 51 51 B 9 i _ 1 16 Tryd.underlying51 hi hz hs hb rfl (by decide) u xs.length (xs.map Value.string) hown ⟨e, 0, none⟩ 1 1 [.string s] rfl (World.news_of_block he) (by simp [Value.oneCell']) (by decide) (by unfold maxLen; omega) (by omega) hB _ rfl
    refine ⟨_, _, _, w', h1, rfl, SX.own (B := B) (n := xs.length + 1) (xs := xs ++ [s]) ?_, (Below.refl _ _).grown h3 hB (fun k hk => (ownsRow_ge hown hk).1)⟩
    rw [List.map_append]
    exact h2
theorem wpList_append_run {P : Program} {ops : Array Oper} {rest : List Oper} {o : Oper} {a : Act} {w : World} {Q : Exit → Act → World → Prop} (hgd : o.guard = none) (s x : Operand) (t : TypeId)
    (ho : o.op = .call { callee := .builtin .append, args := #[s, x], argTypes := #[t, t] }) (v y : Value) (hs : a.eval s = v) (hx : a.eval x = y) (u : Value) (w' : World) (hrun : (Builtin.append_ #[t, t] o.type #[v, y]).run P w = .ok u w')
    (h : wpList P ops Q rest (a.put o.dst u) w') : wpList P ops Q (o :: rest) a w := by
  refine wpList_plain hgd fun K hK => ?_
  unfold Oper.wp execOp
  simp only [ho, resolve, invoke, builtin, Sem.run_bind, Sem.run_pure, Result.andThen_ok, List.map_toArray, List.map_cons, List.map_nil, hs, hx, hrun]
  exact hK _ _ h
end Go.Proofs.YtkoagjfbhkhfkaaDoor
