/- first, count, size of a part, whichever it is; counted, innerOf. · Lists, one behind the other: slices.Grow, slices.Concat. · spliced, halved. · halved, leaves, inners, innerOf. · leaves, inners, innerOf. · inners. -/
import Derived.Test.YthfkmedpcmiibaaDoorXa
import Derived.Shelf.Spec.SlicesGrow
import Derived.Deep.AppendSrc
/-! ### first, count, size of a part, whichever it is; counted, innerOf. -/
namespace Go.Proofs.YthfkmedpcmiibaaDoor.T
open Go.RowKit Go.Shelf
set_option maxRecDepth 100000
theorem m_count64 (v : Value) (w : World) : Sem.run Tryd.prog (method 246 47 v "regesta/tree.count") w = .ok (92, v) w := by kernel_rfl
theorem m_count72 (v : Value) (w : World) : Sem.run Tryd.prog (method 246 63 v "regesta/tree.count") w = .ok (95, v) w := by kernel_rfl
theorem m_first64 (v : Value) (w : World) : Sem.run Tryd.prog (method 246 47 v "regesta/tree.first") w = .ok (93, v) w := by kernel_rfl
theorem m_first72 (v : Value) (w : World) : Sem.run Tryd.prog (method 246 63 v "regesta/tree.first") w = .ok (96, v) w := by kernel_rfl
theorem m_size64 (v : Value) (w : World) : Sem.run Tryd.prog (method 246 47 v "regesta/tree.size") w = .ok (94, v) w := by kernel_rfl
theorem m_size72 (v : Value) (w : World) : Sem.run Tryd.prog (method 246 63 v "regesta/tree.size") w = .ok (97, v) w := by kernel_rfl
theorem c_fn (f : Nat) (hf : f = 92 ∨ f = 93 ∨ f = 94 ∨ f = 95 ∨ f = 96 ∨ f = 97) (v : Value) (w : World) : Sem.run Tryd.prog (callFunc f #[v]) w = .ok (.enter f #[v]) w := by
  rcases hf with rfl | rfl | rfl | rfl | rfl | rfl <;> kernel_rfl
theorem ta64_64 (v : Value) (w : World) : Sem.run Tryd.prog (Instr.typeAssert (.iface 47 v) 49 47 true) w = .ok (.tuple #[v, .bool true]) w := by kernel_rfl
theorem ta72_64 (v : Value) (w : World) : Sem.run Tryd.prog (Instr.typeAssert (.iface 63 v) 49 47 true) w = .ok (.tuple #[.slice none 0 0, .bool false]) w := by kernel_rfl
theorem ta72_72 (v : Value) (w : World) : Sem.run Tryd.prog (Instr.typeAssert (.iface 63 v) 49 63 true) w = .ok (.tuple #[v, .bool true]) w := by kernel_rfl
theorem ta64_72 (v : Value) (w : World) : Sem.run Tryd.prog (Instr.typeAssert (.iface 47 v) 49 63 true) w = .ok (.tuple #[.agg #[.slice none 0 0, .string { data := #[] }, .int .i64 0], .bool false]) w := by kernel_rfl
theorem tb64_64 (v : Value) (w : World) : Sem.run Tryd.prog (Instr.typeAssert (.iface 47 v) 49 47 false) w = .ok v w := by kernel_rfl
theorem tb72_72 (v : Value) (w : World) : Sem.run Tryd.prog (Instr.typeAssert (.iface 63 v) 49 63 false) w = .ok v w := by kernel_rfl
/-- What a method's call comes to. -/
def Meth (name : String) (x : Bx) (w : World) (Post : Value → World → Prop) : Prop := ∃ f, (f = 92 ∨ f = 93 ∨ f = 94 ∨ f = 95 ∨ f = 96 ∨ f = 97) ∧ (∀ w, Sem.run Tryd.prog (method 246 x.1 x.2 name) w = .ok (f, x.2) w) ∧ Calls Tryd.prog f #[x.2] w fun e w' => ∃ v, e = .returned v ∧ Post v w'
theorem upon_meth {name : String} {x : Bx} {w : World} {Post : Value → World → Prop} (h : Meth name x w Post) {o : Oper} {a : Act} {next : Act → World → Prop} {Q : Exit → Act → World → Prop} (k : ∀ v w', Post v w' → next (a.put o.dst v) w') :
    Oper.upon Tryd.prog o a next Q ((Sem.run Tryd.prog (method 246 x.1 x.2 name) w).andThen fun a w' => Sem.run Tryd.prog (callFunc a.fst #[a.snd]) w') := by
  obtain ⟨f, hf, hm, hc⟩ := h
  rw [hm w]
  show Oper.upon Tryd.prog o a next Q (Sem.run Tryd.prog (callFunc f #[x.2]) w)
  rw [c_fn f hf]
  refine hc.mono ?_
  rintro e w' ⟨v, rfl, hp⟩
  exact k v w' hp
theorem meth_count {w : World} {h n : Nat} {x : Bx} {kv : List Pr} (hp : Part w h n x kv) : Meth "regesta/tree.count" x w fun v w' => v = .int .i64 (kv.length : Int) ∧ Below w.heap.size w w' := by
  cases h with
  | zero =>
    obtain ⟨t, y⟩ := x
    obtain ⟨rfl, hl, hn⟩ := hp
    obtain ⟨b, c, rfl⟩ := hl.form
    refine ⟨92, .inl rfl, fun w => m_count64 _ w, (count89 _ _ _ w).mono ?_⟩
    rintro e w' ⟨rfl, rfl⟩
    exact ⟨_, rfl, rfl, Below.refl _ _⟩
  | succ h =>
    obtain ⟨sl, ks, rfl, h2, h3, h4, h5, h6⟩ := hp
    obtain ⟨b, c, rfl⟩ := h2.form
    refine ⟨95, by simp, fun w => m_count72 _ w, (count92 _ _ _ _ _ w).mono ?_⟩
    rintro e w' ⟨rfl, hb⟩
    exact ⟨_, rfl, rfl, hb⟩
theorem meth_first {w : World} {h n : Nat} {x : Bx} {kv : List Pr} (hp : Part w h n x kv) (h0 : 0 < kv.length) : Meth "regesta/tree.first" x w fun v w' => v = .string (fst kv) ∧ Below w.heap.size w w' := by
  cases h with
  | zero =>
    obtain ⟨t, y⟩ := x
    obtain ⟨rfl, hl, hn⟩ := hp
    refine ⟨93, by simp, fun w => m_first64 _ w, (first90 hl h0).mono ?_⟩
    rintro e w' ⟨rfl, rfl⟩
    exact ⟨_, rfl, rfl, Below.refl _ _⟩
  | succ h =>
    obtain ⟨sl, ks, rfl, h2, h3, h4, h5, h6⟩ := hp
    obtain ⟨b, c, rfl⟩ := h2.form
    refine ⟨96, by simp, fun w => m_first72 _ w, (first93 _ _ _ _ _ w).mono ?_⟩
    rintro e w' ⟨rfl, hb⟩
    exact ⟨_, rfl, rfl, hb⟩
theorem meth_size {w : World} {h n : Nat} {x : Bx} {kv : List Pr} (hp : Part w h n x kv) : Meth "regesta/tree.size" x w fun v w' => v = .int .i64 (n : Int) ∧ Below w.heap.size w w' := by
  cases h with
  | zero =>
    obtain ⟨t, y⟩ := x
    obtain ⟨rfl, hl, rfl⟩ := hp
    obtain ⟨b, c, rfl⟩ := hl.form
    refine ⟨94, by simp, fun w => m_size64 _ w, (size91 _ _ _ w).mono ?_⟩
    rintro e w' ⟨rfl, rfl⟩
    exact ⟨_, rfl, rfl, Below.refl _ _⟩
  | succ h =>
    obtain ⟨sl, ks, rfl, h2, h3, h4, h5, h6⟩ := hp
    obtain ⟨b, c, rfl⟩ := h2.form
    refine ⟨97, by simp, fun w => m_size72 _ w, (size94 _ _ _ _ _ w).mono ?_⟩
    rintro e w' ⟨rfl, hb⟩
    exact ⟨_, rfl, by rw [List.length_map, h3], hb⟩
theorem flat_take {ks : List Kd} {k : Nat} {x : Kd} (h : ks[k]? = some x) : flat (ks.take (k + 1)) = flat (ks.take k) ++ x.2 := by
  unfold flat
  rw [List.take_add_one, h, List.map_append, List.flatten_append]
  simp
theorem flat_le (ks : List Kd) (k : Nat) : (flat (ks.take k)).length ≤ (flat ks).length := by
  conv => rhs; rw [← List.take_append_drop k ks]
  unfold flat
  rw [List.map_append, List.flatten_append, List.length_append]
  omega
theorem EK.cell {w : World} {a : Option Addr} {n c : Nat} {L : List Bx} (h : LV EK w (.slice a n c) L) {i : Nat} {x : Bx} (hx : L[i]? = some x) : ∃ g o, a = some ⟨g, o, none⟩ ∧ w.cell? ⟨g, o + i, none⟩ = some (.iface x.1 x.2) := by
  obtain ⟨g, o, ha, hc⟩ := h.at hx
  have d0 := hc 0 (by decide)
  simp only [EK, Nat.mul_one, Nat.add_zero, List.getElem?_cons_zero] at d0
  exact ⟨g, o, ha, d0⟩
theorem EP.cell {w : World} {a : Option Addr} {n c : Nat} {L : List Pr} (h : LV EP w (.slice a n c) L) {i : Nat} {x : Pr} (hx : L[i]? = some x) : ∃ g o, a = some ⟨g, o, none⟩ ∧ w.cell? ⟨g, o + i * 2, none⟩ = some (.string x.1) ∧ w.cell? ⟨g, o + i * 2 + 1, none⟩ = some (.string x.2) := by
  obtain ⟨g, o, ha, hc⟩ := h.at hx
  have d0 := hc 0 (by decide)
  have d1 := hc 1 (by decide)
  simp only [EP, Nat.add_zero, List.getElem?_cons_zero, List.getElem?_cons_succ] at d0 d1
  exact ⟨g, o, ha, d0, d1⟩
set_option maxHeartbeats 400000 in
theorem counted50 {w : World} {v : Value} {ks : List Kd} (hv : LV EK w v (ks.map (·.1))) (hk : ∀ k ∈ ks, ∃ h m, Part w h m k.1 k.2) (hl : (flat ks).length ≤ 10000) (hn : ks.length ≤ 1000) : Calls Tryd.prog 37 #[v] w fun e w' => e = .returned (.int .i64 ((flat ks).length : Int)) ∧ Below w.heap.size w w' := by
  obtain ⟨a, c, rfl⟩ := hv.form
  obtain ⟨M, hM⟩ : ∃ M, ks.length = M := ⟨_, rfl⟩
  rw [List.length_map] at hv ⊢
  rw [hM] at hv hn ⊢
  have HM : Hid _ := hM
  have HV : Hid (LV EK w (.slice a M c) (ks.map (·.1))) := hv
  have HK : Hid (∀ k ∈ ks, ∃ h m, Part w h m k.1 k.2) := hk
  have HL : Hid (∀ k, (flat (ks.take k)).length ≤ 10000) := fun k => Nat.le_trans (flat_le ks k) hl
  have HA : Hid (flat (ks.take M) = flat ks) := by show _ = _; rw [← hM, List.take_length]
  clear hM hv hk hl
  go_enter Tryd.func37, Tryd.ntmps37
  go_wp2_with fail
  go_loopw [3, 8] (fun ft fi wr => ∃ (k S : Nat), fi = .int .i64 (k : Int) ∧ ft = .int .i64 (S : Int) ∧ Hid (S = (flat (ks.take k)).length) ∧ Hid (k ≤ M) ∧ Hid (Below w.heap.size w wr)) (fun _ fi _ => ((M : Int) - intOf fi).toNat)
  case atStart => exact ⟨0, 0, rfl, rfl, rfl, Nat.zero_le _, Below.refl _ _⟩
  case round =>
    obtain ⟨k, S, rfl, rfl, hS, hk, hB⟩ := hrel
    by_cases hkM : k < M
    · have hki : (k : Int) < (M : Int) := by omega
      have hk0 : (0 : Int) ≤ (k : Int) := by omega
      obtain ⟨x, hx⟩ : ∃ x, ks[k]? = some x := ⟨_, List.getElem?_eq_getElem (by rw [HM.out]; exact hkM)⟩
      obtain ⟨g, o, rfl, d0⟩ := EK.cell (HV.out.below hB.out) (i := k) (x := x.1) (by rw [List.getElem?_map, hx]; rfl)
      obtain ⟨h, m, hp⟩ := HK.out x (List.mem_of_getElem? hx)
      have hm := meth_count (hp.below hB.out)
      have HT : Hid (S + x.2.length = (flat (ks.take (k + 1))).length) := by show _ = _; rw [flat_take hx, List.length_append, hS.out]
      have hSx : S + x.2.length ≤ 10000 := by rw [HT.out]; exact HL.out _
      generalize x.2.length = n at *
      have HMt : Hid (Meth "regesta/tree.count" x.1 wr fun v w' => v = .int .i64 (n : Int) ∧ Below wr.heap.size wr w') := hm
      clear hx hp hm
      go_wp2_with (with_reducible refine upon_meth HMt.out ?_; rintro v1 w1 ⟨rfl, hB1⟩)
      go_roundw
      case rel => exact ⟨k + 1, S + n, by simp, by simp, HT.out, by show _ ≤ _; omega, bmore hB.out hB1⟩
      case measure => simp only [intOf]; omega
    · have hki : ¬ (k : Int) < (M : Int) := by omega
      obtain rfl : k = M := by have := hk.out; omega
      obtain rfl : S = (flat ks).length := by rw [hS.out, HA.out]
      go_wp2
      go_ret
      exact ⟨rfl, hB.out⟩
end Go.Proofs.YthfkmedpcmiibaaDoor.T
/-! ### Lists, one behind the other: slices.Grow, slices.Concat. -/
namespace Go.Proofs.YthfkmedpcmiibaaDoor.T
open Go.RowKit Go.Shelf
set_option maxRecDepth 100000
theorem wpList_append_ex {P : Program} {ops : Array Oper} {rest : List Oper} {o : Oper} {a : Act} {w : World} {Q : Exit → Act → World → Prop} (hgd : o.guard = none) (s x : Operand) (t : TypeId)
    (ho : o.op = .call { callee := .builtin .append, args := #[s, x], argTypes := #[t, t] }) (v y : Value) (hs : a.eval s = v) (hx : a.eval x = y) {R : Value → World → Prop} (hrun : ∃ u w', (Builtin.append_ #[t, t] o.type #[v, y]).run P w = .ok u w' ∧ R u w')
    (h : ∀ u w', R u w' → wpList P ops Q rest (a.put o.dst u) w') : wpList P ops Q (o :: rest) a w := by
  refine wpList_plain hgd fun K hK => ?_
  obtain ⟨u, w', h1, h2⟩ := hrun
  unfold Oper.wp execOp
  simp only [ho, resolve, invoke, builtin, Sem.run_bind, Sem.run_pure, Result.andThen_ok, List.map_toArray, List.map_cons, List.map_nil, hs, hx, h1]
  exact hK _ _ (h u w' h2)
section
variable {α : Type} {E : Ety α} {w w' : World} {L L' : List α}
/-- A row of one's own, from the block B on. -/
def RW (E : Ety α) (B : Nat) (w : World) (u : Value) (L : List α) : Prop := w.ownsRow B E.tE E.m u L.length (E.cells L)
theorem RW.nil (E : Ety α) (B : Nat) (w : World) : RW E B w (.slice none 0 0) [] := ⟨by simp [Ety.cells], .inl ⟨rfl, rfl⟩⟩
theorem RW.form {B : Nat} {u : Value} (h : RW E B w u L) : ∃ a c, u = .slice a L.length c ∧ L.length ≤ c := by
  rcases h.2 with ⟨rfl, hn⟩ | ⟨g, cap, cur, rfl, _, _, h4, _⟩
  · exact ⟨none, 0, by rw [hn], by omega⟩
  · exact ⟨_, _, rfl, h4⟩
theorem RW.read {B : Nat} {u : Value} (h : RW E B w u L) : LV E w u L := by
  rcases h.2 with ⟨rfl, hn⟩ | ⟨g, cap, cur, rfl, _, h3, h4, h5, h6, h7⟩
  · exact ⟨none, 0, by rw [hn], by omega, fun h => by omega⟩
  · refine ⟨_, cap, rfl, h4, fun _ => ⟨g, 0, cur.toList, rfl, h3, fun j u hu => ?_⟩⟩
    have hj := (List.getElem?_eq_some_iff.1 hu).1
    rw [cells_len] at hj
    rw [← h7, List.getElem?_take, if_pos (by omega)] at hu
    rw [Nat.zero_add]
    exact hu
theorem RW.at {B k : Nat} {u : Value} (h : RW E B w u L) (hk : u.ownBlock = some k) : B ≤ k ∧ k < w.heap.size := by
  rcases h.2 with ⟨rfl, _⟩ | ⟨g, cap, cur, rfl, h3, h4, _⟩
  · cases hk
  · cases hk; exact ⟨h3, (Array.getElem?_eq_some_iff.1 h4).1⟩
theorem rw_app {B : Nat} {u lv : Value} (hU : RW E B w u L) (hV : LV E w lv L') (hfew : L.length + L'.length ≤ 100000) (hB : B ≤ w.heap.size) : ∃ u' w', (Builtin.append_ #[E.tS, E.tS] E.tS #[u, lv]).run Tryd.prog w = .ok u' w' ∧ RW E B w' u' (L ++ L') ∧ Below B w w' := by
  obtain ⟨a, c, rfl, _, hat⟩ := hV
  obtain ⟨i, hi, hzz⟩ := Option.map_eq_some_iff.1 E.info
  simp only [Prod.mk.injEq] at hzz
  obtain ⟨hz, hs, hb⟩ := hzz
  have h32 := E.by32
  have hby : (L.length + L'.length) * E.bytes ≤ 140737488355328 := Nat.le_trans (Nat.mul_le_mul hfew h32) (by decide)
  by_cases h0 : L' = []
  · subst h0
    rw [List.append_nil]
    have hsrc : Src Tryd.prog i.size E.tS (.slice a 0 c) 0 [] w := by
      cases a with
      | none => exact Src.ofNil w E.und c
      | some a => exact Src.ofSlice w E.und a 0 c [] (by simp) (by simp) (by simp)
    obtain ⟨b, k, rfl, hnk⟩ := hU.form
    exact ⟨_, w, run_append_nothing w E.tS E.tS E.tS E.tE i E.und hi b _ k hnk _ hsrc, hU, Below.refl _ _⟩
  · have hpos : 0 < L'.length := List.length_pos_iff.2 h0
    obtain ⟨g, o, cs, rfl, hbk, hta⟩ := hat hpos
    obtain ⟨g', cap, w', q1, q2, q3, q4, q5⟩ := run_append_lies (P := Tryd.prog) w E.tS E.tS B E.tE i E.z E.m E.bytes E.und hi hz hs hb E.zs E.pos u L.length (E.cells L) hU ⟨g, o, none⟩ L'.length c (E.cells L') (cells_len E L') (news_of hbk hta) (cells_one E L') hpos (by unfold maxLen; omega) hby hB _ rfl
    refine ⟨_, w', q1, ?_, ⟨q3.os, q3.tape, q3.output, q3.size, fun k hk => q3.block k (by omega) fun e => by have := (hU.at e.symm).1; omega⟩⟩
    unfold RW
    rw [List.length_append, cells_app]
    exact q2
def GPost (E : Ety α) (w : World) (e : Ending) (w' : World) : Prop := ∃ v, e = .returned v ∧ RW E w.heap.size w' v [] ∧ Below w.heap.size w w'
/-- Lists behind slices that lie in a block. -/
abbrev Lt (α : Type) := Value × List α
def cat (ls : List (Lt α)) : List α := ls.flatMap (·.2)
structure Ls (E : Ety α) (w : World) (g : Nat) (ls : List (Lt α)) : Prop where
  cells : ∀ (i : Nat) (x : Lt α), ls[i]? = some x → w.cell? ⟨g, i, none⟩ = some x.1
  rl : ∀ x ∈ ls, LV E w x.1 x.2
theorem Ls.below {g : Nat} {ls : List (Lt α)} (h : Ls E w g ls) (k : Below w.heap.size w w') : Ls E w' g ls :=
  ⟨fun i x hx => (k.cell (p := ⟨g, i, none⟩) (World.block_lt_of_cell? w _ (h.cells i x hx))).trans (h.cells i x hx), fun x hx => (h.rl x hx).below k⟩
theorem cat_take {ls : List (Lt α)} {k : Nat} {x : Lt α} (h : ls[k]? = some x) : cat (ls.take (k + 1)) = cat (ls.take k) ++ x.2 := by
  unfold cat
  rw [List.take_add_one, h, List.flatMap_append]
  simp
theorem cat_le (ls : List (Lt α)) (k : Nat) : (cat (ls.take k)).length ≤ (cat ls).length := by
  conv => rhs; rw [← List.take_append_drop k ls]
  unfold cat
  rw [List.flatMap_append, List.length_append]
  omega
def CPost (E : Ety α) (w : World) (es : List α) (e : Ending) (w' : World) : Prop := ∃ v, e = .returned v ∧ LV E w' v es ∧ Below w.heap.size w w'
end
def Tryd.grow69_ren : Go.Shelf.Ren := ⟨fun | 4 => 64 | n => n, fun | 0 => 0 | 3 => 3 | 4 => 4 | 9 => 9 | 20 => 20 | 22 => 37 | 25 => 42 | n => n, fun | n => n⟩
theorem Tryd.grow69 : Go.Proofs.Lays8.n4 Tryd.prog Tryd.grow69_ren := {
  mixed := by kernel_rfl
  f4 := ⟨Tryd.f64.name, by decide, Tryd.func64.trans (congrArg some (by kernel_rfl))⟩
  t0 := Tryd.underlying0
  a0 := Tryd.isAgg0
  z0 := Tryd.sizeOf0
  v0 := Tryd.zeroValue0
  t3 := Tryd.underlying3
  a3 := Tryd.isAgg3
  z3 := Tryd.sizeOf3
  v3 := Tryd.zeroValue3
  t4 := Tryd.underlying4
  a4 := Tryd.isAgg4
  z4 := Tryd.sizeOf4
  v4 := Tryd.zeroValue4
  t9 := Tryd.underlying9
  a9 := Tryd.isAgg9
  z9 := Tryd.sizeOf9
  v9 := Tryd.zeroValue9
  t20 := Tryd.underlying20
  a20 := Tryd.isAgg20
  z20 := Tryd.sizeOf20
  v20 := Tryd.zeroValue20
  t22 := Tryd.underlying37
  a22 := Tryd.isAgg37
  z22 := Tryd.sizeOf37
  v22 := Tryd.zeroValue37 }
theorem grow69 (n : Nat) (hn : n ≤ 100000) (w : World) : Calls Tryd.prog 64 #[.slice none 0 0, .int .i64 (n : Int)] w (GPost EP w) := by
  by_cases h0 : n = 0
  · subst h0
    refine (Any8.slices_Grow_room Tryd.grow69 none 0 0 0 w (by omega) (by omega) (by omega) (by omega)).mono ?_
    rintro e w' ⟨rfl, rfl⟩
    exact ⟨_, rfl, RW.nil _ _ _, Below.refl _ _⟩
  · obtain ⟨i0, hi, hzz⟩ := Option.map_eq_some_iff.1 EP.info
    simp only [Prod.mk.injEq] at hzz
    obtain ⟨hz0, hz1, hz2⟩ := hzz
    have hc : EP.z.cells.size = 2 := rfl
    have hz3 : i0.bytes = 32 := hz2
    refine (Any8.slices_Grow_grow Tryd.grow69 i0 _ hi hz0 (by rw [hz1]; decide) none 0 0 n [] w (by omega) (by omega) (by rw [hz3]; omega) (by omega) (by simp) (fun _ => rfl) (fun a h => by cases h)).mono ?_
    rintro e w' ⟨rfl, rfl⟩
    have hge := grownCap_ge w (0 + n) 0 42
    have hle := grownCap_le_maxLen w (0 + n) 0 42 (by unfold maxLen; omega)
    refine ⟨_, rfl, ⟨rfl, .inr ⟨w.heap.size, grownCap w (0 + n) 0 42, _, rfl, Nat.le_refl _, World.alloc_heap_new w.drew _, Nat.zero_le _, hle, ?_, rfl⟩⟩, (Below.refl _ _).drew.alloc (Nat.le_refl _) _⟩
    have e25 : Tryd.grow69_ren.t 25 = 42 := rfl
    have hm : EP.m = 2 := rfl
    simp only [e25, hm, Array.size_append, size_zeroCells, hc]
    simp only [Nat.zero_add] at hge hle ⊢
    simp
    try omega
set_option maxHeartbeats 1000000 in
theorem concat64 {w : World} {g : Nat} {ls : List (Lt Pr)} (h : Ls EP w g ls) (hm : ls.length ≤ 10) (hn : (cat ls).length ≤ 1000) : Calls Tryd.prog 51 #[.slice (some ⟨g, 0, none⟩) ls.length ls.length] w (CPost EP w (cat ls)) := by
  have HLs : Hid (Ls EP w g ls) := h
  have HC : Hid (∀ k, (cat (ls.take k)).length ≤ 1000) := fun k => Nat.le_trans (cat_le ls k) hn
  obtain ⟨M, hM⟩ : ∃ M, ls.length = M := ⟨_, rfl⟩
  have HM : Hid (ls.length = M) := hM
  have HAll : Hid (cat (ls.take M) = cat ls) := by show _ = _; rw [← hM, List.take_length]
  rw [hM] at hm ⊢
  clear h hn hM
  go_enter Tryd.func51, Tryd.ntmps51
  go_wp2_with fail
  go_loopw [3, 11] (fun fs fi wr => ∃ (k S : Nat), fi = .int .i64 (k : Int) ∧ fs = .int .i64 (S : Int) ∧ Hid (k ≤ M) ∧ Hid (S = (cat (ls.take k)).length) ∧ Hid (wr = w)) (fun _ fi _ => ((M : Int) - intOf fi).toNat)
  case atStart => exact ⟨0, 0, rfl, rfl, Nat.zero_le _, rfl, rfl⟩
  case round =>
    obtain ⟨k, S, rfl, rfl, hk, hS, hw⟩ := hrel
    have hw' := hw.out
    subst hw'
    have hS1 : S ≤ 1000 := by rw [hS.out]; exact HC.out k
    by_cases hkM : k < M
    · have hki : (k : Int) < (M : Int) := by omega
      have hk0 : (0 : Int) ≤ (k : Int) := by omega
      obtain ⟨x, hx⟩ : ∃ x, ls[k]? = some x := ⟨_, List.getElem?_eq_getElem (by rw [HM.out]; exact hkM)⟩
      have d0 := HLs.out.cells k x hx
      obtain ⟨ax, cx, hxf⟩ := (HLs.out.rl x (List.mem_of_getElem? hx)).form
      rw [hxf] at d0
      have HT : Hid (S + x.2.length = (cat (ls.take (k + 1))).length) := by show _ = _; rw [cat_take hx, List.length_append, hS.out]
      have hSx : S + x.2.length ≤ 1000 := by rw [HT.out]; exact HC.out _
      generalize x.2.length = n at *
      have hnn : ¬ (((S : Int) + (n : Int)) < 0) := by omega
      clear hx hxf
      go_wp2_with fail
      go_roundw
      case rel => exact ⟨k + 1, S + n, by simp, by simp, by show _ ≤ _; omega, HT.out, (by first | rfl | trivial)⟩
      case measure => simp only [intOf]; omega
    · have hki : ¬ (k : Int) < (M : Int) := by omega
      obtain rfl : k = M := by have := hk.out; omega
      have k46 := grow69 S (by omega) wr
      go_wp2_with (go_at_call 64; (with_reducible refine k46.mono ?_); rintro e w1 ⟨v1, rfl, hO1, hB1⟩)
      have HO1 : Hid (RW EP wr.heap.size w1 v1 (cat (ls.take 0))) := hO1
      have HB1 : Hid _ := hB1
      obtain ⟨a1, c1, rfl⟩ : ∃ a c, v1 = .slice a 0 c := by obtain ⟨a, c, h, _⟩ := hO1.form; exact ⟨a, c, h⟩
      clear hO1 hB1 k46 hw
      generalize wr = w at *
      go_wp2_with fail
      go_loopw [6, 27] (fun fo fi wr => ∃ (j : Nat), fi = .int .i64 (j : Int) ∧ Hid (j ≤ k) ∧ Hid (RW EP w.heap.size wr fo (cat (ls.take j))) ∧ Hid (Below w.heap.size w wr)) (fun _ fi _ => ((k : Int) - intOf fi).toNat)
      case atStart => exact ⟨0, rfl, Nat.zero_le _, HO1.out, HB1.out⟩
      case round =>
        obtain ⟨j, rfl, hj, hO, hB⟩ := hrel
        by_cases hjM : j < k
        · have hji : (j : Int) < (k : Int) := by omega
          have hj0 : (0 : Int) ≤ (j : Int) := by omega
          obtain ⟨x, hx⟩ : ∃ x, ls[j]? = some x := ⟨_, List.getElem?_eq_getElem (by rw [HM.out]; exact hjM)⟩
          have d0 := (HLs.out.below hB.out).cells j x hx
          have hRx := (HLs.out.rl x (List.mem_of_getElem? hx)).below hB.out
          obtain ⟨ax, cx, hxf⟩ := hRx.form
          have hA := rw_app hO.out hRx (by have h1 := HC.out (j + 1); rw [cat_take hx, List.length_append] at h1; omega) hB.out.size
          rw [← cat_take hx] at hA
          rw [hxf] at d0 hA
          clear hx hxf hRx
          go_wp2_with (at_builtin; refine wpList_append_ex (by rfl) (.tmp 31) (.tmp 32) 37 (by rfl) _ _ (by rfl) (by rfl) hA ?_; rintro v7 w7 ⟨hO7, hB7⟩)
          go_roundw
          case rel => exact ⟨j + 1, by simp, by show _ ≤ _; omega, hO7, hB.out.trans hB7⟩
          case measure => simp only [intOf]; omega
        · have hji : ¬ (j : Int) < (k : Int) := by omega
          obtain rfl : j = k := by have := hj.out; omega
          go_wp2
          go_ret
          exact ⟨_, rfl, by rw [← HAll.out]; exact hO.out.read, hB.out⟩
def Tryd.grow73_ren : Go.Shelf.Ren := ⟨fun | 4 => 73 | n => n, fun | 0 => 0 | 3 => 3 | 4 => 4 | 9 => 9 | 20 => 20 | 22 => 47 | 25 => 42 | n => n, fun | n => n⟩
def Tryd.grow70_ren : Go.Shelf.Ren := ⟨fun | 4 => 65 | n => n, fun | 0 => 0 | 3 => 3 | 4 => 4 | 9 => 9 | 20 => 20 | 22 => 60 | 25 => 49 | n => n, fun | n => n⟩
theorem Tryd.grow70 : Go.Proofs.Lays8.n4 Tryd.prog Tryd.grow70_ren := {
  mixed := by kernel_rfl
  f4 := ⟨Tryd.f65.name, by decide, Tryd.func65.trans (congrArg some (by kernel_rfl))⟩
  t0 := Tryd.underlying0
  a0 := Tryd.isAgg0
  z0 := Tryd.sizeOf0
  v0 := Tryd.zeroValue0
  t3 := Tryd.underlying3
  a3 := Tryd.isAgg3
  z3 := Tryd.sizeOf3
  v3 := Tryd.zeroValue3
  t4 := Tryd.underlying4
  a4 := Tryd.isAgg4
  z4 := Tryd.sizeOf4
  v4 := Tryd.zeroValue4
  t9 := Tryd.underlying9
  a9 := Tryd.isAgg9
  z9 := Tryd.sizeOf9
  v9 := Tryd.zeroValue9
  t20 := Tryd.underlying20
  a20 := Tryd.isAgg20
  z20 := Tryd.sizeOf20
  v20 := Tryd.zeroValue20
  t22 := Tryd.underlying60
  a22 := Tryd.isAgg60
  z22 := Tryd.sizeOf60
  v22 := Tryd.zeroValue60 }
theorem grow70 (n : Nat) (hn : n ≤ 100000) (w : World) : Calls Tryd.prog 65 #[.slice none 0 0, .int .i64 (n : Int)] w (GPost EK w) := by
  by_cases h0 : n = 0
  · subst h0
    refine (Any8.slices_Grow_room Tryd.grow70 none 0 0 0 w (by omega) (by omega) (by omega) (by omega)).mono ?_
    rintro e w' ⟨rfl, rfl⟩
    exact ⟨_, rfl, RW.nil _ _ _, Below.refl _ _⟩
  · obtain ⟨i0, hi, hzz⟩ := Option.map_eq_some_iff.1 EK.info
    simp only [Prod.mk.injEq] at hzz
    obtain ⟨hz0, hz1, hz2⟩ := hzz
    have hc : EK.z.cells.size = 1 := rfl
    have hz3 : i0.bytes = 16 := hz2
    refine (Any8.slices_Grow_grow Tryd.grow70 i0 _ hi hz0 (by rw [hz1]; decide) none 0 0 n [] w (by omega) (by omega) (by rw [hz3]; omega) (by omega) (by simp) (fun _ => rfl) (fun a h => by cases h)).mono ?_
    rintro e w' ⟨rfl, rfl⟩
    have hge := grownCap_ge w (0 + n) 0 49
    have hle := grownCap_le_maxLen w (0 + n) 0 49 (by unfold maxLen; omega)
    refine ⟨_, rfl, ⟨rfl, .inr ⟨w.heap.size, grownCap w (0 + n) 0 49, _, rfl, Nat.le_refl _, World.alloc_heap_new w.drew _, Nat.zero_le _, hle, ?_, rfl⟩⟩, (Below.refl _ _).drew.alloc (Nat.le_refl _) _⟩
    have e25 : Tryd.grow70_ren.t 25 = 49 := rfl
    have hm : EK.m = 1 := rfl
    simp only [e25, hm, Array.size_append, size_zeroCells, hc]
    simp only [Nat.zero_add] at hge hle ⊢
    simp
    try omega
set_option maxHeartbeats 1000000 in
theorem concat66 {w : World} {g : Nat} {ls : List (Lt Bx)} (h : Ls EK w g ls) (hm : ls.length ≤ 10) (hn : (cat ls).length ≤ 1000) : Calls Tryd.prog 55 #[.slice (some ⟨g, 0, none⟩) ls.length ls.length] w (CPost EK w (cat ls)) := by
  have HLs : Hid (Ls EK w g ls) := h
  have HC : Hid (∀ k, (cat (ls.take k)).length ≤ 1000) := fun k => Nat.le_trans (cat_le ls k) hn
  obtain ⟨M, hM⟩ : ∃ M, ls.length = M := ⟨_, rfl⟩
  have HM : Hid (ls.length = M) := hM
  have HAll : Hid (cat (ls.take M) = cat ls) := by show _ = _; rw [← hM, List.take_length]
  rw [hM] at hm ⊢
  clear h hn hM
  go_enter Tryd.func55, Tryd.ntmps55
  go_wp2_with fail
  go_loopw [3, 11] (fun fs fi wr => ∃ (k S : Nat), fi = .int .i64 (k : Int) ∧ fs = .int .i64 (S : Int) ∧ Hid (k ≤ M) ∧ Hid (S = (cat (ls.take k)).length) ∧ Hid (wr = w)) (fun _ fi _ => ((M : Int) - intOf fi).toNat)
  case atStart => exact ⟨0, 0, rfl, rfl, Nat.zero_le _, rfl, rfl⟩
  case round =>
    obtain ⟨k, S, rfl, rfl, hk, hS, hw⟩ := hrel
    have hw' := hw.out
    subst hw'
    have hS1 : S ≤ 1000 := by rw [hS.out]; exact HC.out k
    by_cases hkM : k < M
    · have hki : (k : Int) < (M : Int) := by omega
      have hk0 : (0 : Int) ≤ (k : Int) := by omega
      obtain ⟨x, hx⟩ : ∃ x, ls[k]? = some x := ⟨_, List.getElem?_eq_getElem (by rw [HM.out]; exact hkM)⟩
      have d0 := HLs.out.cells k x hx
      obtain ⟨ax, cx, hxf⟩ := (HLs.out.rl x (List.mem_of_getElem? hx)).form
      rw [hxf] at d0
      have HT : Hid (S + x.2.length = (cat (ls.take (k + 1))).length) := by show _ = _; rw [cat_take hx, List.length_append, hS.out]
      have hSx : S + x.2.length ≤ 1000 := by rw [HT.out]; exact HC.out _
      generalize x.2.length = n at *
      have hnn : ¬ (((S : Int) + (n : Int)) < 0) := by omega
      clear hx hxf
      go_wp2_with fail
      go_roundw
      case rel => exact ⟨k + 1, S + n, by simp, by simp, by show _ ≤ _; omega, HT.out, (by first | rfl | trivial)⟩
      case measure => simp only [intOf]; omega
    · have hki : ¬ (k : Int) < (M : Int) := by omega
      obtain rfl : k = M := by have := hk.out; omega
      have k46 := grow70 S (by omega) wr
      go_wp2_with (go_at_call 65; (with_reducible refine k46.mono ?_); rintro e w1 ⟨v1, rfl, hO1, hB1⟩)
      have HO1 : Hid (RW EK wr.heap.size w1 v1 (cat (ls.take 0))) := hO1
      have HB1 : Hid _ := hB1
      obtain ⟨a1, c1, rfl⟩ : ∃ a c, v1 = .slice a 0 c := by obtain ⟨a, c, h, _⟩ := hO1.form; exact ⟨a, c, h⟩
      clear hO1 hB1 k46 hw
      generalize wr = w at *
      go_wp2_with fail
      go_loopw [6, 27] (fun fo fi wr => ∃ (j : Nat), fi = .int .i64 (j : Int) ∧ Hid (j ≤ k) ∧ Hid (RW EK w.heap.size wr fo (cat (ls.take j))) ∧ Hid (Below w.heap.size w wr)) (fun _ fi _ => ((k : Int) - intOf fi).toNat)
      case atStart => exact ⟨0, rfl, Nat.zero_le _, HO1.out, HB1.out⟩
      case round =>
        obtain ⟨j, rfl, hj, hO, hB⟩ := hrel
        by_cases hjM : j < k
        · have hji : (j : Int) < (k : Int) := by omega
          have hj0 : (0 : Int) ≤ (j : Int) := by omega
          obtain ⟨x, hx⟩ : ∃ x, ls[j]? = some x := ⟨_, List.getElem?_eq_getElem (by rw [HM.out]; exact hjM)⟩
          have d0 := (HLs.out.below hB.out).cells j x hx
          have hRx := (HLs.out.rl x (List.mem_of_getElem? hx)).below hB.out
          obtain ⟨ax, cx, hxf⟩ := hRx.form
          have hA := rw_app hO.out hRx (by have h1 := HC.out (j + 1); rw [cat_take hx, List.length_append] at h1; omega) hB.out.size
          rw [← cat_take hx] at hA
          rw [hxf] at d0 hA
          clear hx hxf hRx
          go_wp2_with (at_builtin; refine wpList_append_ex (by rfl) (.tmp 31) (.tmp 32) 60 (by rfl) _ _ (by rfl) (by rfl) hA ?_; rintro v7 w7 ⟨hO7, hB7⟩)
          go_roundw
          case rel => exact ⟨j + 1, by simp, by show _ ≤ _; omega, hO7, hB.out.trans hB7⟩
          case measure => simp only [intOf]; omega
        · have hji : ¬ (j : Int) < (k : Int) := by omega
          obtain rfl : j = k := by have := hj.out; omega
          go_wp2
          go_ret
          exact ⟨_, rfl, by rw [← HAll.out]; exact hO.out.read, hB.out⟩
end Go.Proofs.YthfkmedpcmiibaaDoor.T
/-! ### spliced, halved. -/
namespace Go.Proofs.YthfkmedpcmiibaaDoor.T
open Go.RowKit Go.Shelf
set_option maxRecDepth 100000
section
variable {α : Type} {E : Ety α} {w w' : World}
theorem ls_of {g : Nat} {ls : List (Lt α)} {t : TypeId} (hb : Blk w g (ls.map (·.1)) t) (h : ∀ x ∈ ls, LV E w x.1 x.2) : Ls E w g ls :=
  ⟨fun i x hx => by rw [hb.cell, List.getElem?_map, hx]; rfl, h⟩
theorem ls3 {x y z : Value} {A B C : List α} (hx : LV E w x A) (hy : LV E w y B) (hz : LV E w z C) (t : TypeId) : Ls E (w.alloc (.cells #[x, y, z] t)).drew w.heap.size [(x, A), (y, B), (z, C)] := by
  have hb : Below w.heap.size w (w.alloc (.cells #[x, y, z] t)).drew := (al w _).drew
  refine ls_of (t := t) (blk_new w [x, y, z] t) ?_
  intro q hq
  simp only [List.mem_cons, List.not_mem_nil, or_false] at hq
  rcases hq with rfl | rfl | rfl
  · exact hx.below hb
  · exact hy.below hb
  · exact hz.below hb
theorem ls2 {x y : Value} {A B : List α} (hx : LV E w x A) (hy : LV E w y B) (t : TypeId) : Ls E (w.alloc (.cells #[x, y] t)) w.heap.size [(x, A), (y, B)] := by
  have hb : Below w.heap.size w (w.alloc (.cells #[x, y] t)) := al w _
  refine ls_of (t := t) (blk_new w [x, y] t) ?_
  intro q hq
  simp only [List.mem_cons, List.not_mem_nil, or_false] at hq
  rcases hq with rfl | rfl
  · exact hx.below hb
  · exact hy.below hb
theorem CPost.base {es : List α} {e : Ending} {w1 : World} (h : CPost E w1 es e w') (hb : Below w.heap.size w w1) : CPost E w es e w' := by
  obtain ⟨v, h1, h2, h3⟩ := h
  exact ⟨v, h1, h2, bmore hb h3⟩
end
set_option maxHeartbeats 400000 in
theorem spliced53 {w : World} {l m : Value} {L M : List Pr} (hl : LV EP w l L) (hm : LV EP w m M) {i j : Nat} (hij : i ≤ j) (hj : j ≤ L.length) (hn : L.length + M.length ≤ 500) : Calls Tryd.prog 33 #[l, .int .i64 (i : Int), .int .i64 (j : Int), m] w (CPost EP w (L.take i ++ M ++ L.drop j)) := by
  obtain ⟨a, c, rfl⟩ := hl.form
  obtain ⟨a2, c2, rfl⟩ := hm.form
  have hcap := hl.cap.2
  have k64 : Calls Tryd.prog 51 #[.slice (some ⟨w.heap.size, 0, none⟩) 3 3] (w.alloc (.cells #[.slice a i c, .slice a2 M.length c2, .slice (if c = j then a else Option.map (fun x => x.add (j * 2)) a) (L.length - j) (c - j)] 37)).drew (CPost EP w (L.take i ++ M ++ L.drop j)) := by
    have hS := hl.sliced (k := j) hj
    rw [show j * EP.m = j * 2 by first | rfl | exact Nat.mul_one j] at hS
    have h := (concat64 (ls3 (hl.take (k := i) (by omega) c (by omega)) hm hS 37) (by simp) (by simp [cat]; omega)).mono fun _ _ h => CPost.base (w := w) h ((al w _).drew)
    simp only [cat, List.flatMap_cons, List.flatMap_nil, List.append_nil, ← List.append_assoc] at h
    exact h
  have hN : L.length ≤ 500 := by omega
  generalize L.take i ++ M ++ L.drop j = R at *
  generalize hLn : L.length = n at *
  generalize M.length = n2 at *
  clear hl hm hLn
  have i0 : (0 : Int) ≤ (i : Int) := by omega
  have i1 : (i : Int) ≤ (c : Int) := by omega
  have j0 : (0 : Int) ≤ (j : Int) := by omega
  have j1 : (j : Int) ≤ (n : Int) := by omega
  have j2 : (n : Int) ≤ (c : Int) := by omega
  have HA : Hid (∀ o : Obj, Below w.heap.size w (w.alloc o).drew) := fun o => (al w o).drew
  have hD : Below w.heap.size w w.drew := (Below.refl _ _).drew
  by_cases hcj : c = j
  · subst hcj
    simp only [if_true, Nat.sub_self, show n - c = 0 by omega] at k64
    go_enter Tryd.func33, Tryd.ntmps33
    go_wp2_with fail
    go_region_held3 (fun W' : World => Below w.heap.size w W') (first | exact hB1 | exact HA.out _ | exact hD) (first | (go_at_call 51; (with_reducible refine k64.mono ?_); rintro e w1 ⟨v1, rfl, hv1, hB1⟩))
    go_wp2
    go_ret
    exact ⟨_, rfl, hv1, hB1⟩
  · simp only [hcj, if_false] at k64
    go_enter Tryd.func33, Tryd.ntmps33
    go_wp2_with fail
    go_region_held3 (fun W' : World => Below w.heap.size w W') (first | exact hB1 | exact HA.out _ | exact hD) (first | (go_at_call 51; (with_reducible refine k64.mono ?_); rintro e w1 ⟨v1, rfl, hv1, hB1⟩))
    go_wp2
    go_ret
    exact ⟨_, rfl, hv1, hB1⟩
set_option maxHeartbeats 400000 in
theorem spliced55 {w : World} {l m : Value} {L M : List Bx} (hl : LV EK w l L) (hm : LV EK w m M) {i j : Nat} (hij : i ≤ j) (hj : j ≤ L.length) (hn : L.length + M.length ≤ 500) : Calls Tryd.prog 36 #[l, .int .i64 (i : Int), .int .i64 (j : Int), m] w (CPost EK w (L.take i ++ M ++ L.drop j)) := by
  obtain ⟨a, c, rfl⟩ := hl.form
  obtain ⟨a2, c2, rfl⟩ := hm.form
  have hcap := hl.cap.2
  have k64 : Calls Tryd.prog 55 #[.slice (some ⟨w.heap.size, 0, none⟩) 3 3] (w.alloc (.cells #[.slice a i c, .slice a2 M.length c2, .slice (if c = j then a else Option.map (fun x => x.add (j)) a) (L.length - j) (c - j)] 60)).drew (CPost EK w (L.take i ++ M ++ L.drop j)) := by
    have hS := hl.sliced (k := j) hj
    rw [show j * EK.m = j by first | rfl | exact Nat.mul_one j] at hS
    have h := (concat66 (ls3 (hl.take (k := i) (by omega) c (by omega)) hm hS 60) (by simp) (by simp [cat]; omega)).mono fun _ _ h => CPost.base (w := w) h ((al w _).drew)
    simp only [cat, List.flatMap_cons, List.flatMap_nil, List.append_nil, ← List.append_assoc] at h
    exact h
  have hN : L.length ≤ 500 := by omega
  generalize L.take i ++ M ++ L.drop j = R at *
  generalize hLn : L.length = n at *
  generalize M.length = n2 at *
  clear hl hm hLn
  have i0 : (0 : Int) ≤ (i : Int) := by omega
  have i1 : (i : Int) ≤ (c : Int) := by omega
  have j0 : (0 : Int) ≤ (j : Int) := by omega
  have j1 : (j : Int) ≤ (n : Int) := by omega
  have j2 : (n : Int) ≤ (c : Int) := by omega
  have HA : Hid (∀ o : Obj, Below w.heap.size w (w.alloc o).drew) := fun o => (al w o).drew
  have hD : Below w.heap.size w w.drew := (Below.refl _ _).drew
  by_cases hcj : c = j
  · subst hcj
    simp only [if_true, Nat.sub_self, show n - c = 0 by omega] at k64
    go_enter Tryd.func36, Tryd.ntmps36
    go_wp2_with fail
    go_region_held3 (fun W' : World => Below w.heap.size w W') (first | exact hB1 | exact HA.out _ | exact hD) (first | (go_at_call 55; (with_reducible refine k64.mono ?_); rintro e w1 ⟨v1, rfl, hv1, hB1⟩))
    go_wp2
    go_ret
    exact ⟨_, rfl, hv1, hB1⟩
  · simp only [hcj, if_false] at k64
    go_enter Tryd.func36, Tryd.ntmps36
    go_wp2_with fail
    go_region_held3 (fun W' : World => Below w.heap.size w W') (first | exact hB1 | exact HA.out _ | exact hD) (first | (go_at_call 55; (with_reducible refine k64.mono ?_); rintro e w1 ⟨v1, rfl, hv1, hB1⟩))
    go_wp2
    go_ret
    exact ⟨_, rfl, hv1, hB1⟩
end Go.Proofs.YthfkmedpcmiibaaDoor.T
/-! ### halved, leaves, inners, innerOf. -/
namespace Go.Proofs.YthfkmedpcmiibaaDoor.T
open Go.RowKit Go.Shelf
set_option maxRecDepth 100000
section
variable {α : Type}
/-- A list in one piece, or in two. -/
def halves (l : List α) : List (List α) := if l.length ≤ 8 then [l] else [l.take (l.length / 2), l.drop (l.length / 2)]
def HPost (E : Ety α) (w : World) (l : List α) (e : Ending) (w' : World) : Prop := ∃ g ls, e = .returned (.slice (some ⟨g, 0, none⟩) ls.length ls.length) ∧ Ls E w' g ls ∧ ls.map (·.2) = halves l ∧ Below w.heap.size w w'
end
set_option maxHeartbeats 400000 in
theorem halved63 {w : World} {l : Value} {L : List Pr} (hl : LV EP w l L) (hn : L.length ≤ 500) : Calls Tryd.prog 50 #[l] w (HPost EP w L) := by
  obtain ⟨a, c, rfl⟩ := hl.form
  have hcap := hl.cap.2
  by_cases h8 : L.length ≤ 8
  · have hP : ∀ W, W = (w.alloc (.cells #[.slice a L.length c] 37)) → HPost EP w L (.returned (.slice (some ⟨w.heap.size, 0, none⟩) 1 1)) W := fun W hW => by
      subst hW
      refine ⟨w.heap.size, [(.slice a L.length c, L)], rfl, ls_of (t := 37) (blk_new w [.slice a L.length c] 37) ?_, by simp [halves, h8], al w _⟩
      intro q hq
      simp only [List.mem_cons, List.not_mem_nil, or_false] at hq
      subst hq
      exact hl.below (al w _)
    have HP : Hid _ := hP
    have h8' : (L.length : Int) ≤ 8 := by omega
    generalize L.length = n at *
    clear hl hP
    go_enter Tryd.func50, Tryd.ntmps50
    go_wp2
    go_ret
    exact HP.out _ rfl
  · obtain ⟨m, hm⟩ : ∃ m, m = L.length / 2 := ⟨_, rfl⟩
    have hS := hl.sliced (k := m) (by omega)
    rw [show m * EP.m = m * 2 from rfl, if_neg (by omega)] at hS
    have hP : ∀ W, W = ((w.alloc (.cells #[.slice a m c, .slice (Option.map (fun x => x.add (m * 2)) a) (L.length - m) (c - m)] 37)).drew) → HPost EP w L (.returned (.slice (some ⟨w.heap.size, 0, none⟩) 2 2)) W := fun W hW => by
      subst hW
      have hb := (al w (.cells #[.slice a m c, .slice (Option.map (fun x => x.add (m * 2)) a) (L.length - m) (c - m)] 37)).drew
      refine ⟨w.heap.size, [(.slice a m c, L.take m), (.slice (Option.map (fun x => x.add (m * 2)) a) (L.length - m) (c - m), L.drop m)], rfl, ls_of (t := 37) (blk_new w [.slice a m c, .slice (Option.map (fun x => x.add (m * 2)) a) (L.length - m) (c - m)] 37) ?_, by simp [halves, h8, hm], hb⟩
      intro q hq
      simp only [List.mem_cons, List.not_mem_nil, or_false] at hq
      rcases hq with rfl | rfl
      · exact (hl.take (k := m) (by omega) c (by omega)).below hb
      · exact hS.below hb
    have HP : Hid _ := hP
    have h8' : ¬ (L.length : Int) ≤ 8 := by omega
    have hq : (L.length : Int).tdiv 2 = (m : Int) := by rw [hm, Int.tdiv_eq_ediv_of_nonneg (by omega)]; omega
    have hw : wrap64 (m : Int) = (m : Int) := IntWalk.wrap64_in _ (by omega)
    have hw2 : IntKind.i64.wrap (m : Int) = (m : Int) := (IntWalk.i64_left _).trans hw
    have m0 : (0 : Int) ≤ (m : Int) := by omega
    have m1 : (m : Int) ≤ (L.length : Int) := by omega
    have m2 : (L.length : Int) ≤ (c : Int) := by omega
    have m3 : (m : Int) ≤ (c : Int) := by omega
    have m4 : ¬ (c = m) := by omega
    have HM : Hid _ := hm
    generalize L.length = n at *
    clear hl hP hS hm
    go_enter Tryd.func50, Tryd.ntmps50
    go_wp2_with fail
    go_region_held3 (fun W' : World => w.heap.size ≤ W'.heap.size) (simp) (fail)
    go_wp2
    go_ret
    exact HP.out _ rfl
set_option maxHeartbeats 400000 in
theorem halved65 {w : World} {l : Value} {L : List Bx} (hl : LV EK w l L) (hn : L.length ≤ 500) : Calls Tryd.prog 54 #[l] w (HPost EK w L) := by
  obtain ⟨a, c, rfl⟩ := hl.form
  have hcap := hl.cap.2
  by_cases h8 : L.length ≤ 8
  · have hP : ∀ W, W = (w.alloc (.cells #[.slice a L.length c] 60)) → HPost EK w L (.returned (.slice (some ⟨w.heap.size, 0, none⟩) 1 1)) W := fun W hW => by
      subst hW
      refine ⟨w.heap.size, [(.slice a L.length c, L)], rfl, ls_of (t := 60) (blk_new w [.slice a L.length c] 60) ?_, by simp [halves, h8], al w _⟩
      intro q hq
      simp only [List.mem_cons, List.not_mem_nil, or_false] at hq
      subst hq
      exact hl.below (al w _)
    have HP : Hid _ := hP
    have h8' : (L.length : Int) ≤ 8 := by omega
    generalize L.length = n at *
    clear hl hP
    go_enter Tryd.func54, Tryd.ntmps54
    go_wp2
    go_ret
    exact HP.out _ rfl
  · obtain ⟨m, hm⟩ : ∃ m, m = L.length / 2 := ⟨_, rfl⟩
    have hS := hl.sliced (k := m) (by omega)
    rw [show m * EK.m = m from Nat.mul_one m, if_neg (by omega)] at hS
    have hP : ∀ W, W = ((w.alloc (.cells #[.slice a m c, .slice (Option.map (fun x => x.add (m)) a) (L.length - m) (c - m)] 60)).drew) → HPost EK w L (.returned (.slice (some ⟨w.heap.size, 0, none⟩) 2 2)) W := fun W hW => by
      subst hW
      have hb := (al w (.cells #[.slice a m c, .slice (Option.map (fun x => x.add (m)) a) (L.length - m) (c - m)] 60)).drew
      refine ⟨w.heap.size, [(.slice a m c, L.take m), (.slice (Option.map (fun x => x.add (m)) a) (L.length - m) (c - m), L.drop m)], rfl, ls_of (t := 60) (blk_new w [.slice a m c, .slice (Option.map (fun x => x.add (m)) a) (L.length - m) (c - m)] 60) ?_, by simp [halves, h8, hm], hb⟩
      intro q hq
      simp only [List.mem_cons, List.not_mem_nil, or_false] at hq
      rcases hq with rfl | rfl
      · exact (hl.take (k := m) (by omega) c (by omega)).below hb
      · exact hS.below hb
    have HP : Hid _ := hP
    have h8' : ¬ (L.length : Int) ≤ 8 := by omega
    have hq : (L.length : Int).tdiv 2 = (m : Int) := by rw [hm, Int.tdiv_eq_ediv_of_nonneg (by omega)]; omega
    have hw : wrap64 (m : Int) = (m : Int) := IntWalk.wrap64_in _ (by omega)
    have hw2 : IntKind.i64.wrap (m : Int) = (m : Int) := (IntWalk.i64_left _).trans hw
    have m0 : (0 : Int) ≤ (m : Int) := by omega
    have m1 : (m : Int) ≤ (L.length : Int) := by omega
    have m2 : (L.length : Int) ≤ (c : Int) := by omega
    have m3 : (m : Int) ≤ (c : Int) := by omega
    have m4 : ¬ (c = m) := by omega
    have HM : Hid _ := hm
    generalize L.length = n at *
    clear hl hP hS hm
    go_enter Tryd.func54, Tryd.ntmps54
    go_wp2_with fail
    go_region_held3 (fun W' : World => w.heap.size ≤ W'.heap.size) (simp) (fail)
    go_wp2
    go_ret
    exact HP.out _ rfl
end Go.Proofs.YthfkmedpcmiibaaDoor.T
/-! ### leaves, inners, innerOf. -/
namespace Go.Proofs.YthfkmedpcmiibaaDoor.T
open Go.RowKit Go.Shelf
set_option maxRecDepth 100000
/-- One or two parts that hold these pairs. -/
def SPost (w : World) (h lo : Nat) (kv : List Pr) (e : Ending) (w' : World) : Prop := ∃ v, e = .returned v ∧ Below w.heap.size w w' ∧
  ((∃ (p : Kd) (n : Nat), LV EK w' v [p.1] ∧ p.2 = kv ∧ Part w' h n p.1 p.2 ∧ lo ≤ n ∧ n ≤ 8) ∨
   (∃ (p q : Kd) (m n : Nat), LV EK w' v [p.1, q.1] ∧ p.2 ++ q.2 = kv ∧ Part w' h m p.1 p.2 ∧ Part w' h n q.1 q.2 ∧ 4 ≤ m ∧ m ≤ 8 ∧ 4 ≤ n ∧ n ≤ 8))
theorem SPost.base {w w1 w' : World} {h lo : Nat} {kv : List Pr} {e : Ending} (k : SPost w1 h lo kv e w') (b : Below w.heap.size w w1) : SPost w h lo kv e w' := by
  obtain ⟨v, h1, h2, h3⟩ := k
  exact ⟨v, h1, bmore b h2, h3⟩
theorem spost_of {α : Type} (pr : List α → List Pr) (hpr : ∀ A B, pr (A ++ B) = pr A ++ pr B) {l : List α} (h16 : l.length ≤ 16) {w w' : World} {h : Nat} {v : Value} {ps : List Bx} (hlen : ps.length = (halves l).length) (hv : LV EK w' v ps)
    (hP : ∀ (i : Nat) (x : Bx) (kp : List α), ps[i]? = some x → (halves l)[i]? = some kp → Part w' h kp.length x (pr kp)) (hB : Below w.heap.size w w') : SPost w h l.length (pr l) (.returned v) w' := by
  refine ⟨v, rfl, hB, ?_⟩
  unfold halves at hlen hP
  by_cases h8 : l.length ≤ 8
  · rw [if_pos h8] at hlen hP
    match ps, hlen with
    | [x], _ => exact .inl ⟨(x, pr l), l.length, hv, rfl, hP 0 x l rfl rfl, Nat.le_refl _, h8⟩
  · rw [if_neg h8] at hlen hP
    match ps, hlen with
    | [x, y], _ =>
      have h1 := hP 0 x _ rfl rfl
      have h2 := hP 1 y _ rfl rfl
      refine .inr ⟨(x, _), (y, _), _, _, hv, ?_, h1, h2, ?_, ?_, ?_, ?_⟩
      · show pr _ ++ pr _ = pr l
        rw [← hpr, List.take_append_drop]
      · rw [List.length_take]; omega
      · rw [List.length_take]; omega
      · rw [List.length_drop]; omega
      · rw [List.length_drop]; omega
theorem halves_len {α : Type} (l : List α) : (halves l).length ≤ 2 := by unfold halves; split <;> simp
theorem halves_map {α β : Type} (f : α → β) (l : List α) : halves (l.map f) = (halves l).map (List.map f) := by
  unfold halves
  rw [List.length_map]
  split <;> simp [List.map_take, List.map_drop]
theorem app_one {B : Nat} {w : World} {u : Value} {L : List Bx} (hU : RW EK B w u L) (x : Bx) (hfew : L.length ≤ 1000) (hB : B ≤ w.heap.size) : ∃ u' w', (Builtin.append_ #[60, 60] 60 #[u, .slice (some ⟨w.heap.size, 0, none⟩) 1 1]).run Tryd.prog (w.alloc (.cells #[.iface x.1 x.2] 49)) = .ok u' w' ∧ RW EK B w' u' (L ++ [x]) ∧ Below B w w' := by
  have hb : Blk (w.alloc (.cells #[.iface x.1 x.2] 49)) w.heap.size (EK.cells [x]) 49 := blk_new w [.iface x.1 x.2] 49
  have hU' : RW EK B (w.alloc (.cells #[.iface x.1 x.2] 49)) u L := by
    refine ⟨hU.1, hU.2.imp id ?_⟩
    rintro ⟨g, cap, cur, h1, h2, h3, h4⟩
    exact ⟨g, cap, cur, h1, h2, (Below.heap_alloc _ _ _ (Array.getElem?_eq_some_iff.1 h3).1).trans h3, h4⟩
  obtain ⟨u', w', h1, h2, h3⟩ := rw_app hU' (lv_blk EK hb 1 (by simp)) (by simp; omega) (by simp; omega)
  exact ⟨u', w', h1, h2, ((al w _).mono hB).trans h3⟩
set_option maxHeartbeats 1000000 in
theorem leaves52 {w : World} {l : Value} {L : List Pr} (hl : LV EP w l L) (hn : L.length ≤ 16) : Calls Tryd.prog 32 #[l] w (SPost w 0 L.length L) := by
  have k63 := halved63 hl (by omega)
  have HN : Hid (L.length ≤ 16) := hn
  obtain ⟨a, c, rfl⟩ := hl.form
  generalize hLn : L.length = n at *
  have HLn : Hid (L.length = n) := hLn
  clear hl hn hLn
  go_enter Tryd.func32, Tryd.ntmps32
  go_wp2_with (go_at_call 50; (with_reducible refine k63.mono ?_); rintro e w1 ⟨g, ls, rfl, HS, HE, HB1⟩)
  have HS : Hid (Ls EP w1 g ls) := HS
  have HE : Hid (ls.map (·.2) = halves L) := HE
  have HB1 : Hid (Below w.heap.size w w1) := HB1
  have hM2 : ls.length ≤ 2 := by
    have h1 := congrArg List.length HE.out
    rw [List.length_map] at h1
    have h2 := halves_len L
    omega
  generalize hM : ls.length = M at *
  have HM : Hid (ls.length = M) := hM
  clear hM k63
  go_wp2_with fail
  go_loopw [3, 9] (fun fo fi wr => ∃ (j : Nat), fi = .int .i64 (j : Int) ∧ Hid (j ≤ M) ∧ Hid (RW EK w1.heap.size wr fo ((ls.take j).map fun x => (47, x.1))) ∧ Hid (Below w1.heap.size w1 wr)) (fun _ fi _ => ((M : Int) - intOf fi).toNat)
  case atStart => exact ⟨0, rfl, Nat.zero_le _, RW.nil _ _ _, Below.refl _ _⟩
  case round =>
    obtain ⟨j, rfl, hj, hO, hB⟩ := hrel
    by_cases hjM : j < M
    · have hji : (j : Int) < (M : Int) := by omega
      have hj0 : (0 : Int) ≤ (j : Int) := by omega
      obtain ⟨x, hx⟩ : ∃ x, ls[j]? = some x := ⟨_, List.getElem?_eq_getElem (by rw [HM.out]; exact hjM)⟩
      have d0 := (HS.out.below hB.out).cells j x hx
      obtain ⟨ax, cx, hxf⟩ := (HS.out.rl x (List.mem_of_getElem? hx)).form
      have hA := app_one hO.out (47, x.1) (by rw [List.length_map, List.length_take, HM.out]; omega) hB.out.size
      have e1 : ((ls.take j).map fun x => ((47, x.1) : Bx)) ++ [(47, x.1)] = (ls.take (j + 1)).map fun x => ((47, x.1) : Bx) := by rw [List.take_add_one, hx, List.map_append]; rfl
      rw [e1] at hA
      rw [hxf] at d0 hA
      clear hx hxf e1
      go_wp2_with (at_builtin; refine wpList_append_ex (by rfl) (.tmp 13) (.tmp 16) 60 (by rfl) _ _ (by rfl) (by rfl) hA ?_; rintro v7 w7 ⟨hO7, hB7⟩)
      go_roundw
      case rel => exact ⟨j + 1, by simp, by show _ ≤ _; omega, hO7, hB.out.trans hB7⟩
      case measure => simp only [intOf]; omega
    · have hji : ¬ (j : Int) < (M : Int) := by omega
      obtain rfl : j = M := by have := hj.out; omega
      have HR : Hid (∀ v, RW EK w1.heap.size wr v ((ls.take j).map fun x => (47, x.1)) → SPost w 0 n L (.returned v) wr) := fun v hv => by
        rw [← HLn.out]
        have hlen : ls.length = (halves L).length := by rw [← HE.out, List.length_map]
        rw [← HM.out, List.take_length] at hv
        refine spost_of id (fun _ _ => rfl) (by rw [HLn.out]; exact HN.out) (by rw [List.length_map, hlen]) hv.read ?_ (bmore HB1.out hB.out)
        intro i x kp hx hkp
        rw [← HE.out, List.getElem?_map] at hkp
        rw [List.getElem?_map] at hx
        obtain ⟨y, hy, rfl⟩ := Option.map_eq_some_iff.1 hkp
        rw [hy] at hx
        cases hx
        exact ⟨rfl, (HS.out.rl y (List.mem_of_getElem? hy)).below hB.out, rfl⟩
      go_wp2
      go_ret
      exact HR.out _ hO.out
theorem Blk.c3 {W : World} {b : Nat} {x y z : Value} {t : TypeId} (h : Blk W b [x, y, z] t) : W.cell? ⟨b, 0, none⟩ = some x ∧ W.cell? ⟨b, 1, none⟩ = some y ∧ W.cell? ⟨b, 2, none⟩ = some z ∧ W.frozen? ⟨b, 0, none⟩ = false ∧ W.frozen? ⟨b, 1, none⟩ = false ∧ W.frozen? ⟨b, 2, none⟩ = false := ⟨h.cell 0, h.cell 1, h.cell 2, h.frozen 0, h.frozen 1, h.frozen 2⟩
def OPost (w : World) (v : Value) (kv : List Pr) (e : Ending) (w' : World) : Prop := e = .returned (.agg #[v, .string (fst kv), .int .i64 (kv.length : Int)]) ∧ Below w.heap.size w w'
theorem fst_flat {x : Kd} {l : List Kd} (h : 0 < x.2.length) : fst (flat (x :: l)) = fst x.2 := by
  unfold flat fst
  cases hx : x.2 with
  | nil => rw [hx] at h; simp at h
  | cons a b => simp [hx]
set_option maxHeartbeats 1000000 in
theorem innerOf44 {w : World} {v : Value} {ks : List Kd} (hv : LV EK w v (ks.map (·.1))) (hk : ∀ k ∈ ks, ∃ h m, 0 < m ∧ Part w h m k.1 k.2) (hl : (flat ks).length ≤ 10000) (hn : ks.length ≤ 1000) (h0 : 0 < ks.length) : Calls Tryd.prog 18 #[v] w (OPost w v (flat ks)) := by
  have HK : Hid (∀ W, Below w.heap.size w W → Calls Tryd.prog 37 #[v] W fun e w' => e = .returned (.int .i64 ((flat ks).length : Int)) ∧ Below W.heap.size W w') := fun W hW => counted50 (hv.below hW) (fun k hk' => by obtain ⟨h, m, _, hp⟩ := hk k hk'; exact ⟨h, m, hp.below hW⟩) hl hn
  obtain ⟨a, c, rfl⟩ := hv.form
  match ks, h0 with
  | x :: l, _ =>
    obtain ⟨g, o, rfl, d0⟩ := EK.cell (hv.below (al w (.cells #[.slice none 0 0, .string { data := #[] }, .int .i64 0] 63))) (i := 0) (x := x.1) rfl
    obtain ⟨h, m, hm0, hp⟩ := hk x (by simp)
    have hp0 : 0 < x.2.length := Nat.lt_of_lt_of_le hm0 hp.len
    have hm := meth_first (hp.below (al w (.cells #[.slice none 0 0, .string { data := #[] }, .int .i64 0] 63))) hp0
    have HF : Hid (fst (flat (x :: l)) = fst x.2) := fst_flat hp0
    have HMt : Hid (Meth "regesta/tree.first" x.1 (w.alloc (.cells #[.slice none 0 0, .string { data := #[] }, .int .i64 0] 63)) fun v w' => v = .string (fst (flat (x :: l))) ∧ Below (w.alloc (.cells #[.slice none 0 0, .string { data := #[] }, .int .i64 0] 63)).heap.size (w.alloc (.cells #[.slice none 0 0, .string { data := #[] }, .int .i64 0] 63)) w') := by rw [HF.out]; exact hm
    have hlen : (0 : Int) < ((List.map (fun x => x.fst) (x :: l)).length : Int) := by rw [List.length_map, List.length_cons]; omega
    generalize (List.map (fun x => x.fst) (x :: l)).length = M at *
    generalize hN : (flat (x :: l)).length = n at *
    have HNn : Hid ((flat (x :: l)).length = n) := hN
    generalize hs : fst (flat (x :: l)) = s at *
    have HFs : Hid (fst (flat (x :: l)) = s) := hs
    have hb0 := blk_new w [.slice none 0 0, .string { data := #[] }, .int .i64 0] 63
    have HBk : Hid (Blk (w.alloc (.cells #[.slice none 0 0, .string { data := #[] }, .int .i64 0] 63)) w.heap.size [.slice none 0 0, .string { data := #[] }, .int .i64 0] 63) := hb0
    rw [Nat.add_zero] at d0
    clear hv hk hp hm hb0 hN hs
    go_enter Tryd.func18, Tryd.ntmps18
    go_wp2_with (first
      | (with_reducible refine upon_meth HMt.out ?_; rintro v1 w1 ⟨rfl, hB1⟩; have k50 := HK.out w1 (bmore (al w _) hB1); have hBk1 := HBk.out.below hB1)
      | (go_at_call 37; (with_reducible refine k50.mono ?_); rintro e w2 ⟨rfl, hB2⟩; obtain ⟨e0, e1, e2, f0, f1, f2⟩ := Blk.c3 (hBk1.below hB2); have HB2 : Hid _ := bmore (bmore (al w _) hB1) hB2))
    have hbk3 := Blk.set (o := 2) (Blk.set (o := 1) (Blk.set (o := 0) (hBk1.below hB2) (.slice (some ⟨g, o, none⟩) M c)) (.string s)) (.int .i64 (n : Int))
    refine bodyPost_ret (results_cell rfl _ _ _ w.heap.size [.slice (some ⟨g, o, none⟩) M c, .string s, .int .i64 (n : Int)] 63 hbk3 rfl _ Tryd.underlying63 rfl (by kernel_rfl)) rfl ⟨by rw [HFs.out, HNn.out], bset (bset (bset HB2.out (Nat.le_refl _) _) (Nat.le_refl _) _) (Nat.le_refl _) _⟩
end Go.Proofs.YthfkmedpcmiibaaDoor.T
/-! ### inners. -/
namespace Go.Proofs.YthfkmedpcmiibaaDoor.T
open Go.RowKit Go.Shelf
set_option maxRecDepth 100000
theorem flat_app (A B : List Kd) : flat (A ++ B) = flat A ++ flat B := by simp [flat]
theorem halves_sub {α : Type} {l kp : List α} (h : kp ∈ halves l) : ∀ x ∈ kp, x ∈ l := by
  unfold halves at h
  intro x hx
  split at h
  · simp at h; subst h; exact hx
  · simp at h
    rcases h with rfl | rfl
    · exact List.mem_of_mem_take hx
    · exact List.mem_of_mem_drop hx
theorem halves_pos {α : Type} {l kp : List α} (h : kp ∈ halves l) (h0 : 0 < l.length) : 0 < kp.length ∧ kp.length ≤ l.length := by
  unfold halves at h
  split at h
  · simp at h; subst h; omega
  · simp at h
    rcases h with rfl | rfl
    · rw [List.length_take]; omega
    · rw [List.length_drop]; omega
theorem halves_flat {ks kp : List Kd} (h : kp ∈ halves ks) : (flat kp).length ≤ (flat ks).length := by
  unfold halves at h
  split at h
  · simp at h; subst h; omega
  · simp at h
    rcases h with rfl | rfl
    · exact flat_le _ _
    · conv => rhs; rw [← List.take_append_drop (ks.length / 2) ks]
      rw [flat_app, List.length_append]
      omega
/-- Kids of one height, each with enough. -/
def Kids (w : World) (h : Nat) (ks : List Kd) : Prop := ∀ k ∈ ks, ∃ m, 4 ≤ m ∧ m ≤ 8 ∧ Part w h m k.1 k.2
theorem Kids.below {w w' : World} (b : Below w.heap.size w w') {h : Nat} {ks : List Kd} (k : Kids w h ks) : Kids w' h ks := fun x hx => by
  obtain ⟨m, h1, h2, h3⟩ := k x hx
  exact ⟨m, h1, h2, h3.below b⟩
set_option maxHeartbeats 1000000 in
theorem inners54 {w : World} {h : Nat} {l : Value} {ks : List Kd} (hl : LV EK w l (ks.map (·.1))) (hk : Kids w h ks) (hn : ks.length ≤ 16) (h0 : 0 < ks.length) (hf : (flat ks).length ≤ 10000) : Calls Tryd.prog 35 #[l] w (SPost w (h + 1) ks.length (flat ks)) := by
  have k63 := halved65 hl (by rw [List.length_map]; omega)
  have HN : Hid (ks.length ≤ 16) := hn
  have H0 : Hid (0 < ks.length) := h0
  have HK : Hid (Kids w h ks) := hk
  have HF : Hid ((flat ks).length ≤ 10000) := hf
  obtain ⟨a, c, rfl⟩ := hl.form
  generalize (ks.map (·.1)).length = n0 at *
  clear hl hn hk h0 hf
  go_enter Tryd.func35, Tryd.ntmps35
  go_wp2_with (go_at_call 54; (with_reducible refine k63.mono ?_); rintro e w1 ⟨g, ls, rfl, HS, HE, HB1⟩)
  have HS : Hid (Ls EK w1 g ls) := HS
  have HE : Hid (ls.map (·.2) = (halves ks).map (List.map (·.1))) := by show _ = _; rw [HE, halves_map]
  have HB1 : Hid (Below w.heap.size w w1) := HB1
  have hMl : ls.length = (halves ks).length := by
    have h1 := congrArg List.length HE.out
    rwa [List.length_map, List.length_map] at h1
  have HMl : Hid _ := hMl
  have hM2 : ls.length ≤ 2 := by rw [hMl]; exact halves_len ks
  generalize hM : ls.length = M at *
  have HM : Hid (ls.length = M) := hM
  clear hM k63 hMl
  go_wp2_with fail
  go_loopw [3, 9] (fun fo fi wr => ∃ (j : Nat) (ps : List Bx), fi = .int .i64 (j : Int) ∧ Hid (j ≤ M) ∧ Hid (RW EK w1.heap.size wr fo ps) ∧ Hid (ps.length = j) ∧ Hid (∀ (i : Nat) (x : Bx) (kp : List Kd), ps[i]? = some x → (halves ks)[i]? = some kp → Part w1 (h + 1) kp.length x (flat kp)) ∧ Hid (Below w1.heap.size w1 wr)) (fun _ fi _ => ((M : Int) - intOf fi).toNat)
  case atStart => exact ⟨0, [], rfl, Nat.zero_le _, RW.nil _ _ _, rfl, (fun i x kp hx => by cases hx), Below.refl _ _⟩
  case round =>
    obtain ⟨j, ps, rfl, hj, hO, hps, hPt, hB⟩ := hrel
    by_cases hjM : j < M
    · have hji : (j : Int) < (M : Int) := by omega
      have hj0 : (0 : Int) ≤ (j : Int) := by omega
      obtain ⟨x, hx⟩ : ∃ x, ls[j]? = some x := ⟨_, List.getElem?_eq_getElem (by rw [HM.out]; exact hjM)⟩
      obtain ⟨kp, hkp⟩ : ∃ kp, (halves ks)[j]? = some kp := ⟨_, List.getElem?_eq_getElem (by rw [← HMl.out]; exact hjM)⟩
      have hxk : x.2 = kp.map (·.1) := by
        have h1 := congrArg (fun l => l[j]?) HE.out
        simp only [List.getElem?_map, hx, hkp] at h1
        simpa using h1
      have hmem := List.mem_of_getElem? hkp
      have d0 := (HS.out.below hB.out).cells j x hx
      have hV := (HS.out.rl x (List.mem_of_getElem? hx)).below hB.out
      rw [hxk] at hV
      have hKp : Kids wr h kp := fun k hk => (HK.out.below (bmore HB1.out hB.out)) k (halves_sub hmem k hk)
      have k44 := innerOf44 hV (fun k hk => by obtain ⟨m, q1, _, q3⟩ := hKp k hk; exact ⟨h, m, by omega, q3⟩) (Nat.le_trans (halves_flat hmem) HF.out) (by have := (halves_pos hmem H0.out).2; have := HN.out; omega) (halves_pos hmem H0.out).1
      obtain ⟨ax, cx, hxf⟩ := hV.form
      rw [hxf] at d0 k44
      have HA : Hid (∀ w2, Below wr.heap.size wr w2 → ∃ u' w', (Builtin.append_ #[60, 60] 60 #[u3, .slice (some ⟨w2.heap.size, 0, none⟩) 1 1]).run Tryd.prog (w2.alloc (.cells #[.iface 63 (.agg #[.slice ax (kp.map (·.1)).length cx, .string (fst (flat kp)), .int .i64 ((flat kp).length : Int)])] 49)) = .ok u' w' ∧ RW EK w1.heap.size w' u' (ps ++ [(63, .agg #[.slice ax (kp.map (·.1)).length cx, .string (fst (flat kp)), .int .i64 ((flat kp).length : Int)])]) ∧ Below w1.heap.size w2 w') := fun w2 h2 => by
        have hO2 : RW EK w1.heap.size w2 u3 ps := by
          refine ⟨hO.out.1, hO.out.2.imp id ?_⟩
          rintro ⟨g, cap, cur, q1, q2, q3, q4⟩
          exact ⟨g, cap, cur, q1, q2, (h2.block _ (Array.getElem?_eq_some_iff.1 q3).1).trans q3, q4⟩
        exact app_one hO2 (63, .agg #[.slice ax (kp.map (·.1)).length cx, .string (fst (flat kp)), .int .i64 ((flat kp).length : Int)]) (by rw [hps.out]; omega) (Nat.le_trans hB.out.size h2.size)
      have hV1 := HS.out.rl x (List.mem_of_getElem? hx)
      rw [hxk, hxf] at hV1
      have HP : Hid (Part w1 (h + 1) kp.length (63, .agg #[.slice ax (kp.map (·.1)).length cx, .string (fst (flat kp)), .int .i64 ((flat kp).length : Int)]) (flat kp)) :=
        ⟨_, kp, rfl, hV1, rfl, (halves_pos hmem H0.out).1, rfl, fun k hk => HK.out.below HB1.out k (halves_sub hmem k hk)⟩
      generalize (kp.map (·.1)).length = nk at *
      have HKP : Hid _ := hkp
      clear hx hkp hxk hV hV1 hKp hxf hmem
      go_wp2_with (first
        | (go_at_call 18; (with_reducible refine k44.mono ?_); rintro e w2 ⟨rfl, hB2⟩; have hA := HA.out w2 hB2)
        | (at_builtin; refine wpList_append_ex (by rfl) (.tmp 13) (.tmp 17) 60 (by rfl) _ _ (by rfl) (by rfl) hA ?_; rintro v7 w7 ⟨hO7, hB7⟩))
      go_roundw
      case rel =>
        refine ⟨j + 1, _, by simp, by show _ ≤ _; omega, hO7, by show _ = _; rw [List.length_append, hps.out]; rfl, ?_, bmore hB.out hB2 |>.trans hB7⟩
        intro i y kq hy hkq
        by_cases hi : i < ps.length
        · rw [List.getElem?_append_left hi] at hy
          exact hPt.out i y kq hy hkq
        · have hl := (List.getElem?_eq_some_iff.1 hy).1
          rw [List.length_append] at hl
          have hi2 : i = ps.length := by simp at hl; omega
          rw [hi2, List.getElem?_append_right (Nat.le_refl _), Nat.sub_self] at hy
          cases hy
          rw [hi2, hps.out, HKP.out] at hkq
          cases hkq
          exact HP.out
      case measure => simp only [intOf]; omega
    · have hji : ¬ (j : Int) < (M : Int) := by omega
      obtain rfl : j = M := by have := hj.out; omega
      have HR : Hid (∀ v, RW EK w1.heap.size wr v ps → SPost w (h + 1) ks.length (flat ks) (.returned v) wr) := fun v hv =>
        spost_of flat flat_app HN.out (by rw [hps.out, HMl.out]) hv.read (fun i x kp h1 h2 => (hPt.out i x kp h1 h2).below hB.out) (bmore HB1.out hB.out)
      go_wp2
      go_ret
      exact HR.out _ hO.out
end Go.Proofs.YthfkmedpcmiibaaDoor.T
