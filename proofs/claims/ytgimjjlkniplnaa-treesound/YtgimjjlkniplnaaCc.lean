/- Lists, one behind the other: slices.Grow, slices.Concat. -/
import Derived.Test.YtgimjjlkniplnaaPb
import Derived.Shelf.Spec.SlicesGrow
import Derived.Deep.AppendSrc
namespace Go.Proofs.Ytgimjjlkniplnaa
open Go.RowKit Go.Shelf
set_option maxRecDepth 100000
theorem wpList_append_ex {P : Program} {ops : Array Oper} {rest : List Oper} {o : Oper} {a : Act} {w : World} {Q : Exit → Act → World → Prop} (hgd : o.guard = none) (s x : Operand) (t : TypeId)
    (ho : o.op = .call { callee := .builtin .append, args := #[s, x], argTypes := #[t, t] }) (v y : Value) (hs : a.eval s = v) (hx : a.eval x = y) {R : Value → World → Prop} (hrun : ∃ u w', (Builtin.append_ #[t, t] o.type #[v, y]).run P w = .ok u w' ∧ R u w')
    (h : ∀ u w', R u w' → wpList P ops Q rest (a.put o.dst u) w') : wpList P ops Q (o :: rest) a w := by
  refine wpList_plain hgd fun K hK => ?_
  obtain ⟨u, w', h1, h2⟩ := hrun
  unfold Oper.wp execOp
  simp only [ho, resolve, invoke, builtin, Sem.run_bind, Sem.run_pure, Result.andThen_ok, List.map_toArray, List.map_cons, List.map_nil, hs, hx, h1]
  exact hK _ _ (h u w' h2)
section
variable {α : Type} {E : Ety α} {w w' : World} {L L' : List α}
/-- A row of one's own, from the block B on. -/
def RW (E : Ety α) (B : Nat) (w : World) (u : Value) (L : List α) : Prop := w.ownsRow B E.tE E.m u L.length (E.cells L)
theorem RW.nil (E : Ety α) (B : Nat) (w : World) : RW E B w (.slice none 0 0) [] := ⟨by simp [Ety.cells], .inl ⟨rfl, rfl⟩⟩
theorem RW.form {B : Nat} {u : Value} (h : RW E B w u L) : ∃ a c, u = .slice a L.length c ∧ L.length ≤ c := by
  rcases h.2 with ⟨rfl, hn⟩ | ⟨g, cap, cur, rfl, _, _, h4, _⟩
  · exact ⟨none, 0, by rw [hn], by omega⟩
  · exact ⟨_, _, rfl, h4⟩
theorem RW.read {B : Nat} {u : Value} (h : RW E B w u L) : LV E w u L := by
  rcases h.2 with ⟨rfl, hn⟩ | ⟨g, cap, cur, rfl, _, h3, h4, h5, h6, h7⟩
  · exact ⟨none, 0, by rw [hn], by omega, fun h => by omega⟩
  · refine ⟨_, cap, rfl, h4, fun _ => ⟨g, 0, cur.toList, rfl, h3, fun j u hu => ?_⟩⟩
    have hj := (List.getElem?_eq_some_iff.1 hu).1
    rw [cells_len] at hj
    rw [← h7, List.getElem?_take, if_pos (by omega)] at hu
    rw [Nat.zero_add]
    exact hu
theorem RW.at {B k : Nat} {u : Value} (h : RW E B w u L) (hk : u.ownBlock = some k) : B ≤ k ∧ k < w.heap.size := by
  rcases h.2 with ⟨rfl, _⟩ | ⟨g, cap, cur, rfl, h3, h4, _⟩
  · cases hk
  · cases hk; exact ⟨h3, (Array.getElem?_eq_some_iff.1 h4).1⟩
theorem rw_app {B : Nat} {u lv : Value} (hU : RW E B w u L) (hV : LV E w lv L') (hfew : L.length + L'.length ≤ 100000) (hB : B ≤ w.heap.size) : ∃ u' w', (Builtin.append_ #[E.tS, E.tS] E.tS #[u, lv]).run Try.prog w = .ok u' w' ∧ RW E B w' u' (L ++ L') ∧ Below B w w' := by
  obtain ⟨a, c, rfl, _, hat⟩ := hV
  obtain ⟨i, hi, hzz⟩ := Option.map_eq_some_iff.1 E.info
  simp only [Prod.mk.injEq] at hzz
  obtain ⟨hz, hs, hb⟩ := hzz
  have h32 := E.by32
  have hby : (L.length + L'.length) * E.bytes ≤ 140737488355328 := Nat.le_trans (Nat.mul_le_mul hfew h32) (by decide)
  by_cases h0 : L' = []
  · subst h0
    rw [List.append_nil]
    have hsrc : Src Try.prog i.size E.tS (.slice a 0 c) 0 [] w := by
      cases a with
      | none => exact Src.ofNil w E.und c
      | some a => exact Src.ofSlice w E.und a 0 c [] (by simp) (by simp) (by simp)
    obtain ⟨b, k, rfl, hnk⟩ := hU.form
    exact ⟨_, w, run_append_nothing w E.tS E.tS E.tS E.tE i E.und hi b _ k hnk _ hsrc, hU, Below.refl _ _⟩
  · have hpos : 0 < L'.length := List.length_pos_iff.2 h0
    obtain ⟨g, o, cs, rfl, hbk, hta⟩ := hat hpos
    obtain ⟨g', cap, w', q1, q2, q3, q4, q5⟩ := run_append_lies (P := Try.prog) w E.tS E.tS B E.tE i E.z E.m E.bytes E.und hi hz hs hb E.zs E.pos u L.length (E.cells L) hU ⟨g, o, none⟩ L'.length c (E.cells L') (cells_len E L') (news_of hbk hta) (cells_one E L') hpos (by unfold maxLen; omega) hby hB _ rfl
    refine ⟨_, w', q1, ?_, ⟨q3.os, q3.tape, q3.output, q3.size, fun k hk => q3.block k (by omega) fun e => by have := (hU.at e.symm).1; omega⟩⟩
    unfold RW
    rw [List.length_append, cells_app]
    exact q2
def GPost (E : Ety α) (w : World) (e : Ending) (w' : World) : Prop := ∃ v, e = .returned v ∧ RW E w.heap.size w' v [] ∧ Below w.heap.size w w'
/-- Lists behind slices that lie in a block. -/
abbrev Lt (α : Type) := Value × List α
def cat (ls : List (Lt α)) : List α := ls.flatMap (·.2)
structure Ls (E : Ety α) (w : World) (g : Nat) (ls : List (Lt α)) : Prop where
  cells : ∀ (i : Nat) (x : Lt α), ls[i]? = some x → w.cell? ⟨g, i, none⟩ = some x.1
  rl : ∀ x ∈ ls, LV E w x.1 x.2
theorem Ls.below {g : Nat} {ls : List (Lt α)} (h : Ls E w g ls) (k : Below w.heap.size w w') : Ls E w' g ls :=
  ⟨fun i x hx => (k.cell (p := ⟨g, i, none⟩) (World.block_lt_of_cell? w _ (h.cells i x hx))).trans (h.cells i x hx), fun x hx => (h.rl x hx).below k⟩
theorem cat_take {ls : List (Lt α)} {k : Nat} {x : Lt α} (h : ls[k]? = some x) : cat (ls.take (k + 1)) = cat (ls.take k) ++ x.2 := by
  unfold cat
  rw [List.take_add_one, h, List.flatMap_append]
  simp
theorem cat_le (ls : List (Lt α)) (k : Nat) : (cat (ls.take k)).length ≤ (cat ls).length := by
  conv => rhs; rw [← List.take_append_drop k ls]
  unfold cat
  rw [List.flatMap_append, List.length_append]
  omega
def CPost (E : Ety α) (w : World) (es : List α) (e : Ending) (w' : World) : Prop := ∃ v, e = .returned v ∧ LV E w' v es ∧ Below w.heap.size w w'
end
def Try.grow69_ren : Go.Shelf.Ren := ⟨fun | 4 => 69 | n => n, fun | 0 => 0 | 3 => 3 | 4 => 4 | 9 => 9 | 20 => 20 | 22 => 37 | 25 => 33 | n => n, fun | n => n⟩
theorem Try.grow69 : Go.Proofs.Lays8.n4 Try.prog Try.grow69_ren := {
  mixed := by kernel_rfl
  f4 := ⟨Try.f69.name, by decide, Try.func69.trans (congrArg some (by kernel_rfl))⟩
  t0 := Try.underlying0
  a0 := Try.isAgg0
  z0 := Try.sizeOf0
  v0 := Try.zeroValue0
  t3 := Try.underlying3
  a3 := Try.isAgg3
  z3 := Try.sizeOf3
  v3 := Try.zeroValue3
  t4 := Try.underlying4
  a4 := Try.isAgg4
  z4 := Try.sizeOf4
  v4 := Try.zeroValue4
  t9 := Try.underlying9
  a9 := Try.isAgg9
  z9 := Try.sizeOf9
  v9 := Try.zeroValue9
  t20 := Try.underlying20
  a20 := Try.isAgg20
  z20 := Try.sizeOf20
  v20 := Try.zeroValue20
  t22 := Try.underlying37
  a22 := Try.isAgg37
  z22 := Try.sizeOf37
  v22 := Try.zeroValue37 }
theorem grow69 (n : Nat) (hn : n ≤ 100000) (w : World) : Calls Try.prog 69 #[.slice none 0 0, .int .i64 (n : Int)] w (GPost EP w) := by
  by_cases h0 : n = 0
  · subst h0
    refine (Any8.slices_Grow_room Try.grow69 none 0 0 0 w (by omega) (by omega) (by omega) (by omega)).mono ?_
    rintro e w' ⟨rfl, rfl⟩
    exact ⟨_, rfl, RW.nil _ _ _, Below.refl _ _⟩
  · obtain ⟨i0, hi, hzz⟩ := Option.map_eq_some_iff.1 EP.info
    simp only [Prod.mk.injEq] at hzz
    obtain ⟨hz0, hz1, hz2⟩ := hzz
    have hc : EP.z.cells.size = 2 := rfl
    have hz3 : i0.bytes = 32 := hz2
    refine (Any8.slices_Grow_grow Try.grow69 i0 _ hi hz0 (by rw [hz1]; decide) none 0 0 n [] w (by omega) (by omega) (by rw [hz3]; omega) (by omega) (by simp) (fun _ => rfl) (fun a h => by cases h)).mono ?_
    rintro e w' ⟨rfl, rfl⟩
    have hge := grownCap_ge w (0 + n) 0 33
    have hle := grownCap_le_maxLen w (0 + n) 0 33 (by unfold maxLen; omega)
    refine ⟨_, rfl, ⟨rfl, .inr ⟨w.heap.size, grownCap w (0 + n) 0 33, _, rfl, Nat.le_refl _, World.alloc_heap_new w.drew _, Nat.zero_le _, hle, ?_, rfl⟩⟩, (Below.refl _ _).drew.alloc (Nat.le_refl _) _⟩
    have e25 : Try.grow69_ren.t 25 = 33 := rfl
    have hm : EP.m = 2 := rfl
    simp only [e25, hm, Array.size_append, size_zeroCells, hc]
    simp only [Nat.zero_add] at hge hle ⊢
    simp
    try omega
set_option maxHeartbeats 1000000 in
theorem concat64 {w : World} {g : Nat} {ls : List (Lt Pr)} (h : Ls EP w g ls) (hm : ls.length ≤ 10) (hn : (cat ls).length ≤ 1000) : Calls Try.prog 64 #[.slice (some ⟨g, 0, none⟩) ls.length ls.length] w (CPost EP w (cat ls)) := by
  have HLs : Hid (Ls EP w g ls) := h
  have HC : Hid (∀ k, (cat (ls.take k)).length ≤ 1000) := fun k => Nat.le_trans (cat_le ls k) hn
  obtain ⟨M, hM⟩ : ∃ M, ls.length = M := ⟨_, rfl⟩
  have HM : Hid (ls.length = M) := hM
  have HAll : Hid (cat (ls.take M) = cat ls) := by show _ = _; rw [← hM, List.take_length]
  rw [hM] at hm ⊢
  clear h hn hM
  go_enter Try.func64, Try.ntmps64
  go_wp2_with fail
  go_loopw [3, 11] (fun fs fi wr => ∃ (k S : Nat), fi = .int .i64 (k : Int) ∧ fs = .int .i64 (S : Int) ∧ Hid (k ≤ M) ∧ Hid (S = (cat (ls.take k)).length) ∧ Hid (wr = w)) (fun _ fi _ => ((M : Int) - intOf fi).toNat)
  case atStart => exact ⟨0, 0, rfl, rfl, Nat.zero_le _, rfl, rfl⟩
  case round =>
    obtain ⟨k, S, rfl, rfl, hk, hS, hw⟩ := hrel
    have hw' := hw.out
    subst hw'
    have hS1 : S ≤ 1000 := by rw [hS.out]; exact HC.out k
    by_cases hkM : k < M
    · have hki : (k : Int) < (M : Int) := by omega
      have hk0 : (0 : Int) ≤ (k : Int) := by omega
      obtain ⟨x, hx⟩ : ∃ x, ls[k]? = some x := ⟨_, List.getElem?_eq_getElem (by rw [HM.out]; exact hkM)⟩
      have d0 := HLs.out.cells k x hx
      obtain ⟨ax, cx, hxf⟩ := (HLs.out.rl x (List.mem_of_getElem? hx)).form
      rw [hxf] at d0
      have HT : Hid (S + x.2.length = (cat (ls.take (k + 1))).length) := by show _ = _; rw [cat_take hx, List.length_append, hS.out]
      have hSx : S + x.2.length ≤ 1000 := by rw [HT.out]; exact HC.out _
      generalize x.2.length = n at *
      have hnn : ¬ (((S : Int) + (n : Int)) < 0) := by omega
      clear hx hxf
      go_wp2_with fail
      go_roundw
      case rel => exact ⟨k + 1, S + n, by simp, by simp, by show _ ≤ _; omega, HT.out, (by first | rfl | trivial)⟩
      case measure => simp only [intOf]; omega
    · have hki : ¬ (k : Int) < (M : Int) := by omega
      obtain rfl : k = M := by have := hk.out; omega
      have k46 := grow69 S (by omega) wr
      go_wp2_with (go_at_call 69; (with_reducible refine k46.mono ?_); rintro e w1 ⟨v1, rfl, hO1, hB1⟩)
      have HO1 : Hid (RW EP wr.heap.size w1 v1 (cat (ls.take 0))) := hO1
      have HB1 : Hid _ := hB1
      obtain ⟨a1, c1, rfl⟩ : ∃ a c, v1 = .slice a 0 c := by obtain ⟨a, c, h, _⟩ := hO1.form; exact ⟨a, c, h⟩
      clear hO1 hB1 k46 hw
      generalize wr = w at *
      go_wp2_with fail
      go_loopw [6, 27] (fun fo fi wr => ∃ (j : Nat), fi = .int .i64 (j : Int) ∧ Hid (j ≤ k) ∧ Hid (RW EP w.heap.size wr fo (cat (ls.take j))) ∧ Hid (Below w.heap.size w wr)) (fun _ fi _ => ((k : Int) - intOf fi).toNat)
      case atStart => exact ⟨0, rfl, Nat.zero_le _, HO1.out, HB1.out⟩
      case round =>
        obtain ⟨j, rfl, hj, hO, hB⟩ := hrel
        by_cases hjM : j < k
        · have hji : (j : Int) < (k : Int) := by omega
          have hj0 : (0 : Int) ≤ (j : Int) := by omega
          obtain ⟨x, hx⟩ : ∃ x, ls[j]? = some x := ⟨_, List.getElem?_eq_getElem (by rw [HM.out]; exact hjM)⟩
          have d0 := (HLs.out.below hB.out).cells j x hx
          have hRx := (HLs.out.rl x (List.mem_of_getElem? hx)).below hB.out
          obtain ⟨ax, cx, hxf⟩ := hRx.form
          have hA := rw_app hO.out hRx (by have h1 := HC.out (j + 1); rw [cat_take hx, List.length_append] at h1; omega) hB.out.size
          rw [← cat_take hx] at hA
          rw [hxf] at d0 hA
          clear hx hxf hRx
          go_wp2_with (at_builtin; refine wpList_append_ex (by rfl) (.tmp 31) (.tmp 32) 37 (by rfl) _ _ (by rfl) (by rfl) hA ?_; rintro v7 w7 ⟨hO7, hB7⟩)
          go_roundw
          case rel => exact ⟨j + 1, by simp, by show _ ≤ _; omega, hO7, hB.out.trans hB7⟩
          case measure => simp only [intOf]; omega
        · have hji : ¬ (j : Int) < (k : Int) := by omega
          obtain rfl : j = k := by have := hj.out; omega
          go_wp2
          go_ret
          exact ⟨_, rfl, by rw [← HAll.out]; exact hO.out.read, hB.out⟩
def Try.grow73_ren : Go.Shelf.Ren := ⟨fun | 4 => 73 | n => n, fun | 0 => 0 | 3 => 3 | 4 => 4 | 9 => 9 | 20 => 20 | 22 => 64 | 25 => 33 | n => n, fun | n => n⟩
theorem Try.grow73 : Go.Proofs.Lays8.n4 Try.prog Try.grow73_ren := {
  mixed := by kernel_rfl
  f4 := ⟨Try.f73.name, by decide, Try.func73.trans (congrArg some (by kernel_rfl))⟩
  t0 := Try.underlying0
  a0 := Try.isAgg0
  z0 := Try.sizeOf0
  v0 := Try.zeroValue0
  t3 := Try.underlying3
  a3 := Try.isAgg3
  z3 := Try.sizeOf3
  v3 := Try.zeroValue3
  t4 := Try.underlying4
  a4 := Try.isAgg4
  z4 := Try.sizeOf4
  v4 := Try.zeroValue4
  t9 := Try.underlying9
  a9 := Try.isAgg9
  z9 := Try.sizeOf9
  v9 := Try.zeroValue9
  t20 := Try.underlying20
  a20 := Try.isAgg20
  z20 := Try.sizeOf20
  v20 := Try.zeroValue20
  t22 := Try.underlying64
  a22 := Try.isAgg64
  z22 := Try.sizeOf64
  v22 := Try.zeroValue64 }
theorem grow73 (n : Nat) (hn : n ≤ 100000) (w : World) : Calls Try.prog 73 #[.slice none 0 0, .int .i64 (n : Int)] w (GPost EL w) := by
  by_cases h0 : n = 0
  · subst h0
    refine (Any8.slices_Grow_room Try.grow73 none 0 0 0 w (by omega) (by omega) (by omega) (by omega)).mono ?_
    rintro e w' ⟨rfl, rfl⟩
    exact ⟨_, rfl, RW.nil _ _ _, Below.refl _ _⟩
  · obtain ⟨i0, hi, hzz⟩ := Option.map_eq_some_iff.1 EL.info
    simp only [Prod.mk.injEq] at hzz
    obtain ⟨hz0, hz1, hz2⟩ := hzz
    have hc : EL.z.cells.size = 2 := rfl
    have hz3 : i0.bytes = 32 := hz2
    refine (Any8.slices_Grow_grow Try.grow73 i0 _ hi hz0 (by rw [hz1]; decide) none 0 0 n [] w (by omega) (by omega) (by rw [hz3]; omega) (by omega) (by simp) (fun _ => rfl) (fun a h => by cases h)).mono ?_
    rintro e w' ⟨rfl, rfl⟩
    have hge := grownCap_ge w (0 + n) 0 33
    have hle := grownCap_le_maxLen w (0 + n) 0 33 (by unfold maxLen; omega)
    refine ⟨_, rfl, ⟨rfl, .inr ⟨w.heap.size, grownCap w (0 + n) 0 33, _, rfl, Nat.le_refl _, World.alloc_heap_new w.drew _, Nat.zero_le _, hle, ?_, rfl⟩⟩, (Below.refl _ _).drew.alloc (Nat.le_refl _) _⟩
    have e25 : Try.grow73_ren.t 25 = 33 := rfl
    have hm : EL.m = 2 := rfl
    simp only [e25, hm, Array.size_append, size_zeroCells, hc]
    simp only [Nat.zero_add] at hge hle ⊢
    simp
    try omega
set_option maxHeartbeats 1000000 in
theorem concat71 {w : World} {g : Nat} {ls : List (Lt Pr)} (h : Ls EL w g ls) (hm : ls.length ≤ 10) (hn : (cat ls).length ≤ 1000) : Calls Try.prog 71 #[.slice (some ⟨g, 0, none⟩) ls.length ls.length] w (CPost EL w (cat ls)) := by
  have HLs : Hid (Ls EL w g ls) := h
  have HC : Hid (∀ k, (cat (ls.take k)).length ≤ 1000) := fun k => Nat.le_trans (cat_le ls k) hn
  obtain ⟨M, hM⟩ : ∃ M, ls.length = M := ⟨_, rfl⟩
  have HM : Hid (ls.length = M) := hM
  have HAll : Hid (cat (ls.take M) = cat ls) := by show _ = _; rw [← hM, List.take_length]
  rw [hM] at hm ⊢
  clear h hn hM
  go_enter Try.func71, Try.ntmps71
  go_wp2_with fail
  go_loopw [3, 11] (fun fs fi wr => ∃ (k S : Nat), fi = .int .i64 (k : Int) ∧ fs = .int .i64 (S : Int) ∧ Hid (k ≤ M) ∧ Hid (S = (cat (ls.take k)).length) ∧ Hid (wr = w)) (fun _ fi _ => ((M : Int) - intOf fi).toNat)
  case atStart => exact ⟨0, 0, rfl, rfl, Nat.zero_le _, rfl, rfl⟩
  case round =>
    obtain ⟨k, S, rfl, rfl, hk, hS, hw⟩ := hrel
    have hw' := hw.out
    subst hw'
    have hS1 : S ≤ 1000 := by rw [hS.out]; exact HC.out k
    by_cases hkM : k < M
    · have hki : (k : Int) < (M : Int) := by omega
      have hk0 : (0 : Int) ≤ (k : Int) := by omega
      obtain ⟨x, hx⟩ : ∃ x, ls[k]? = some x := ⟨_, List.getElem?_eq_getElem (by rw [HM.out]; exact hkM)⟩
      have d0 := HLs.out.cells k x hx
      obtain ⟨ax, cx, hxf⟩ := (HLs.out.rl x (List.mem_of_getElem? hx)).form
      rw [hxf] at d0
      have HT : Hid (S + x.2.length = (cat (ls.take (k + 1))).length) := by show _ = _; rw [cat_take hx, List.length_append, hS.out]
      have hSx : S + x.2.length ≤ 1000 := by rw [HT.out]; exact HC.out _
      generalize x.2.length = n at *
      have hnn : ¬ (((S : Int) + (n : Int)) < 0) := by omega
      clear hx hxf
      go_wp2_with fail
      go_roundw
      case rel => exact ⟨k + 1, S + n, by simp, by simp, by show _ ≤ _; omega, HT.out, (by first | rfl | trivial)⟩
      case measure => simp only [intOf]; omega
    · have hki : ¬ (k : Int) < (M : Int) := by omega
      obtain rfl : k = M := by have := hk.out; omega
      have k46 := grow73 S (by omega) wr
      go_wp2_with (go_at_call 73; (with_reducible refine k46.mono ?_); rintro e w1 ⟨v1, rfl, hO1, hB1⟩)
      have HO1 : Hid (RW EL wr.heap.size w1 v1 (cat (ls.take 0))) := hO1
      have HB1 : Hid _ := hB1
      obtain ⟨a1, c1, rfl⟩ : ∃ a c, v1 = .slice a 0 c := by obtain ⟨a, c, h, _⟩ := hO1.form; exact ⟨a, c, h⟩
      clear hO1 hB1 k46 hw
      generalize wr = w at *
      go_wp2_with fail
      go_loopw [6, 27] (fun fo fi wr => ∃ (j : Nat), fi = .int .i64 (j : Int) ∧ Hid (j ≤ k) ∧ Hid (RW EL w.heap.size wr fo (cat (ls.take j))) ∧ Hid (Below w.heap.size w wr)) (fun _ fi _ => ((k : Int) - intOf fi).toNat)
      case atStart => exact ⟨0, rfl, Nat.zero_le _, HO1.out, HB1.out⟩
      case round =>
        obtain ⟨j, rfl, hj, hO, hB⟩ := hrel
        by_cases hjM : j < k
        · have hji : (j : Int) < (k : Int) := by omega
          have hj0 : (0 : Int) ≤ (j : Int) := by omega
          obtain ⟨x, hx⟩ : ∃ x, ls[j]? = some x := ⟨_, List.getElem?_eq_getElem (by rw [HM.out]; exact hjM)⟩
          have d0 := (HLs.out.below hB.out).cells j x hx
          have hRx := (HLs.out.rl x (List.mem_of_getElem? hx)).below hB.out
          obtain ⟨ax, cx, hxf⟩ := hRx.form
          have hA := rw_app hO.out hRx (by have h1 := HC.out (j + 1); rw [cat_take hx, List.length_append] at h1; omega) hB.out.size
          rw [← cat_take hx] at hA
          rw [hxf] at d0 hA
          clear hx hxf hRx
          go_wp2_with (at_builtin; refine wpList_append_ex (by rfl) (.tmp 31) (.tmp 32) 64 (by rfl) _ _ (by rfl) (by rfl) hA ?_; rintro v7 w7 ⟨hO7, hB7⟩)
          go_roundw
          case rel => exact ⟨j + 1, by simp, by show _ ≤ _; omega, hO7, hB.out.trans hB7⟩
          case measure => simp only [intOf]; omega
        · have hji : ¬ (j : Int) < (k : Int) := by omega
          obtain rfl : j = k := by have := hj.out; omega
          go_wp2
          go_ret
          exact ⟨_, rfl, by rw [← HAll.out]; exact hO.out.read, hB.out⟩
def Try.grow70_ren : Go.Shelf.Ren := ⟨fun | 4 => 70 | n => n, fun | 0 => 0 | 3 => 3 | 4 => 4 | 9 => 9 | 20 => 20 | 22 => 69 | 25 => 60 | n => n, fun | n => n⟩
theorem Try.grow70 : Go.Proofs.Lays8.n4 Try.prog Try.grow70_ren := {
  mixed := by kernel_rfl
  f4 := ⟨Try.f70.name, by decide, Try.func70.trans (congrArg some (by kernel_rfl))⟩
  t0 := Try.underlying0
  a0 := Try.isAgg0
  z0 := Try.sizeOf0
  v0 := Try.zeroValue0
  t3 := Try.underlying3
  a3 := Try.isAgg3
  z3 := Try.sizeOf3
  v3 := Try.zeroValue3
  t4 := Try.underlying4
  a4 := Try.isAgg4
  z4 := Try.sizeOf4
  v4 := Try.zeroValue4
  t9 := Try.underlying9
  a9 := Try.isAgg9
  z9 := Try.sizeOf9
  v9 := Try.zeroValue9
  t20 := Try.underlying20
  a20 := Try.isAgg20
  z20 := Try.sizeOf20
  v20 := Try.zeroValue20
  t22 := Try.underlying69
  a22 := Try.isAgg69
  z22 := Try.sizeOf69
  v22 := Try.zeroValue69 }
theorem grow70 (n : Nat) (hn : n ≤ 100000) (w : World) : Calls Try.prog 70 #[.slice none 0 0, .int .i64 (n : Int)] w (GPost EK w) := by
  by_cases h0 : n = 0
  · subst h0
    refine (Any8.slices_Grow_room Try.grow70 none 0 0 0 w (by omega) (by omega) (by omega) (by omega)).mono ?_
    rintro e w' ⟨rfl, rfl⟩
    exact ⟨_, rfl, RW.nil _ _ _, Below.refl _ _⟩
  · obtain ⟨i0, hi, hzz⟩ := Option.map_eq_some_iff.1 EK.info
    simp only [Prod.mk.injEq] at hzz
    obtain ⟨hz0, hz1, hz2⟩ := hzz
    have hc : EK.z.cells.size = 1 := rfl
    have hz3 : i0.bytes = 16 := hz2
    refine (Any8.slices_Grow_grow Try.grow70 i0 _ hi hz0 (by rw [hz1]; decide) none 0 0 n [] w (by omega) (by omega) (by rw [hz3]; omega) (by omega) (by simp) (fun _ => rfl) (fun a h => by cases h)).mono ?_
    rintro e w' ⟨rfl, rfl⟩
    have hge := grownCap_ge w (0 + n) 0 60
    have hle := grownCap_le_maxLen w (0 + n) 0 60 (by unfold maxLen; omega)
    refine ⟨_, rfl, ⟨rfl, .inr ⟨w.heap.size, grownCap w (0 + n) 0 60, _, rfl, Nat.le_refl _, World.alloc_heap_new w.drew _, Nat.zero_le _, hle, ?_, rfl⟩⟩, (Below.refl _ _).drew.alloc (Nat.le_refl _) _⟩
    have e25 : Try.grow70_ren.t 25 = 60 := rfl
    have hm : EK.m = 1 := rfl
    simp only [e25, hm, Array.size_append, size_zeroCells, hc]
    simp only [Nat.zero_add] at hge hle ⊢
    simp
    try omega
set_option maxHeartbeats 1000000 in
theorem concat66 {w : World} {g : Nat} {ls : List (Lt Bx)} (h : Ls EK w g ls) (hm : ls.length ≤ 10) (hn : (cat ls).length ≤ 1000) : Calls Try.prog 66 #[.slice (some ⟨g, 0, none⟩) ls.length ls.length] w (CPost EK w (cat ls)) := by
  have HLs : Hid (Ls EK w g ls) := h
  have HC : Hid (∀ k, (cat (ls.take k)).length ≤ 1000) := fun k => Nat.le_trans (cat_le ls k) hn
  obtain ⟨M, hM⟩ : ∃ M, ls.length = M := ⟨_, rfl⟩
  have HM : Hid (ls.length = M) := hM
  have HAll : Hid (cat (ls.take M) = cat ls) := by show _ = _; rw [← hM, List.take_length]
  rw [hM] at hm ⊢
  clear h hn hM
  go_enter Try.func66, Try.ntmps66
  go_wp2_with fail
  go_loopw [3, 11] (fun fs fi wr => ∃ (k S : Nat), fi = .int .i64 (k : Int) ∧ fs = .int .i64 (S : Int) ∧ Hid (k ≤ M) ∧ Hid (S = (cat (ls.take k)).length) ∧ Hid (wr = w)) (fun _ fi _ => ((M : Int) - intOf fi).toNat)
  case atStart => exact ⟨0, 0, rfl, rfl, Nat.zero_le _, rfl, rfl⟩
  case round =>
    obtain ⟨k, S, rfl, rfl, hk, hS, hw⟩ := hrel
    have hw' := hw.out
    subst hw'
    have hS1 : S ≤ 1000 := by rw [hS.out]; exact HC.out k
    by_cases hkM : k < M
    · have hki : (k : Int) < (M : Int) := by omega
      have hk0 : (0 : Int) ≤ (k : Int) := by omega
      obtain ⟨x, hx⟩ : ∃ x, ls[k]? = some x := ⟨_, List.getElem?_eq_getElem (by rw [HM.out]; exact hkM)⟩
      have d0 := HLs.out.cells k x hx
      obtain ⟨ax, cx, hxf⟩ := (HLs.out.rl x (List.mem_of_getElem? hx)).form
      rw [hxf] at d0
      have HT : Hid (S + x.2.length = (cat (ls.take (k + 1))).length) := by show _ = _; rw [cat_take hx, List.length_append, hS.out]
      have hSx : S + x.2.length ≤ 1000 := by rw [HT.out]; exact HC.out _
      generalize x.2.length = n at *
      have hnn : ¬ (((S : Int) + (n : Int)) < 0) := by omega
      clear hx hxf
      go_wp2_with fail
      go_roundw
      case rel => exact ⟨k + 1, S + n, by simp, by simp, by show _ ≤ _; omega, HT.out, (by first | rfl | trivial)⟩
      case measure => simp only [intOf]; omega
    · have hki : ¬ (k : Int) < (M : Int) := by omega
      obtain rfl : k = M := by have := hk.out; omega
      have k46 := grow70 S (by omega) wr
      go_wp2_with (go_at_call 70; (with_reducible refine k46.mono ?_); rintro e w1 ⟨v1, rfl, hO1, hB1⟩)
      have HO1 : Hid (RW EK wr.heap.size w1 v1 (cat (ls.take 0))) := hO1
      have HB1 : Hid _ := hB1
      obtain ⟨a1, c1, rfl⟩ : ∃ a c, v1 = .slice a 0 c := by obtain ⟨a, c, h, _⟩ := hO1.form; exact ⟨a, c, h⟩
      clear hO1 hB1 k46 hw
      generalize wr = w at *
      go_wp2_with fail
      go_loopw [6, 27] (fun fo fi wr => ∃ (j : Nat), fi = .int .i64 (j : Int) ∧ Hid (j ≤ k) ∧ Hid (RW EK w.heap.size wr fo (cat (ls.take j))) ∧ Hid (Below w.heap.size w wr)) (fun _ fi _ => ((k : Int) - intOf fi).toNat)
      case atStart => exact ⟨0, rfl, Nat.zero_le _, HO1.out, HB1.out⟩
      case round =>
        obtain ⟨j, rfl, hj, hO, hB⟩ := hrel
        by_cases hjM : j < k
        · have hji : (j : Int) < (k : Int) := by omega
          have hj0 : (0 : Int) ≤ (j : Int) := by omega
          obtain ⟨x, hx⟩ : ∃ x, ls[j]? = some x := ⟨_, List.getElem?_eq_getElem (by rw [HM.out]; exact hjM)⟩
          have d0 := (HLs.out.below hB.out).cells j x hx
          have hRx := (HLs.out.rl x (List.mem_of_getElem? hx)).below hB.out
          obtain ⟨ax, cx, hxf⟩ := hRx.form
          have hA := rw_app hO.out hRx (by have h1 := HC.out (j + 1); rw [cat_take hx, List.length_append] at h1; omega) hB.out.size
          rw [← cat_take hx] at hA
          rw [hxf] at d0 hA
          clear hx hxf hRx
          go_wp2_with (at_builtin; refine wpList_append_ex (by rfl) (.tmp 31) (.tmp 32) 69 (by rfl) _ _ (by rfl) (by rfl) hA ?_; rintro v7 w7 ⟨hO7, hB7⟩)
          go_roundw
          case rel => exact ⟨j + 1, by simp, by show _ ≤ _; omega, hO7, hB.out.trans hB7⟩
          case measure => simp only [intOf]; omega
        · have hji : ¬ (j : Int) < (k : Int) := by omega
          obtain rfl : j = k := by have := hj.out; omega
          go_wp2
          go_ret
          exact ⟨_, rfl, by rw [← HAll.out]; exact hO.out.read, hB.out⟩
end Go.Proofs.Ytgimjjlkniplnaa
