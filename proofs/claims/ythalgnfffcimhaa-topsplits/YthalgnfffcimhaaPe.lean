/- Lists of rows, one behind the other: slices.Concat; together. -/
import Derived.Test.YthalgnfffcimhaaCb
import Derived.Deep.AppendSrc
import Derived.ArgAppend
import Derived.Deep.Upon
import Derived.Shelf.Spec.SlicesGrow
namespace Go.Proofs.Ythalgnfffcimhaa
open Go.RowKit Go.Shelf
set_option maxRecDepth 100000
theorem newsE {w : World} {es : List El} {g o : Nat} (h : ∀ (i : Nat) (e : El), es[i]? = some e → w.cell? ⟨g, o + i * 3, none⟩ = some e.1 ∧ w.cell? ⟨g, o + i * 3 + 1, none⟩ = some (.int .i64 e.2.2.1) ∧ w.cell? ⟨g, o + i * 3 + 2, none⟩ = some (.int .i64 e.2.2.2)) : ∀ j u, (cellsE es)[j]? = some u → w.cell? ((⟨g, o, none⟩ : Addr).add j) = some u := fun j u hu => by
  have hj := (List.getElem?_eq_some_iff.1 hu).1
  rw [cellsE_length] at hj
  obtain ⟨s, hs⟩ : ∃ s, es[j / 3]? = some s := ⟨_, List.getElem?_eq_getElem (by omega)⟩
  obtain ⟨c1, c2, c3⟩ := cellsE_get es _ s hs
  obtain ⟨d1, d2, d3⟩ := h _ s hs
  rw [Addr.add_mid]
  have hm : j % 3 = 0 ∨ j % 3 = 1 ∨ j % 3 = 2 := by omega
  rcases hm with hr | hr | hr
  · rw [show j / 3 * 3 = j by omega, hu] at c1
    rw [show o + j / 3 * 3 = o + j by omega] at d1
    rw [d1, c1]
  · rw [show j / 3 * 3 + 1 = j by omega, hu] at c2
    rw [show o + j / 3 * 3 + 1 = o + j by omega] at d2
    rw [d2, c2]
  · rw [show j / 3 * 3 + 2 = j by omega, hu] at c3
    rw [show o + j / 3 * 3 + 2 = o + j by omega] at d3
    rw [d3, c3]
theorem ownR_apps {w : World} {B : Nat} {X : Nat → Prop} {u lv : Value} {es es' : List El} (h : OwnR w B u es) (hV : RL w X lv es') (hX : ∀ b, u.ownBlock = some b → X b) (hn : es.length + es'.length ≤ 100000) (hB : B ≤ w.heap.size) :
    ∃ u' w', (Builtin.append_ #[31, 31] 31 #[u, lv]).run Try.prog w = .ok u' w' ∧ OwnR w' B u' (es ++ es') ∧ Below B w w' := by
  obtain ⟨i0, hi, hz0, hz1, hz2⟩ := info_parts' info34
  have hcap := h.cap
  obtain ⟨a, c, rfl, hat⟩ := hV.at'
  by_cases h0 : es' = []
  · subst h0
    rw [List.append_nil]
    have hsrc : Src Try.prog i0.size 31 (.slice a 0 c) 0 [] w := by
      cases a with
      | none => exact Src.ofNil w Try.underlying31 c
      | some a => exact Src.ofSlice w Try.underlying31 a 0 c [] (by simp) (by simp) (by simp)
    obtain ⟨b, n, k, rfl⟩ := h.form
    exact ⟨_, w, run_append_nothing w 31 31 31 30 i0 Try.underlying31 hi b n k (hcap _ _ _ rfl) _ hsrc, h, Below.refl _ _⟩
  · have hpos : 0 < es'.length := List.length_pos_iff.2 h0
    obtain ⟨g, o, rfl, _, _, hta⟩ := hat hpos
    obtain ⟨v', w', hrun, r1, r2, r3, r4⟩ := run_append_own_at (P := Try.prog) w B 31 31 30 i0 (.agg #[.slice none 0 0, .int .i64 0, .int .i64 0]) 3 40 Try.underlying31 hi hz0 hz1 hz2 rfl (by decide) u es.length (cellsE es) h.row ⟨g, o, none⟩ es'.length c (cellsE es') (cellsE_length es') (newsE hta) (by
      intro v hv
      obtain ⟨e, he, hv⟩ := List.mem_flatMap.1 hv
      obtain ⟨pa, ca, hf⟩ := (hV.vals e he).form
      simp [encE] at hv
      rcases hv with rfl | rfl | rfl
      · rw [hf]; rfl
      · rfl
      · rfl) (by unfold maxLen; omega) (by omega) hB
    have hnew : ∀ k, v'.ownBlock = some k → u.ownBlock = some k ∨ w.heap.size ≤ k := fun k hk => r4.elim (fun q => .inl (q ▸ hk)) (fun q => .inr (by rw [q] at hk; cases hk; exact Nat.le_refl _))
    refine ⟨v', w', hrun, ⟨?_, fun x hx => ?_⟩, ⟨r2.os, r2.tape, r2.output, r2.size, fun k hk => r2.block k (by omega) (fun e => by have := (h.row.lt k e.symm).1; omega)⟩⟩
    · rw [List.length_append, cellsE_app]
      exact r1
    · have hs : SV w (fun b => u.ownBlock = some b) x.1 x.2.1 := by
        rcases List.mem_append.1 hx with hx | hx
        · exact h.vals x hx
        · exact (hV.vals x hx).mono (fun b _ q => hX b q)
      exact hs.keep (keep_of_grown r2) (fun b hb hy => (hnew b hy).elim id (fun h => by omega))

def Try.grow_ren : Go.Shelf.Ren := ⟨fun | 4 => 46 | n => n, fun | 0 => 0 | 3 => 3 | 4 => 4 | 9 => 9 | 20 => 20 | 22 => 31 | 25 => 30 | n => n, fun | n => n⟩
theorem Try.grow : Go.Proofs.Lays8.n4 Try.prog Try.grow_ren := {
  mixed := by kernel_rfl
  f4 := ⟨Try.f46.name, by decide, Try.func46.trans (congrArg some (by kernel_rfl))⟩
  t0 := Try.underlying0
  a0 := Try.isAgg0
  z0 := Try.sizeOf0
  v0 := Try.zeroValue0
  t3 := Try.underlying3
  a3 := Try.isAgg3
  z3 := Try.sizeOf3
  v3 := Try.zeroValue3
  t4 := Try.underlying4
  a4 := Try.isAgg4
  z4 := Try.sizeOf4
  v4 := Try.zeroValue4
  t9 := Try.underlying9
  a9 := Try.isAgg9
  z9 := Try.sizeOf9
  v9 := Try.zeroValue9
  t20 := Try.underlying20
  a20 := Try.isAgg20
  z20 := Try.sizeOf20
  v20 := Try.zeroValue20
  t22 := Try.underlying31
  a22 := Try.isAgg31
  z22 := Try.sizeOf31
  v22 := Try.zeroValue31 }
def GPost (w : World) (e : Ending) (w' : World) : Prop := ∃ v, e = .returned v ∧ OwnR w' w.heap.size v [] ∧ Below w.heap.size w w'
theorem grow46 (n : Nat) (hn : n ≤ 100000) (w : World) : Calls Try.prog 46 #[.slice none 0 0, .int .i64 (n : Int)] w (GPost w) := by
  by_cases h0 : n = 0
  · subst h0
    refine (Any8.slices_Grow_room Try.grow none 0 0 0 w (by omega) (by omega) (by omega) (by omega)).mono ?_
    rintro e w' ⟨rfl, rfl⟩
    exact ⟨_, rfl, OwnR.nil _ _, Below.refl _ _⟩
  · obtain ⟨i0, hi, hz0, hz1, hz2⟩ := info_parts' info34
    have hc : (Value.agg #[.slice none 0 0, .int .i64 0, .int .i64 0]).cells.size = 3 := rfl
    refine (Any8.slices_Grow_grow Try.grow i0 _ hi hz0 (by omega) none 0 0 n [] w (by omega) (by omega) (by rw [hz2]; omega) (by omega) (by simp) (fun _ => rfl) (fun a h => by cases h)).mono ?_
    rintro e w' ⟨rfl, rfl⟩
    have hge := grownCap_ge w (0 + n) 0 30
    have hle := grownCap_le_maxLen w (0 + n) 0 30 (by unfold maxLen; omega)
    refine ⟨_, rfl, ⟨⟨rfl, .inr ⟨w.heap.size, grownCap w (0 + n) 0 30, _, rfl, Nat.le_refl _, World.alloc_heap_new w.drew _, Nat.zero_le _, hle, ?_, rfl⟩⟩, fun e he => by cases he⟩, (Below.refl _ _).drew.alloc (Nat.le_refl _) _⟩
    have e25 : Try.grow_ren.t 25 = 30 := rfl
    simp only [e25, Array.size_append, size_zeroCells, hc]
    simp only [Nat.zero_add] at hge hle ⊢
    simp
    omega
abbrev Lt := Value × List El
def cat (ls : List Lt) : List El := ls.flatMap (·.2)
structure Ls (w : World) (g : Nat) (ls : List Lt) : Prop where
  cells : ∀ (i : Nat) (x : Lt), ls[i]? = some x → w.cell? ⟨g, i, none⟩ = some x.1
  rl : ∀ x ∈ ls, RL w (fun _ => False) x.1 x.2
theorem Ls.below {w w' : World} {g : Nat} {ls : List Lt} (h : Ls w g ls) (k : Below w.heap.size w w') : Ls w' g ls :=
  ⟨fun i x hx => (k.cell (p := ⟨g, i, none⟩) (World.block_lt_of_cell? w _ (h.cells i x hx))).trans (h.cells i x hx), fun x hx => (h.rl x hx).below k⟩
theorem cat_take {ls : List Lt} {k : Nat} {x : Lt} (h : ls[k]? = some x) : cat (ls.take (k + 1)) = cat (ls.take k) ++ x.2 := by
  unfold cat
  rw [List.take_add_one, h, List.flatMap_append]
  simp
theorem cat_le (ls : List Lt) (k : Nat) : (cat (ls.take k)).length ≤ (cat ls).length := by
  conv => rhs; rw [← List.take_append_drop k ls]
  unfold cat
  rw [List.flatMap_append, List.length_append]
  omega
def KPost3 (w : World) (es : List El) (e : Ending) (w' : World) : Prop := ∃ v, e = .returned v ∧ OwnR w' w.heap.size v es ∧ Below w.heap.size w w'
set_option maxHeartbeats 1000000 in
theorem concat32 {w : World} {g : Nat} {ls : List Lt} (h : Ls w g ls) (hm : ls.length ≤ 10) (hn : (cat ls).length ≤ 1000) : Calls Try.prog 32 #[.slice (some ⟨g, 0, none⟩) ls.length ls.length] w (KPost3 w (cat ls)) := by
  have HLs : Hid (Ls w g ls) := h
  have HC : Hid (∀ k, (cat (ls.take k)).length ≤ 1000) := fun k => Nat.le_trans (cat_le ls k) hn
  obtain ⟨M, hM⟩ : ∃ M, ls.length = M := ⟨_, rfl⟩
  have HM : Hid (ls.length = M) := hM
  have HAll : Hid (cat (ls.take M) = cat ls) := by show _ = _; rw [← hM, List.take_length]
  rw [hM] at hm ⊢
  clear h hn hM
  go_enter Try.func32, Try.ntmps32
  go_wp2_with fail
  go_loopw [3, 11] (fun fs fi wr => ∃ (k S : Nat), fi = .int .i64 (k : Int) ∧ fs = .int .i64 (S : Int) ∧ Hid (k ≤ M) ∧ Hid (S = (cat (ls.take k)).length) ∧ Hid (wr = w)) (fun _ fi _ => ((M : Int) - intOf fi).toNat)
  case atStart => exact ⟨0, 0, rfl, rfl, Nat.zero_le _, rfl, rfl⟩
  case round =>
    obtain ⟨k, S, rfl, rfl, hk, hS, hw⟩ := hrel
    have hw' := hw.out
    subst hw'
    have hS1 : S ≤ 1000 := by rw [hS.out]; exact HC.out k
    by_cases hkM : k < M
    · have hki : (k : Int) < (M : Int) := by omega
      have hk0 : (0 : Int) ≤ (k : Int) := by omega
      obtain ⟨x, hx⟩ : ∃ x, ls[k]? = some x := ⟨_, List.getElem?_eq_getElem (by rw [HM.out]; exact hkM)⟩
      have d0 := HLs.out.cells k x hx
      obtain ⟨ax, cx, hxf⟩ := (HLs.out.rl x (List.mem_of_getElem? hx)).form
      rw [hxf] at d0
      have HT : Hid (S + x.2.length = (cat (ls.take (k + 1))).length) := by show _ = _; rw [cat_take hx, List.length_append, hS.out]
      have hSx : S + x.2.length ≤ 1000 := by rw [HT.out]; exact HC.out _
      generalize x.2.length = n at *
      have hnn : ¬ (((S : Int) + (n : Int)) < 0) := by omega
      clear hx hxf
      go_wp2_with fail
      go_roundw
      case rel => exact ⟨k + 1, S + n, by simp, by simp, by show _ ≤ _; omega, HT.out, (by first | rfl | trivial)⟩
      case measure => simp only [intOf]; omega
    · have hki : ¬ (k : Int) < (M : Int) := by omega
      obtain rfl : k = M := by have := hk.out; omega
      have k46 := grow46 S (by omega) wr
      go_wp2_with (go_at_call 46; (with_reducible refine k46.mono ?_); rintro e w1 ⟨v1, rfl, hO1, hB1⟩)
      have HR : Hid (∀ W, Below wr.heap.size wr W → ∀ x ∈ ls, RL W (fun b => wr.heap.size ≤ b) x.1 x.2) := fun W k x hx => (RL.old (HLs.out.rl x hx)).below k
      have HO1 : Hid (OwnR w1 wr.heap.size v1 (cat (ls.take 0))) := hO1
      have HB1 : Hid _ := hB1
      obtain ⟨a1, n1, c1, rfl⟩ := hO1.form
      clear hO1 hB1 k46 hw
      generalize wr = w at *
      go_wp2_with fail
      go_loopw [6, 27] (fun fo fi wr => ∃ (j : Nat), fi = .int .i64 (j : Int) ∧ Hid (j ≤ k) ∧ Hid (OwnR wr w.heap.size fo (cat (ls.take j))) ∧ Hid (Below w.heap.size w wr)) (fun _ fi _ => ((k : Int) - intOf fi).toNat)
      case atStart => exact ⟨0, rfl, Nat.zero_le _, HO1.out, HB1.out⟩
      case round =>
        obtain ⟨j, rfl, hj, hO, hB⟩ := hrel
        by_cases hjM : j < k
        · have hji : (j : Int) < (k : Int) := by omega
          have hj0 : (0 : Int) ≤ (j : Int) := by omega
          obtain ⟨x, hx⟩ : ∃ x, ls[j]? = some x := ⟨_, List.getElem?_eq_getElem (by rw [HM.out]; exact hjM)⟩
          have d0 := (HLs.out.below hB.out).cells j x hx
          have hRx := HR.out _ hB.out x (List.mem_of_getElem? hx)
          obtain ⟨ax, cx, hxf⟩ := hRx.form
          have hA := ownR_apps hO.out hRx (fun b q => (hO.out.row.lt b q).1) (by have h1 := HC.out (j + 1); rw [cat_take hx, List.length_append] at h1; omega) hB.out.size
          rw [← cat_take hx] at hA
          rw [hxf] at d0 hA
          clear hx hxf hRx
          go_wp2_with (at_builtin; refine wpList_append_ex (by rfl) (.tmp 31) (.tmp 32) 31 (by rfl) _ _ (by rfl) (by rfl) hA ?_; rintro v7 w7 ⟨hO7, hB7⟩)
          go_roundw
          case rel => exact ⟨j + 1, by simp, by show _ ≤ _; omega, hO7, hB.out.trans hB7⟩
          case measure => simp only [intOf]; omega
        · have hji : ¬ (j : Int) < (k : Int) := by omega
          obtain rfl : j = k := by have := hj.out; omega
          go_wp2
          go_ret
          exact ⟨_, rfl, by rw [← HAll.out]; exact hO.out, hB.out⟩
theorem rws_cat (ls : List Lt) : rws (cat ls) = ls.flatMap fun x => rws x.2 := by
  unfold cat rws
  rw [List.map_flatMap]
theorem together17 {w : World} {g : Nat} {ls : List Lt} (h : Ls w g ls) (hm : ls.length ≤ 10) (hn : (cat ls).length ≤ 100) (hv : ∀ e ∈ cat ls, e.2.1.length ≤ 1000) : Calls Try.prog 17 #[.slice (some ⟨g, 0, none⟩) ls.length ls.length] w (LPost w (canonR (ls.flatMap fun x => rws x.2))) := by
  have k32 := concat32 h hm (by omega)
  have HN : Hid _ := hn
  have HV : Hid _ := hv
  clear h hn hv
  generalize ls.length = m at *
  go_enter Try.func17, Try.ntmps17
  go_wp2_with (first
    | (go_at_call 32; (with_reducible refine k32.mono ?_); rintro e w1 ⟨v1, rfl, hO1, hB1⟩; have k4 := canon7 hO1.rl HN.out HV.out; have HB1 : Hid _ := hB1; clear hO1 hB1 k32)
    | (go_at_call 4; (with_reducible refine k4.mono ?_); rintro e w2 ⟨v2, x2, rfl, hO2, hE2, hB2⟩))
  go_ret
  exact ⟨_, x2, rfl, hO2.base HB1.out.size, by rw [hE2, rws_cat], bmore HB1.out hB2⟩
end Go.Proofs.Ythalgnfffcimhaa
