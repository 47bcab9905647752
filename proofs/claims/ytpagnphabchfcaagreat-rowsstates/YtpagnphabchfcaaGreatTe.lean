/- Forks of states; what a nil state answers; Put of no name. -/
import Derived.Test.YtpagnphabchfcaaGreatTd
import Derived.Shelf.SlMaps.Clone
namespace Go.Proofs
open Go.Shelf
def Tryz.cloneR_ren : Go.Shelf.Ren := ⟨fun | 5 => 73 | 7 => 92 | n => n, fun | 4 => 4 | 20 => 20 | 23 => 88 | 25 => 9 | 3 => 22 | n => n, fun | n => n⟩
theorem Tryz.cloneR : Go.Proofs.SlLaysW.n5 Tryz.prog Tryz.cloneR_ren := {
  mixed := by kernel_rfl
  f5 := ⟨Tryz.f73.name, by decide, Tryz.func73.trans (congrArg some (by kernel_rfl))⟩
  f7 := Tryz.func92.trans (congrArg some (by kernel_rfl))
  t4 := Tryz.underlying4
  a4 := Tryz.isAgg4
  z4 := Tryz.sizeOf4
  v4 := Tryz.zeroValue4
  t20 := Tryz.underlying20
  a20 := Tryz.isAgg20
  z20 := Tryz.sizeOf20
  v20 := Tryz.zeroValue20
  t23 := Tryz.underlying88
  a23 := Tryz.isAgg88
  z23 := Tryz.sizeOf88
  v23 := Tryz.zeroValue88 }
end Go.Proofs
namespace Go.Proofs.YtpagnphabchfcaaGreat
open Go.RowKit Go.Shelf
set_option maxRecDepth 100000
set_option maxHeartbeats 1000000 in
theorem fork35 {w : World} {s m : Nat} {E : List (List UInt8 × Value)} (h : SM w s m E) :
    Calls Tryz.prog 35 #[.pointer (some ⟨s, 0, none⟩)] w fun e w' => ∃ s' m', e = .returned (.pointer (some ⟨s', 0, none⟩)) ∧ SM w' s' m' E ∧ w.heap.size ≤ s' ∧ w.heap.size ≤ m' ∧ Below w.heap.size w w' := by
  have hcon := AnyW.maps_Clone_owns Tryz.cloneR 9 heldR m E.length (DT E) w h.map
  change Calls Tryz.prog 73 _ _ _ at hcon
  have hc0 := h.blk.cell 0
  simp only [List.getElem?_cons_zero] at hc0
  clear h
  go_enter Tryz.func35, Tryz.ntmps35
  go_wp2_with (go_at_call 73; (with_reducible refine hcon.mono ?_); rintro e w1 ⟨rfl, h1, _, B1⟩)
  go_ret
  exact ⟨_, w.heap.size, rfl, ⟨blk_new w1 [.map (some w.heap.size)] 90, h1.alloc _⟩, B1.size, Nat.le_refl _, bal B1 _⟩
theorem fork35_nil (w : World) : Calls Tryz.prog 35 #[.pointer none] w fun e w' => e = .returned (.pointer none) ∧ w' = w := by
  go_enter Tryz.func35, Tryz.ntmps35
  go_wp2
  go_ret
  exact ⟨rfl, rfl⟩
theorem put39_nil (w : World) (n : ByteArray) (v : Value) : Calls Tryz.prog 39 #[.pointer none, .string n, v] w fun e w' => e = .returned (.int .i64 1) ∧ w' = w := by
  go_enter Tryz.func39, Tryz.ntmps39
  go_wp2
  go_ret
  exact ⟨rfl, rfl⟩
theorem get36_nil (w : World) (n : ByteArray) : Calls Tryz.prog 36 #[.pointer none, .string n] w fun e w' => e = .returned (.slice none 0 0) ∧ w' = w := by
  go_enter Tryz.func36, Tryz.ntmps36
  go_wp2
  go_ret
  exact ⟨rfl, rfl⟩
theorem names41_nil (w : World) : Calls Tryz.prog 41 #[.pointer none] w fun e w' => e = .returned (.slice none 0 0) ∧ w' = w := by
  go_enter Tryz.func41, Tryz.ntmps41
  go_wp2
  go_ret
  exact ⟨rfl, rfl⟩
theorem same33_nil (w : World) : Calls Tryz.prog 33 #[.pointer none, .pointer none] w fun e w' => e = .returned (.bool false) ∧ w' = w := by
  go_enter Tryz.func33, Tryz.ntmps33
  go_wp2
  go_ret
  exact ⟨rfl, rfl⟩
theorem put39_no {w : World} {s : Nat} {n : ByteArray} {v : Value} (hn : (n.toList == []) = true) : Calls Tryz.prog 39 #[.pointer (some ⟨s, 0, none⟩), .string n, v] w fun e w' => e = .returned (.int .i64 3) ∧ w' = w := by
  go_enter Tryz.func39, Tryz.ntmps39
  go_wp2
  go_ret
  exact ⟨rfl, rfl⟩
theorem rput40_no {w : World} {s : Nat} {n : ByteArray} {v : Value} (hn : (n.toList == []) = true) : Calls Tryz.prog 40 #[.pointer (some ⟨s, 0, none⟩), .string n, v] w fun e w' => e = .returned (.int .i64 3) ∧ w' = w := by
  go_enter Tryz.func40, Tryz.ntmps40
  go_wp2
  go_ret
  exact ⟨rfl, rfl⟩
theorem NL.cells {w : World} {X : Nat → Prop} {g o n c : Nat} {ns : List NEl} (h : NL w X (.slice (some ⟨g, o, none⟩) n c) ns) : ∀ j x, (cellsN ns)[j]? = some x → w.cell? ⟨g, o + j, none⟩ = some x := by
  intro j x hx
  have hj := (List.getElem?_eq_some_iff.1 hx).1
  rw [cellsN_length] at hj
  obtain ⟨e, he⟩ : ∃ e, ns[j / 2]? = some e := ⟨_, List.getElem?_eq_getElem (by omega)⟩
  obtain ⟨d0, d1⟩ := h.at2 he
  obtain ⟨e0, e1⟩ := cellsN_get ns (j / 2) e he
  rcases Nat.mod_two_eq_zero_or_one j with q | q
  · have hq : j / 2 * 2 = j := by omega
    rw [hq] at d0 e0
    rw [e0] at hx
    cases hx
    exact d0
  · have hq : j / 2 * 2 + 1 = j := by omega
    rw [Nat.add_assoc, hq] at d1
    rw [hq] at e1
    rw [e1] at hx
    cases hx
    exact d1
theorem nl_copy {w : World} {X : Nat → Prop} {a0 : Option Addr} {c0 : Nat} {ns : List NEl} (h : NL w X (.slice a0 ns.length c0) ns) (hn : ns.length ≤ 1000) (g : Nat) (hg : w.heap.size = g) :
    ∃ v7 w7, (Builtin.append_ #[91, 91] 91 #[.slice (some ⟨g, 0, none⟩) 0 0, .slice a0 ns.length c0]).run Tryz.prog (w.alloc (.cells #[] 94)) = .ok v7 w7 ∧ Hid (NL w7 (fun b => b = w7.heap.size) v7 ns) ∧ Hid (Below w.heap.size w w7) := by
  subst hg
  obtain ⟨i0, hi, hz0, hz1, hz2⟩ := info_parts' info94
  have hal := al w (.cells #[] 94)
  have h1 := h.below hal
  have hown : (w.alloc (.cells #[] 94)).ownsRow w.heap.size 94 2 (.slice (some ⟨w.heap.size, 0, none⟩) 0 0) 0 [] := ⟨rfl, .inr ⟨w.heap.size, 0, #[], rfl, Nat.le_refl _, (MapKept.heap_alloc w _).1, Nat.le_refl _, by unfold maxLen; omega, rfl, rfl⟩⟩
  by_cases h0 : ns = []
  · subst h0
    have hsrc : Src Tryz.prog i0.size 91 (.slice a0 0 c0) 0 [] (w.alloc (.cells #[] 94)) := by
      cases a0 with
      | none => exact Src.ofNil _ Tryz.underlying91 c0
      | some a => exact Src.ofSlice _ Tryz.underlying91 a 0 c0 [] (by simp) (by simp) (by simp)
    exact ⟨_, _, run_append_nothing _ 91 91 91 94 i0 Tryz.underlying91 hi _ 0 0 (Nat.le_refl _) _ hsrc, ⟨⟨_, 0, rfl, fun h => by simp at h⟩, fun e he => (by cases he), fun e he => (by cases he)⟩, hal⟩
  · have hpos : 0 < ns.length := List.length_pos_iff.2 h0
    obtain ⟨x, hx⟩ : ∃ x, ns[0]? = some x := ⟨_, List.getElem?_eq_getElem hpos⟩
    obtain ⟨g, o, rfl, _, _, _⟩ := h1.get hx
    have hone : ∀ u ∈ cellsN ns, u.oneCell' = true := by
      intro u hu
      simp only [cellsN, List.mem_flatMap] at hu
      obtain ⟨e, he, hu⟩ := hu
      obtain ⟨pa, na, ca, hf⟩ := (h.rows e he).form
      simp at hu
      rcases hu with rfl | rfl
      · rfl
      · rw [hf]; rfl
    obtain ⟨v7, w7, hr, r1, r2, r3, r4⟩ := run_append_own_at (P := Tryz.prog) _ w.heap.size 91 91 94 i0 (.agg #[.string ByteArray.empty, .slice none 0 0]) 2 40 Tryz.underlying91 hi hz0 hz1 hz2 rfl (by decide) _ 0 [] hown ⟨g, o, none⟩ ns.length c0 (cellsN ns) (cellsN_length ns) (fun j x hx => by rw [Addr.add_mid]; exact h1.cells j x hx) hone (by unfold maxLen; omega) (by omega) hal.size
    have hB : Below w.heap.size w w7 := hal.trans ⟨r2.os, r2.tape, r2.output, r2.size, fun k hk => r2.block k (by have := hal.size; omega) (fun e => by have := (World.ownsRow.lt hown k e.symm).1; omega)⟩
    rw [Nat.zero_add, List.nil_append] at r1
    have hrow : ∀ e ∈ ns, RRow w7 (fun b => w.heap.size ≤ b) e.2.1 e.2.2 := fun e he => ((h.rows e he).mono (Y := fun b => w.heap.size ≤ b) (fun b hb q => by omega)).below hB
    have hON : ON w7 w.heap.size v7 ns := ⟨r1, fun e he => (hrow e he).mono (fun b hb q => (World.ownsRow.lt r1 b q).1), h.small⟩
    refine ⟨v7, w7, hr, (?_ : NL w7 (fun b => b = w7.heap.size) v7 ns), hB⟩
    obtain ⟨q1, q2, q3⟩ := hON.nl
    exact ⟨by
      obtain ⟨a, c, rfl, hh⟩ := q1
      refine ⟨a, c, rfl, fun h0 => ?_⟩
      obtain ⟨g, o, rfl, hg, _, hc⟩ := hh h0
      exact ⟨g, o, rfl, hg, fun q => by omega, hc⟩, fun e he => (hrow e he).mono (fun b hb q => by omega), q3⟩
set_option maxHeartbeats 1000000 in
theorem rfork38 {w : World} {r : Nat} {σ : List Tab} (h : RSt w r σ) (hσ : σ.length ≤ 100) :
    Calls Tryz.prog 38 #[.pointer (some ⟨r, 0, none⟩)] w fun e w' => ∃ r', e = .returned (.pointer (some ⟨r', 0, none⟩)) ∧ RSt w' r' σ ∧ w.heap.size ≤ r' ∧ Below w.heap.size w w' := by
  obtain ⟨v0, ns, hb, hN, hT⟩ := h.ex
  obtain ⟨a0, c0, rfl⟩ := hN.form
  have hc0 := hb.cell 0
  simp only [List.getElem?_cons_zero] at hc0
  have hc1 : (w.alloc (.cells #[] 94)).cell? ⟨r, 0, none⟩ = some (.slice a0 ns.length c0) := (hb.below (al w _)).cell 0
  have HT : Hid (tabs ns = σ) := hT
  have HA := nl_copy hN (by have := congrArg List.length hT; simp [tabs] at this; omega) w.heap.size rfl
  clear h hb hN hT hσ
  obtain ⟨M, hM⟩ : ∃ M, ns.length = M := ⟨_, rfl⟩
  rw [hM] at hc0 hc1 HA
  go_enter Tryz.func38, Tryz.ntmps38
  go_wp2_with (at_builtin; refine wpList_append_ex (by rfl) (.tmp 5) (.tmp 9) 91 (by rfl) _ _ (by rfl) (by rfl) HA ?_; rintro v7 w7 ⟨hO7, hB7⟩; obtain ⟨p7, c7, hf7⟩ := hO7.out.form; rw [hM] at hf7; subst hf7)
  go_ret
  exact ⟨_, rfl, ⟨.slice p7 M c7, ns, blk_new w7 [.slice p7 M c7] 93, hO7.out.below (al _ _), HT.out⟩, hB7.out.size, bal hB7.out _⟩
end Go.Proofs.YtpagnphabchfcaaGreat
