/- Slices of ints; span.innerPoints: the points within a span, rising. -/
import Derived.Test.YtgkkknjkgpdcjabChain
import Derived.Test.YtgkkknjkgpdcjabHelp
import Derived.Test.YtgkkknjkgpdcjabShelfB
import Derived.Sort.OwnSortedInts
namespace Go.Proofs.Ytgkkknjkgpdcjab
open Go.RowKit

/-- a slice value reads as a list of ints -/
def IRow (w : World) (v : Value) (zs : List Int) : Prop :=
  ((∃ p cap, v = .slice p 0 cap) ∧ zs = []) ∨ ∃ b off cap, v = .slice (some ⟨b, off, none⟩) zs.length cap ∧ zs.length ≤ cap ∧ cap ≤ maxLen ∧ b < w.heap.size ∧
    ∀ i, (h : i < zs.length) → w.cell? ⟨b, off + i, none⟩ = some (.int .i64 zs[i])
def OwnI (w : World) (B : Nat) (v : Value) (zs : List Int) : Prop := w.ownsRow B 3 1 v zs.length (zs.map (Value.int .i64))

theorem IRow.form {w : World} {v : Value} {zs : List Int} (h : IRow w v zs) : ∃ p cap, v = .slice p zs.length cap ∧ ∀ i, (hi : i < zs.length) → ∃ b off, p = some ⟨b, off, none⟩ ∧ b < w.heap.size ∧ w.cell? ⟨b, off + i, none⟩ = some (.int .i64 zs[i]) := by
  rcases h with ⟨⟨p, cap, rfl⟩, rfl⟩ | ⟨b, off, cap, rfl, h1, h2, h3, h4⟩
  · exact ⟨p, cap, rfl, fun i hi => by simp at hi⟩
  · exact ⟨_, cap, rfl, fun i hi => ⟨b, off, rfl, h3, h4 i hi⟩⟩
theorem IRow.lt {w : World} {v : Value} {zs : List Int} (h : IRow w v zs) : zs ≠ [] → ∀ k, v.ownBlock = some k → k < w.heap.size := by
  intro hne k hk
  rcases h with ⟨_, h0⟩ | ⟨b, off, cap, rfl, h1, h2, h3, h4⟩
  · exact absurd h0 hne
  · simp [Value.ownBlock] at hk; omega
theorem IRow.below {w w' : World} {v : Value} {zs : List Int} (h : IRow w v zs) {B : Nat} (hb : Below B w w') (hB : zs ≠ [] → ∀ k, v.ownBlock = some k → k < B) : IRow w' v zs := by
  rcases h with h | ⟨b, off, cap, rfl, h1, h2, h3, h4⟩
  · exact .inl h
  · by_cases hne : zs = []
    · exact .inl ⟨⟨_, cap, by rw [hne]; rfl⟩, hne⟩
    have hbB : b < B := hB hne b rfl
    refine .inr ⟨b, off, cap, rfl, h1, h2, Nat.lt_of_lt_of_le h3 hb.size, fun i hi => ?_⟩
    rw [bc hb b (off + i) hbB]
    exact h4 i hi
theorem OwnI.irow {w : World} {B : Nat} {v : Value} {zs : List Int} (h : OwnI w B v zs) : IRow w v zs := by
  obtain ⟨h1, h2⟩ := h
  rcases h2 with ⟨rfl, hn⟩ | ⟨g, cap, cur, rfl, hb, hg, hnc, hcm, hcs, htake⟩
  · exact .inl ⟨⟨none, 0, rfl⟩, List.eq_nil_of_length_eq_zero hn⟩
  · refine .inr ⟨g, 0, cap, rfl, hnc, hcm, (Array.getElem?_eq_some_iff.1 hg).1, fun i hi => ?_⟩
    have hc : (zs.map (Value.int .i64))[i]? = some (.int .i64 zs[i]) := by simp [hi]
    rw [← htake, List.getElem?_take, if_pos (by omega)] at hc
    simp only [Array.getElem?_toList] at hc
    simp only [World.cell?, hg, Nat.zero_add]
    simpa using hc

theorem Try.info3 : (Try.prog.info? 3).map (fun i => (i.zero, i.size, i.bytes)) = some (some (.int .i64 0), 1, 8) := by kernel_rfl

set_option maxHeartbeats 1000000 in
theorem ins59_none (w : World) : Calls Try.prog 20 #[.slice none 0 0, .int .i64 0, .int .i64 0] w fun e w' => e = .returned (.tuple #[]) ∧ w' = w := by
  go_enter Try.func20, Try.ntmps20
  go_wp2
  refine wp_loop_rounds 1 ?_
  rw [rounds_succ]
  go_wp2
  go_end0
  exact ⟨rfl, rfl⟩
set_option maxHeartbeats 1000000 in
theorem pdq48_none (lim : Int) (w : World) : Calls Try.prog 15 #[.slice none 0 0, .int .i64 0, .int .i64 0, .int .i64 lim] w fun e w' => e = .returned (.tuple #[]) ∧ w' = w := by
  go_enter Try.func15, Try.ntmps15
  go_wp2
  refine wp_loop_rounds 1 ?_
  rw [rounds_succ]
  go_wp2_with (go_at_call 20; refine (ins59_none _).mono ?_; rintro e w' ⟨rfl, rfl⟩)
  (try simp only [Exit.inBlock, Exit.then]); refine bodyPost_ret (results_none rfl _ _ _) rfl ?_
  exact ⟨rfl, rfl⟩
set_option maxHeartbeats 1000000 in
theorem sort44_none (w : World) : Calls Try.prog 13 #[.slice none 0 0] w fun e w' => e = .returned (.tuple #[]) ∧ w' = w := by
  go_enter Try.func13, Try.ntmps13
  go_wp2_with (first | (go_at_call 16; refine (len46_0 _).mono ?_; rintro e w' ⟨rfl, rfl⟩) | (go_at_call 15; refine (pdq48_none _ _).mono ?_; rintro e w' ⟨rfl, rfl⟩))
  go_end0
  exact ⟨rfl, rfl⟩

/-- rising -/
def RisingI (cs : List Int) : Prop := ∀ i j, (hj : j < cs.length) → (h : i < j) → cs[i] ≤ cs[j]

theorem merge_rising (zs : List Int) : RisingI (zs.mergeSort fun x y => decide (x ≤ y)) := by
  have h := List.pairwise_mergeSort (le := fun x y : Int => decide (x ≤ y)) (fun a b c h1 h2 => by simp at *; omega) (fun a b => by simp; omega) zs
  rw [List.pairwise_iff_getElem] at h
  intro i j hj hij
  have := h i j (by omega) hj hij
  simpa using this

theorem sort44 (v : Value) (zs : List Int) (w : World) (B : Nat) (hown : OwnI w B v zs) (hB : B ≤ w.heap.size) (hl : zs.length ≤ 100000) :
    Calls Try.prog 13 #[v] w fun e w' => e = .returned (.tuple #[]) ∧ ∃ cs, cs.Perm zs ∧ RisingI cs ∧ OwnI w' B v cs ∧ Below B w w' := by
  have hown0 := hown
  obtain ⟨h1, h2⟩ := hown
  rcases h2 with ⟨rfl, hn⟩ | ⟨g, cap, cur, rfl, hb, hg, hnc, hcm, hcs, htake⟩
  · have hx : zs = [] := List.eq_nil_of_length_eq_zero hn
    subst hx
    refine (sort44_none _).mono ?_
    rintro e w' ⟨rfl, rfl⟩
    exact ⟨rfl, [], List.Perm.refl _, fun i j hj => by simp at hj, hown0, Below.refl _ _⟩
  · have hcon := Any.slices_Sort_int Try.lays189 g 0 cap zs w (holds_of_blockI hg (by simpa using htake)) (Array.getElem?_eq_some_iff.1 hg).1 (by omega)
    change Calls Try.prog 13 _ _ _ at hcon
    refine hcon.mono ?_
    rintro e w' ⟨rfl, n, os, rfl⟩
    have hp : (zs.mergeSort fun x y => decide (x ≤ y)).Perm zs := List.mergeSort_perm _ _
    refine ⟨rfl, _, hp, merge_rising zs, ?_, ?_⟩
    · have := ownsRow_sortedI (n := n) (os := os) (ts := zs.mergeSort fun x y => decide (x ≤ y)) hp.length_eq hb hg hnc hcm hcs
      unfold OwnI
      rw [hp.length_eq]
      exact this
    · exact (Below.refl _ _).grown (grownBy_sortedI _) hB (fun k hk => by simp at hk; omega)

/-- the points within -/
def inner (a b : Int) (zs : List Int) : List Int := zs.filter fun z => hasB a b z && z != a
theorem inner_len (a b : Int) (zs : List Int) : (inner a b zs).length ≤ zs.length := List.length_filter_le _ _
theorem inner_snoc (a b : Int) (zs : List Int) (k : Nat) (h : k < zs.length) : inner a b (zs.take (k + 1)) = if (hasB a b zs[k] && zs[k] != a) = true then inner a b (zs.take k) ++ [zs[k]] else inner a b (zs.take k) := by
  rw [List.take_succ_eq_append_getElem h]
  unfold inner
  rw [List.filter_append]
  by_cases hr : (hasB a b zs[k] && zs[k] != a) = true <;> simp [hr]

/-- what is known in a round -/
def FI (w w1 : World) (bb o1 : Nat) (z a b : Int) (vg : Value) (gs : List Int) (W : World) : Prop :=
  (W.cell? ⟨bb, o1, none⟩ = some (.int .i64 z) ∧ W.cell? ⟨w.heap.size, 0, none⟩ = some (.int .i64 a) ∧ W.cell? ⟨w.heap.size, 1, none⟩ = some (.int .i64 b)) ∧
  (bb < W.heap.size ∧ w.heap.size < W.heap.size ∧ w1.heap.size ≤ W.heap.size ∧ OwnI W w1.heap.size vg gs ∧ Below w1.heap.size w1 W)
theorem OwnI.below {w w' : World} {B B' : Nat} {v : Value} {zs : List Int} (h : OwnI w B v zs) (hb : Below B' w w') (hB : ∀ k, v.ownBlock = some k → k < B') : OwnI w' B v zs := by
  obtain ⟨h1, h2⟩ := h
  rcases h2 with h2 | ⟨g, cap, cur, rfl, hbg, hg, r⟩
  · exact ⟨h1, .inl h2⟩
  · exact ⟨h1, .inr ⟨g, cap, cur, rfl, hbg, by rw [hb.block g (hB g rfl)]; exact hg, r⟩⟩
theorem FI.step {w w1 W W' : World} {bb o1 : Nat} {z a b : Int} {vg : Value} {gs : List Int} (h : FI w w1 bb o1 z a b vg gs W) (hb : Below W.heap.size W W') : FI w w1 bb o1 z a b vg gs W' := by
  obtain ⟨⟨h1, h3, h4⟩, h5, h6, h7, h8, h9⟩ := h
  have hs := hb.size
  exact ⟨⟨(bc hb _ _ h5).trans h1, (bc hb _ _ h6).trans h3, (bc hb _ _ h6).trans h4⟩, by omega, by omega, by omega, h8.below hb (fun j hj => (World.ownsRow.lt h8 j hj).2), h9.trans (hb.mono h7)⟩
theorem kI14 {w w1 : World} {bb o1 : Nat} {z a b : Int} {vg : Value} {gs : List Int} (W : World) (h : FI w w1 bb o1 z a b vg gs W) :
    Calls Try.prog 12 #[.agg #[.int .i64 a, .int .i64 b], .int .i64 z] W fun e w' => e = .returned (.bool (hasB a b z)) ∧ FI w w1 bb o1 z a b vg gs w' :=
  (has14 a b z W).mono fun _ _ ⟨he, hb⟩ => ⟨he, h.step hb⟩

end Go.Proofs.Ytgkkknjkgpdcjab
