/- Numbers that are the same. -/
import Derived.Test.YtgglhicpfjihlaaLi
import Derived.BigQuiet
namespace Go.Proofs.Ytgglhicpfjihlaa
open Go.RowKit Go.Shelf
set_option maxRecDepth 100000
/-- A slice of numbers reads as xs. -/
def IR (w : World) (v : Value) (xs : List Int) : Prop := ∃ a c, v = .slice a xs.length c ∧ (0 < xs.length → ∃ g o, a = some ⟨g, o, none⟩ ∧ g < w.heap.size ∧ ∀ (i : Nat) (y : Int), xs[i]? = some y → w.cell? ⟨g, o + i, none⟩ = some (.int .i64 y))
theorem IR.below {W W' : World} {v : Value} {L : List Int} (h : IR W v L) (k : Below W.heap.size W W') : IR W' v L := by
  obtain ⟨a, c, rfl, h⟩ := h
  refine ⟨a, c, rfl, fun h0 => ?_⟩
  obtain ⟨g, o, rfl, hg, hc⟩ := h h0
  exact ⟨g, o, rfl, Nat.lt_of_lt_of_le hg k.size, fun i s hs => (k.cell (p := ⟨g, _, none⟩) hg).trans (hc i s hs)⟩
theorem IR.at {w : World} {a : Option Addr} {n c : Nat} {xs : List Int} (h : IR w (.slice a n c) xs) {k : Nat} {y : Int} (hy : xs[k]? = some y) : ∃ g o, a = some ⟨g, o, none⟩ ∧ g < w.heap.size ∧ w.cell? ⟨g, o + k, none⟩ = some (.int .i64 y) := by
  obtain ⟨a', c', hv, h⟩ := h
  simp only [Value.slice.injEq] at hv
  obtain ⟨rfl, -, -⟩ := hv
  obtain ⟨g, o, rfl, hg, hc⟩ := h (by have := (List.getElem?_eq_some_iff.1 hy).1; omega)
  exact ⟨g, o, rfl, hg, hc k y hy⟩
theorem IR.nil {w : World} (a : Option Addr) (c : Nat) : IR w (.slice a 0 c) [] := ⟨a, c, rfl, fun h => absurd h (by simp)⟩
theorem IR.of_owns {W : World} {base : Nat} {v : Value} {L : List St} (h : W.ownsRow base 3 1 v L.length (ids L)) : IR W v (L.map (·.i)) := by
  by_cases h0 : 0 < L.length
  · obtain ⟨g, c, rfl, hg, hc⟩ := owns_form h h0
    refine ⟨_, c, by rw [List.length_map], fun _ => ⟨g, 0, rfl, hg, fun i y hy => ?_⟩⟩
    rw [Nat.zero_add]
    refine hc i _ ?_
    rw [List.getElem?_map] at hy
    unfold ids
    rw [List.getElem?_map]
    cases hs : L[i]? with
    | none => simp [hs] at hy
    | some s => simp [hs] at hy; simp [hy]
  · have : L = [] := List.length_eq_zero_iff.1 (by omega)
    subst this
    obtain ⟨_, ⟨rfl, _⟩ | ⟨g, c, cur, rfl, _⟩⟩ := h
    · exact IR.nil _ _
    · exact IR.nil _ _
set_option maxHeartbeats 1000000 in
theorem sameInts18 {W : World} {v v' : Value} {xs : List Int} (h : IR W v xs) (h' : IR W v' xs) (hl : xs.length ≤ 100000) : Calls Try.prog 18 #[v, v'] W fun e w' => e = .returned (.bool true) ∧ Below W.heap.size W w' := by
  obtain ⟨N, hN⟩ : ∃ N, xs.length = N := ⟨_, rfl⟩
  obtain ⟨a, c, rfl, hc⟩ := h
  obtain ⟨a', c', rfl, hc'⟩ := h'
  have HV : Hid (IR W (.slice a xs.length c) xs) := ⟨a, c, rfl, hc⟩
  have HV' : Hid (IR W (.slice a' xs.length c') xs) := ⟨a', c', rfl, hc'⟩
  have HN : Hid _ := hN
  rw [hN] at hl ⊢
  clear hc hc' hN
  go_enter Try.func18, Try.ntmps18
  go_wp2_with fail
  go_loopw [5] (fun fi wr => ∃ (k : Nat), fi = .int .i64 (k : Int) ∧ Hid (k ≤ N) ∧ Hid (Below W.heap.size W wr)) (fun fi _ => ((N : Int) - intOf fi).toNat)
  case atStart => exact ⟨0, rfl, Nat.zero_le _, Below.refl _ _⟩
  case round =>
    obtain ⟨k, rfl, hk, hB⟩ := hrel
    by_cases hkN : k < N
    · have hki : (k : Int) < (N : Int) := by omega
      have hk0 : (0 : Int) ≤ (k : Int) := by omega
      obtain ⟨y, hy⟩ : ∃ y, xs[k]? = some y := ⟨_, List.getElem?_eq_getElem (by rw [HN.out]; exact hkN)⟩
      obtain ⟨g, o, rfl, _, d0⟩ := (IR.below HV.out hB.out).at hy
      obtain ⟨g', o', rfl, _, d1⟩ := (IR.below HV'.out hB.out).at hy
      have hne : (y != y) = false := by simp
      go_wp2_with fail
      go_big_quiet (fail)
      go_wp2_with fail
      go_roundw
      case rel => exact ⟨k + 1, by simp, by show _ ≤ _; omega, bmore hB.out ⟨rfl, rfl, rfl, Nat.le_refl _, fun _ _ => rfl⟩⟩
      case measure => simp only [intOf]; omega
    · have hki : ¬ (k : Int) < (N : Int) := by omega
      go_wp2
      go_ret
      exact ⟨rfl, hB.out⟩
end Go.Proofs.Ytgglhicpfjihlaa
