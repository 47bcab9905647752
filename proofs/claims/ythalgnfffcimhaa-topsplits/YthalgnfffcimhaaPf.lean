/- A column's place; a row with other values. -/
import Derived.Test.YthalgnfffcimhaaCb
namespace Go.Proofs.Ythalgnfffcimhaa
open Go.RowKit Go.Shelf
set_option maxRecDepth 100000
theorem ne_list {a b : ByteArray} (h : a ≠ b) : (a.toList == b.toList) = false := by
  rw [beq_eq_false_iff_ne, Lib.toList_data, Lib.toList_data]
  intro e
  exact h (ByteArray.ext (Array.toList_inj.1 e))
abbrev Cl := ByteArray × Int
structure CO (w : World) (g : Nat) (cs : List Cl) : Prop where
  cells : ∀ (i : Nat) (x : Cl), cs[i]? = some x → w.cell? ⟨g, i * 2, none⟩ = some (.string x.1) ∧ w.cell? ⟨g, i * 2 + 1, none⟩ = some (.int .u8 x.2)
theorem CO.below {w w' : World} {g : Nat} {cs : List Cl} (h : CO w g cs) (k : Below w.heap.size w w') : CO w' g cs :=
  ⟨fun i x hx => ⟨(k.cell (p := ⟨g, i * 2, none⟩) (World.block_lt_of_cell? w _ (h.cells i x hx).1)).trans (h.cells i x hx).1, (k.cell (p := ⟨g, i * 2 + 1, none⟩) (World.block_lt_of_cell? w _ (h.cells i x hx).2)).trans (h.cells i x hx).2⟩⟩
/-- The place of the first column of a name; the number of columns, if there is none. -/
def colN (cs : List Cl) (nm : ByteArray) : Nat := cs.findIdx fun x => decide (x.1 = nm)
def colI (cs : List Cl) (nm : ByteArray) : Int := if colN cs nm < cs.length then (colN cs nm : Int) else -1
theorem colI_at {cs : List Cl} {nm : ByteArray} {k : Nat} {x : Cl} (hx : cs[k]? = some x) (h : ∀ j y, j < k → cs[j]? = some y → y.1 ≠ nm) (he : x.1 = nm) : colI cs nm = (k : Int) := by
  obtain ⟨hk, rfl⟩ := List.getElem?_eq_some_iff.1 hx
  have : colN cs nm = k := by
    unfold colN
    rw [List.findIdx_eq hk]
    refine ⟨by simpa using he, fun j hj => ?_⟩
    simpa using h j cs[j] hj (List.getElem?_eq_getElem _)
  simp [colI, this, hk]
theorem colI_no {cs : List Cl} {nm : ByteArray} (h : ∀ (j : Nat) y, cs[j]? = some y → y.1 ≠ nm) : colI cs nm = -1 := by
  have : ¬ colN cs nm < cs.length := fun hk => by
    have := List.findIdx_getElem (w := hk)
    exact h (colN cs nm) _ (List.getElem?_eq_getElem hk) (of_decide_eq_true this)
  simp [colI, this]
set_option maxHeartbeats 1000000 in
theorem column31 {w : World} {g c : Nat} {cs : List Cl} (h : CO w g cs) (hl : cs.length ≤ 1000) (nm : ByteArray) :
    Calls Try.prog 31 #[.slice (some ⟨g, 0, none⟩) cs.length c, .string nm] w fun e w' => e = .returned (.int .i64 (colI cs nm)) ∧ Below w.heap.size w w' := by
  obtain ⟨N, hN⟩ : ∃ N, cs.length = N := ⟨_, rfl⟩
  have HN : Hid (cs.length = N) := hN
  have HC : Hid _ := h
  rw [hN] at hl ⊢
  clear h hN
  go_enter Try.func31, Try.ntmps31
  go_wp2_with fail
  go_loopw [9] (fun fi wr => ∃ (k : Nat), fi = .int .i64 (k : Int) ∧ Hid (k ≤ N) ∧ Hid (∀ j y, j < k → cs[j]? = some y → y.1 ≠ nm) ∧ Hid (Below w.heap.size w wr)) (fun fi _ => ((N : Int) - intOf fi).toNat)
  case atStart => exact ⟨0, rfl, Nat.zero_le _, fun j y hj => by omega, Below.refl _ _⟩
  case round =>
    obtain ⟨k, rfl, hk, hno, hB⟩ := hrel
    by_cases hkN : k < N
    · have hki : (k : Int) < (N : Int) := by omega
      have hk0 : (0 : Int) ≤ (k : Int) := by omega
      obtain ⟨x, hx⟩ : ∃ x, cs[k]? = some x := ⟨_, List.getElem?_eq_getElem (by rw [HN.out]; exact hkN)⟩
      obtain ⟨d0, d1⟩ := (CO.below HC.out hB.out).cells k x hx
      have HX : Hid (cs[k]? = some x) := hx
      obtain ⟨nx, kx⟩ := x
      simp only at d0 d1
      clear hx
      by_cases he : nx = nm
      · have HI : Hid (colI cs nm = (k : Int)) := colI_at HX.out hno.out he
        subst he
        go_wp2
        go_ret
        exact ⟨by rw [HI.out]; rfl, bal hB.out _⟩
      · have hen := ne_list he
        go_wp2
        go_roundw
        case rel => exact ⟨k + 1, by simp, by show _ ≤ _; omega, fun j y hj hy => by
            by_cases q : j = k
            · subst q
              have := HX.out
              rw [hy] at this
              cases this
              exact he
            · exact hno.out j y (by omega) hy, bal hB.out _⟩
        case measure => simp only [intOf]; omega
    · have hki : ¬ (k : Int) < (N : Int) := by omega
      have HI : Hid (colI cs nm = -1) := colI_no fun j y hy => hno.out j y (by have h1 := (List.getElem?_eq_some_iff.1 hy).1; rw [HN.out] at h1; omega) hy
      go_wp2
      go_ret
      exact ⟨by rw [HI.out]; rfl, hB.out⟩
end Go.Proofs.Ythalgnfffcimhaa
