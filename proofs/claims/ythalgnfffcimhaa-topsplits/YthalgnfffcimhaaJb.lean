/- Slices of spans: what they hold; span.addPiece. -/
import Derived.Test.YthalgnfffcimhaaJa
namespace Go.Proofs.Ythalgnfffcimhaa.Sp
open Go.RowKit

/-- a span's two cells -/
def enc2 (x : Int × Int) : List Value := [.int .i64 x.1, .int .i64 x.2]
def cells2 (xs : List (Int × Int)) : List Value := xs.flatMap enc2
theorem cells2_length (xs : List (Int × Int)) : (cells2 xs).length = xs.length * 2 := by
  induction xs with
  | nil => rfl
  | cons x r ih => simp only [cells2, List.flatMap_cons, List.length_append] at *; rw [ih]; simp [enc2]; omega
theorem cells2_append (xs ys : List (Int × Int)) : cells2 (xs ++ ys) = cells2 xs ++ cells2 ys := by simp [cells2]
theorem cells2_get (xs : List (Int × Int)) (i : Nat) (h : i < xs.length) : (cells2 xs)[i * 2]? = some (.int .i64 xs[i].1) ∧ (cells2 xs)[i * 2 + 1]? = some (.int .i64 xs[i].2) := by
  induction xs generalizing i with
  | nil => simp at h
  | cons x r ih =>
    cases i with
    | zero => simp [cells2, enc2]
    | succ j =>
      have hj : j < r.length := by simpa using h
      have := ih j hj
      have e1 : cells2 (x :: r) = Value.int .i64 x.1 :: Value.int .i64 x.2 :: cells2 r := by simp [cells2, enc2]
      rw [e1, show (j + 1) * 2 = j * 2 + 1 + 1 from by omega]
      simpa using this

/-- a slice value reads as a list of spans -/
def SRow (w : World) (v : Value) (xs : List (Int × Int)) : Prop :=
  ((∃ p cap, v = .slice p 0 cap) ∧ xs = []) ∨ ∃ b off cap, v = .slice (some ⟨b, off, none⟩) xs.length cap ∧ xs.length ≤ cap ∧ cap ≤ maxLen ∧ b < w.heap.size ∧
    ∀ i, (h : i < xs.length) → w.cell? ⟨b, off + i * 2, none⟩ = some (.int .i64 xs[i].1) ∧ w.cell? ⟨b, off + i * 2 + 1, none⟩ = some (.int .i64 xs[i].2)

/-- a slice value of the call's own -/
def Own (w : World) (B : Nat) (v : Value) (xs : List (Int × Int)) : Prop := w.ownsRow B 27 2 v xs.length (cells2 xs)

theorem Own.srow {w : World} {B : Nat} {v : Value} {xs : List (Int × Int)} (h : Own w B v xs) : SRow w v xs := by
  obtain ⟨h1, h2⟩ := h
  rcases h2 with ⟨rfl, hn⟩ | ⟨g, cap, cur, rfl, hb, hg, hnc, hcm, hcs, htake⟩
  · exact .inl ⟨⟨none, 0, rfl⟩, List.eq_nil_of_length_eq_zero hn⟩
  · refine .inr ⟨g, 0, cap, rfl, hnc, hcm, (Array.getElem?_eq_some_iff.1 hg).1, fun i hi => ?_⟩
    have hc := cells2_get xs i hi
    rw [← htake, List.getElem?_take, if_pos (by omega), List.getElem?_take, if_pos (by omega)] at hc
    simp only [Array.getElem?_toList] at hc
    simp only [World.cell?, hg, Nat.zero_add]
    exact ⟨by simpa using hc.1, by simpa using hc.2⟩

theorem SRow.below {w w' : World} {v : Value} {xs : List (Int × Int)} (h : SRow w v xs) {B : Nat} (hb : Below B w w') (hB : xs ≠ [] → ∀ k, v.ownBlock = some k → k < B) : SRow w' v xs := by
  rcases h with h | ⟨b, off, cap, rfl, h1, h2, h3, h4⟩
  · exact .inl h
  · by_cases hne : xs = []
    · exact .inl ⟨⟨_, cap, by rw [hne]; rfl⟩, hne⟩
    have hbB : b < B := hB hne b rfl
    refine .inr ⟨b, off, cap, rfl, h1, h2, Nat.lt_of_lt_of_le h3 hb.size, fun i hi => ?_⟩
    rw [hb.cell (p := ⟨b, off + i * 2, none⟩) hbB, hb.cell (p := ⟨b, off + i * 2 + 1, none⟩) hbB]
    exact h4 i hi

theorem SRow.lt {w : World} {v : Value} {xs : List (Int × Int)} (h : SRow w v xs) : xs ≠ [] → ∀ k, v.ownBlock = some k → k < w.heap.size := by
  intro hne k hk
  rcases h with ⟨_, h0⟩ | ⟨b, off, cap, rfl, h1, h2, h3, h4⟩
  · exact absurd h0 hne
  · simp [Value.ownBlock] at hk; omega

theorem Own.base {w : World} {B B' : Nat} {v : Value} {xs : List (Int × Int)} (h : Own w B v xs) (hB : B' ≤ B) : Own w B' v xs := by
  obtain ⟨h1, h2⟩ := h
  rcases h2 with h2 | ⟨g, cap, cur, r1, hb, r⟩
  · exact ⟨h1, .inl h2⟩
  · exact ⟨h1, .inr ⟨g, cap, cur, r1, Nat.le_trans hB hb, r⟩⟩

theorem Own.below {w w' : World} {B B' : Nat} {v : Value} {xs : List (Int × Int)} (h : Own w B v xs) (hb : Below B' w w') (hB : ∀ k, v.ownBlock = some k → k < B') : Own w' B v xs := by
  obtain ⟨h1, h2⟩ := h
  rcases h2 with h2 | ⟨g, cap, cur, rfl, hbg, hg, r⟩
  · exact ⟨h1, .inl h2⟩
  · exact ⟨h1, .inr ⟨g, cap, cur, rfl, hbg, by rw [hb.block g (hB g rfl)]; exact hg, r⟩⟩

theorem Own.nil (w : World) (B : Nat) : Own w B (.slice none 0 0) [] := World.ownsRow_nil _ _ _ _

theorem Try.info27 : (Try.prog.info? 27).map (fun i => (i.zero, i.size, i.bytes)) = some (some (.agg #[.int .i64 0, .int .i64 0]), 2, 16) := by kernel_rfl

/-- addPiece's list -/
def addP (xs : List (Int × Int)) (a b : Int) : List (Int × Int) := if a < b then xs ++ [(a, b)] else xs

end Go.Proofs.Ythalgnfffcimhaa.Sp
