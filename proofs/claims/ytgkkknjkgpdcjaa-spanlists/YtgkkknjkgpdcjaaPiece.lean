/- Slices of spans: what they hold; span.addPiece. -/
import Derived.Test.YtgkkknjkgpdcjaaSmall
namespace Go.Proofs.Ytgkkknjkgpdcjaa
open Go.RowKit

/-- a span's two cells -/
def enc2 (x : Int × Int) : List Value := [.int .i64 x.1, .int .i64 x.2]
def cells2 (xs : List (Int × Int)) : List Value := xs.flatMap enc2
theorem cells2_length (xs : List (Int × Int)) : (cells2 xs).length = xs.length * 2 := by
  induction xs with
  | nil => rfl
  | cons x r ih => simp only [cells2, List.flatMap_cons, List.length_append] at *; rw [ih]; simp [enc2]; omega
theorem cells2_append (xs ys : List (Int × Int)) : cells2 (xs ++ ys) = cells2 xs ++ cells2 ys := by simp [cells2]
theorem cells2_get (xs : List (Int × Int)) (i : Nat) (h : i < xs.length) : (cells2 xs)[i * 2]? = some (.int .i64 xs[i].1) ∧ (cells2 xs)[i * 2 + 1]? = some (.int .i64 xs[i].2) := by
  induction xs generalizing i with
  | nil => simp at h
  | cons x r ih =>
    cases i with
    | zero => simp [cells2, enc2]
    | succ j =>
      have hj : j < r.length := by simpa using h
      have := ih j hj
      have e1 : cells2 (x :: r) = Value.int .i64 x.1 :: Value.int .i64 x.2 :: cells2 r := by simp [cells2, enc2]
      rw [e1, show (j + 1) * 2 = j * 2 + 1 + 1 from by omega]
      simpa using this

/-- a slice value reads as a list of spans -/
def SRow (w : World) (v : Value) (xs : List (Int × Int)) : Prop :=
  ((∃ p cap, v = .slice p 0 cap) ∧ xs = []) ∨ ∃ b off cap, v = .slice (some ⟨b, off, none⟩) xs.length cap ∧ xs.length ≤ cap ∧ cap ≤ maxLen ∧ b < w.heap.size ∧
    ∀ i, (h : i < xs.length) → w.cell? ⟨b, off + i * 2, none⟩ = some (.int .i64 xs[i].1) ∧ w.cell? ⟨b, off + i * 2 + 1, none⟩ = some (.int .i64 xs[i].2)

/-- a slice value of the call's own -/
def Own (w : World) (B : Nat) (v : Value) (xs : List (Int × Int)) : Prop := w.ownsRow B 23 2 v xs.length (cells2 xs)

theorem Own.srow {w : World} {B : Nat} {v : Value} {xs : List (Int × Int)} (h : Own w B v xs) : SRow w v xs := by
  obtain ⟨h1, h2⟩ := h
  rcases h2 with ⟨rfl, hn⟩ | ⟨g, cap, cur, rfl, hb, hg, hnc, hcm, hcs, htake⟩
  · exact .inl ⟨⟨none, 0, rfl⟩, List.eq_nil_of_length_eq_zero hn⟩
  · refine .inr ⟨g, 0, cap, rfl, hnc, hcm, (Array.getElem?_eq_some_iff.1 hg).1, fun i hi => ?_⟩
    have hc := cells2_get xs i hi
    rw [← htake, List.getElem?_take, if_pos (by omega), List.getElem?_take, if_pos (by omega)] at hc
    simp only [Array.getElem?_toList] at hc
    simp only [World.cell?, hg, Nat.zero_add]
    exact ⟨by simpa using hc.1, by simpa using hc.2⟩

theorem SRow.below {w w' : World} {v : Value} {xs : List (Int × Int)} (h : SRow w v xs) {B : Nat} (hb : Below B w w') (hB : xs ≠ [] → ∀ k, v.ownBlock = some k → k < B) : SRow w' v xs := by
  rcases h with h | ⟨b, off, cap, rfl, h1, h2, h3, h4⟩
  · exact .inl h
  · by_cases hne : xs = []
    · exact .inl ⟨⟨_, cap, by rw [hne]; rfl⟩, hne⟩
    have hbB : b < B := hB hne b rfl
    refine .inr ⟨b, off, cap, rfl, h1, h2, Nat.lt_of_lt_of_le h3 hb.size, fun i hi => ?_⟩
    rw [hb.cell (p := ⟨b, off + i * 2, none⟩) hbB, hb.cell (p := ⟨b, off + i * 2 + 1, none⟩) hbB]
    exact h4 i hi

theorem SRow.lt {w : World} {v : Value} {xs : List (Int × Int)} (h : SRow w v xs) : xs ≠ [] → ∀ k, v.ownBlock = some k → k < w.heap.size := by
  intro hne k hk
  rcases h with ⟨_, h0⟩ | ⟨b, off, cap, rfl, h1, h2, h3, h4⟩
  · exact absurd h0 hne
  · simp [Value.ownBlock] at hk; omega

theorem Own.base {w : World} {B B' : Nat} {v : Value} {xs : List (Int × Int)} (h : Own w B v xs) (hB : B' ≤ B) : Own w B' v xs := by
  obtain ⟨h1, h2⟩ := h
  rcases h2 with h2 | ⟨g, cap, cur, r1, hb, r⟩
  · exact ⟨h1, .inl h2⟩
  · exact ⟨h1, .inr ⟨g, cap, cur, r1, Nat.le_trans hB hb, r⟩⟩

theorem Own.below {w w' : World} {B B' : Nat} {v : Value} {xs : List (Int × Int)} (h : Own w B v xs) (hb : Below B' w w') (hB : ∀ k, v.ownBlock = some k → k < B') : Own w' B v xs := by
  obtain ⟨h1, h2⟩ := h
  rcases h2 with h2 | ⟨g, cap, cur, rfl, hbg, hg, r⟩
  · exact ⟨h1, .inl h2⟩
  · exact ⟨h1, .inr ⟨g, cap, cur, rfl, hbg, by rw [hb.block g (hB g rfl)]; exact hg, r⟩⟩

theorem Own.nil (w : World) (B : Nat) : Own w B (.slice none 0 0) [] := World.ownsRow_nil _ _ _ _

theorem Try.info23 : (Try.prog.info? 23).map (fun i => (i.zero, i.size, i.bytes)) = some (some (.agg #[.int .i64 0, .int .i64 0]), 2, 16) := by kernel_rfl

/-- addPiece's list -/
def addP (xs : List (Int × Int)) (a b : Int) : List (Int × Int) := if a < b then xs ++ [(a, b)] else xs

set_option maxHeartbeats 400000 in
theorem addPiece36 (v : Value) (xs : List (Int × Int)) (a b : Int) (w : World) (B : Nat) (hown : Own w B v xs) (hB : B ≤ w.heap.size) (hl : xs.length ≤ 100000) :
    Calls Try.prog 36 #[v, .int .i64 a, .int .i64 b] w fun e w' => ∃ v', e = .returned v' ∧ Own w' B v' (addP xs a b) ∧ Below B w w' := by
  by_cases h : a < b
  · have hx : addP xs a b = xs ++ [(a, b)] := by simp [addP, h]
    rw [hx]; clear hx
    obtain ⟨i0, hi, hz0, hz1, hz2⟩ := info_parts Try.info23
    go_enter Try.func36, Try.ntmps36
    go_wp2_with (at_builtin; refine wpList_append_own _ rfl _ _ 31 rfl B 23 i0 (.agg #[.int .i64 0, .int .i64 0]) 2 16 Try.underlying31 hi hz0 hz1 hz2 rfl (by decide) _ _ _ rfl (World.ownsRow.alloc hown _) ⟨w.heap.size, 0, none⟩ 1 1 [.int .i64 a, .int .i64 b] rfl rfl ?c1 ?c2 ?c3 ?c4 ?c5 ?_)
    case c1 =>
      intro j u hj
      match j, hj with
      | 0, hj => simp at hj; subst hj; simp [Addr.add]
      | 1, hj => simp at hj; subst hj; simp [Addr.add]
    case c2 => intro u hu; simp at hu; rcases hu with rfl | rfl <;> rfl
    case c3 => unfold maxLen; omega
    case c4 => omega
    case c5 => simp; omega
    · intro v' w1 hown' hgrow _
      have R1 : Own w1 B v' (xs ++ [(a, b)]) := by
        unfold Own; rw [cells2_append]; simpa [cells2, enc2] using hown'
      have R2 : Below B w w1 := ((Below.refl B w).alloc hB _).grown hgrow (by simp; omega) (fun k hk => (World.ownsRow.lt hown k hk).1)
      clear hown' hgrow
      go_wp2
      go_ret
      exact ⟨_, rfl, R1, R2⟩
  · have hx : addP xs a b = xs := by simp [addP, h]
    rw [hx]; clear hx
    go_enter Try.func36, Try.ntmps36
    go_wp2
    go_ret
    exact ⟨_, rfl, hown, Below.refl _ _⟩

end Go.Proofs.Ytgkkknjkgpdcjaa
