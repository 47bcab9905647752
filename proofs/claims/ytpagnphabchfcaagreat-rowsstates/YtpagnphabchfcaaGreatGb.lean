/- Contracts of the small functions of span and of its reference: Right, Has, Both, Overlaps, Meets: each answers what the plain functions on numbers say, and turns no old memory. · Slices of spans: what they hold; span.addPiece. · slices.SortFunc at spans, by their begins, over a slice of the call's own. · span.byStart: the right spans of a list, rising by their begins, in new memory. · Lists of spans and their points: a rising list none of which touches the next one is told by its points. · span.Join: the points of all, as few spans. · few. · spans. · codec.Same. · byValues: what it yields. · A drawn region whose last operation may break what the others keep. · Canon: a row is laid on. · What Canon answers, by plain data; what its loop holds. · Canon. · At: a list of values is laid on. · At. -/
import Derived.Test.YtpagnphabchfcaaGreatGa
import Derived.WalkKit
import Derived.WalkSpells
import Derived.WalkLawsBesides
import Derived.Deep.QuietTactic
import Derived.BigQuiet
import Derived.Laws.StructEq
import Derived.LoopNIn
import Derived.LoopIn
/-! ### Contracts of the small functions of span and of its reference: Right, Has, Both, Overlaps, Meets: each answers what the plain functions on numbers say, and turns no old memory. -/
namespace Go.Proofs.YtpagnphabchfcaaGreat.Sp
open Go.RowKit

/-- is a span right? -/
def rightB (a b : Int) : Bool := decide (-1000 ≤ a) && (decide (a < b) && decide (b ≤ 1000))
theorem rightB_iff (a b : Int) : rightB a b = true ↔ -1000 ≤ a ∧ a < b ∧ b ≤ 1000 := by simp [rightB]
theorem rightB_no (a b : Int) : rightB a b = false ↔ ¬ (-1000 ≤ a ∧ a < b ∧ b ≤ 1000) := by rw [← rightB_iff]; simp

theorem bcell {W w1 : World} (hb : Below W.heap.size W w1) : (∀ b o, b < W.heap.size → w1.cell? ⟨b, o, none⟩ = W.cell? ⟨b, o, none⟩) ∧ (∀ b o, b < W.heap.size → w1.frozen? ⟨b, o, none⟩ = W.frozen? ⟨b, o, none⟩) :=
  ⟨fun b o h => hb.cell (p := ⟨b, o, none⟩) h, fun b o h => hb.frozen (p := ⟨b, o, none⟩) h⟩

set_option maxHeartbeats 400000 in
theorem right12 (a b : Int) (w : World) :
    Calls Tryz.prog 52 #[.agg #[.int .i64 a, .int .i64 b]] w fun e w' => e = .returned (.bool (rightB a b)) ∧ w' = w.alloc (.cells #[.int .i64 a, .int .i64 b] 39) := by
  cases hr : rightB a b
  · rw [rightB_no] at hr
    by_cases h1 : -1000 ≤ a
    · by_cases h2 : a < b
      · have h3 : ¬ b ≤ 1000 := by omega
        clear hr
        go_enter Tryz.func52, Tryz.ntmps52
        go_wp2
        go_ret
        exact ⟨rfl, rfl⟩
      · clear hr
        go_enter Tryz.func52, Tryz.ntmps52
        go_wp2
        go_ret
        exact ⟨rfl, rfl⟩
    · clear hr
      go_enter Tryz.func52, Tryz.ntmps52
      go_wp2
      go_ret
      exact ⟨rfl, rfl⟩
  · rw [rightB_iff] at hr
    obtain ⟨h1, h2, h3⟩ := hr
    go_enter Tryz.func52, Tryz.ntmps52
    go_wp2
    go_ret
    exact ⟨rfl, rfl⟩

/-- what both spans have -/
def bothB (a b c d : Int) : Bool := rightB a b && (rightB c d && decide (max a c < min b d))
def bothF (a b c d : Int) : Int := if bothB a b c d then max a c else 0
def bothT (a b c d : Int) : Int := if bothB a b c d then min b d else 0

theorem both_yes {a b c d x y : Int} (h1 : rightB a b = true) (h2 : rightB c d = true) (hx : x = max a c) (hy : y = min b d) (h3 : rightB x y = true) :
    bothB a b c d = true ∧ bothF a b c d = x ∧ bothT a b c d = y := by
  subst hx hy
  have hb : bothB a b c d = true := by
    rw [rightB_iff] at h3
    simp only [bothB, h1, h2, Bool.true_and, decide_eq_true_eq]; omega
  simp [bothF, bothT, hb]
theorem both_no {a b c d x y : Int} (h1 : rightB a b = true) (h2 : rightB c d = true) (hx : x = max a c) (hy : y = min b d) (h3 : ¬ rightB x y = true) :
    bothB a b c d = false ∧ bothF a b c d = 0 ∧ bothT a b c d = 0 := by
  subst hx hy
  have hb : bothB a b c d = false := by
    rw [rightB_iff] at h1 h2 h3
    have e1 : rightB a b = true := (rightB_iff _ _).2 h1
    have e2 : rightB c d = true := (rightB_iff _ _).2 h2
    simp only [bothB, e1, e2, Bool.true_and, decide_eq_false_iff_not]; omega
  simp [bothF, bothT, hb]

theorem below1 (w : World) (o : Obj) : Below w.heap.size w (w.alloc o) := (Below.refl _ _).alloc (Nat.le_refl _) _
theorem below_alloc {w w1 : World} (h : Below w.heap.size w w1) (o : Obj) : Below w.heap.size w (w1.alloc o) := h.alloc h.size _

/-- has a span a point? -/
def hasB (a b p : Int) : Bool := rightB a b && (decide (a ≤ p) && decide (p < b))
/-- do two meet? -/
def meetB (a b c d : Int) : Bool := rightB a b && (rightB c d && decide (b = c))

set_option maxHeartbeats 400000 in
theorem has14 (a b p : Int) (w : World) :
    Calls Tryz.prog 67 #[.agg #[.int .i64 a, .int .i64 b], .int .i64 p] w fun e w' => e = .returned (.bool (hasB a b p)) ∧ Below w.heap.size w w' := by
  cases h1 : rightB a b
  · have hb : hasB a b p = false := by simp [hasB, h1]
    rw [hb]; clear hb
    go_enter Tryz.func67, Tryz.ntmps67
    go_wp2_with (go_at_call 52; refine (right12 _ _ _).mono ?_; rintro e w' ⟨rfl, rfl⟩; first | rw [h1])
    go_ret
    exact ⟨rfl, by repeat (first | exact below1 _ _ | refine below_alloc ?_ _)⟩
  · by_cases h2 : a ≤ p
    · by_cases h3 : p < b
      · have hb : hasB a b p = true := by simp [hasB, h1, h2, h3]
        rw [hb]; clear hb
        go_enter Tryz.func67, Tryz.ntmps67
        go_wp2_with (go_at_call 52; refine (right12 _ _ _).mono ?_; rintro e w' ⟨rfl, rfl⟩; first | rw [h1])
        go_ret
        exact ⟨rfl, by repeat (first | exact below1 _ _ | refine below_alloc ?_ _)⟩
      · have hb : hasB a b p = false := by simp [hasB, h3]
        replace h3 : decide (p < b) = false := by simpa using h3
        rw [hb]; clear hb
        go_enter Tryz.func67, Tryz.ntmps67
        go_wp2_with (go_at_call 52; refine (right12 _ _ _).mono ?_; rintro e w' ⟨rfl, rfl⟩; first | rw [h1])
        go_ret
        exact ⟨rfl, by repeat (first | exact below1 _ _ | refine below_alloc ?_ _)⟩
    · have hb : hasB a b p = false := by simp [hasB, h2]
      rw [hb]; clear hb
      go_enter Tryz.func67, Tryz.ntmps67
      go_wp2_with (go_at_call 52; refine (right12 _ _ _).mono ?_; rintro e w' ⟨rfl, rfl⟩; first | rw [h1])
      go_ret
      exact ⟨rfl, by repeat (first | exact below1 _ _ | refine below_alloc ?_ _)⟩

end Go.Proofs.YtpagnphabchfcaaGreat.Sp
/-! ### Slices of spans: what they hold; span.addPiece. -/
namespace Go.Proofs.YtpagnphabchfcaaGreat.Sp
open Go.RowKit

/-- a span's two cells -/
def enc2 (x : Int × Int) : List Value := [.int .i64 x.1, .int .i64 x.2]
def cells2 (xs : List (Int × Int)) : List Value := xs.flatMap enc2
theorem cells2_length (xs : List (Int × Int)) : (cells2 xs).length = xs.length * 2 := by
  induction xs with
  | nil => rfl
  | cons x r ih => simp only [cells2, List.flatMap_cons, List.length_append] at *; rw [ih]; simp [enc2]; omega
theorem cells2_append (xs ys : List (Int × Int)) : cells2 (xs ++ ys) = cells2 xs ++ cells2 ys := by simp [cells2]
theorem cells2_get (xs : List (Int × Int)) (i : Nat) (h : i < xs.length) : (cells2 xs)[i * 2]? = some (.int .i64 xs[i].1) ∧ (cells2 xs)[i * 2 + 1]? = some (.int .i64 xs[i].2) := by
  induction xs generalizing i with
  | nil => simp at h
  | cons x r ih =>
    cases i with
    | zero => simp [cells2, enc2]
    | succ j =>
      have hj : j < r.length := by simpa using h
      have := ih j hj
      have e1 : cells2 (x :: r) = Value.int .i64 x.1 :: Value.int .i64 x.2 :: cells2 r := by simp [cells2, enc2]
      rw [e1, show (j + 1) * 2 = j * 2 + 1 + 1 from by omega]
      simpa using this

/-- a slice value reads as a list of spans -/
def SRow (w : World) (v : Value) (xs : List (Int × Int)) : Prop :=
  ((∃ p cap, v = .slice p 0 cap) ∧ xs = []) ∨ ∃ b off cap, v = .slice (some ⟨b, off, none⟩) xs.length cap ∧ xs.length ≤ cap ∧ cap ≤ maxLen ∧ b < w.heap.size ∧
    ∀ i, (h : i < xs.length) → w.cell? ⟨b, off + i * 2, none⟩ = some (.int .i64 xs[i].1) ∧ w.cell? ⟨b, off + i * 2 + 1, none⟩ = some (.int .i64 xs[i].2)

/-- a slice value of the call's own -/
def Own (w : World) (B : Nat) (v : Value) (xs : List (Int × Int)) : Prop := w.ownsRow B 39 2 v xs.length (cells2 xs)

theorem Own.srow {w : World} {B : Nat} {v : Value} {xs : List (Int × Int)} (h : Own w B v xs) : SRow w v xs := by
  obtain ⟨h1, h2⟩ := h
  rcases h2 with ⟨rfl, hn⟩ | ⟨g, cap, cur, rfl, hb, hg, hnc, hcm, hcs, htake⟩
  · exact .inl ⟨⟨none, 0, rfl⟩, List.eq_nil_of_length_eq_zero hn⟩
  · refine .inr ⟨g, 0, cap, rfl, hnc, hcm, (Array.getElem?_eq_some_iff.1 hg).1, fun i hi => ?_⟩
    have hc := cells2_get xs i hi
    rw [← htake, List.getElem?_take, if_pos (by omega), List.getElem?_take, if_pos (by omega)] at hc
    simp only [Array.getElem?_toList] at hc
    simp only [World.cell?, hg, Nat.zero_add]
    exact ⟨by simpa using hc.1, by simpa using hc.2⟩

theorem SRow.below {w w' : World} {v : Value} {xs : List (Int × Int)} (h : SRow w v xs) {B : Nat} (hb : Below B w w') (hB : xs ≠ [] → ∀ k, v.ownBlock = some k → k < B) : SRow w' v xs := by
  rcases h with h | ⟨b, off, cap, rfl, h1, h2, h3, h4⟩
  · exact .inl h
  · by_cases hne : xs = []
    · exact .inl ⟨⟨_, cap, by rw [hne]; rfl⟩, hne⟩
    have hbB : b < B := hB hne b rfl
    refine .inr ⟨b, off, cap, rfl, h1, h2, Nat.lt_of_lt_of_le h3 hb.size, fun i hi => ?_⟩
    rw [hb.cell (p := ⟨b, off + i * 2, none⟩) hbB, hb.cell (p := ⟨b, off + i * 2 + 1, none⟩) hbB]
    exact h4 i hi

theorem SRow.lt {w : World} {v : Value} {xs : List (Int × Int)} (h : SRow w v xs) : xs ≠ [] → ∀ k, v.ownBlock = some k → k < w.heap.size := by
  intro hne k hk
  rcases h with ⟨_, h0⟩ | ⟨b, off, cap, rfl, h1, h2, h3, h4⟩
  · exact absurd h0 hne
  · simp [Value.ownBlock] at hk; omega

theorem Own.base {w : World} {B B' : Nat} {v : Value} {xs : List (Int × Int)} (h : Own w B v xs) (hB : B' ≤ B) : Own w B' v xs := by
  obtain ⟨h1, h2⟩ := h
  rcases h2 with h2 | ⟨g, cap, cur, r1, hb, r⟩
  · exact ⟨h1, .inl h2⟩
  · exact ⟨h1, .inr ⟨g, cap, cur, r1, Nat.le_trans hB hb, r⟩⟩

theorem Own.below {w w' : World} {B B' : Nat} {v : Value} {xs : List (Int × Int)} (h : Own w B v xs) (hb : Below B' w w') (hB : ∀ k, v.ownBlock = some k → k < B') : Own w' B v xs := by
  obtain ⟨h1, h2⟩ := h
  rcases h2 with h2 | ⟨g, cap, cur, rfl, hbg, hg, r⟩
  · exact ⟨h1, .inl h2⟩
  · exact ⟨h1, .inr ⟨g, cap, cur, rfl, hbg, by rw [hb.block g (hB g rfl)]; exact hg, r⟩⟩

theorem Own.nil (w : World) (B : Nat) : Own w B (.slice none 0 0) [] := World.ownsRow_nil _ _ _ _

theorem Tryz.info39 : (Tryz.prog.info? 39).map (fun i => (i.zero, i.size, i.bytes)) = some (some (.agg #[.int .i64 0, .int .i64 0]), 2, 16) := by kernel_rfl

/-- addPiece's list -/
def addP (xs : List (Int × Int)) (a b : Int) : List (Int × Int) := if a < b then xs ++ [(a, b)] else xs

end Go.Proofs.YtpagnphabchfcaaGreat.Sp
/-! ### slices.SortFunc at spans, by their begins, over a slice of the call's own. -/
namespace Go.Proofs.YtpagnphabchfcaaGreat.Sp
open Go.Shelf Go.RowKit Go.Lib Go.Sort

def cmpF (x y : Int × Int) : Int := Lib.compareInt x.1 y.1
theorem ltF (x y : Int × Int) : ltOf cmpF x y = decide (x.1 < y.1) := by
  unfold ltOf cmpF Lib.compareInt
  by_cases h1 : x.1 < y.1
  · simp [h1]
  · by_cases h2 : y.1 < x.1 <;> simp [h1, h2]
theorem swoF : SWO (ltOf cmpF) where
  irrefl x := by rw [ltF]; simp
  trans x y z h1 h2 := by rw [ltF] at *; simp at *; omega
  ntrans x y z h1 h2 := by rw [ltF] at *; simp at *; omega

set_option maxHeartbeats 1000000 in
theorem closure42 (x y : Int × Int) (W : World) : Calls Tryz.prog 129 #[.agg #[.int .i64 x.1, .int .i64 x.2], .agg #[.int .i64 y.1, .int .i64 y.2]] W fun e w' => e = .returned (.int .i64 (cmpF x y)) ∧ ∃ q os', w' = grow (W.drewN q) os' := by
  have hcon := fun W' => cmpI46 x.1 y.1 W'
  change ∀ W', Calls Tryz.prog 80 _ _ _ at hcon
  unfold cmpF
  generalize Lib.compareInt x.1 y.1 = r at hcon ⊢
  go_enter Tryz.func129, Tryz.ntmps129
  go_wp2_with (go_at_call 80; refine (hcon _).mono ?_; rintro e w' ⟨rfl, rfl⟩)
  go_ret
  exact ⟨rfl, 0, _, by rw [alloc_eq_grow, alloc_eq_grow, grow_grow]; rfl⟩

theorem cmpLays42 (blk off size : Nat) (w : World) : CmpLays Tryz.prog 129 #[] enc2 2 cmpF blk off size w :=
  fun _ _ _ _ x y => closure42 x y _

theorem flat_get (xs : List (Int × Int)) (j : Nat) (h : j < xs.length * 2) : (flatK enc2 2 xs.toArray)[j]! = (cells2 xs)[j]'(by rw [cells2_length]; exact h) := by
  rw [get_flatK _ _ _ _ (by simpa using h)]
  have hj : j / 2 < xs.length := by omega
  have hg := cells2_get xs (j / 2) hj
  have hx : xs.toArray[j / 2]! = xs[j / 2] := by simp [hj]
  rw [hx]
  rcases (show j % 2 = 0 ∨ j % 2 = 1 by omega) with hr | hr
  · have e : j / 2 * 2 = j := by omega
    rw [e] at hg
    have := hg.1
    rw [List.getElem?_eq_getElem (by rw [cells2_length]; exact h)] at this
    simp only [Option.some.injEq] at this
    rw [this, hr]; rfl
  · have e : j / 2 * 2 + 1 = j := by omega
    rw [e] at hg
    have := hg.2
    rw [List.getElem?_eq_getElem (by rw [cells2_length]; exact h)] at this
    simp only [Option.some.injEq] at this
    rw [this, hr]; rfl

theorem heap_put {w : World} {g n : Nat} {os : Array Obj} {cur : Array Value} {e : TypeId} {fr : Nat × Nat} (d : Array Value) (hb : w.heap[g]? = some (.cells cur e fr)) :
    (grow (putRow id (Sort.ahead w n) g 0 d) os).heap[g]? = some (.cells (putCells id 0 d cur) e fr) := by
  have hg : g < w.heap.size := (Array.getElem?_eq_some_iff.1 hb).1
  rw [heap_grow_old _ _ (by simpa using hg)]
  simp [putRow, mapBlock, Sort.ahead, Array.getElem?_modify, hb, onCells]

theorem grown_put {w : World} {g n : Nat} {os : Array Obj} (d : Array Value) : w.grownBy (grow (putRow id (Sort.ahead w n) g 0 d) os) (some g) := by
  refine ⟨rfl, rfl, rfl, by simp, fun k hk hne => ?_⟩
  rw [heap_grow_old _ _ (by simpa using hk)]
  have : g ≠ k := fun e => hne (by rw [e])
  simp [putRow, mapBlock, Sort.ahead, Array.getElem?_modify, this]

theorem take_put (cur : Array Value) (ts : List (Int × Int)) (h : ts.length * 2 ≤ cur.size) : (putCells id 0 (flatK enc2 2 ts.toArray) cur).toList.take (ts.length * 2) = cells2 ts := by
  apply List.ext_getElem?
  intro j
  by_cases hj : j < ts.length * 2
  · rw [List.getElem?_take_of_lt hj, Array.getElem?_toList]
    have hf := flat_get ts j hj
    have hs : (flatK enc2 2 ts.toArray).size = ts.length * 2 := by simp
    rw [List.getElem?_eq_getElem (by rw [cells2_length]; exact hj), ← hf]
    simp [putCells, hj, hs, show j < cur.size by omega]
  · rw [List.getElem?_take_eq_none (by omega), List.getElem?_eq_none (by rw [cells2_length]; omega)]

theorem holds_own {w : World} {g : Nat} {cur : Array Value} {e : TypeId} {xs : List (Int × Int)} (hb : w.heap[g]? = some (.cells cur e (0, 0))) (ht : cur.toList.take (xs.length * 2) = cells2 xs) : HoldsK enc2 2 w g 0 xs.toArray := by
  intro j hj
  have hj' : j < xs.length * 2 := by simpa using hj
  refine ⟨?_, by simp [World.frozen?, hb]⟩
  rw [flat_get xs j hj']
  have h1 : (cur.toList.take (xs.length * 2))[j]? = (cells2 xs)[j]? := by rw [ht]
  rw [List.getElem?_take_of_lt hj', List.getElem?_eq_getElem (l := cells2 xs) (by rw [cells2_length]; exact hj')] at h1
  simp only [World.cell?, hb, Nat.zero_add]
  simp only [Option.isSome_none, Bool.false_eq_true, if_false]
  rw [← Array.getElem?_toList, h1]
  rfl

set_option maxHeartbeats 1000000 in
theorem ins49_none (fv : Value) (w : World) : Calls Tryz.prog 158 #[.slice none 0 0, .int .i64 0, .int .i64 0, fv] w fun e w' => e = .returned (.tuple #[]) ∧ w' = w := by
  go_enter Tryz.func158, Tryz.ntmps158
  go_wp2
  refine wp_loop_rounds 1 ?_
  rw [rounds_succ]
  go_wp2
  go_end0
  exact ⟨rfl, rfl⟩

set_option maxHeartbeats 1000000 in
theorem pdq45_none (lim : Int) (fv : Value) (w : World) : Calls Tryz.prog 150 #[.slice none 0 0, .int .i64 0, .int .i64 0, .int .i64 lim, fv] w fun e w' => e = .returned (.tuple #[]) ∧ w' = w := by
  go_enter Tryz.func150, Tryz.ntmps150
  go_wp2
  refine wp_loop_rounds 1 ?_
  rw [rounds_succ]
  go_wp2_with (go_at_call 158; refine (ins49_none _ _).mono ?_; rintro e w' ⟨rfl, rfl⟩)
  (try simp only [Exit.inBlock, Exit.then]); refine bodyPost_ret (results_none rfl _ _ _) rfl ?_
  exact ⟨rfl, rfl⟩

theorem len46_0 (w : World) : Calls Tryz.prog 78 #[.int .u64 0] w fun e w' => e = .returned (.int .i64 (Lib.bitLen 0 : Nat)) ∧ w' = w :=
  Any.bits_Len (SlLaysF0.n15.bits (P := Tryz.prog) (ρ := Tryz.sortSp_ren) { Tryz.sortSp with }) 0 w (by omega) (by omega)

set_option maxHeartbeats 1000000 in
theorem sort41_none (fv : Value) (w : World) : Calls Tryz.prog 128 #[.slice none 0 0, fv] w fun e w' => e = .returned (.tuple #[]) ∧ w' = w := by
  go_enter Tryz.func128, Tryz.ntmps128
  go_wp2_with (first | (go_at_call 78; refine (len46_0 _).mono ?_; rintro e w' ⟨rfl, rfl⟩) | (go_at_call 150; refine (pdq45_none _ _ _).mono ?_; rintro e w' ⟨rfl, rfl⟩))
  go_end0
  exact ⟨rfl, rfl⟩

/-- rising by their begins -/
def Rising (xs : List (Int × Int)) : Prop := ∀ i j, (hj : j < xs.length) → (h : i < j) → xs[i].1 ≤ xs[j].1

theorem sort41 (v : Value) (xs : List (Int × Int)) (w : World) (B : Nat) (hown : Own w B v xs) (hB : B ≤ w.heap.size) (hl : xs.length ≤ 100000) :
    Calls Tryz.prog 128 #[v, .func (.func 129) #[] #[]] w fun e w' => e = .returned (.tuple #[]) ∧ ∃ ys, ys.Perm xs ∧ Rising ys ∧ Own w' B v ys ∧ Below B w w' := by
  have hown0 := hown
  obtain ⟨h1, h2⟩ := hown
  rcases h2 with ⟨rfl, hn⟩ | ⟨g, cap, cur, rfl, hb, hg, hnc, hcm, hcs, htake⟩
  · have hx : xs = [] := List.eq_nil_of_length_eq_zero hn
    subst hx
    refine (sort41_none _ _).mono ?_
    rintro e w' ⟨rfl, rfl⟩
    exact ⟨rfl, [], List.Perm.refl _, fun i j hj => by simp at hj, hown0, Below.refl _ _⟩
  · have eg : ∀ args w, (callFunc 129 args).run Tryz.prog w = .ok (.enter 129 args) w := enters_of Tryz.func129 (by kernel_rfl) rfl
    have hcon := AnyQ.slices_SortFunc Tryz.sortSp 2 Tryz.isAgg39 Tryz.sizeOf39 enc2 (fun _ => rfl) (fun x v hv => by simp [enc2] at hv; rcases hv with rfl | rfl <;> rfl) cmpF swoF 129 #[] g 0 cap xs.toArray w eg (cmpLays42 g 0 _ w) (holds_own hg htake) (Array.getElem?_eq_some_iff.1 hg).1 (by simp; omega)
    change Calls Tryz.prog 128 _ _ _ at hcon
    refine hcon.mono ?_
    rintro e w' ⟨rfl, d', n, os, hp, hs, rfl⟩
    have hsz : d'.size = xs.length := by simpa using hp.1
    have hperm : d'.toList.Perm xs := by
      have h3 := hp.2.2
      have e1 : d'.extract 0 xs.toArray.size = d' := by
        rw [show xs.toArray.size = d'.size from by simp [hsz]]; simp
      have e2 : xs.toArray.extract 0 xs.toArray.size = xs.toArray := by simp
      rw [e1, e2] at h3
      simpa using h3
    refine ⟨rfl, d'.toList, hperm, ?_, ?_, ?_⟩
    · intro i j hj hij
      have := hs i j (Nat.zero_le _) hij (by simpa [hsz] using hj)
      rw [ltF] at this
      have hj' : j < d'.size := by simpa using hj
      rw [getElem!_pos d' j hj', getElem!_pos d' i (by omega)] at this
      simp at this
      simpa using this
    · unfold sortWorldK putRowK
      have hlen : d'.toList.length = xs.length := by simpa using hsz
      refine ⟨cells2_length _, .inr ⟨g, cap, _, by rw [hlen], hb, heap_put _ hg, by omega, hcm, by simp [putCells, hcs], ?_⟩⟩
      have := take_put cur d'.toList (by rw [hlen, hcs]; omega)
      simpa using this
    · unfold sortWorldK putRowK
      exact (Below.refl _ _).grown (grown_put _) hB (fun k hk => by simp at hk; omega)

end Go.Proofs.YtpagnphabchfcaaGreat.Sp
/-! ### span.byStart: the right spans of a list, rising by their begins, in new memory. -/
namespace Go.Proofs.YtpagnphabchfcaaGreat.Sp
open Go.Shelf Go.RowKit Go.Lib Go.Sort

/-- the right ones of a list -/
def rights (xs : List (Int × Int)) : List (Int × Int) := xs.filter fun x => rightB x.1 x.2
theorem rights_len (xs : List (Int × Int)) : (rights xs).length ≤ xs.length := List.length_filter_le _ _
theorem rights_snoc (xs : List (Int × Int)) (k : Nat) (h : k < xs.length) : rights (xs.take (k + 1)) = if rightB xs[k].1 xs[k].2 = true then rights (xs.take k) ++ [xs[k]] else rights (xs.take k) := by
  rw [List.take_succ_eq_append_getElem h]
  unfold rights
  rw [List.filter_append]
  by_cases hr : rightB xs[k].1 xs[k].2 = true <;> simp [hr]

set_option maxHeartbeats 1000000 in
theorem start37_nil (p : Option Addr) (cap : Nat) (w : World) :
    Calls Tryz.prog 89 #[.slice p 0 cap] w fun e w' => ∃ v ys, e = .returned v ∧ ys.Perm (rights []) ∧ Rising ys ∧ Own w' w.heap.size v ys ∧ Below w.heap.size w w' := by
  go_enter Tryz.func89, Tryz.ntmps89
  go_wp2
  refine wp_loop_rounds 1 ?_
  rw [rounds_succ]
  go_wp2_with (go_at_call 128; refine (sort41_none _ _).mono ?_; rintro e w' ⟨rfl, rfl⟩)
  go_ret
  exact ⟨_, [], rfl, List.Perm.refl _, fun i j hj => by simp at hj, Own.nil _ _, Below.refl _ _⟩

set_option maxHeartbeats 1000000 in
theorem start37_some (b off cap : Nat) (xs : List (Int × Int)) (w : World) (hl : xs.length ≤ 100000) (hb : b < w.heap.size)
    (hc : ∀ i, (h : i < xs.length) → w.cell? ⟨b, off + i * 2, none⟩ = some (.int .i64 xs[i].1) ∧ w.cell? ⟨b, off + i * 2 + 1, none⟩ = some (.int .i64 xs[i].2)) :
    Calls Tryz.prog 89 #[.slice (some ⟨b, off, none⟩) xs.length cap] w fun e w' => ∃ v ys, e = .returned v ∧ ys.Perm (rights xs) ∧ Rising ys ∧ Own w' w.heap.size v ys ∧ Below w.heap.size w w' := by
  obtain ⟨i0, hi, hz0, hz1, hz2⟩ := info_parts' Tryz.info39
  have HC : Hid (∀ i, (h : i < xs.length) → w.cell? ⟨b, off + i * 2, none⟩ = some (.int .i64 xs[i].1) ∧ w.cell? ⟨b, off + i * 2 + 1, none⟩ = some (.int .i64 xs[i].2)) := hc
  clear hc
  obtain ⟨n, hn⟩ : ∃ n, xs.length = n := ⟨_, rfl⟩
  have HN : Hid (xs.length = n) := hn
  rw [hn] at hl ⊢
  clear hn
  go_enter Tryz.func89, Tryz.ntmps89
  go_wp2
  go_loopw [3, 7] (fun v i wr => ∃ k : Nat, k ≤ n ∧ i = .int .i64 k ∧ Own wr w.heap.size v (rights (xs.take k)) ∧ Below w.heap.size w wr) (fun _ i _ => n - (intOf i).toNat)
  case atStart => exact ⟨0, Nat.zero_le _, rfl, Own.nil _ _, Below.refl _ _⟩
  case round =>
    obtain ⟨k, hk, rfl, hown, hnx⟩ := hrel
    have hsz := hnx.size
    by_cases hlt : k < n
    · have hkx : k < xs.length := by rw [HN.out]; exact hlt
      obtain ⟨y1, hy1⟩ : ∃ y, xs[k].1 = y := ⟨_, rfl⟩
      obtain ⟨y2, hy2⟩ : ∃ y, xs[k].2 = y := ⟨_, rfl⟩
      have hcc := HC.out k hkx
      rw [hy1, hy2] at hcc
      have c1 : wr.cell? ⟨b, off + k * 2, none⟩ = some (.int .i64 y1) := (hnx.cell (p := ⟨b, off + k * 2, none⟩) hb).trans hcc.1
      have c2 : wr.cell? ⟨b, off + k * 2 + 1, none⟩ = some (.int .i64 y2) := (hnx.cell (p := ⟨b, off + k * 2 + 1, none⟩) hb).trans hcc.2
      have HY : Hid (rights (xs.take (k + 1)) = if rightB y1 y2 = true then rights (xs.take k) ++ [(y1, y2)] else rights (xs.take k)) := by
        unfold Hid; rw [rights_snoc xs k hkx, hy1, hy2, show xs[k] = (y1, y2) from by rw [← hy1, ← hy2]]
      have hbw : b < wr.heap.size := by omega
      clear hcc hy1 hy2
      cases hr : rightB y1 y2
      · go_wp2_with (go_at_call 52; refine (right12 _ _ _).mono ?_; rintro e w' ⟨rfl, rfl⟩; rw [hr])
        go_roundw
        case rel => exact ⟨k + 1, by omega, by go_num, by rw [HY.out, if_neg (by simp [hr])]; exact hown.alloc _, hnx.alloc hsz _⟩
        case measure => simp [intOf]; omega
      · have hlen := rights_len (xs.take k)
        have htk : (xs.take k).length ≤ k := List.length_take_le _ _
        go_wp2_with (first | (go_at_call 52; refine (right12 _ _ _).mono ?_; rintro e w' ⟨rfl, rfl⟩; rw [hr]) | (at_builtin; refine wpList_append_own _ rfl _ _ 80 rfl w.heap.size 39 i0 (.agg #[.int .i64 0, .int .i64 0]) 2 16 Tryz.underlying80 hi hz0 hz1 hz2 rfl (by decide) _ _ _ rfl (World.ownsRow.alloc (World.ownsRow.alloc hown _) _) ⟨wr.heap.size + 1, 0, none⟩ 1 1 [.int .i64 y1, .int .i64 y2] rfl rfl ?c1 ?c2 ?c3 ?c4 ?c5 ?_))
        case c1 =>
          intro j u hj
          match j, hj with
          | 0, hj => simp at hj; subst hj; simp [Addr.add]
          | 1, hj => simp at hj; subst hj; simp [Addr.add]
        case c2 => intro u hu; simp at hu; rcases hu with rfl | rfl <;> rfl
        case c3 => unfold maxLen; omega
        case c4 => omega
        case c5 => simp; omega
        · intro v' w1 hown' hgrow _
          have R1 : Own w1 w.heap.size v' (rights (xs.take (k + 1))) := by
            rw [HY.out, if_pos hr]
            unfold Own; rw [cells2_append]; simpa [cells2, enc2] using hown'
          have R2 : RowKit.Below w.heap.size w w1 := ((hnx.alloc hsz _).alloc (by simp; omega) _).grown hgrow (by simp; omega) (fun j hj => (World.ownsRow.lt hown j hj).1)
          clear hown' hgrow hown c1 c2 hlen htk
          go_wp2
          go_roundw
          case rel => exact ⟨k + 1, by omega, by go_num, R1, R2⟩
          case measure => simp [intOf]; omega
    · have hkn : k = n := by omega
      subst hkn
      have hown2 : Own wr w.heap.size u3 (rights xs) := by rw [← HN.out, List.take_length] at hown; exact hown
      have hlen := rights_len xs
      rw [HN.out] at hlen
      clear hown
      go_wp2_with (go_at_call 128; refine (sort41 _ _ _ _ hown2 hsz (by omega)).mono ?_; rintro e w' ⟨rfl, ys, hp, hs, ho, hb2⟩)
      go_ret
      exact ⟨_, ys, rfl, hp, hs, ho, hnx.trans hb2⟩

theorem start37 (v : Value) (xs : List (Int × Int)) (w : World) (hl : xs.length ≤ 100000) (h : SRow w v xs) :
    Calls Tryz.prog 89 #[v] w fun e w' => ∃ v' ys, e = .returned v' ∧ ys.Perm (rights xs) ∧ Rising ys ∧ Own w' w.heap.size v' ys ∧ RowKit.Below w.heap.size w w' := by
  rcases h with ⟨⟨p, cap, rfl⟩, rfl⟩ | ⟨b, off, cap, rfl, h1, h2, h3, h4⟩
  · exact start37_nil p cap w
  · exact start37_some b off cap xs w hl h3 h4

end Go.Proofs.YtpagnphabchfcaaGreat.Sp
/-! ### Lists of spans and their points: a rising list none of which touches the next one is told by its points. -/
namespace Go.Proofs.YtpagnphabchfcaaGreat.Sp

/-- p is a point of one of the list's -/
def Pt (xs : List (Int × Int)) (p : Int) : Prop := ∃ x, x ∈ xs ∧ x.1 ≤ p ∧ p < x.2
/-- rising, none touches the next -/
def Canon (xs : List (Int × Int)) : Prop := (∀ x, x ∈ xs → rightB x.1 x.2 = true) ∧ xs.Pairwise fun x y => x.2 < y.1

theorem pt_nil (p : Int) : ¬ Pt [] p := by rintro ⟨x, h, _⟩; simp at h
theorem pt_cons (x : Int × Int) (xs : List (Int × Int)) (p : Int) : Pt (x :: xs) p ↔ (x.1 ≤ p ∧ p < x.2) ∨ Pt xs p := by
  constructor
  · rintro ⟨y, hy, h⟩
    rcases List.mem_cons.1 hy with rfl | hy
    · exact .inl h
    · exact .inr ⟨y, hy, h⟩
  · rintro (h | ⟨y, hy, h⟩)
    · exact ⟨x, by simp, h⟩
    · exact ⟨y, List.mem_cons_of_mem _ hy, h⟩
theorem pt_append (xs ys : List (Int × Int)) (p : Int) : Pt (xs ++ ys) p ↔ Pt xs p ∨ Pt ys p := by
  induction xs with
  | nil => simp [pt_nil]
  | cons x r ih => rw [List.cons_append, pt_cons, pt_cons, ih, or_assoc]
theorem pt_perm {xs ys : List (Int × Int)} (h : xs.Perm ys) (p : Int) : Pt xs p ↔ Pt ys p := by
  constructor
  · rintro ⟨x, hx, hp⟩; exact ⟨x, h.mem_iff.1 hx, hp⟩
  · rintro ⟨x, hx, hp⟩; exact ⟨x, h.mem_iff.2 hx, hp⟩

theorem canon_head {x : Int × Int} {xs : List (Int × Int)} (h : Canon (x :: xs)) (p : Int) (hp : Pt xs p) : x.2 < p := by
  obtain ⟨y, hy, h1, _⟩ := hp
  have := (List.pairwise_cons.1 h.2).1 y hy
  omega
theorem canon_tail {x : Int × Int} {xs : List (Int × Int)} (h : Canon (x :: xs)) : Canon xs := ⟨fun y hy => h.1 y (List.mem_cons_of_mem _ hy), (List.pairwise_cons.1 h.2).2⟩

theorem canon_unique : ∀ (xs ys : List (Int × Int)), Canon xs → Canon ys → (∀ p, Pt xs p ↔ Pt ys p) → xs = ys
  | [], [], _, _, _ => rfl
  | [], y :: ys, _, hy, h => by
    have r := (rightB_iff _ _).1 (hy.1 y (by simp))
    exact absurd ((h y.1).2 ((pt_cons _ _ _).2 (.inl ⟨Int.le_refl _, r.2.1⟩))) (pt_nil _)
  | x :: xs, [], hx, _, h => by
    have r := (rightB_iff _ _).1 (hx.1 x (by simp))
    exact absurd ((h x.1).1 ((pt_cons _ _ _).2 (.inl ⟨Int.le_refl _, r.2.1⟩))) (pt_nil _)
  | x :: xs, y :: ys, hx, hy, h => by
    have rx := (rightB_iff _ _).1 (hx.1 x (by simp))
    have ry := (rightB_iff _ _).1 (hy.1 y (by simp))
    have kx := canon_head hx
    have ky := canon_head hy
    have hh : ∀ p, ((x.1 ≤ p ∧ p < x.2) ∨ Pt xs p) ↔ ((y.1 ≤ p ∧ p < y.2) ∨ Pt ys p) := fun p => by rw [← pt_cons, ← pt_cons]; exact h p
    have e1 : x.1 = y.1 := by
      have a := (hh x.1).1 (.inl ⟨Int.le_refl _, rx.2.1⟩)
      have b := (hh y.1).2 (.inl ⟨Int.le_refl _, ry.2.1⟩)
      rcases a with a | a
      · rcases b with b | b
        · omega
        · have := kx _ b; omega
      · have := ky _ a
        rcases b with b | b
        · omega
        · have := kx _ b; omega
    have e2 : x.2 = y.2 := by
      rcases (show x.2 < y.2 ∨ x.2 = y.2 ∨ y.2 < x.2 by omega) with c | c | c
      · have a := (hh x.2).2 (.inl ⟨by omega, c⟩)
        rcases a with a | a
        · omega
        · have := kx _ a; omega
      · exact c
      · have a := (hh y.2).1 (.inl ⟨by omega, c⟩)
        rcases a with a | a
        · omega
        · have := ky _ a; omega
    have e : x = y := Prod.ext e1 e2
    subst e
    rw [canon_unique xs ys (canon_tail hx) (canon_tail hy) fun p => ?_]
    constructor
    · intro hp
      have := kx _ hp
      rcases (hh p).1 (.inr hp) with a | a
      · omega
      · exact a
    · intro hp
      have := ky _ hp
      rcases (hh p).2 (.inr hp) with a | a
      · omega
      · exact a

/-- a point of one that is right -/
def Has (xs : List (Int × Int)) (p : Int) : Prop := Pt (rights xs) p

/-- what Join has behind k of the rising ones -/
structure Joined (rs : List (Int × Int)) (k : Nat) (acc : List (Int × Int)) : Prop where
  canon : Canon acc
  pt : ∀ p, Pt acc p ↔ Pt (rs.take k) p
  ahead : ∀ y, y ∈ acc → ∀ j, (h : j < rs.length) → k ≤ j → y.1 ≤ rs[j].1
  len : acc.length ≤ k

theorem Joined.start (rs : List (Int × Int)) : Joined rs 0 [] := ⟨⟨by simp, by simp⟩, by simp, by simp, by simp⟩

theorem pt_take_succ (rs : List (Int × Int)) (k : Nat) (h : k < rs.length) (p : Int) : Pt (rs.take (k + 1)) p ↔ Pt (rs.take k) p ∨ (rs[k].1 ≤ p ∧ p < rs[k].2) := by
  rw [List.take_succ_eq_append_getElem h, pt_append, pt_cons]
  simp [pt_nil]

theorem Joined.add {rs acc : List (Int × Int)} {k : Nat} (h : Joined rs k acc) (hk : k < rs.length) (hr : ∀ x, x ∈ rs → rightB x.1 x.2 = true) (hs : Rising rs) (hlast : ∀ y, y ∈ acc → y.2 < rs[k].1) : Joined rs (k + 1) (acc ++ [rs[k]]) := by
  refine ⟨⟨?_, ?_⟩, ?_, ?_, ?_⟩
  · intro x hx
    rcases List.mem_append.1 hx with hx | hx
    · exact h.canon.1 x hx
    · rw [List.mem_singleton.1 hx]; exact hr _ (List.getElem_mem hk)
  · rw [List.pairwise_append]
    exact ⟨h.canon.2, by simp, fun x hx y hy => by rw [List.mem_singleton.1 hy]; exact hlast x hx⟩
  · intro p
    rw [pt_append, pt_take_succ _ _ hk, h.pt, pt_cons]
    simp [pt_nil]
  · intro y hy j hj hkj
    rcases List.mem_append.1 hy with hy | hy
    · exact h.ahead y hy j hj (by omega)
    · rw [List.mem_singleton.1 hy]
      exact hs k j hj (by omega)
  · have := h.len; simp; omega

theorem Joined.widen {rs ini : List (Int × Int)} {a b m : Int} {k : Nat} (h : Joined rs k (ini ++ [(a, b)])) (hk : k < rs.length) (hr : ∀ x, x ∈ rs → rightB x.1 x.2 = true) (hle : rs[k].1 ≤ b) (hm : m = max b rs[k].2) : Joined rs (k + 1) (ini ++ [(a, m)]) := by
  have ha : a ≤ rs[k].1 := h.ahead (a, b) (by simp) k hk (Nat.le_refl _)
  have r1 := (rightB_iff _ _).1 (h.canon.1 (a, b) (by simp))
  have r2 := (rightB_iff _ _).1 (hr _ (List.getElem_mem hk))
  have hp := h.canon.2
  rw [List.pairwise_append] at hp
  refine ⟨⟨?_, ?_⟩, ?_, ?_, ?_⟩
  · intro x hx
    rcases List.mem_append.1 hx with hx | hx
    · exact h.canon.1 x (by simp [hx])
    · rw [List.mem_singleton.1 hx, rightB_iff]; simp only at *; omega
  · rw [List.pairwise_append]
    refine ⟨hp.1, by simp, fun x hx y hy => ?_⟩
    have := hp.2.2 x hx (a, b) (by simp)
    rw [List.mem_singleton.1 hy]; simpa using this
  · intro p
    have hpt := h.pt p
    rw [pt_append, pt_cons] at hpt
    rw [pt_append, pt_take_succ _ _ hk, ← hpt, pt_cons]
    have := pt_nil p
    constructor
    · rintro (c | c | c)
      · exact .inl (.inl c)
      · by_cases hpb : p < b
        · exact .inl (.inr (.inl ⟨c.1, hpb⟩))
        · exact .inr ⟨by omega, by have := c.2; simp only at this; omega⟩
      · exact absurd c this
    · rintro ((c | c | c) | c)
      · exact .inl c
      · exact .inr (.inl ⟨c.1, by have := c.2; simp only at *; omega⟩)
      · exact absurd c this
      · exact .inr (.inl ⟨by simp only; omega, by simp only; omega⟩)
  · intro y hy j hj hkj
    rcases List.mem_append.1 hy with hy | hy
    · exact h.ahead y (by simp [hy]) j hj (by omega)
    · rw [List.mem_singleton.1 hy]
      have := h.ahead (a, b) (by simp) j hj (by omega)
      simpa using this
  · have := h.len; simp at this ⊢; omega

end Go.Proofs.YtpagnphabchfcaaGreat.Sp
/-! ### span.Join: the points of all, as few spans. -/
namespace Go.Proofs.YtpagnphabchfcaaGreat.Sp
open Go.RowKit

/-- an own slice that holds a last one -/
theorem Own.last {w : World} {B : Nat} {v : Value} {ini : List (Int × Int)} {a b : Int} (h : Own w B v (ini ++ [(a, b)])) :
    ∃ g cap, v = .slice (some ⟨g, 0, none⟩) (ini.length + 1) cap ∧ B ≤ g ∧ g < w.heap.size ∧ w.cell? ⟨g, ini.length * 2, none⟩ = some (.int .i64 a) ∧ w.cell? ⟨g, ini.length * 2 + 1, none⟩ = some (.int .i64 b) ∧ w.frozen? ⟨g, ini.length * 2 + 1, none⟩ = false ∧
      ∀ m, Own (w.setCell ⟨g, ini.length * 2 + 1, none⟩ (.int .i64 m)) B v (ini ++ [(a, m)]) := by
  obtain ⟨h1, h2⟩ := h
  rcases h2 with ⟨_, hn⟩ | ⟨g, cap, cur, rfl, hb, hg, hnc, hcm, hcs, htake⟩
  · simp at hn
  · have hl : (ini ++ [(a, b)]).length = ini.length + 1 := by simp
    rw [hl] at htake hnc
    have hlt : ini.length * 2 + 1 < cur.size := by rw [hcs]; omega
    have hc := cells2_get (ini ++ [(a, b)]) ini.length (by simp)
    rw [← htake, List.getElem?_take, if_pos (by omega), List.getElem?_take, if_pos (by omega)] at hc
    simp only [Array.getElem?_toList] at hc
    refine ⟨g, cap, by rw [hl], hb, (Array.getElem?_eq_some_iff.1 hg).1, ?_, ?_, by simp [World.frozen?, hg], fun m => ?_⟩
    · simp only [World.cell?, hg]; simpa using hc.1
    · simp only [World.cell?, hg]; simpa using hc.2
    · refine ⟨cells2_length _, .inr ⟨g, cap, cur.setIfInBounds (ini.length * 2 + 1) (.int .i64 m), by simp, hb, ?_, by simp; omega, hcm, by simp [hcs], ?_⟩⟩
      · simp only [World.setCell, Array.getElem?_modify, hg]
        simp
      · have e1 : (ini ++ [(a, m)]).length * 2 = ini.length * 2 + 1 + 1 := by simp; omega
        have e2 : (ini.length + 1) * 2 = ini.length * 2 + 1 + 1 := by omega
        rw [e2] at htake
        have hcl := cells2_length ini
        rw [e1]
        apply List.ext_getElem?
        intro j
        have hj := congrArg (fun l => l[j]?) htake
        simp only [cells2_append, List.getElem?_take, Array.getElem?_toList] at hj
        simp only [cells2_append, List.getElem?_take, Array.getElem?_toList, Array.getElem?_setIfInBounds]
        have e3 : cells2 [(a, m)] = [Value.int .i64 a, Value.int .i64 m] := rfl
        have e4 : cells2 [(a, b)] = [Value.int .i64 a, Value.int .i64 b] := rfl
        rw [e3]; rw [e4] at hj
        by_cases c1 : j < ini.length * 2
        · rw [List.getElem?_append_left (by omega)] at hj ⊢
          rw [if_pos (by omega)] at hj ⊢
          rw [if_neg (by omega)]; exact hj
        · rw [List.getElem?_append_right (by omega)] at hj ⊢
          rw [hcl] at hj ⊢
          by_cases c2 : j = ini.length * 2
          · subst c2
            rw [if_pos (by omega)] at hj ⊢
            rw [if_neg (by omega), hj]
            simp
          · by_cases c3 : j = ini.length * 2 + 1
            · subst c3
              rw [if_pos (by omega), if_pos rfl, if_pos (by omega)]
              simp
            · rw [if_neg (by omega)]
              rw [List.getElem?_eq_none (by simp; omega)]

theorem Own.setLast {w : World} {B g cg : Nat} {ini : List (Int × Int)} {a b : Int} (h : Own w B (.slice (some ⟨g, 0, none⟩) (ini.length + 1) cg) (ini ++ [(a, b)])) (m : Int) :
    Own (w.setCell ⟨g, ini.length * 2 + 1, none⟩ (.int .i64 m)) B (.slice (some ⟨g, 0, none⟩) (ini.length + 1) cg) (ini ++ [(a, m)]) := by
  obtain ⟨g', cap, hv, _, _, _, _, _, h4⟩ := h.last
  simp only [Value.slice.injEq, Option.some.injEq, Addr.mk.injEq] at hv
  obtain ⟨⟨rfl, _⟩, _⟩ := hv
  exact h4 m

theorem own_cases {w : World} {B : Nat} {v : Value} {xs : List (Int × Int)} (h : Own w B v xs) : (xs = [] ∧ ∃ p cap, v = .slice p 0 cap) ∨ ∃ ini a b, xs = ini ++ [(a, b)] := by
  rcases List.eq_nil_or_concat xs with rfl | ⟨ini, x, rfl⟩
  · left
    obtain ⟨_, h2⟩ := h
    rcases h2 with ⟨rfl, hn⟩ | ⟨g, cap, cur, rfl, _⟩
    · exact ⟨rfl, _, _, rfl⟩
    · exact ⟨rfl, _, _, rfl⟩
  · exact .inr ⟨ini, x.1, x.2, by simp⟩

theorem SRow.form {w : World} {v : Value} {xs : List (Int × Int)} (h : SRow w v xs) : ∃ p cap, v = .slice p xs.length cap ∧
    ∀ i, (hi : i < xs.length) → ∃ b off, p = some ⟨b, off, none⟩ ∧ b < w.heap.size ∧ w.cell? ⟨b, off + i * 2, none⟩ = some (.int .i64 xs[i].1) ∧ w.cell? ⟨b, off + i * 2 + 1, none⟩ = some (.int .i64 xs[i].2) := by
  rcases h with ⟨⟨p, cap, rfl⟩, rfl⟩ | ⟨b, off, cap, rfl, h1, h2, h3, h4⟩
  · exact ⟨p, cap, rfl, fun i hi => by simp at hi⟩
  · exact ⟨_, cap, rfl, fun i hi => ⟨b, off, rfl, h3, h4 i hi⟩⟩

theorem two_new (W : World) (y1 y2 : Int) (n : Nat) (hn : n = W.heap.size) : ∀ j u, [Value.int .i64 y1, Value.int .i64 y2][j]? = some u → (W.alloc (.cells #[.int .i64 y1, .int .i64 y2] 39)).cell? ((⟨n, 0, none⟩ : Addr).add j) = some u := by
  subst hn
  intro j u hj
  match j, hj with
  | 0, hj => simp at hj; subst hj; simp [Addr.add]
  | 1, hj => simp at hj; subst hj; simp [Addr.add]

theorem Own.same {w w' : World} {B : Nat} {v : Value} {xs : List (Int × Int)} (h : Own w B v xs) (he : w'.heap = w.heap) : Own w' B v xs := by
  unfold Own World.ownsRow at *; rw [he]; exact h
theorem drewN_heap (w : World) (n : Nat) : (w.drewN n).heap = w.heap := rfl

set_option maxHeartbeats 1000000 in
theorem join24 (v : Value) (xs : List (Int × Int)) (w : World) (hl : xs.length ≤ 100000) (h : SRow w v xs) :
    Calls Tryz.prog 61 #[v] w fun e w' => ∃ v' ys, e = .returned v' ∧ Canon ys ∧ (∀ p, Pt ys p ↔ Has xs p) ∧ ys.length ≤ xs.length ∧ Own w' w.heap.size v' ys ∧ Below w.heap.size w w' := by
  obtain ⟨i0, hi, hz0, hz1, hz2⟩ := info_parts' Tryz.info39
  have hstart : Calls Tryz.prog 89 #[v] w fun e w' => ∃ p cap n rs, e = .returned (.slice p n cap) ∧ n ≤ 100000 ∧ Hid (n = rs.length ∧ rs.length ≤ xs.length ∧ (∀ x, x ∈ rs → rightB x.1 x.2 = true) ∧ (∀ p, Pt rs p ↔ Has xs p) ∧ Rising rs ∧
      ∀ i, (hi : i < rs.length) → ∃ b off, p = some ⟨b, off, none⟩ ∧ b < w'.heap.size ∧ w'.cell? ⟨b, off + i * 2, none⟩ = some (.int .i64 rs[i].1) ∧ w'.cell? ⟨b, off + i * 2 + 1, none⟩ = some (.int .i64 rs[i].2)) ∧ Below w.heap.size w w' := by
    refine (start37 v xs w hl h).mono ?_
    rintro e w1 ⟨v1, rs, rfl, hp, hs, ho, hb1⟩
    obtain ⟨p, cap, rfl, hf⟩ := ho.srow.form
    have hlr : rs.length ≤ xs.length := by rw [hp.length_eq]; exact rights_len xs
    refine ⟨p, cap, _, rs, rfl, by omega, ⟨rfl, hlr, ?_, fun p => pt_perm hp p, hs, hf⟩, hb1⟩
    intro x hx
    have := hp.mem_iff.1 hx
    simpa [rights] using (List.mem_filter.1 this).2
  clear h
  go_enter Tryz.func61, Tryz.ntmps61
  go_wp2_with (go_at_call 89; refine hstart.mono ?_; rintro e w1 ⟨p, cap, n, rs, rfl, hn, HR, hb1⟩)
  clear hstart
  have hw1 := hb1.size
  go_loopw [3, 12] (fun v i wr => ∃ (k : Nat) (acc : List (Int × Int)), k ≤ n ∧ i = .int .i64 k ∧ Own wr w1.heap.size v acc ∧ Joined rs k acc ∧ Below w1.heap.size w1 wr) (fun _ i _ => n - (intOf i).toNat)
  case atStart => exact ⟨0, [], Nat.zero_le _, rfl, Own.nil _ _, Joined.start _, Below.refl _ _⟩
  case round =>
    obtain ⟨k, acc, hk, rfl, hown, hj, hnx⟩ := hrel
    have hsz := hnx.size
    by_cases hlt : k < n
    · obtain ⟨hnr, hlr, hr, hfin, hs, hf⟩ := HR.out
      have hkr : k < rs.length := by omega
      obtain ⟨b, off, hpe, hbl, hc1, hc2⟩ := hf k hkr
      subst hpe
      have c1 : wr.cell? ⟨b, off + k * 2, none⟩ = some (.int .i64 rs[k].1) := (hnx.cell (p := ⟨b, off + k * 2, none⟩) hbl).trans hc1
      have c2 : wr.cell? ⟨b, off + k * 2 + 1, none⟩ = some (.int .i64 rs[k].2) := (hnx.cell (p := ⟨b, off + k * 2 + 1, none⟩) hbl).trans hc2
      have hbw : b < wr.heap.size := by omega
      have hal := hj.len
      clear hc1 hc2 hf
      have JA := fun hlast => hj.add hkr hr hs hlast
      obtain ⟨y1, hy1⟩ : ∃ y, rs[k].1 = y := ⟨_, rfl⟩
      obtain ⟨y2, hy2⟩ : ∃ y, rs[k].2 = y := ⟨_, rfl⟩
      have hy : rs[k] = (y1, y2) := Prod.ext hy1 hy2
      rw [hy1] at c1 JA
      rw [hy2] at c2
      rw [hy] at JA
      rcases own_cases hown with ⟨rfl, q, cq, rfl⟩ | ⟨ini, a, d, rfl⟩
      · have J1 : Hid (Joined rs (k + 1) [(y1, y2)]) := JA (by simp)
        clear JA hj hy hy1 hy2 hr hs hfin HR hnr
        have hown3 : ∀ q', World.ownsRow ((wr.alloc (.cells #[.int .i64 y1, .int .i64 y2] 39)).drewN q') w1.heap.size 39 2 (.slice q 0 cq) 0 [] := fun q' => Own.same (xs := []) (World.ownsRow.alloc hown _) rfl
        go_wp2_with fail
        go_quiet (fail)
        go_wp2_with (at_builtin; refine wpList_append_own _ rfl _ _ 80 rfl w1.heap.size 39 i0 (.agg #[.int .i64 0, .int .i64 0]) 2 16 Tryz.underlying80 hi hz0 hz1 hz2 rfl (by decide) _ _ _ rfl (World.ownsRow.alloc (hown3 nq) _) ⟨wr.heap.size + 1, 0, none⟩ 1 1 [.int .i64 y1, .int .i64 y2] rfl rfl ?c1 ?c2 ?c3 ?c4 ?c5 ?_)
        case c1 => exact two_new _ _ _ _ (by simp)
        case c2 => intro u hu; simp at hu; rcases hu with rfl | rfl <;> rfl
        case c3 => unfold maxLen; first | omega | (simp; done) | (simp; omega)
        case c4 => first | omega | (simp; done) | (simp; omega)
        case c5 => simp; omega
        · intro v' w2 hown' hgrow _
          have R1 : Own w2 w1.heap.size v' ([] ++ [(y1, y2)]) := by
            unfold Own; rw [cells2_append]; simpa [cells2, enc2] using hown'
          have R2 : Below w1.heap.size w1 w2 := ((below_drewN (hnx.alloc hsz _) nq).alloc (by simp; omega) _).grown hgrow (by simp; omega) (fun j hj => (World.ownsRow.lt hown j hj).1)
          clear hown' hgrow hown hown3 c1 c2
          go_wp2
          go_roundw
          case rel => exact ⟨k + 1, _, by omega, by go_num, R1, J1.out, R2⟩
          case measure => simp [intOf]; omega
      · obtain ⟨g, cg, hve, hBg, hgl, g1, g2, g3, g4⟩ := hown.last
        have hgw : g < wr.heap.size := hgl
        subst hve
        have hgb : ¬ g = b := by omega
        by_cases hle : y1 ≤ d
        · have hd : decide (y1 ≤ d) = true := by simpa using hle
          have J1 : Hid (Joined rs (k + 1) (ini ++ [(a, max d y2)])) := hj.widen hkr hr (by rw [hy1]; exact hle) (by rw [hy2])
          clear JA hj hy hy1 hy2 hr hs hfin HR hnr g4
          simp at hal
          go_wp2_with fail
          go_quiet (fail)
          go_wp2_with fail
          go_region
          go_wp2
          go_roundw
          case rel => exact ⟨k + 1, _, by omega, by go_num, Own.setLast (Own.same (World.ownsRow.alloc hown (.cells #[.int .i64 y1, .int .i64 y2] 39)) rfl) _, J1.out, (below_drewN (hnx.alloc hsz _) _).setCell hBg _⟩
          case measure => simp [intOf]; omega
        · have hd : decide (y1 ≤ d) = false := by simpa using hle
          have J1 : Hid (Joined rs (k + 1) ((ini ++ [(a, d)]) ++ [(y1, y2)])) := JA (fun y hy => by
            have hc := hj.canon.2
            rw [List.pairwise_append] at hc
            have r1 := (rightB_iff _ _).1 (hj.canon.1 (a, d) (by simp))
            rcases List.mem_append.1 hy with hy | hy
            · have := hc.2.2 y hy (a, d) (by simp)
              simp only at *; omega
            · rw [List.mem_singleton.1 hy]; simp only; omega)
          have hown3 : ∀ q', World.ownsRow ((wr.alloc (.cells #[.int .i64 y1, .int .i64 y2] 39)).drewN q') w1.heap.size 39 2 (.slice (some ⟨g, 0, none⟩) (ini.length + 1) cg) (ini.length + 1) (cells2 (ini ++ [(a, d)])) := fun q' => by
            have := Own.same (w' := (wr.alloc (.cells #[.int .i64 y1, .int .i64 y2] 39)).drewN q') (World.ownsRow.alloc hown (.cells #[.int .i64 y1, .int .i64 y2] 39)) rfl
            unfold Own at this; simpa using this
          clear JA hj hy hy1 hy2 hr hs hfin HR hnr g4
          simp at hal
          go_wp2_with fail
          go_quiet (fail)
          go_wp2_with (at_builtin; refine wpList_append_own _ rfl _ _ 80 rfl w1.heap.size 39 i0 (.agg #[.int .i64 0, .int .i64 0]) 2 16 Tryz.underlying80 hi hz0 hz1 hz2 rfl (by decide) _ _ _ rfl (World.ownsRow.alloc (hown3 nq) _) ⟨wr.heap.size + 1, 0, none⟩ 1 1 [.int .i64 y1, .int .i64 y2] rfl rfl ?c1 ?c2 ?c3 ?c4 ?c5 ?_)
          case c1 => exact two_new _ _ _ _ (by simp)
          case c2 => intro u hu; simp at hu; rcases hu with rfl | rfl <;> rfl
          case c3 => unfold maxLen; first | omega | (simp; done) | (simp; omega)
          case c4 => first | omega | (simp; done) | (simp; omega)
          case c5 => simp; omega
          · intro v' w2 hown' hgrow _
            have R1 : Own w2 w1.heap.size v' ((ini ++ [(a, d)]) ++ [(y1, y2)]) := by
              unfold Own; rw [cells2_append]; simpa [cells2, enc2] using hown'
            have R2 : Below w1.heap.size w1 w2 := ((below_drewN (hnx.alloc hsz _) nq).alloc (by simp; omega) _).grown hgrow (by simp; omega) (fun j hj => (World.ownsRow.lt hown j hj).1)
            clear hown' hgrow hown hown3 c1 c2
            go_wp2
            go_roundw
            case rel => exact ⟨k + 1, _, by omega, by go_num, R1, J1.out, R2⟩
            case measure => simp [intOf]; omega
    · obtain ⟨hnr, hlr, hr, hfin, hs, hf⟩ := HR.out
      have hkn : k = rs.length := by omega
      have hfin2 : ∀ p, Pt acc p ↔ Has xs p := fun p => by rw [hj.pt p, hkn, List.take_length]; exact hfin p
      have hlen : acc.length ≤ xs.length := by have := hj.len; omega
      have hcan := hj.canon
      clear hr hs hf HR
      go_wp2
      go_ret
      exact ⟨_, acc, rfl, hcan, hfin2, hlen, hown.base (by omega), hb1.trans (hnx.mono (by omega))⟩

end Go.Proofs.YtpagnphabchfcaaGreat.Sp
/-! ### few. -/
namespace Go.Proofs.YtpagnphabchfcaaGreat
open Go.Shelf Go.RowKit
set_option maxRecDepth 100000
theorem SV.take {w : World} {X : Nat → Prop} {a : Option Addr} {n c m : Nat} {vs : List Vt} (h : SV w X (.slice a n c) vs) (hm : m ≤ n) : SV w X (.slice a m c) (vs.take m) := by
  obtain ⟨a', c', hv, hh⟩ := h
  simp only [Value.slice.injEq] at hv
  obtain ⟨rfl, rfl, rfl⟩ := hv
  refine ⟨a, c, by rw [List.length_take, Nat.min_eq_left hm], fun h0 => ?_⟩
  obtain ⟨g, o, rfl, hg, hx, hc⟩ := hh (by simp at h0; omega)
  refine ⟨g, o, rfl, hg, hx, fun i x hi => hc i x ?_⟩
  rw [List.getElem?_take] at hi
  split at hi
  · exact hi
  · cases hi
theorem RL.take {w : World} {X : Nat → Prop} {a : Option Addr} {n c m : Nat} {es : List El} (h : RL w X (.slice a n c) es) (hm : m ≤ n) : RL w X (.slice a m c) (es.take m) := by
  refine ⟨?_, fun e he => h.vals e (List.mem_of_mem_take he)⟩
  obtain ⟨a', c', hv, hh⟩ := h.at'
  simp only [Value.slice.injEq] at hv
  obtain ⟨rfl, rfl, rfl⟩ := hv
  refine ⟨a, c, by rw [List.length_take, Nat.min_eq_left hm], fun h0 => ?_⟩
  obtain ⟨g, o, rfl, hg, hx, hc⟩ := hh (by simp at h0; omega)
  refine ⟨g, o, rfl, hg, hx, fun i x hi => hc i x ?_⟩
  rw [List.getElem?_take] at hi
  split at hi
  · exact hi
  · cases hi
/-- few's rows. -/
def cut6 (r : Rw) : Rw := (r.1.take 6, r.2)
def fewR (l : List Rw) : List Rw := (l.take 24).map cut6
theorem fewR_len (l : List Rw) : (fewR l).length ≤ 24 := by simp [fewR]; omega
theorem fewR_vals (l : List Rw) : ∀ r ∈ fewR l, r.1.length ≤ 6 := fun r hr => by
  obtain ⟨x, _, rfl⟩ := List.mem_map.1 hr
  simp [cut6]; omega
theorem fewR_rws {es : List El} {l : List Rw} (h : rws es = fewR l) : es.length ≤ 1000 ∧ ∀ e ∈ es, e.2.1.length ≤ 1000 := by
  refine ⟨?_, fun e he => ?_⟩
  · have h1 := congrArg List.length h
    have h2 := fewR_len l
    simp [rws] at h1; omega
  · have := fewR_vals l e.2 (by rw [← h]; exact List.mem_map.2 ⟨e, he, rfl⟩)
    omega
set_option maxHeartbeats 4000000 in
theorem few6 {w : World} {X : Nat → Prop} {v : Value} {es : List El} (h : RL w X v es) (hX : ∀ b, w.heap.size ≤ b → X b) (hc : CapOk v) (hvc : ∀ e ∈ es, CapOk e.1) :
    Calls Tryz.prog 7 #[v] w (LPost w (fewR (rws es))) := by
  obtain ⟨a, c, rfl⟩ := h.form
  have hcc : es.length ≤ c := hc _ _ _ rfl
  have HX : Hid _ := hX
  clear hX hc
  by_cases h24 : 24 < es.length
  · obtain ⟨es0, he0⟩ : ∃ l, es.take 24 = l := ⟨_, rfl⟩
    have HR : Hid (RL w X (.slice a 24 c) es0) := by rw [← he0]; exact h.take (by omega)
    have HC : Hid (∀ e ∈ es0, CapOk e.1) := fun e he => hvc e (List.mem_of_mem_take (he0 ▸ he))
    have HN : Hid (es0.length = 24) := by show _ = _; rw [← he0, List.length_take]; omega
    have HFe : Hid (fewR (rws es) = (rws es0).map cut6) := by show _ = _; rw [← he0]; simp [fewR, rws, List.map_take]
    have h24i : (24 : Int) < (es.length : Int) := by omega
    have hci : (24 : Int) ≤ (c : Int) := by omega
    have HR0 : Hid _ := h
    clear h hvc he0
    go_enter Tryz.func7, Tryz.ntmps7
    go_wp2_with fail
    clear HR0
    go_loopw [3, 4] (fun fo fi wr => ∃ (k : Nat) (es' : List El), fi = .int .i64 (k : Int) ∧ Hid (k ≤ 24) ∧ Hid (OwnR wr w.heap.size fo es') ∧ Hid (rws es' = ((rws es0).map cut6).take k) ∧ Hid (Below w.heap.size w wr)) (fun _ fi _ => ((24 : Int) - intOf fi).toNat)
    case atStart => exact ⟨0, [], rfl, Nat.zero_le _, OwnR.nil _ _, rfl, Below.refl _ _⟩
    case round =>
      obtain ⟨k, es', rfl, hk, hO, hE, hB⟩ := hrel
      by_cases hkN : k < 24
      · have hki : (k : Int) < (24 : Int) := by omega
        have hk0 : (0 : Int) ≤ (k : Int) := by omega
        obtain ⟨e, he⟩ : ∃ e, es0[k]? = some e := ⟨_, List.getElem?_eq_getElem (by rw [HN.out]; exact hkN)⟩
        obtain ⟨g, o, rfl, _, _, d0, d1, d2⟩ := (RL.below HR.out hB.out).get he
        have HSV : Hid (SV wr X e.1 e.2.1) := (HR.out.vals e (List.mem_of_getElem? he)).below hB.out
        have HCe : Hid (CapOk e.1) := HC.out e (List.mem_of_getElem? he)
        have HTk : Hid (((rws es0).map cut6).take (k + 1) = ((rws es0).map cut6).take k ++ [cut6 e.2]) := by
          show _ = _
          rw [List.take_add_one, List.getElem?_map, rws, List.getElem?_map, he]
          rfl
        have hlen : es'.length ≤ 100000 := by
          have := congrArg List.length hE.out
          simp [rws] at this
          omega
        obtain ⟨sv, vs, f, t⟩ := e
        simp only at d0 d1 d2 HSV HCe HTk
        obtain ⟨pa, ca, rfl⟩ := SV.form HSV.out
        have hcap : vs.length ≤ ca := HCe.out _ _ _ rfl
        have hA := al3 wr (.slice pa vs.length ca) f t
        have b5 := blk_new wr [.slice pa vs.length ca, .int .i64 f, .int .i64 t] 64
        change Blk (wr.alloc (.cells #[.slice pa vs.length ca, .int .i64 f, .int .i64 t] 64)) _ _ _ at b5
        have HA : Hid _ := hA
        clear he
        have HApp : Hid (∀ (w6 : World) (H m : Nat) (vs' : List Vt), w6.heap.size = H → Hid (SV w6 X (.slice pa m ca) vs') → Hid (Below wr.heap.size wr w6) → ∃ v7 w7, (Builtin.append_ #[22, 22] 22 #[u3, .slice (some ⟨H, 0, none⟩) 1 1]).run Tryz.prog (w6.alloc (.cells #[.slice pa m ca, .int .i64 f, .int .i64 t] 64)) = .ok v7 w7 ∧ Hid (OwnR w7 w.heap.size v7 (es' ++ [(.slice pa m ca, vs', f, t)])) ∧ Hid (Below w.heap.size w w7)) := fun w6 H m vs' hH hsv hB6 => by
          subst hH
          have hal := al3 w6 (.slice pa m ca) f t
          have O6 := hO.out.below (bmore hB6.out hal)
          have nb := blk_new w6 [.slice pa m ca, .int .i64 f, .int .i64 t] 64
          have hsv6 : SV (w6.alloc (.cells #[.slice pa m ca, .int .i64 f, .int .i64 t] 64)) (fun b => u3.ownBlock = some b) (.slice pa m ca) vs' := (SV.below hsv.out hal).mono (fun b _ q => HX.out b (O6.row.lt b q).1)
          have hbase := (bmore (bmore hB.out hB6.out) hal).size
          obtain ⟨v7, w7, hr7, A7⟩ := OwnR.app O6 hlen hbase 22 (gb := w6.heap.size) (c := 1) (e := (.slice pa m ca, vs', f, t)) hsv6 (nb.cell 0) (nb.cell 1) (nb.cell 2)
          exact ⟨v7, w7, hr7, A7.own, (bmore (bmore hB.out hB6.out) hal).trans (A7.below O6 hbase)⟩
        by_cases h6 : 6 < vs.length
        · have h6i : (6 : Int) < (vs.length : Int) := by omega
          have hci : (6 : Int) ≤ (ca : Int) := by omega
          have HK6 : Hid (Below wr.heap.size wr (wr.alloc (.cells #[.slice pa 6 ca, .int .i64 f, .int .i64 t] 64))) := al3 _ _ _ _
          have HS6 : Hid (SV (wr.alloc (.cells #[.slice pa 6 ca, .int .i64 f, .int .i64 t] 64)) X (.slice pa 6 ca) (vs.take 6)) := (SV.below HSV.out HK6.out).take (by omega)
          have b6 := blk_new wr [.slice pa 6 ca, .int .i64 f, .int .i64 t] 64
          change Blk (wr.alloc (.cells #[.slice pa 6 ca, .int .i64 f, .int .i64 t] 64)) _ _ _ at b6
          have z0 := b6.cell 0
          have z1 := b6.cell 1
          have z2 := b6.cell 2
          clear b5 b6 hA
          go_wp2_with (at_builtin; refine wpList_append_ex (by rfl) (.tmp 29) (.tmp 31) 22 (by rfl) _ _ (by rfl) (by rfl) (HApp.out _ (wr.heap.size + 1) _ _ (by simp) HS6 HK6) ?_; rintro v7 w7 ⟨hO7, hB7⟩)
          go_roundw
          case rel => exact ⟨k + 1, es' ++ [(Value.slice pa 6 ca, vs.take 6, f, t)], by simp, by show _ ≤ _; omega, hO7.out, by show _ = _; rw [HTk.out, ← hE.out]; simp [rws, cut6], hB7.out⟩
          case measure => simp only [intOf]; omega
        · have h6i : ¬ (6 : Int) < (vs.length : Int) := by omega
          have HK6 : Hid (Below wr.heap.size wr (wr.alloc (.cells #[.slice pa vs.length ca, .int .i64 f, .int .i64 t] 64))) := hA
          have HS6 : Hid (SV (wr.alloc (.cells #[.slice pa vs.length ca, .int .i64 f, .int .i64 t] 64)) X (.slice pa vs.length ca) vs) := SV.below HSV.out hA
          have z0 := b5.cell 0
          have z1 := b5.cell 1
          have z2 := b5.cell 2
          clear b5 hA
          go_wp2_with (at_builtin; refine wpList_append_ex (by rfl) (.tmp 29) (.tmp 31) 22 (by rfl) _ _ (by rfl) (by rfl) (HApp.out _ (wr.heap.size + 1) _ _ (by simp) HS6 HK6) ?_; rintro v7 w7 ⟨hO7, hB7⟩)
          go_roundw
          case rel => exact ⟨k + 1, es' ++ [(Value.slice pa vs.length ca, vs, f, t)], by simp, by show _ ≤ _; omega, hO7.out, by show _ = _; rw [HTk.out, ← hE.out]; simp [rws, cut6, List.take_of_length_le (show vs.length ≤ 6 by omega)], hB7.out⟩
          case measure => simp only [intOf]; omega
      · have hki : ¬ (k : Int) < (24 : Int) := by omega
        have HF : Hid (rws es' = fewR (rws es)) := by show _ = _; rw [hE.out, HFe.out, List.take_of_length_le (by rw [List.length_map, rws, List.length_map, HN.out]; omega)]
        go_wp2
        go_ret
        exact ⟨_, es', rfl, hO.out, HF.out, hB.out⟩
  · obtain ⟨N, hN⟩ : ∃ N, es.length = N := ⟨_, rfl⟩
    obtain ⟨es0, he0⟩ : ∃ l, es = l := ⟨_, rfl⟩
    have HR : Hid (RL w X (.slice a N c) es0) := by rw [← hN, ← he0]; exact h
    have HC : Hid (∀ e ∈ es0, CapOk e.1) := fun e he => hvc e (he0 ▸ he)
    have HN : Hid (es0.length = N) := by show _ = _; rw [← he0]; exact hN
    have HFe : Hid (fewR (rws es) = (rws es0).map cut6) := by show _ = _; rw [← he0]; unfold fewR; rw [List.take_of_length_le (by simp [rws]; omega)]
    have h24i : ¬ (24 : Int) < (N : Int) := by omega
    have HR0 : Hid _ := h
    have hNl : N ≤ 24 := by omega
    clear h hvc he0
    rw [hN]
    go_enter Tryz.func7, Tryz.ntmps7
    go_wp2_with fail
    clear HR0
    go_loopw [3, 4] (fun fo fi wr => ∃ (k : Nat) (es' : List El), fi = .int .i64 (k : Int) ∧ Hid (k ≤ N) ∧ Hid (OwnR wr w.heap.size fo es') ∧ Hid (rws es' = ((rws es0).map cut6).take k) ∧ Hid (Below w.heap.size w wr)) (fun _ fi _ => ((N : Int) - intOf fi).toNat)
    case atStart => exact ⟨0, [], rfl, Nat.zero_le _, OwnR.nil _ _, rfl, Below.refl _ _⟩
    case round =>
      obtain ⟨k, es', rfl, hk, hO, hE, hB⟩ := hrel
      by_cases hkN : k < N
      · have hki : (k : Int) < (N : Int) := by omega
        have hk0 : (0 : Int) ≤ (k : Int) := by omega
        obtain ⟨e, he⟩ : ∃ e, es0[k]? = some e := ⟨_, List.getElem?_eq_getElem (by rw [HN.out]; exact hkN)⟩
        obtain ⟨g, o, rfl, _, _, d0, d1, d2⟩ := (RL.below HR.out hB.out).get he
        have HSV : Hid (SV wr X e.1 e.2.1) := (HR.out.vals e (List.mem_of_getElem? he)).below hB.out
        have HCe : Hid (CapOk e.1) := HC.out e (List.mem_of_getElem? he)
        have HTk : Hid (((rws es0).map cut6).take (k + 1) = ((rws es0).map cut6).take k ++ [cut6 e.2]) := by
          show _ = _
          rw [List.take_add_one, List.getElem?_map, rws, List.getElem?_map, he]
          rfl
        have hlen : es'.length ≤ 100000 := by
          have := congrArg List.length hE.out
          simp [rws] at this
          omega
        obtain ⟨sv, vs, f, t⟩ := e
        simp only at d0 d1 d2 HSV HCe HTk
        obtain ⟨pa, ca, rfl⟩ := SV.form HSV.out
        have hcap : vs.length ≤ ca := HCe.out _ _ _ rfl
        have hA := al3 wr (.slice pa vs.length ca) f t
        have b5 := blk_new wr [.slice pa vs.length ca, .int .i64 f, .int .i64 t] 64
        change Blk (wr.alloc (.cells #[.slice pa vs.length ca, .int .i64 f, .int .i64 t] 64)) _ _ _ at b5
        have HA : Hid _ := hA
        clear he
        have HApp : Hid (∀ (w6 : World) (H m : Nat) (vs' : List Vt), w6.heap.size = H → Hid (SV w6 X (.slice pa m ca) vs') → Hid (Below wr.heap.size wr w6) → ∃ v7 w7, (Builtin.append_ #[22, 22] 22 #[u3, .slice (some ⟨H, 0, none⟩) 1 1]).run Tryz.prog (w6.alloc (.cells #[.slice pa m ca, .int .i64 f, .int .i64 t] 64)) = .ok v7 w7 ∧ Hid (OwnR w7 w.heap.size v7 (es' ++ [(.slice pa m ca, vs', f, t)])) ∧ Hid (Below w.heap.size w w7)) := fun w6 H m vs' hH hsv hB6 => by
          subst hH
          have hal := al3 w6 (.slice pa m ca) f t
          have O6 := hO.out.below (bmore hB6.out hal)
          have nb := blk_new w6 [.slice pa m ca, .int .i64 f, .int .i64 t] 64
          have hsv6 : SV (w6.alloc (.cells #[.slice pa m ca, .int .i64 f, .int .i64 t] 64)) (fun b => u3.ownBlock = some b) (.slice pa m ca) vs' := (SV.below hsv.out hal).mono (fun b _ q => HX.out b (O6.row.lt b q).1)
          have hbase := (bmore (bmore hB.out hB6.out) hal).size
          obtain ⟨v7, w7, hr7, A7⟩ := OwnR.app O6 hlen hbase 22 (gb := w6.heap.size) (c := 1) (e := (.slice pa m ca, vs', f, t)) hsv6 (nb.cell 0) (nb.cell 1) (nb.cell 2)
          exact ⟨v7, w7, hr7, A7.own, (bmore (bmore hB.out hB6.out) hal).trans (A7.below O6 hbase)⟩
        by_cases h6 : 6 < vs.length
        · have h6i : (6 : Int) < (vs.length : Int) := by omega
          have hci : (6 : Int) ≤ (ca : Int) := by omega
          have HK6 : Hid (Below wr.heap.size wr (wr.alloc (.cells #[.slice pa 6 ca, .int .i64 f, .int .i64 t] 64))) := al3 _ _ _ _
          have HS6 : Hid (SV (wr.alloc (.cells #[.slice pa 6 ca, .int .i64 f, .int .i64 t] 64)) X (.slice pa 6 ca) (vs.take 6)) := (SV.below HSV.out HK6.out).take (by omega)
          have b6 := blk_new wr [.slice pa 6 ca, .int .i64 f, .int .i64 t] 64
          change Blk (wr.alloc (.cells #[.slice pa 6 ca, .int .i64 f, .int .i64 t] 64)) _ _ _ at b6
          have z0 := b6.cell 0
          have z1 := b6.cell 1
          have z2 := b6.cell 2
          clear b5 b6 hA
          go_wp2_with (at_builtin; refine wpList_append_ex (by rfl) (.tmp 29) (.tmp 31) 22 (by rfl) _ _ (by rfl) (by rfl) (HApp.out _ (wr.heap.size + 1) _ _ (by simp) HS6 HK6) ?_; rintro v7 w7 ⟨hO7, hB7⟩)
          go_roundw
          case rel => exact ⟨k + 1, es' ++ [(Value.slice pa 6 ca, vs.take 6, f, t)], by simp, by show _ ≤ _; omega, hO7.out, by show _ = _; rw [HTk.out, ← hE.out]; simp [rws, cut6], hB7.out⟩
          case measure => simp only [intOf]; omega
        · have h6i : ¬ (6 : Int) < (vs.length : Int) := by omega
          have HK6 : Hid (Below wr.heap.size wr (wr.alloc (.cells #[.slice pa vs.length ca, .int .i64 f, .int .i64 t] 64))) := hA
          have HS6 : Hid (SV (wr.alloc (.cells #[.slice pa vs.length ca, .int .i64 f, .int .i64 t] 64)) X (.slice pa vs.length ca) vs) := SV.below HSV.out hA
          have z0 := b5.cell 0
          have z1 := b5.cell 1
          have z2 := b5.cell 2
          clear b5 hA
          go_wp2_with (at_builtin; refine wpList_append_ex (by rfl) (.tmp 29) (.tmp 31) 22 (by rfl) _ _ (by rfl) (by rfl) (HApp.out _ (wr.heap.size + 1) _ _ (by simp) HS6 HK6) ?_; rintro v7 w7 ⟨hO7, hB7⟩)
          go_roundw
          case rel => exact ⟨k + 1, es' ++ [(Value.slice pa vs.length ca, vs, f, t)], by simp, by show _ ≤ _; omega, hO7.out, by show _ = _; rw [HTk.out, ← hE.out]; simp [rws, cut6, List.take_of_length_le (show vs.length ≤ 6 by omega)], hB7.out⟩
          case measure => simp only [intOf]; omega
      · have hki : ¬ (k : Int) < (N : Int) := by omega
        have HF : Hid (rws es' = fewR (rws es)) := by show _ = _; rw [hE.out, HFe.out, List.take_of_length_le (by rw [List.length_map, rws, List.length_map, HN.out]; omega)]
        go_wp2
        go_ret
        exact ⟨_, es', rfl, hO.out, HF.out, hB.out⟩
end Go.Proofs.YtpagnphabchfcaaGreat
/-! ### spans. -/
namespace Go.Proofs.YtpagnphabchfcaaGreat
open Go.Shelf Go.RowKit
set_option maxRecDepth 100000
/-- What an append of a span leaves. -/
theorem Sp.Own.app {w : World} {B : Nat} {v : Value} {xs : List (Int × Int)} (h : Sp.Own w B v xs) (hn : xs.length ≤ 100000) (hB : B ≤ w.heap.size) (ty : TypeId) {gb c : Nat} {f t : Int}
    (h0 : w.cell? ⟨gb, 0, none⟩ = some (.int .i64 f)) (h1 : w.cell? ⟨gb, 1, none⟩ = some (.int .i64 t)) :
    ∃ v' w', (Builtin.append_ #[80, 80] ty #[v, .slice (some ⟨gb, 0, none⟩) 1 c]).run Tryz.prog w = .ok v' w' ∧ Sp.Own w' B v' (xs ++ [(f, t)]) ∧ Below B w w' := by
  obtain ⟨i0, hi, hz0, hz1, hz2⟩ := info_parts' Sp.Tryz.info39
  have hc : ∀ j x, (Sp.enc2 (f, t))[j]? = some x → w.cell? ((⟨gb, 0, none⟩ : Addr).add j) = some x := fun j x hx => by
    rw [Addr.add_mid, Nat.zero_add]
    match j with
    | 0 => simp [Sp.enc2] at hx; subst hx; exact h0
    | 1 => simp [Sp.enc2] at hx; subst hx; exact h1
    | j + 2 => simp [Sp.enc2] at hx
  obtain ⟨v', w', hrun, r1, r2, r3, r4⟩ := run_append_own_at (P := Tryz.prog) w B 80 ty 39 i0 (.agg #[.int .i64 0, .int .i64 0]) 2 16 Tryz.underlying80 hi hz0 hz1 hz2 rfl (by decide) v xs.length (Sp.cells2 xs) h ⟨gb, 0, none⟩ 1 c (Sp.enc2 (f, t)) rfl hc (by intro u hu; simp [Sp.enc2] at hu; rcases hu with rfl | rfl <;> rfl) (by unfold maxLen; omega) (by omega) hB
  refine ⟨v', w', hrun, ?_, ⟨r2.os, r2.tape, r2.output, r2.size, fun k hk => r2.block k (by omega) (fun e => by have := (World.ownsRow.lt h k e.symm).1; omega)⟩⟩
  unfold Sp.Own
  rw [List.length_append, Sp.cells2_append, show Sp.cells2 [(f, t)] = Sp.enc2 (f, t) by simp [Sp.cells2]]
  exact r1
def spn (es : List El) : List (Int × Int) := es.map (·.2.2)
def NPost (w : World) (l : List (Int × Int)) (e : Ending) (w' : World) : Prop := ∃ v1, e = .returned v1 ∧ Sp.Own w' w.heap.size v1 l ∧ Below w.heap.size w w'
set_option maxHeartbeats 1000000 in
theorem spans19 {w : World} {X : Nat → Prop} {v : Value} {es : List El} (h : RL w X v es) (hl : es.length ≤ 1000) :
    Calls Tryz.prog 62 #[v] w (NPost w (spn es)) := by
  obtain ⟨a, c, rfl⟩ := h.form
  obtain ⟨N, hN⟩ : ∃ N, es.length = N := ⟨_, rfl⟩
  have HN : Hid _ := hN
  have HR : Hid (RL w X (.slice a es.length c) es) := h
  rw [hN] at hl ⊢
  clear h hN
  go_enter Tryz.func62, Tryz.ntmps62
  go_wp2_with fail
  go_loopw [3, 8] (fun fo fi wr => ∃ (k : Nat), fi = .int .i64 (k : Int) ∧ Hid (k ≤ N) ∧ Hid (Sp.Own wr w.heap.size fo ((spn es).take k)) ∧ Hid (Below w.heap.size w wr)) (fun _ fi _ => ((N : Int) - intOf fi).toNat)
  case atStart => exact ⟨0, rfl, Nat.zero_le _, Sp.Own.nil _ _, Below.refl _ _⟩
  case round =>
    obtain ⟨k, rfl, hk, hO, hB⟩ := hrel
    by_cases hkN : k < N
    · have hki : (k : Int) < (N : Int) := by omega
      have hk0 : (0 : Int) ≤ (k : Int) := by omega
      obtain ⟨e, he⟩ : ∃ e, es[k]? = some e := ⟨_, List.getElem?_eq_getElem (by rw [HN.out]; exact hkN)⟩
      obtain ⟨g, o, rfl, _, _, d0, d1, d2⟩ := (RL.below HR.out hB.out).get he
      have HSV : Hid (SV w X e.1 e.2.1) := HR.out.vals e (List.mem_of_getElem? he)
      have HTk : Hid ((spn es).take (k + 1) = (spn es).take k ++ [e.2.2]) := by
        show _ = _
        rw [List.take_add_one, spn, List.getElem?_map, he]
        rfl
      obtain ⟨sv, vs, f, t⟩ := e
      simp only at d0 d1 d2 HSV HTk
      obtain ⟨pa, ca, rfl⟩ := SV.form HSV.out
      have HApp : Hid (∀ (w6 : World) (H : Nat), w6.heap.size = H → Hid (Below wr.heap.size wr w6) → ∃ v7 w7, (Builtin.append_ #[80, 80] 80 #[u3, .slice (some ⟨H, 0, none⟩) 1 1]).run Tryz.prog (w6.alloc (.cells #[.int .i64 f, .int .i64 t] 39)) = .ok v7 w7 ∧ Hid (Sp.Own w7 w.heap.size v7 ((spn es).take (k + 1))) ∧ Hid (Below w.heap.size w w7)) := fun w6 H hH hB6 => by
        subst hH
        have hal := al w6 (.cells #[.int .i64 f, .int .i64 t] 39)
        have O6 := hO.out.below (bmore hB6.out hal) (fun k hk => (World.ownsRow.lt hO.out k hk).2)
        have nb := blk_new w6 [.int .i64 f, .int .i64 t] 39
        have hbase := (bmore (bmore hB.out hB6.out) hal).size
        obtain ⟨v7, w7, hr7, A7, B7⟩ := Sp.Own.app O6 (by simp; omega) hbase 80 (gb := w6.heap.size) (c := 1) (nb.cell 0) (nb.cell 1)
        rw [← HTk.out] at A7
        exact ⟨v7, w7, hr7, A7, (bmore (bmore hB.out hB6.out) hal).trans B7⟩
      have HK6 : Hid (Below wr.heap.size wr (wr.alloc (.cells #[.slice pa vs.length ca, .int .i64 f, .int .i64 t] 64))) := al3 _ _ _ _
      clear he
      go_wp2_with (at_builtin; refine wpList_append_ex (by rfl) (.tmp 12) (.tmp 15) 80 (by rfl) _ _ (by rfl) (by rfl) (HApp.out _ (wr.heap.size + 1) (by simp) HK6) ?_; rintro v7 w7 ⟨hO7, hB7⟩)
      go_roundw
      case rel => exact ⟨k + 1, by simp, by show _ ≤ _; omega, hO7.out, hB7.out⟩
      case measure => simp only [intOf]; omega
    · have hki : ¬ (k : Int) < (N : Int) := by omega
      have HF : Hid ((spn es).take k = spn es) := List.take_of_length_le (by rw [spn, List.length_map, HN.out]; omega)
      go_wp2
      go_ret
      exact ⟨_, rfl, HF.out ▸ hO.out, hB.out⟩
end Go.Proofs.YtpagnphabchfcaaGreat
/-! ### codec.Same. -/
namespace Go.Proofs.YtpagnphabchfcaaGreat
open Go.RowKit Go.Shelf
set_option maxRecDepth 100000
theorem neq54 (x y : Vt) (W : World) : (binOp .neq 25 (.agg #[.int .u8 x.1, .int .i64 x.2.1, .string x.2.2]) (.agg #[.int .u8 y.1, .int .i64 y.2.1, .string y.2.2])).run Tryz.prog W = .ok (.bool (!decide (x = y))) W := by
  have h1 : Tryz.prog.underlying 25 = some (.struct (Tryz.prog.fieldsOf 25)) := by kernel_rfl
  have h2 : Tryz.prog.stoodInHeld 25 = false := by kernel_rfl
  rw [run_neq_struct, show (10000 : Nat) = 9999 + 1 from rfl, run_equalIn_struct _ _ _ _ _ h1 h2]
  have hf : (Tryz.prog.fieldsOf 25) = (match Tryz.prog.underlying 25 with | some (.struct fs) => fs | _ => #[]) := rfl
  rw [hf, Tryz.underlying25]
  clear hf h1 h2
  obtain ⟨k, n, s⟩ := x
  obtain ⟨k', n', s'⟩ := y
  have hs : (s.toList == s'.toList) = decide (s = s') := by
    rw [Bool.eq_iff_iff]
    simp only [beq_iff_eq, decide_eq_true_eq]
    constructor
    · intro h
      rw [Lib.toList_data, Lib.toList_data] at h
      exact bs_inj h
    · rintro rfl; rfl
  by_cases e1 : k = k' <;> by_cases e2 : n = n' <;> by_cases e3 : s = s' <;> simp [go_sem, e1, e2, e3, hs]
set_option maxHeartbeats 2000000 in
theorem equal47 {w : World} {X : Nat → Prop} {v v' : Value} {a b : List Vt} (ha : SV w X v a) (hb : SV w X v' b) (hza : a.length ≤ 1000000) (hzb : b.length ≤ 1000000) :
    Calls Tryz.prog 127 #[v, v'] w fun e w' => e = .returned (.bool (decide (a = b))) ∧ GB w w' := by
  obtain ⟨pa, ca, rfl⟩ := ha.form
  obtain ⟨pb, cb, rfl⟩ := hb.form
  obtain ⟨n, hn⟩ : ∃ n, a.length = n := ⟨_, rfl⟩
  obtain ⟨m, hm⟩ : ∃ m, b.length = m := ⟨_, rfl⟩
  have HA : Hid (SV w X (.slice pa a.length ca) a) := ha
  have HB : Hid (SV w X (.slice pb b.length cb) b) := hb
  have HN : Hid (a.length = n) := hn
  have HM : Hid (b.length = m) := hm
  rw [hn] at hza ⊢
  rw [hm] at hzb ⊢
  clear hn hm ha hb
  by_cases hnm : n = m
  · subst hnm
    go_enter Tryz.func127, Tryz.ntmps127
    go_wp2_with fail
    go_loopw [13] (fun i wr => ∃ k : Nat, i = .int .i64 (k : Int) ∧ Hid (k ≤ n) ∧ Hid (decide (a = b) = decide (a.drop k = b.drop k)) ∧ Hid (GB w wr)) (fun i _ => ((n : Int) - intOf i).toNat)
    case atStart => exact ⟨0, rfl, Nat.zero_le _, by show _ = _; simp, GB.refl _⟩
    case round =>
      obtain ⟨k, rfl, hkn, hcmp, hbe⟩ := hrel
      by_cases hlt : k < n
      · have hkz : (k : Int) < (n : Int) := by omega
        have hk0 : (0 : Int) ≤ (k : Int) := by omega
        obtain ⟨x, hx⟩ : ∃ x, a[k]? = some x := ⟨_, List.getElem?_eq_getElem (by rw [HN.out]; exact hlt)⟩
        obtain ⟨b1, o1, rfl, a0, a1, a2⟩ := (SV.below HA.out hbe.out.b).at hx
        obtain ⟨y, hy⟩ : ∃ y, b[k]? = some y := ⟨_, List.getElem?_eq_getElem (by rw [HM.out]; exact hlt)⟩
        obtain ⟨b2, o2, rfl, q0, q1, q2⟩ := (SV.below HB.out hbe.out.b).at hy
        have HS : Hid (decide (a = b) = (decide (x = y) && decide (a.drop (k + 1) = b.drop (k + 1)))) := by
          show _ = _
          have h1 := List.getElem?_eq_some_iff.1 hx
          have h2 := List.getElem?_eq_some_iff.1 hy
          rw [hcmp.out, List.drop_eq_getElem_cons h1.1, List.drop_eq_getElem_cons h2.1, h1.2, h2.2]
          simp
        have hq := neq54 x y
        have hgd : Tryz.prog.eqGuardType Tryz.prog.depth 25 = false := by kernel_rfl
        generalize hT : decide (x = y) = T at *
        clear hT
        obtain ⟨xk, xn, xs⟩ := x
        obtain ⟨yk, yn, ys⟩ := y
        simp only at a0 a1 a2 q0 q1 q2 hq
        clear hx hy hcmp
        cases T
        · rw [show (!false) = true from rfl] at hq
          go_wp2_with fail
          go_quiet (fail)
          go_wp2_with fail
          go_ret
          exact ⟨by rw [HS.out]; rfl, hbe.out.trans (GB.drewN _ _)⟩
        · rw [show (!true) = false from rfl] at hq
          go_wp2_with fail
          go_quiet (fail)
          go_wp2_with fail
          go_roundw
          case rel => exact ⟨k + 1, by simp, by show _ ≤ _; omega, by show _ = _; rw [HS.out]; simp, hbe.out.trans (GB.drewN _ _)⟩
          case measure => simp only [intOf]; omega
      · have hkz : ¬ ((k : Int) < (n : Int)) := by omega
        have HS : Hid (decide (a = b) = true) := by
          show _ = _
          rw [hcmp.out, show a.drop k = [] from List.drop_eq_nil_of_le (by rw [HN.out]; omega), show b.drop k = [] from List.drop_eq_nil_of_le (by rw [HM.out]; omega)]
          simp
        clear hcmp
        go_wp2_with fail
        go_ret
        exact ⟨by rw [HS.out]; rfl, hbe.out⟩
  · have hne : ((n : Int) != (m : Int)) = true := by simp; omega
    have HS : Hid (decide (a = b) = false) := by
      show _ = _
      rw [decide_eq_false_iff_not]
      rintro rfl
      exact hnm (HN.out.symm.trans HM.out)
    go_enter Tryz.func127, Tryz.ntmps127
    go_wp2_with fail
    go_ret
    exact ⟨by rw [HS.out]; rfl, GB.refl _⟩
theorem same34 {w : World} {X : Nat → Prop} {v v' : Value} {a b : List Vt} (ha : SV w X v a) (hb : SV w X v' b) (hza : a.length ≤ 1000000) (hzb : b.length ≤ 1000000) :
    Calls Tryz.prog 88 #[v, v'] w fun e w' => e = .returned (.bool (decide (a = b))) ∧ GB w w' := by
  have c47 := equal47 ha hb hza hzb
  generalize decide (a = b) = C at *
  clear ha hb
  go_enter Tryz.func88, Tryz.ntmps88
  go_wp2_with (go_at_call 127; (with_reducible refine c47.mono ?_); rintro e w1 ⟨rfl, hb1⟩)
  go_ret
  exact ⟨rfl, hb1⟩
end Go.Proofs.YtpagnphabchfcaaGreat
/-! ### byValues: what it yields. -/
namespace Go.Proofs.YtpagnphabchfcaaGreat
open Go.RowKit Go.Shelf
set_option maxRecDepth 100000
attribute [local go_sem] Oper.semAt_some
/-- Where the run of those alike ends. -/
def endF (L : List (List Vt)) (i : Nat) : Nat → Nat → Nat
  | 0, j => j
  | f + 1, j => if j < L.length ∧ L[i]? = L[j]? then endF L i f (j + 1) else j
/-- The runs of those alike. -/
def cutsF (L : List (List Vt)) : Nat → Nat → List (Nat × Nat)
  | 0, _ => []
  | f + 1, i => if i < L.length then (i, endF L i L.length (i + 1)) :: cutsF L f (endF L i L.length (i + 1)) else []
def cuts (L : List (List Vt)) : List (Nat × Nat) := cutsF L L.length 0
def vls (es : List El) : List (List Vt) := es.map (·.2.1)
theorem endF_le (L : List (List Vt)) (i : Nat) : ∀ f j, j ≤ L.length → j ≤ endF L i f j ∧ endF L i f j ≤ L.length
  | 0, j, h => ⟨Nat.le_refl _, h⟩
  | f + 1, j, h => by
    unfold endF
    split
    · rename_i hc
      have := endF_le L i f (j + 1) (by omega)
      omega
    · exact ⟨Nat.le_refl _, h⟩
theorem cutsF_end (L : List (List Vt)) (f i : Nat) (h : ¬ i < L.length) : cutsF L f i = [] := by
  cases f with
  | zero => rfl
  | succ f => unfold cutsF; rw [if_neg h]
theorem byValues16 (a : Option Addr) (n c : Nat) (w : World) : Calls Tryz.prog 60 #[.slice a n c] w fun e w' => e = .returned (.func (.func 87) #[] #[.pointer (some ⟨w.heap.size, 0, none⟩)]) ∧ w' = w.alloc (.cells #[.slice a n c] 22) := by
  go_enter Tryz.func60, Tryz.ntmps60
  go_wp2
  go_ret
  exact ⟨rfl, rfl⟩
/-- A run, as it is yielded. -/
def encB (g o c : Nat) (x : Nat × Nat) : Value := .slice (some ⟨g, o + x.1 * 3, none⟩) (x.2 - x.1) (c - x.1)
theorem RL.at3 {w : World} {X : Nat → Prop} {g o n c : Nat} {es : List El} (h : RL w X (.slice (some ⟨g, o, none⟩) n c) es) {k : Nat} {e : El} (hy : es[k]? = some e) : w.cell? ⟨g, o + k * 3, none⟩ = some e.1 ∧ w.cell? ⟨g, o + k * 3 + 1, none⟩ = some (.int .i64 e.2.2.1) ∧ w.cell? ⟨g, o + k * 3 + 2, none⟩ = some (.int .i64 e.2.2.2) := by
  obtain ⟨g', o', hq, _, _, h3⟩ := h.get hy
  simp only [Option.some.injEq, Addr.mk.injEq] at hq
  obtain ⟨rfl, rfl, _⟩ := hq
  exact h3
set_option maxHeartbeats 4000000 in
theorem runs33 {W : World} {G : Nat → Prop} {b g o c : Nat} {es : List El} (hb : Blk W b [.slice (some ⟨g, o, none⟩) es.length c] 22) (hGb : G b) (hR : RL W (fun k => ¬ G k) (.slice (some ⟨g, o, none⟩) es.length c) es) (hc : es.length ≤ c) (hl : es.length ≤ 1000) (hv : ∀ e ∈ es, e.2.1.length ≤ 1000) :
    Runs Tryz.prog 87 #[.pointer (some ⟨b, 0, none⟩)] (encB g o c) (cuts (vls es)) G W := by
  intro l O J Jx hO hJs hJ hJx hY h0
  obtain ⟨N, hN⟩ : ∃ N, es.length = N := ⟨_, rfl⟩
  have HN : Hid (es.length = N) := hN
  have HLN : Hid ((vls es).length = N) := by show _ = _; rw [← hN]; simp [vls]
  have HK : Hid (∀ W', Keep O W W' → Blk W' b [.slice (some ⟨g, o, none⟩) N c] 22 ∧ RL W' (fun k => ¬ G k) (.slice (some ⟨g, o, none⟩) N c) es) := fun W' k => by
    rw [← hN]
    exact ⟨hb.keep k (fun h => (hO _ h).1 hGb), hR.keep (k.mono (fun i _ h => (hO i h).1)) (fun _ _ h => h)⟩
  have HV : Hid _ := hv
  have HJs : Hid _ := hJs
  have HJ : Hid _ := hJ
  have HJx : Hid _ := hJx
  have HY : Hid _ := hY
  have H0 : Hid _ := h0
  have HO : Hid _ := hO
  rw [hN] at hc hl
  clear hb hR hv hJs hJ hJx hY h0 hO hN hGb
  refine callsIn_of_wp Tryz.func87 rfl trivial ?_ rfl
  simp only [Tryz.ntmps87, List.size_toArray, List.length_cons, List.length_nil, Nat.reduceAdd, Nat.reduceSub, Array.replicate_succ, Array.replicate_zero, List.push_toArray, List.append_toArray, List.nil_append, List.cons_append]
  gi_wp2
  gi_loopw [3] (fun p wr => ∃ (i f : Nat) (pre : List (Nat × Nat)) (O' : Nat → Prop), p = .int .i64 (i : Int) ∧ Hid (i ≤ N ∧ N - i ≤ f) ∧ Hid (pre ++ cutsF (vls es) f i = cuts (vls es)) ∧ Hid (J O' pre wr) ∧ Hid (Grew O O' W) ∧ Hid (Keep O W wr)) (fun p _ => ((N : Int) - intOf p).toNat)
  case atStart => exact ⟨0, N, [], O, rfl, ⟨Nat.zero_le _, by omega⟩, by show _ = _; rw [← HLN.out]; rfl, H0.out, Grew.refl _ _, Keep.refl _ _⟩
  case round =>
    obtain ⟨i, f, pre, O', rfl, hi, hpre, hj, hgr, hk⟩ := hrel
    have hcb := (HK.out _ hk.out).1.cell 0
    simp only [List.getElem?_cons_zero] at hcb
    by_cases hiN : i < N
    · have hii : (i : Int) < (N : Int) := by omega
      have hi0 : (0 : Int) ≤ (i : Int) := by omega
      obtain ⟨w1, hw1⟩ : ∃ w1, w1 = wr := ⟨_, rfl⟩
      subst hw1
      gi_wp2
      gi_loopw [4] (fun q wq => ∃ (j f' : Nat), q = .int .i64 (j : Int) ∧ Hid (i < j ∧ j ≤ N ∧ N ≤ j + f') ∧ Hid (endF (vls es) i f' j = endF (vls es) i N (i + 1)) ∧ Hid (GB w1 wq)) (fun q _ => ((N : Int) - intOf q).toNat)
      case atStart => exact ⟨i + 1, N, by simp, ⟨by omega, by omega, by omega⟩, rfl, GB.refl _⟩
      case round =>
        obtain ⟨j, f', rfl, hjj, hend, hgb⟩ := hrel
        obtain ⟨hj1, hj2, hj3⟩ := hjj.out
        have HKq : Hid (Keep O W wr) := hk.out.trans (Keep.of hgb.out.b) (fun _ _ h => h)
        obtain ⟨hbq, hRq⟩ := HK.out _ HKq.out
        have hcq := hbq.cell 0
        simp only [List.getElem?_cons_zero] at hcq
        by_cases hjN : j < N
        · have hji : (j : Int) < (N : Int) := by omega
          have hj0 : (0 : Int) ≤ (j : Int) := by omega
          obtain ⟨ei, hei⟩ : ∃ e, es[i]? = some e := ⟨_, List.getElem?_eq_getElem (by rw [HN.out]; exact hiN)⟩
          obtain ⟨ej, hej⟩ : ∃ e, es[j]? = some e := ⟨_, List.getElem?_eq_getElem (by rw [HN.out]; exact hjN)⟩
          have HS : Hid (∀ W', Below wr.heap.size wr W' → W'.cell? ⟨b, 0, none⟩ = some (.slice (some ⟨g, o, none⟩) N c) ∧ W'.cell? ⟨g, o + i * 3, none⟩ = some ei.1 ∧ W'.cell? ⟨g, o + j * 3, none⟩ = some ej.1) := fun W' k => ⟨(hbq.below k).cell 0, ((hRq.below k).at3 hei).1, ((hRq.below k).at3 hej).1⟩
          have HSi : Hid (SV wr (fun k => ¬ G k) ei.1 ei.2.1) := hRq.vals ei (List.mem_of_getElem? hei)
          have HSj : Hid (SV wr (fun k => ¬ G k) ej.1 ej.2.1) := hRq.vals ej (List.mem_of_getElem? hej)
          have HLi : Hid (ei.2.1.length ≤ 1000) := HV.out ei (List.mem_of_getElem? hei)
          have HLj : Hid (ej.2.1.length ≤ 1000) := HV.out ej (List.mem_of_getElem? hej)
          obtain ⟨f1, rfl⟩ : ∃ f1, f' = f1 + 1 := ⟨f' - 1, by omega⟩
          have HE : Hid (endF (vls es) i (f1 + 1) j = if ei.2.1 = ej.2.1 then endF (vls es) i f1 (j + 1) else j) := by
            show _ = _
            conv => lhs; unfold endF
            have h1 : (vls es)[i]? = some ei.2.1 := by rw [vls, List.getElem?_map, hei]; rfl
            have h2 : (vls es)[j]? = some ej.2.1 := by rw [vls, List.getElem?_map, hej]; rfl
            rw [h1, h2, HLN.out]
            simp [hjN]
          obtain ⟨svi, vi, fi, ti⟩ := ei
          obtain ⟨svj, vj, fj, tj⟩ := ej
          simp only at HS HSi HSj HLi HLj HE
          obtain ⟨pi, ci, rfl⟩ := SV.form HSi.out
          obtain ⟨pj, cj, rfl⟩ := SV.form HSj.out
          have H34 : Hid (∀ W', Below wr.heap.size wr W' → Calls Tryz.prog 88 #[.slice pi vi.length ci, .slice pj vj.length cj] W' fun e w' => e = .returned (.bool (decide (vi = vj))) ∧ GB W' w') := fun W' k => same34 (SV.below HSi.out k) (SV.below HSj.out k) (Nat.le_trans HLi.out (by decide)) (Nat.le_trans HLj.out (by decide))
          have HT : Hid (decide (vi = vj) = true ↔ vi = vj) := by show _ ↔ _; simp
          have K0 : GB wr wr.drew := GB.drew wr
          have hS0 := HS.out _ K0.b
          generalize decide (vi = vj) = T at *
          clear hei hej hbq hRq hcq
          cases T
          · gi_wp2
            refine wpIn_wide.2 ?_
            go_region_held3 (fun W' => W'.cell? ⟨b, 0, none⟩ = some (.slice (some ⟨g, o, none⟩) N c) ∧ W'.cell? ⟨g, o + i * 3, none⟩ = some (.slice pi vi.length ci) ∧ W'.cell? ⟨g, o + j * 3, none⟩ = some (.slice pj vj.length cj)) (first | exact hS0 | exact HS.out _ K1.b) (first
              | (go_at_call 88; (with_reducible refine (H34.out _ K0.b).mono ?_); rintro e w3 ⟨rfl, B3⟩; have K1 := K0.trans B3))
            clear hS0
            have HZ : Hid (GB w1 w3) := hgb.out.trans K1
            have HEnd : Hid (endF (vls es) i N (i + 1) = j) := by show _ = _; rw [← hend.out, HE.out, if_neg (fun h => by have := HT.out.2 h; cases this)]
            generalize w3 = wz at *
            obtain ⟨f0, rfl⟩ : ∃ f0, f = f0 + 1 := ⟨f - 1, by have := hi.out; omega⟩
            have HC : Hid (pre ++ (i, j) :: cutsF (vls es) f0 j = cuts (vls es)) := by
              show _ = _
              rw [← hpre.out]
              conv => rhs; unfold cutsF
              rw [if_pos (by rw [HLN.out]; exact hiN), HLN.out, HEnd.out]
            have HKz : Hid (Keep O W wz) := hk.out.trans (Keep.of HZ.out.b) (fun _ _ h => h)
            have hJz := HJ.out O' pre w1 wz hj.out (Keep.of HZ.out.b)
            obtain ⟨fn, tmps, assign, body, hy, hRd⟩ := HY.out O' pre (i, j) wz hJz ⟨cutsF (vls es) f0 j, by rw [List.append_assoc]; exact HC.out⟩
            have hcz := (HK.out _ HKz.out).1.cell 0
            simp only [List.getElem?_cons_zero] at hcz
            simp only [encB] at hy
            have hjc : (j : Int) ≤ (c : Int) := by omega
            have hij : (i : Int) ≤ (j : Int) := by omega
            have HRd : Hid _ := hRd
            have HFi : Hid (i ≤ N ∧ N - i ≤ f0 + 1) := hi.out
            have hjic : ¬ c = i := by omega
            clear hRd hJz
            gi_wp2
            refine ⟨rfl, RoundIn.mono HRd.out ?_⟩
            rintro e W3 (⟨rfl, O3, hj3, hg3, hk3⟩ | ⟨rfl, O3, hj3, hg3, hk3⟩)
            · gi_wp2
              go_roundw
              case rel => exact ⟨j, f0, pre ++ [(i, j)], O3, rfl, ⟨by omega, by have := HFi.out; omega⟩, by show _ = _; rw [List.append_assoc]; exact HC.out, hj3, hgr.out.trans hg3 HKz.out.size, HKz.out.trans hk3 (fun q hq h => (hgr.out q h).elim id (fun h => by omega))⟩
              case measure => simp only [intOf]; omega
            · gi_wp2
              refine bodyPost_ret (results_none rfl _ _ _) rfl ?_
              exact ⟨⟨_, rfl⟩, .inr ⟨pre ++ [(i, j)], O3, ⟨cutsF (vls es) f0 j, by rw [List.append_assoc]; exact HC.out⟩, hj3, hgr.out.trans hg3 HKz.out.size, HKz.out.trans hk3 (fun q hq h => (hgr.out q h).elim id (fun h => by omega))⟩⟩
          · gi_wp2
            refine wpIn_wide.2 ?_
            go_region_held3 (fun W' => W'.cell? ⟨b, 0, none⟩ = some (.slice (some ⟨g, o, none⟩) N c) ∧ W'.cell? ⟨g, o + i * 3, none⟩ = some (.slice pi vi.length ci) ∧ W'.cell? ⟨g, o + j * 3, none⟩ = some (.slice pj vj.length cj)) (first | exact hS0 | exact HS.out _ K1.b) (first
              | (go_at_call 88; (with_reducible refine (H34.out _ K0.b).mono ?_); rintro e w3 ⟨rfl, B3⟩; have K1 := K0.trans B3))
            clear hS0
            gi_wp2
            go_roundw
            case rel => exact ⟨j + 1, f1, by simp, ⟨by omega, by omega, by omega⟩, by show _ = _; rw [← hend.out, HE.out, if_pos (HT.out.1 trivial)], hgb.out.trans K1⟩
            case measure => simp only [intOf]; omega
        · have hji : ¬ (j : Int) < (N : Int) := by omega
          have HEnd : Hid (endF (vls es) i N (i + 1) = j) := by
            show _ = _
            rw [← hend.out]
            cases f' with
            | zero => rfl
            | succ f' => unfold endF; rw [if_neg (fun h => by rw [HLN.out] at h; omega)]
          gi_wp2
          refine wpIn_wide.2 ?_
          go_big_quiet (fail)
          have HZ : Hid (GB w1 (wr.drewN nq)) := hgb.out.trans (GB.drewN _ _)
          clear hbq hRq hcq
          generalize wr.drewN nq = wz at *
          obtain ⟨f0, rfl⟩ : ∃ f0, f = f0 + 1 := ⟨f - 1, by have := hi.out; omega⟩
          have HC : Hid (pre ++ (i, j) :: cutsF (vls es) f0 j = cuts (vls es)) := by
            show _ = _
            rw [← hpre.out]
            conv => rhs; unfold cutsF
            rw [if_pos (by rw [HLN.out]; exact hiN), HLN.out, HEnd.out]
          have HKz : Hid (Keep O W wz) := hk.out.trans (Keep.of HZ.out.b) (fun _ _ h => h)
          have hJz := HJ.out O' pre w1 wz hj.out (Keep.of HZ.out.b)
          obtain ⟨fn, tmps, assign, body, hy, hRd⟩ := HY.out O' pre (i, j) wz hJz ⟨cutsF (vls es) f0 j, by rw [List.append_assoc]; exact HC.out⟩
          have hcz := (HK.out _ HKz.out).1.cell 0
          simp only [List.getElem?_cons_zero] at hcz
          simp only [encB] at hy
          have hjc : (j : Int) ≤ (c : Int) := by omega
          have hij : (i : Int) ≤ (j : Int) := by omega
          have HRd : Hid _ := hRd
          have HFi : Hid (i ≤ N ∧ N - i ≤ f0 + 1) := hi.out
          have hjic : ¬ c = i := by omega
          clear hRd hJz
          gi_wp2
          refine ⟨rfl, RoundIn.mono HRd.out ?_⟩
          rintro e W3 (⟨rfl, O3, hj3, hg3, hk3⟩ | ⟨rfl, O3, hj3, hg3, hk3⟩)
          · gi_wp2
            go_roundw
            case rel => exact ⟨j, f0, pre ++ [(i, j)], O3, rfl, ⟨by omega, by have := HFi.out; omega⟩, by show _ = _; rw [List.append_assoc]; exact HC.out, hj3, hgr.out.trans hg3 HKz.out.size, HKz.out.trans hk3 (fun q hq h => (hgr.out q h).elim id (fun h => by omega))⟩
            case measure => simp only [intOf]; omega
          · gi_wp2
            refine bodyPost_ret (results_none rfl _ _ _) rfl ?_
            exact ⟨⟨_, rfl⟩, .inr ⟨pre ++ [(i, j)], O3, ⟨cutsF (vls es) f0 j, by rw [List.append_assoc]; exact HC.out⟩, hj3, hgr.out.trans hg3 HKz.out.size, HKz.out.trans hk3 (fun q hq h => (hgr.out q h).elim id (fun h => by omega))⟩⟩
    · have hii : ¬ (i : Int) < (N : Int) := by omega
      have HF : Hid (pre = cuts (vls es)) := by show _ = _; rw [← hpre.out, cutsF_end _ _ _ (by rw [HLN.out]; exact hiN), List.append_nil]
      gi_wp2
      go_end0
      exact ⟨⟨_, rfl⟩, .inl ⟨O', HF.out ▸ hj.out, hgr.out, hk.out⟩⟩
end Go.Proofs.YtpagnphabchfcaaGreat
/-! ### A drawn region whose last operation may break what the others keep. -/
namespace Go.Proofs.YtpagnphabchfcaaGreat
open Go.RowKit Go.Shelf
set_option maxRecDepth 100000
section
variable {P : Program} {ops : Array Oper} {Q : Exit → Act → World → Prop} {md : Region.Mode} {S : World → Prop} {last : Nat}
/-- Whatever order is picked; S holds behind every operation but the last one. -/
def wpAnyL (P : Program) (md : Region.Mode) (ops : Array Oper) (Q : Exit → Act → World → Prop) (S : World → Prop) (last : Nat) : Nat → Array Bool → Act → World → Prop
  | 0, listed, a, w => Region.ready md ops listed = [] ∧ Q .normal a w
  | fuel + 1, listed, a, w =>
    (Region.ready md ops listed = [] → Q .normal a w) ∧
    ∀ i ∈ Region.ready md ops listed, wpOp P ops Q i (fun a' w' => (i ≠ last → S w') ∧ wpAnyL P md ops Q S last fuel (listed.setIfInBounds i true) a' w') a w
theorem wpAny_of_L : ∀ (fuel : Nat) (listed : Array Bool) (a : Act) (w : World), wpAnyL P md ops Q S last fuel listed a w → wpAny P md ops Q fuel listed a w
  | 0, _, _, _, h => h
  | fuel + 1, _, _, _, h => ⟨h.1, fun i hi => wpOp_mono (fun a' w' h' => wpAny_of_L fuel _ a' w' h'.2) (h.2 i hi)⟩
/-- Does the operation number last wait for number i? -/
def waitsFor (md : Region.Mode) (ops : Array Oper) (last i : Nat) : Bool := ((ops[last]?).map fun o => o.after.any fun e => Region.binds md e && e.on == i).getD false
theorem wpAnyL_first {i : Nat} {oi : Oper} {v : Value} (hi : ops[i]? = some oi) (hsel : ∀ (j : Nat) (o : Oper) cs b, ops[j]? = some o → o.op ≠ .select cs b)
    (hQ : ∀ c a w, Q (.panic c) (a.put oi.dst v) w → Q (.panic c) a w) (hwait : waitsFor md ops last i = true) :
    ∀ (fuel : Nat) (listed : Array Bool) (a : Act) (w : World),
      (∀ j oj, ops[j]? = some oj → j ≠ i → listed.getD j true = false → (∀ e ∈ oj.after, Region.binds md e = true → e.on ≠ i) → oi.apart ops oj = true) →
      i ∈ Region.ready md ops listed → YieldsIf P ops S oi v a → S w →
      wpAnyL P md ops Q S last fuel (listed.setIfInBounds i true) (a.put oi.dst v) w → wpAnyL P md ops Q S last (fuel + 1) listed a w := by
  intro fuel
  induction fuel with
  | zero =>
    intro listed a w _ hr hy hS H
    refine ⟨fun h => (by rw [h] at hr; cases hr), fun j hj => ?_⟩
    by_cases hji : j = i
    · subst hji; exact hy.wpOp hi hS ⟨fun _ => hS, H⟩
    · have := ready_mono hj hji
      rw [H.1] at this
      cases this
  | succ fuel ih =>
    intro listed a w hfree hr hy hS H
    refine ⟨fun h => (by rw [h] at hr; cases hr), fun j hj => ?_⟩
    by_cases hji : j = i
    · subst hji; exact hy.wpOp hi hS ⟨fun _ => hS, H⟩
    · have h1 := H.2 j (ready_mono hj hji)
      obtain ⟨hjun, oj, hoj, hall⟩ := mem_ready.1 hj
      have hnot : ∀ e ∈ oj.after, Region.binds md e = true → e.on ≠ i := fun e he hb heq => by
        have h1 := hall e he hb
        have h0 := (mem_ready.1 hr).1
        rw [heq] at h1
        rcases Nat.lt_or_ge i listed.size with h' | h'
        · simp [h'] at h0 h1; rw [h0] at h1; cases h1
        · simp [Array.getElem?_eq_none h'] at h1
      have hjl : j ≠ last := by
        rintro rfl
        unfold waitsFor at hwait
        rw [hoj] at hwait
        simp only [Option.map_some, Option.getD_some, Array.any_eq_true'] at hwait
        obtain ⟨e, he, hb⟩ := hwait
        simp only [Bool.and_eq_true, beq_iff_eq] at hb
        exact hnot e he hb.1 hb.2
      have h2 := wpOp_putIf hoj (hfree j oj hoj hji hjun hnot) (fun cs b => hsel i oi cs b hi) (fun cs b => hsel j oj cs b hoj) hQ hy h1
      have hfree' : ∀ k ok, ops[k]? = some ok → k ≠ i → (listed.setIfInBounds j true).getD k true = false →
          (∀ e ∈ ok.after, Region.binds md e = true → e.on ≠ i) → oi.apart ops ok = true := fun k ok hk hki hun hno => by
        refine hfree k ok hk hki ?_ hno
        by_cases hjk : j = k
        · subst hjk; exact hjun
        · rw [getD_set_ne true hjk] at hun; exact hun
      refine wpOp_mono (fun a' w' h3 => ⟨fun _ => h3.2.1 hjl, ih (listed.setIfInBounds j true) a' w' hfree' (ready_mono hr (Ne.symm hji)) h3.1 (h3.2.1 hjl) ?_⟩) h2
      rw [Array.setIfInBounds_comm _ _ hji]
      exact h3.2.2
theorem wpAnyL_take (i : Nat) {oi : Oper} (dst : Option Nat) (v : Value) {fuel : Nat} {listed : Array Bool} {a : Act} {w : World} (hi : ops[i]? = some oi) (hd : oi.dst = dst)
    (hs : Region.noSelect ops = true) (hf : Region.free md ops listed i = true) (hr : (Region.ready md ops listed).contains i = true) (hwait : waitsFor md ops last i = true)
    (hQ : ∀ c a w, Q (.panic c) (a.put dst v) w → Q (.panic c) a w) (hy : YieldsIf P ops S oi v a) (hS : S w)
    (h : wpAnyL P md ops Q S last fuel (listed.setIfInBounds i true) (a.put dst v) w) : wpAnyL P md ops Q S last (fuel + 1) listed a w := by
  subst hd
  exact wpAnyL_first hi (Region.noSelect_spec hs) hQ hwait fuel listed a w (Region.free_spec hi hf) (by simpa using hr) hy hS h
def AllReadyL (P : Program) (md : Region.Mode) (ops : Array Oper) (Q : Exit → Act → World → Prop) (S : World → Prop) (last : Nat) (fuel : Nat) (listed : Array Bool) (a : Act) (w : World) (rs : List Nat) : Prop :=
  ∀ i ∈ rs, wpOp P ops Q i (fun a' w' => (i ≠ last → S w') ∧ wpAnyL P md ops Q S last fuel (listed.setIfInBounds i true) a' w') a w
theorem AllReadyL.nil {fuel : Nat} {listed : Array Bool} {a : Act} {w : World} : AllReadyL P md ops Q S last fuel listed a w [] := fun _ h => by cases h
theorem AllReadyL.cons {fuel : Nat} {listed : Array Bool} {a : Act} {w : World} {i : Nat} {o : Oper} {rs : List Nat} (ho : ops[i]? = some o)
    (h : ∀ K' : Act → World → Prop, Shut (∀ a w, (i ≠ last → S w) → wpAnyL P md ops Q S last fuel (listed.setIfInBounds i true) a w → K' a w) → if Region.wanted o (yielded ops a.tmps) = true then Oper.wp P o a w K' Q else K' (a.put o.dst undef) w)
    (hs : AllReadyL P md ops Q S last fuel listed a w rs) : AllReadyL P md ops Q S last fuel listed a w (i :: rs) := fun j hj => by
  rcases List.mem_cons.1 hj with rfl | hj
  · exact wpOp_step ho (fun K' hK => h K' (fun a w hS hW => hK a w ⟨hS, hW⟩))
  · exact hs j hj
theorem wpAnyL_ready {rs : List Nat} {fuel : Nat} {listed : Array Bool} {a : Act} {w : World} (hr : Region.ready md ops listed = rs) (hne : rs ≠ [])
    (h : AllReadyL P md ops Q S last fuel listed a w rs) : wpAnyL P md ops Q S last (fuel + 1) listed a w := ⟨fun h0 => absurd (hr ▸ h0) hne, hr ▸ h⟩
theorem wpAnyL_done {listed : Array Bool} {a : Act} {w : World} (hr : Region.ready md ops listed = []) (h : Q .normal a w) : ∀ fuel, wpAnyL P md ops Q S last fuel listed a w
  | 0 => ⟨hr, h⟩
  | _ + 1 => ⟨fun _ => h, by rw [hr]; simp⟩
theorem wp_region_L (S : World → Prop) (last : Nat) {id : Nat} {a : Act} {w : World} (hm : P.follows .mixedOrders = true)
    (h : wpAnyL P .any ops Q S last ops.size (Array.replicate ops.size false) a w.drew) : (Code.region id ops true).wp P Q a w := wp_region_any hm (wpAny_of_L _ _ _ _ h)
theorem step_b1 {o : Oper} {a : Act} {w : World} {K : Act → World → Prop} {E : Prop} (hgd : o.guard = none) (dst : Option Nat) (hd : o.dst = dst) (t e : TypeId) (x : Operand) (ho : o.op = .buildSlice t 1 #[(0, x)]) (v : Value) (hx : a.eval x = v) (cs : List Value)
    (hrun : ∀ w, (Instr.buildSlice t 1 #[(0, v)]).run P w = .ok (.slice (some ⟨w.heap.size, 0, none⟩) 1 1) (w.alloc (.cells cs.toArray e)))
    (h : ∀ g w', w.heap.size ≤ g → Below w.heap.size w w' → Blk w' g cs e → K (a.put dst (.slice (some ⟨g, 0, none⟩) 1 1)) w') : if Region.wanted o (yielded ops a.tmps) = true then Oper.wp P o a w K Q else E := by
  subst hd
  have hw : Region.wanted o (yielded ops a.tmps) = true := by simp [Region.wanted, hgd]
  rw [if_pos hw]
  unfold Oper.wp execOp
  simp only [ho, List.map_toArray, List.map_cons, List.map_nil, hx, Sem.run_bind, hrun, Result.andThen_ok, Sem.run_pure]
  exact h _ _ (Nat.le_refl _) (al w _) (blk_new w cs e)
theorem step_append_d {o : Oper} {a : Act} {w : World} {K : Act → World → Prop} {E : Prop} (hgd : o.guard = none) (dst : Option Nat) (hd : o.dst = dst) (s x : Operand) (t : TypeId)
    (ho : o.op = .call { callee := .builtin .append, args := #[s, x], argTypes := #[t, t] }) (hty : o.type = t) (v y : Value) (hs : a.eval s = v) (hx : a.eval x = y) {R : Value → World → Prop} (hrun : ∃ u w', (Builtin.append_ #[t, t] t #[v, y]).run P w = .ok u w' ∧ R u w')
    (h : ∀ u w', R u w' → K (a.put dst u) w') : if Region.wanted o (yielded ops a.tmps) = true then Oper.wp P o a w K Q else E := by
  subst hd
  subst hty
  exact step_append_ex hgd s x o.type ho v y hs hx hrun h
/-- In a round of a range over a function, an operation goes as anywhere. -/
theorem Oper.wpIn_inRound {l n : Nat} {o : Oper} (hnd : ∀ c, o.op ≠ .defer c) {a : Act} {w : World} {K : Act → World → Prop} (h : o.wp P a w K Q) : o.wpIn (Fence.wide.inRound l) n P a w K Q := by
  refine ⟨fun _ _ => trivial, ?_⟩
  rw [Fence.inRound_round, Oper.semAt_some l a.eval o hnd]
  unfold Oper.wp at h
  generalize (execOp a.eval o).run P w = r at h
  unfold Oper.upon at h
  unfold Oper.uponIn
  split at h
  · exact h
  · exact h
  · exact h
  · exact ⟨fun h => (by cases h), (callsIn_wide (n := n - 1)).2 h⟩
  · refine ⟨fun h => (by cases h), fun c cs _ => ?_⟩
    obtain ⟨v, w', hr, hs⟩ := h c cs
    exact ⟨v, w', hr, stepsIn_wide.2 hs⟩
  · exact h
  · exact h.elim
theorem wpAnyIn_inRound {l n : Nat} (hno : ¬ LetsOut Q) (hnd : ∀ (j : Nat) (o : Oper) c, ops[j]? = some o → o.op ≠ .defer c) : ∀ (fuel : Nat) (listed : Array Bool) (a : Act) (w : World), wpAny P md ops Q fuel listed a w → wpAnyIn (Fence.wide.inRound l) n P md ops Q fuel listed a w
  | 0, _, _, _, h => h
  | fuel + 1, listed, a, w, h => ⟨h.1, fun i hi => by
    have hh := h.2 i hi
    unfold wpOp at hh
    unfold wpOpIn
    cases ho : ops[i]? with
    | none => rw [ho] at hh; exact wpAnyIn_inRound hno hnd fuel _ _ _ hh
    | some o =>
      rw [ho] at hh
      simp only at hh ⊢
      split
      · rename_i hw
        rw [if_pos hw] at hh
        exact Oper.wpIn_inRound (fun c => hnd i o c ho) (Oper.wp_mono (fun a w h => wpAnyIn_inRound hno hnd fuel _ a w h) (hh.elim id (fun h => absurd h.2 hno)))
      · rename_i hw
        rw [if_neg hw] at hh
        exact ⟨fun _ _ => trivial, wpAnyIn_inRound hno hnd fuel _ _ _ hh⟩⟩
def noDefer (ops : Array Oper) : Bool := ops.all fun o => match o.op with | .defer _ => false | _ => true
theorem noDefer_spec (h : noDefer ops = true) : ∀ (j : Nat) (o : Oper) c, ops[j]? = some o → o.op ≠ .defer c := fun j o c hj he => by
  unfold noDefer at h
  rw [Array.all_eq_true'] at h
  have := h o (Array.mem_of_getElem? hj)
  rw [he] at this
  cases this
/-- A drawn region in a round: every order, as anywhere. -/
theorem wpIn_region_round (S : World → Prop) (last : Nat) {l n id : Nat} {a : Act} {w : World} (hm : P.follows .mixedOrders = true) (hd : noDefer ops = true) (hno : ¬ LetsOut Q)
    (h : wpAnyL P .any ops Q S last ops.size (Array.replicate ops.size false) a w.drew) : (Code.region id ops true).wpIn (Fence.wide.inRound l) n P Q a w :=
  wpIn_region_any hm (wpAnyIn_inRound hno (noDefer_spec hd) _ _ _ _ (wpAny_of_L _ _ _ _ h))
end
end Go.Proofs.YtpagnphabchfcaaGreat
/-! ### Canon: a row is laid on. -/
namespace Go.Proofs.YtpagnphabchfcaaGreat
open Go.RowKit Go.Shelf
set_option maxRecDepth 100000
theorem sv_both {w w' : World} {X F : Nat → Prop} {v : Value} {vs : List Vt} (h : SV w X v vs) (h' : SV w F v vs) (k : Keep F w w') : SV w' X v vs := by
  obtain ⟨a, c, rfl, hh⟩ := h
  obtain ⟨a', c', hv, hh'⟩ := h'
  simp only [Value.slice.injEq] at hv
  obtain ⟨rfl, -, rfl⟩ := hv
  refine ⟨a, c, rfl, fun h0 => ?_⟩
  obtain ⟨g, o, rfl, hg, hx, hc⟩ := hh h0
  obtain ⟨g', o', hq, _, hf, _⟩ := hh' h0
  simp only [Option.some.injEq, Addr.mk.injEq] at hq
  obtain ⟨rfl, rfl, _⟩ := hq
  exact ⟨g, o, rfl, Nat.lt_of_lt_of_le hg k.size, hx, fun i s hs => ⟨(k.cell hg hf).trans (hc i s hs).1, (k.cell hg hf).trans (hc i s hs).2.1, (k.cell hg hf).trans (hc i s hs).2.2⟩⟩
theorem cell_block {w w' : World} {b o : Nat} (h : w'.heap[b]? = w.heap[b]?) : w'.cell? ⟨b, o, none⟩ = w.cell? ⟨b, o, none⟩ := by simp only [World.cell?, h]
theorem b1run (v : Value) (f t : Int) (w : World) (a : Option Addr) (n c : Nat) (hv : v = .slice a n c) : (Instr.buildSlice 22 1 #[(0, .agg #[v, .int .i64 f, .int .i64 t])]).run Tryz.prog w = .ok (.slice (some ⟨w.heap.size, 0, none⟩) 1 1) (w.alloc (.cells #[v, .int .i64 f, .int .i64 t] 64)) := by
  subst hv
  go_simp
theorem OwnR.form {w : World} {B : Nat} {v : Value} {es : List El} (h : OwnR w B v es) : ∃ a n c, v = .slice a n c := by
  obtain ⟨_, ⟨h, _⟩ | ⟨g, cap, cur, h, _⟩⟩ := h.row
  · exact ⟨_, _, _, h⟩
  · exact ⟨_, _, _, h⟩
/-- Q at a common end, and nothing else. -/
def Nrm (Q : Exit → Act → World → Prop) : Exit → Act → World → Prop
  | .normal, a, w => Q .normal a w
  | _, _, _ => False
theorem Nrm.normal {Q : Exit → Act → World → Prop} {a : Act} {w : World} (h : Q .normal a w) : Nrm Q .normal a w := h
theorem Nrm.imp {Q : Exit → Act → World → Prop} : ∀ (e : Exit) (a : Act) (w : World), Nrm Q e a w → Q e a w := fun e a w h => by
  cases e <;> first | exact h | exact (h : False).elim
/-- The list that grows, in a variable in the block tb. -/
structure CI (w : World) (tb B : Nat) (cv : Value) (ce : List El) : Prop where
  blk : Blk w tb [cv] 22
  own : OwnR w B cv ce
  ne : some tb ≠ cv.ownBlock
  vals : ∀ e ∈ ce, SV w (fun b => b = tb ∨ cv.ownBlock = some b) e.1 e.2.1
theorem CI.keep {w w' : World} {tb B : Nat} {cv : Value} {ce : List El} {F : Nat → Prop} (h : CI w tb B cv ce) (k : Keep F w w') (h1 : ¬ F tb) (h2 : ∀ b, cv.ownBlock = some b → ¬ F b) (h3 : ∀ e ∈ ce, SV w F e.1 e.2.1) : CI w' tb B cv ce := by
  refine ⟨h.blk.keep k h1, ⟨owns_keep h.own.row (fun j hj => k.block j (h.own.row.lt j hj).2 (h2 j hj)), fun e he => ?_⟩, h.ne, fun e he => ?_⟩
  · exact sv_both (h.own.vals e he) (h3 e he) k
  · exact sv_both (h.vals e he) (h3 e he) k
theorem CI.below {w w' : World} {tb B : Nat} {cv : Value} {ce : List El} (h : CI w tb B cv ce) (k : Below w.heap.size w w') : CI w' tb B cv ce := ⟨h.blk.below k, h.own.below k, h.ne, fun e he => (h.vals e he).below k⟩
theorem CI.set {w : World} {tb B : Nat} {cv u : Value} {ce : List El} (hb : Blk w tb [cv] 22) (ho : OwnR w B u ce) (hn : some tb ≠ u.ownBlock) (hv : ∀ e ∈ ce, SV w (fun b => b = tb ∨ u.ownBlock = some b) e.1 e.2.1) : CI (w.setCell ⟨tb, 0, none⟩ u) tb B u ce := by
  have k : Keep (fun b => b = tb) w (w.setCell ⟨tb, 0, none⟩ u) := Keep.set (F := fun b => b = tb) (Keep.refl _ w) (p := ⟨tb, 0, none⟩) (.inr rfl) u
  have k' : Keep (fun b => b = tb ∨ u.ownBlock = some b) w (w.setCell ⟨tb, 0, none⟩ u) := k.mono (fun b _ h => .inl h)
  refine ⟨hb.set u, ⟨owns_keep ho.row (fun j hj => k.block j (ho.row.lt j hj).2 (fun e => hn (by rw [← e, hj]))), fun e he => (hv e he).keep k' (fun b _ h => .inr h)⟩, hn, fun e he => (hv e he).keep k' (fun b _ h => h)⟩
set_option maxHeartbeats 4000000 in
theorem reg7 {l n tb sb g o m c B : Nat} {X : Nat → Prop} {cv : Value} {ce : List El} {pa : Option Addr} {ca : Nat} {vs : List Vt} {f t : Int} {u0 u1 u2 u5 u7 u8 u9 u10 u11 u12 u13 u14 u15 u16 u17 u18 u19 u20 u21 u22 u23 u24 u25 u26 u27 u28 u29 u30 : Value} {ds : List Deferred} {w : World} {Q : Exit → Act → World → Prop}
    (hI : CI w tb B cv ce) (hB : B ≤ w.heap.size) (hlen : ce.length ≤ 100000) (hm : (0 : Int) < (m : Int))
    (hg : g < w.heap.size) (hgn : some g ≠ cv.ownBlock) (hgo : w.cell? ⟨g, o, none⟩ = some (.slice pa vs.length ca)) (hsb : Blk w sb [.int .i64 f, .int .i64 t] 39) (hsl : sb < w.heap.size) (hsn : some sb ≠ cv.ownBlock)
    (hsv : SV w X (.slice pa vs.length ca) vs) (hvl : vs.length ≤ 1000)
    (hQ : ∀ v24 v26 v27 v28 w' (e : El), e.2 = (vs, f, t) → CI w' tb B v28 (ce ++ [e]) → SV w' (fun b => b < w.heap.size) e.1 e.2.1 → Keep (fun b => b = tb ∨ cv.ownBlock = some b) w w' → (∀ k, v28.ownBlock = some k → cv.ownBlock = some k ∨ w.heap.size ≤ k) → Q .normal { tmps := #[u0, u1, u2, .pointer (some ⟨tb, 0, none⟩), .slice (some ⟨g, o, none⟩) m c, u5, .pointer (some ⟨sb, 0, none⟩), u7, u8, u9, u10, u11, u12, u13, u14, u15, u16, u17, u18, cv, .slice (some ⟨g, o, none⟩) m c, .pointer (some ⟨g, o, none⟩), .pointer (some ⟨g, o, none⟩), .slice pa vs.length ca, v24, .agg #[.int .i64 f, .int .i64 t], v26, v27, v28, u29, u30], defers := ds } w') :
    Code.wpIn (Fence.wide.inRound l) n Tryz.prog (Code.region 7 #[{ dst := some 19, op := Op.load 22 (Operand.tmp 3), type := 22, pos := "rows.go:31", after := #[], guard := none }, { dst := some 20, op := Op.move (Operand.tmp 4), type := 22, pos := "rows.go:31", after := #[], guard := none }, { dst := some 21, op := Op.indexAddr 22 (Operand.tmp 20) (Operand.const (Value.int IntKind.i64 0)), type := 0, pos := "rows.go:31", after := #[{ on := 1, ground := Ground.data }], guard := none }, { dst := some 22, op := Op.fieldAddr 64 (Operand.tmp 21) 0, type := 0, pos := "rows.go:31", after := #[{ on := 2, ground := Ground.data }], guard := none }, { dst := some 23, op := Op.load 35 (Operand.tmp 22), type := 35, pos := "rows.go:31", after := #[{ on := 3, ground := Ground.data }], guard := none }, { dst := some 24, op := Op.call { callee := Callee.value (Operand.func 63), args := #[Operand.tmp 23], argTypes := #[35] }, type := 35, pos := "rows.go:31", after := #[{ on := 4, ground := Ground.data }], guard := none }, { dst := some 25, op := Op.load 39 (Operand.tmp 6), type := 39, pos := "rows.go:31", after := #[], guard := none }, { dst := some 26, op := Op.build 64 #[(0, Operand.tmp 24), (1, Operand.tmp 25)], type := 64, pos := "rows.go:31", after := #[{ on := 5, ground := Ground.data }, { on := 6, ground := Ground.data }], guard := none }, { dst := some 27, op := Op.buildSlice 22 1 #[(0, Operand.tmp 26)], type := 22, pos := "rows.go:31", after := #[{ on := 7, ground := Ground.data }], guard := none }, { dst := some 28, op := Op.call { callee := Callee.builtin Builtin.append, args := #[Operand.tmp 19, Operand.tmp 27], argTypes := #[22, 22] }, type := 22, pos := "rows.go:31", after := #[{ on := 0, ground := Ground.data }, { on := 8, ground := Ground.data }, { on := 5, ground := Ground.chain }], guard := none }, { dst := none, op := Op.store 22 (Operand.tmp 3) (Operand.tmp 28), type := 0, pos := "rows.go:31", after := #[{ on := 9, ground := Ground.data }, { on := 9, ground := Ground.chain }, { on := 0, ground := Ground.phase }, { on := 1, ground := Ground.phase }, { on := 2, ground := Ground.phase }, { on := 3, ground := Ground.phase }, { on := 4, ground := Ground.phase }, { on := 5, ground := Ground.phase }, { on := 6, ground := Ground.phase }, { on := 7, ground := Ground.phase }, { on := 8, ground := Ground.phase }, { on := 9, ground := Ground.phase }], guard := none }] true) Q { tmps := #[u0, u1, u2, .pointer (some ⟨tb, 0, none⟩), .slice (some ⟨g, o, none⟩) m c, u5, .pointer (some ⟨sb, 0, none⟩), u7, u8, u9, u10, u11, u12, u13, u14, u15, u16, u17, u18, u19, u20, u21, u22, u23, u24, u25, u26, u27, u28, u29, u30], defers := ds } w := by
  obtain ⟨htb, hown, hne, hvt⟩ := hI
  have HVT : Hid (∀ e ∈ ce, SV w (fun b => b = tb ∨ cv.ownBlock = some b) e.1 e.2.1) := hvt
  have HS : Hid (∀ W', Below w.heap.size w W' → W'.cell? ⟨tb, 0, none⟩ = some cv ∧ W'.cell? ⟨g, o, none⟩ = some (.slice pa vs.length ca) ∧ W'.cell? ⟨sb, 0, none⟩ = some (.int .i64 f) ∧ W'.cell? ⟨sb, 1, none⟩ = some (.int .i64 t)) := fun W' h => ⟨(htb.below h).cell 0, (h.cell (p := ⟨g, o, none⟩) hg).trans hgo, (hsb.below h).cell 0, (hsb.below h).cell 1⟩
  have HT : Hid (Blk w tb [cv] 22) := htb
  have HO : Hid _ := hown
  have HV : Hid (SV w X (.slice pa vs.length ca) vs) := hsv
  have HQ : Hid _ := hQ
  have HNT : Hid (some tb ≠ cv.ownBlock) := hne
  obtain ⟨ac, nc, cc, rfl⟩ : ∃ a n c, cv = .slice a n c := hown.form
  clear htb hown hsv hQ hgo hsb hne hvt
  refine Code.wpIn_mono Nrm.imp ?_
  refine wpIn_region_round (fun W' => W'.cell? ⟨tb, 0, none⟩ = some (.slice ac nc cc) ∧ W'.cell? ⟨g, o, none⟩ = some (.slice pa vs.length ca) ∧ W'.cell? ⟨sb, 0, none⟩ = some (.int .i64 f) ∧ W'.cell? ⟨sb, 1, none⟩ = some (.int .i64 t)) 10 (by kernel_rfl) (by kernel_rfl) (fun ⟨_, _, h⟩ => h) ?_
  have hm0 : ¬ m = 0 := by omega
  have B0 : Below w.heap.size w w.drew := (Below.refl _ _).drew
  have S0 := HS.out _ B0
  refine wpAnyL_take 0 (some 19) (.slice ac nc cc) rfl rfl (by kernel_rfl) (by kernel_rfl) (by kernel_rfl) (by kernel_rfl) (fun _ _ _ h => h) (Or.inl ⟨by rfl, fun w' hw' => by obtain ⟨q0, q1, q2, q3⟩ := hw'; go_simp⟩) S0 ?_
  simp only [Act.put, List.setIfInBounds_toArray, List.set_cons_zero, List.set_cons_succ]
  refine wpAnyL_take 1 (some 20) (.slice (some ⟨g, o, none⟩) m c) rfl rfl (by kernel_rfl) (by kernel_rfl) (by kernel_rfl) (by kernel_rfl) (fun _ _ _ h => h) (Or.inl ⟨by rfl, fun w' hw' => by obtain ⟨q0, q1, q2, q3⟩ := hw'; go_simp⟩) S0 ?_
  simp only [Act.put, List.setIfInBounds_toArray, List.set_cons_zero, List.set_cons_succ]
  refine wpAnyL_take 2 (some 21) (.pointer (some ⟨g, o, none⟩)) rfl rfl (by kernel_rfl) (by kernel_rfl) (by kernel_rfl) (by kernel_rfl) (fun _ _ _ h => h) (Or.inl ⟨by rfl, fun w' hw' => by obtain ⟨q0, q1, q2, q3⟩ := hw'; go_simp⟩) S0 ?_
  simp only [Act.put, List.setIfInBounds_toArray, List.set_cons_zero, List.set_cons_succ]
  refine wpAnyL_take 3 (some 22) (.pointer (some ⟨g, o, none⟩)) rfl rfl (by kernel_rfl) (by kernel_rfl) (by kernel_rfl) (by kernel_rfl) (fun _ _ _ h => h) (Or.inl ⟨by rfl, fun w' hw' => by obtain ⟨q0, q1, q2, q3⟩ := hw'; go_simp⟩) S0 ?_
  simp only [Act.put, List.setIfInBounds_toArray, List.set_cons_zero, List.set_cons_succ]
  refine wpAnyL_take 4 (some 23) (.slice pa vs.length ca) rfl rfl (by kernel_rfl) (by kernel_rfl) (by kernel_rfl) (by kernel_rfl) (fun _ _ _ h => h) (Or.inl ⟨by rfl, fun w' hw' => by obtain ⟨q0, q1, q2, q3⟩ := hw'; go_simp⟩) S0 ?_
  simp only [Act.put, List.setIfInBounds_toArray, List.set_cons_zero, List.set_cons_succ]
  refine wpAnyL_take 6 (some 25) (.agg #[.int .i64 f, .int .i64 t]) rfl rfl (by kernel_rfl) (by kernel_rfl) (by kernel_rfl) (by kernel_rfl) (fun _ _ _ h => h) (Or.inl ⟨by rfl, fun w' hw' => by obtain ⟨q0, q1, q2, q3⟩ := hw'; go_simp⟩) S0 ?_
  simp only [Act.put, List.setIfInBounds_toArray, List.set_cons_zero, List.set_cons_succ]
  refine wpAnyL_ready (rs := [5]) (by kernel_rfl) (by simp) (AllReadyL.cons rfl (fun K hK => ?_) AllReadyL.nil)
  have k20 := copied20 (w := w.drew) (SV.below HV.out B0) hvl
  clear S0
  go_simp
  go_at_call 63
  (with_reducible refine k20.mono ?_)
  rintro e w6 ⟨g6, rfl, hg6, hb6, B6⟩
  have B1 := bmore B0 B6
  try go_simp
  refine hK.out _ _ (fun _ => HS.out _ B1) ?_
  clear hK K
  try simp only [Act.put, List.setIfInBounds_toArray, List.set_cons_zero, List.set_cons_succ]
  refine wpAnyL_take 7 (some 26) (.agg #[.slice (some ⟨g6, 0, none⟩) vs.length vs.length, .int .i64 f, .int .i64 t]) rfl rfl (by kernel_rfl) (by kernel_rfl) (by kernel_rfl) (by kernel_rfl) (fun _ _ _ h => h) (Or.inl ⟨by rfl, fun w' hw' => by obtain ⟨q0, q1, q2, q3⟩ := hw'; go_simp⟩) (HS.out _ B1) ?_
  simp only [Act.put, List.setIfInBounds_toArray, List.set_cons_zero, List.set_cons_succ]
  refine wpAnyL_ready (rs := [8]) (by kernel_rfl) (by simp) (AllReadyL.cons rfl (fun K hK => ?_) AllReadyL.nil)
  refine step_b1 rfl (some 27) rfl 22 64 (.tmp 26) rfl (.agg #[.slice (some ⟨g6, 0, none⟩) vs.length vs.length, .int .i64 f, .int .i64 t]) rfl [.slice (some ⟨g6, 0, none⟩) vs.length vs.length, .int .i64 f, .int .i64 t] (fun w => b1run _ _ _ w _ _ _ rfl) ?_
  intro g27 w8 hg27 B8 b27
  have B2 := bmore B1 B8
  refine hK.out _ _ (fun _ => HS.out _ B2) ?_
  clear hK K
  try simp only [Act.put, List.setIfInBounds_toArray, List.set_cons_zero, List.set_cons_succ]
  refine wpAnyL_ready (rs := [9]) (by kernel_rfl) (by simp) (AllReadyL.cons rfl (fun K hK => ?_) AllReadyL.nil)
  have hb8 := hb6.below B8
  have O8 := OwnR.below HO.out B2
  have hg6' : w.heap.size ≤ g6 := hg6
  have HV8 : SV w8 (fun b => (Value.slice ac nc cc).ownBlock = some b) (.slice (some ⟨g6, 0, none⟩) vs.length vs.length) vs := SV.blk hb8 (fun q => by have := (HO.out.row.lt _ q).2; omega)
  obtain ⟨v28, w9, hr9, A9⟩ := OwnR.app O8 hlen (Nat.le_trans hB B2.size) 22 (gb := g27) (c := 1) (e := (.slice (some ⟨g6, 0, none⟩) vs.length vs.length, vs, f, t)) HV8 (b27.cell 0) (b27.cell 1) (b27.cell 2)
  refine step_append_d rfl (some 28) rfl (.tmp 19) (.tmp 27) 22 rfl rfl _ _ rfl rfl (R := fun u w' => v28 = u ∧ w9 = w') ⟨v28, w9, hr9, rfl, rfl⟩ ?_
  rintro _ _ ⟨rfl, rfl⟩
  have k9 : Keep (fun b => (Value.slice ac nc cc).ownBlock = some b) w w9 := (Keep.of B2).trans (keep_of_grown A9.grown) (fun _ _ h => h)
  have ht9 : Blk w9 tb [.slice ac nc cc] 22 := Blk.keep HT.out k9 (fun h => HNT.out h.symm)
  have S9 : w9.cell? ⟨tb, 0, none⟩ = some (.slice ac nc cc) ∧ w9.cell? ⟨g, o, none⟩ = some (.slice pa vs.length ca) ∧ w9.cell? ⟨sb, 0, none⟩ = some (.int .i64 f) ∧ w9.cell? ⟨sb, 1, none⟩ = some (.int .i64 t) := ⟨ht9.cell 0, (cell_block (A9.grown.block g (Nat.lt_of_lt_of_le hg B2.size) hgn)).trans (HS.out _ B2).2.1, (cell_block (A9.grown.block sb (Nat.lt_of_lt_of_le hsl B2.size) hsn)).trans (HS.out _ B2).2.2.1, (cell_block (A9.grown.block sb (Nat.lt_of_lt_of_le hsl B2.size) hsn)).trans (HS.out _ B2).2.2.2⟩
  refine hK.out _ _ (fun _ => S9) ?_
  clear hK K
  try simp only [Act.put, List.setIfInBounds_toArray, List.set_cons_zero, List.set_cons_succ]
  refine wpAnyL_ready (rs := [10]) (by kernel_rfl) (by simp) (AllReadyL.cons rfl (fun K hK => ?_) AllReadyL.nil)
  obtain ⟨a9, n9, c9, rfl⟩ : ∃ a n c, v28 = .slice a n c := A9.own.form
  have z9 := ht9.cell 0
  have y9 := ht9.frozen 0
  have x9 := ht9.lt
  simp only [List.getElem?_cons_zero] at z9
  have HA9 : Hid _ := A9
  have HT9 : Hid (Blk w9 tb [.slice ac nc cc] 22) := ht9
  have HK9 : Hid _ := k9
  have HB2 : Hid _ := B2
  clear A9 ht9 k9 S9 O8 HV8 hb8 b27 hb6 hr9
  go_simp
  refine hK.out _ _ (fun h => absurd rfl h) ?_
  clear hK K
  try simp only [Act.put, List.setIfInBounds_toArray, List.set_cons_zero, List.set_cons_succ]
  refine wpAnyL_done (by kernel_rfl) ?_ _
  have hnt : some tb ≠ Value.ownBlock (.slice a9 n9 c9) := fun h => (HA9.out.new tb h.symm).elim (fun q => HNT.out q.symm) (fun q => by have := Blk.lt HT.out; have := HB2.out.size; omega)
  have hCI : CI (w9.setCell ⟨tb, 0, none⟩ (.slice a9 n9 c9)) tb B (.slice a9 n9 c9) (ce ++ [(.slice (some ⟨g6, 0, none⟩) vs.length vs.length, vs, f, t)]) := CI.set HT9.out HA9.out.own hnt (by
      intro e he
      rcases List.mem_append.1 he with he | he
      · exact (HVT.out e he).keep (HK9.out.mono (fun b _ h => .inr h)) (fun b hb h => h.imp id (fun q => (HA9.out.new b q).elim id (fun q => by have := HB2.out.size; omega)))
      · simp only [List.mem_singleton] at he
        subst he
        have h6 := HA9.out.own.vals (.slice (some ⟨g6, 0, none⟩) vs.length vs.length, vs, f, t) (by simp)
        obtain ⟨a6, c6, q6, hh6⟩ := h6
        refine ⟨a6, c6, q6, fun h0 => ?_⟩
        obtain ⟨g', o', rfl, q1, q2, q3⟩ := hh6 h0
        simp only [Value.slice.injEq, Option.some.injEq, Addr.mk.injEq] at q6
        refine ⟨g', o', rfl, q1, fun h => h.elim (fun h => ?_) q2, q3⟩
        have := Blk.lt HT.out
        omega)
  refine Nrm.normal (HQ.out _ _ _ _ _ (.slice (some ⟨g6, 0, none⟩) vs.length vs.length, vs, f, t) rfl hCI ?_ ?_ ?_)
  · obtain ⟨a6, c6, q6, hh6⟩ := hCI.vals (.slice (some ⟨g6, 0, none⟩) vs.length vs.length, vs, f, t) (by simp)
    refine ⟨a6, c6, q6, fun h0 => ?_⟩
    obtain ⟨g', o', rfl, q1, q2, q3⟩ := hh6 h0
    simp only [Value.slice.injEq, Option.some.injEq, Addr.mk.injEq] at q6
    exact ⟨g', o', rfl, q1, fun h => by omega, q3⟩
  · exact (HK9.out.mono (fun b _ h => .inr h)).set (.inr (.inl rfl)) _
  · exact fun k h => (HA9.out.new k h).imp id (fun q => Nat.le_trans HB2.out.size q)
end Go.Proofs.YtpagnphabchfcaaGreat
/-! ### What Canon answers, by plain data; what its loop holds. -/
namespace Go.Proofs.YtpagnphabchfcaaGreat
open Go.RowKit Go.Shelf
set_option maxRecDepth 100000
open Classical in
/-- The fewest spans with the same points. -/
noncomputable def joinS (xs : List (Int × Int)) : List (Int × Int) := if h : ∃ ys, Sp.Canon ys ∧ ∀ p, Sp.Pt ys p ↔ Sp.Has xs p then h.choose else []
theorem joinS_eq {xs ys : List (Int × Int)} (h1 : Sp.Canon ys) (h2 : ∀ p, Sp.Pt ys p ↔ Sp.Has xs p) : ys = joinS xs := by
  have h : ∃ ys, Sp.Canon ys ∧ ∀ p, Sp.Pt ys p ↔ Sp.Has xs p := ⟨ys, h1, h2⟩
  unfold joinS
  rw [dif_pos h]
  exact Sp.canon_unique _ _ h1 h.choose_spec.1 (fun p => (h2 p).trans (h.choose_spec.2 p).symm)
/-- The rows of a run. -/
def run (S : List Rw) (x : Nat × Nat) : List Rw := (S.drop x.1).take (x.2 - x.1)
noncomputable def canonX (S : List Rw) (x : Nat × Nat) : List Rw := (joinS ((run S x).map (·.2))).map fun s => (((S[x.1]?).map (·.1)).getD [], s)
noncomputable def canonG (S : List Rw) (cs : List (Nat × Nat)) : List Rw := cs.flatMap (canonX S)
noncomputable def canonR (l : List Rw) : List Rw := canonG (sortR l) (cuts ((sortR l).map (·.1)))
theorem canonG_snoc (S : List Rw) (cs : List (Nat × Nat)) (x : Nat × Nat) : canonG S (cs ++ [x]) = canonG S cs ++ canonX S x := by simp [canonG]
theorem cutsF_len (L : List (List Vt)) : ∀ f i, (cutsF L f i).length ≤ f
  | 0, _ => Nat.le_refl _
  | f + 1, i => by
    unfold cutsF
    split
    · have := cutsF_len L f (endF L i L.length (i + 1))
      simp; omega
    · simp
theorem cutsF_mem (L : List (List Vt)) : ∀ f i x, x ∈ cutsF L f i → x.1 < x.2 ∧ x.2 ≤ L.length
  | 0, _, x, h => by cases h
  | f + 1, i, x, h => by
    unfold cutsF at h
    split at h
    · rename_i hi
      rcases List.mem_cons.1 h with rfl | h
      · have := endF_le L i L.length (i + 1) hi
        exact ⟨this.1, this.2⟩
      · exact cutsF_mem L f _ x h
    · cases h
/-- A part of a slice of rows. -/
theorem RL.part {w : World} {X : Nat → Prop} {g o n c i j : Nat} {es : List El} (h : RL w X (.slice (some ⟨g, o, none⟩) n c) es) (hij : i ≤ j) (hj : j ≤ es.length) : RL w X (.slice (some ⟨g, o + i * 3, none⟩) (j - i) (c - i)) ((es.drop i).take (j - i)) := by
  have hl : ((es.drop i).take (j - i)).length = j - i := by simp; omega
  refine ⟨⟨_, _, by rw [hl], fun h0 => ?_⟩, fun e he => h.vals e (List.mem_of_mem_drop (List.mem_of_mem_take he))⟩
  obtain ⟨a, c', hv, hh⟩ := h.at'
  simp only [Value.slice.injEq] at hv
  obtain ⟨rfl, rfl, rfl⟩ := hv
  obtain ⟨g', o', hq, hg, hx, hc⟩ := hh (by omega)
  simp only [Option.some.injEq, Addr.mk.injEq] at hq
  obtain ⟨rfl, rfl, _⟩ := hq
  refine ⟨g, o + i * 3, rfl, hg, hx, fun k e hk => ?_⟩
  rw [List.getElem?_take] at hk
  split at hk
  · rw [List.getElem?_drop] at hk
    have := hc (i + k) e hk
    rw [show o + (i + k) * 3 = o + i * 3 + k * 3 by omega] at this
    exact this
  · cases hk
/-- Values do not lie where a slice lies. -/
theorem SV.not {w : World} {X : Nat → Prop} {v : Value} {vs : List Vt} {tb : Nat} {u : Value} {t : TypeId} (h : SV w X v vs) (hb : Blk w tb [u] t) : SV w (fun b => b = tb ∨ X b) v vs := by
  obtain ⟨a, c, rfl, hh⟩ := h
  refine ⟨a, c, rfl, fun h0 => ?_⟩
  obtain ⟨g, o, rfl, hg, hx, hc⟩ := hh h0
  refine ⟨g, o, rfl, hg, fun q => q.elim (fun q => ?_) hx, hc⟩
  subst q
  obtain ⟨x, hx⟩ : ∃ x, vs[0]? = some x := ⟨_, List.getElem?_eq_getElem h0⟩
  have h1 := (hc 0 x hx).2.1
  rw [hb.cell] at h1
  simp at h1
theorem RL.not {w : World} {X : Nat → Prop} {v : Value} {es : List El} {tb : Nat} {u : Value} {t : TypeId} (h : RL w X v es) (hb : Blk w tb [u] t) : RL w (fun b => b = tb ∨ X b) v es := by
  refine ⟨?_, fun e he => (h.vals e he).not hb⟩
  obtain ⟨a, c, rfl, hh⟩ := h.at'
  refine ⟨a, c, rfl, fun h0 => ?_⟩
  obtain ⟨g, o, rfl, hg, hx, hc⟩ := hh h0
  refine ⟨g, o, rfl, hg, fun q => q.elim (fun q => ?_) hx, hc⟩
  subst q
  obtain ⟨x, hx⟩ : ∃ x, es[0]? = some x := ⟨_, List.getElem?_eq_getElem h0⟩
  have h1 := (hc 0 x hx).2.1
  rw [hb.cell] at h1
  simp at h1
/-- What the loop over the runs holds. -/
structure CW (w0 : World) (tb : Nat) (G : Nat → Prop) (g c : Nat) (es : List El) (O : Nat → Prop) (pre : List (Nat × Nat)) (W : World) : Prop where
  ex : ∃ cv ce, CI W tb w0.heap.size cv ce ∧ rws ce = canonG (rws es) pre ∧ O tb ∧ (∀ b, cv.ownBlock = some b → O b) ∧ (∀ e ∈ ce, SV W (fun b => ¬ O b) e.1 e.2.1) ∧ ce.length ≤ pre.length * 100
  rl : RL W (fun k => ¬ G k) (.slice (some ⟨g, 0, none⟩) es.length c) es
  k : Below w0.heap.size w0 W
  lt : ∀ b, O b → b < W.heap.size
  dis : ∀ b, O b → ¬ G b
  base : ∀ b, O b → w0.heap.size ≤ b
theorem CW.abide {w0 : World} {tb g c n : Nat} {G : Nat → Prop} {es : List El} (hG : ∀ b, G b → b < n) (hn : w0.heap.size ≤ n) : Abide n (CW w0 tb G g c es) := by
  rintro O pre W W' ⟨⟨cv, ce, h1, h2, h3, h4, h5, h6⟩, hr, hk, hl, hd, hb⟩ k
  refine ⟨⟨cv, ce, h1.keep k (fun h => h.1 h3) (fun b hb h => h.1 (h4 b hb)) (fun e he => (h5 e he).mono (fun b _ h => h.1)), h2, h3, h4, fun e he => (h5 e he).keep (k.mono (fun b _ h => h.1)) (fun _ _ h => h), h6⟩, ?_, hk.trans (k.below (by have := hk.size; omega) (fun i hi h => by omega)), fun b hb => Nat.lt_of_lt_of_le (hl b hb) k.size, hd, hb⟩
  exact hr.keep (k.mono (fun i _ h hg => by have := hG i hg; omega)) (fun _ _ h => h)
abbrev mark (D : Nat) : Deferred := { target := .collected D, args := #[] }
/-- A function's end, where loops have left blocks for deferred calls. -/
theorem leave_marks {fn : Func} {tmps : Array Value} {R : Ending → World → Prop} {v : Value} : ∀ (Ds : List Nat) (w : World), (∀ w', Keep (· ∈ Ds) w w' → (results fn tmps).run Tryz.prog w' = .ok v w' ∧ R (.returned v) w') → (∀ D ∈ Ds, w.heap[D]? = some (.deferred (some []))) → Ds.Nodup →
    LeavesInM Fence.wide 0 Tryz.prog fn tmps R (Ds.map mark) .returning w
  | [], w, hR, _, _ => ⟨v, (hR w (Keep.refl _ _)).1, (hR w (Keep.refl _ _)).2⟩
  | D :: Ds, w, hR, hD, hn => by
    refine ⟨by simp, .inl ⟨D, _, rfl, run_takeDeferred (hD D (by simp)), ?_⟩⟩
    have k : Keep (· ∈ D :: Ds) w (w.putObj D (.deferred none)) := (Keep.refl _ w).put (.inr (by simp)) _
    refine leave_marks Ds _ (fun w' k' => hR w' (k.trans k' (fun _ _ h => by simp [h]))) (fun D' h' => ?_) (List.nodup_cons.1 hn).2
    have hne : D' ≠ D := fun e => (List.nodup_cons.1 hn).1 (by rw [← e]; exact h')
    rw [World.putObj_heap_other hne]
    exact hD D' (by simp [h'])
theorem eg33 : ∀ args w, (callFunc 87 args).run Tryz.prog w = .ok (.enter 87 args) w := enters_of Tryz.func87 (by kernel_rfl) rfl
theorem OwnR.some {w : World} {B : Nat} {v : Value} {es : List El} (h : OwnR w B v es) (hn : v ≠ .slice none 0 0) : ∃ g c, v = .slice (some ⟨g, 0, none⟩) es.length c ∧ es.length ≤ c ∧ B ≤ g ∧ g < w.heap.size := by
  have hlt := h.row.lt
  have hcap := h.cap
  obtain ⟨_, ⟨rfl, _⟩ | ⟨g, cap, cur, rfl, _⟩⟩ := h.row
  · exact absurd rfl hn
  · exact ⟨g, cap, rfl, hcap _ _ _ rfl, (hlt g rfl).1, (hlt g rfl).2⟩
theorem SV.also {w w' : World} {X Y : Nat → Prop} {v : Value} {vs : List Vt} (h : SV w X v vs) (h' : SV w' Y v vs) : SV w' X v vs := by
  obtain ⟨a, c, rfl, hh⟩ := h
  obtain ⟨a', c', hv, hh'⟩ := h'
  simp only [Value.slice.injEq] at hv
  obtain ⟨rfl, -, rfl⟩ := hv
  refine ⟨a, c, rfl, fun h0 => ?_⟩
  obtain ⟨g, o, rfl, hg, hx, hc⟩ := hh h0
  obtain ⟨g', o', hq, hg', hf, hc'⟩ := hh' h0
  simp only [Option.some.injEq, Addr.mk.injEq] at hq
  obtain ⟨rfl, rfl, _⟩ := hq
  exact ⟨g, o, rfl, hg', hx, hc'⟩
theorem SV.bound {w : World} {X : Nat → Prop} {v : Value} {vs : List Vt} (h : SV w X v vs) : SV w (fun b => X b ∨ w.heap.size ≤ b) v vs := by
  obtain ⟨a, c, rfl, hh⟩ := h
  refine ⟨a, c, rfl, fun h0 => ?_⟩
  obtain ⟨g, o, rfl, hg, hx, hc⟩ := hh h0
  exact ⟨g, o, rfl, hg, fun h => h.elim hx (fun h => by omega), hc⟩
theorem RL.bound {w : World} {X : Nat → Prop} {v : Value} {es : List El} (h : RL w X v es) : RL w (fun b => X b ∨ w.heap.size ≤ b) v es := by
  refine ⟨?_, fun e he => (h.vals e he).bound⟩
  obtain ⟨a, c, rfl, hh⟩ := h.at'
  refine ⟨a, c, rfl, fun h0 => ?_⟩
  obtain ⟨g, o, rfl, hg, hx, hc⟩ := hh h0
  exact ⟨g, o, rfl, hg, fun h => h.elim hx (fun h => by omega), hc⟩
theorem Sp.Own.open {w : World} {B : Nat} {v : Value} {xs : List (Int × Int)} (h : Sp.Own w B v xs) : ∃ p c, v = .slice p xs.length c ∧ (0 < xs.length → ∃ jb, p = some ⟨jb, 0, none⟩ ∧ B ≤ jb ∧ jb < w.heap.size ∧ ∀ (i : Nat) (x : Int × Int), xs[i]? = some x → w.cell? ⟨jb, i * 2, none⟩ = some (.int .i64 x.1) ∧ w.cell? ⟨jb, i * 2 + 1, none⟩ = some (.int .i64 x.2)) := by
  have hlt := World.ownsRow.lt h
  have hs := h.srow
  obtain ⟨_, ⟨rfl, h0⟩ | ⟨g, cap, cur, rfl, _⟩⟩ := h
  · exact ⟨none, 0, by rw [h0], fun h => by omega⟩
  · refine ⟨_, cap, rfl, fun h0 => ⟨g, rfl, (hlt g rfl).1, (hlt g rfl).2, fun i x hx => ?_⟩⟩
    obtain ⟨hi, rfl⟩ := List.getElem?_eq_some_iff.1 hx
    rcases hs with ⟨_, he⟩ | ⟨b, off, cap', hv, _, _, _, hc⟩
    · subst he; simp at h0
    · simp only [Value.slice.injEq, Option.some.injEq, Addr.mk.injEq] at hv
      obtain ⟨⟨rfl, rfl, _⟩, _⟩ := hv
      have := hc i hi
      rw [Nat.zero_add] at this
      exact this
end Go.Proofs.YtpagnphabchfcaaGreat
/-! ### Canon. -/
namespace Go.Proofs.YtpagnphabchfcaaGreat
open Go.RowKit Go.Shelf
set_option maxRecDepth 100000
attribute [local go_sem] Oper.semAt_some
set_option maxHeartbeats 4000000 in
theorem canon7 {w : World} {X : Nat → Prop} {v : Value} {es : List El} (h : RL w X v es) (hl : es.length ≤ 100) (hv : ∀ e ∈ es, e.2.1.length ≤ 1000) :
    Calls Tryz.prog 24 #[v] w (LPost w (canonR (rws es))) := by
  obtain ⟨a, c0, rfl⟩ := h.form
  have kA : Below w.heap.size w (w.alloc (.cells #[.slice none 0 0] 22)) := al _ _
  have b0 := blk_new w [.slice none 0 0] 22
  change Blk (w.alloc (.cells #[.slice none 0 0] 22)) _ _ _ at b0
  have k17 := sorted17 (h.below kA) (by omega) hv
  refine (callsIn_wide (n := 0)).1 (callsIn_of_wp_marks Tryz.func24 rfl trivial (wpIn_wide.2 ?_) rfl)
  simp only [Tryz.ntmps24, List.size_toArray, List.length_cons, List.length_nil, Nat.reduceAdd, Nat.reduceSub, Array.replicate_succ, Array.replicate_zero, List.push_toArray, List.append_toArray, List.nil_append, List.cons_append]
  have HL : Hid _ := hl
  have HV : Hid _ := hv
  have Hb0 : Hid (Blk (w.alloc (.cells #[.slice none 0 0] 22)) w.heap.size [.slice none 0 0] 22) := b0
  have HkA : Hid _ := kA
  clear h hl hv b0 kA
  go_wp2_with (first
    | (go_at_call 10; (with_reducible refine k17.mono ?_); rintro e w2 ⟨v2, es2, rfl, hn2, hO2, hE2, hB2⟩; obtain ⟨g, c, rfl, hc, hBg, hg⟩ := hO2.some hn2)
    | (go_at_call 60; (with_reducible refine (byValues16 _ _ _ _).mono ?_); rintro e w3 ⟨rfl, rfl⟩))
  have HB3 : Hid (Below w.heap.size w (w2.alloc (.cells #[.slice (some ⟨g, 0, none⟩) es2.length c] 22))) := bmore (bmore HkA.out hB2) (al _ _)
  have Hb2 : Hid (Blk w2 w.heap.size [.slice none 0 0] 22) := Blk.below Hb0.out hB2
  have Hb3 : Hid (Blk (w2.alloc (.cells #[.slice (some ⟨g, 0, none⟩) es2.length c] 22)) w.heap.size [.slice none 0 0] 22) := Blk.below Hb2.out (al _ _)
  have HR3 : Hid (RL (w2.alloc (.cells #[.slice (some ⟨g, 0, none⟩) es2.length c] 22)) (fun b => (b = w.heap.size ∨ False) ∨ (w2.alloc (.cells #[.slice (some ⟨g, 0, none⟩) es2.length c] 22)).heap.size ≤ b) (.slice (some ⟨g, 0, none⟩) es2.length c) es2) := (RL.below (RL.not (OwnR.rl hO2) Hb2.out) (al _ _)).bound
  have Hbx : Hid (Blk (w2.alloc (.cells #[.slice (some ⟨g, 0, none⟩) es2.length c] 22)) w2.heap.size [.slice (some ⟨g, 0, none⟩) es2.length c] 22) := blk_new w2 _ _
  have HS2 : Hid (w2.heap.size < (w2.alloc (.cells #[.slice (some ⟨g, 0, none⟩) es2.length c] 22)).heap.size ∧ w.heap.size < w2.heap.size) := ⟨by simp, Blk.lt Hb2.out⟩
  have HE2 : Hid (rws es2 = sortR (rws es)) := hE2
  have hN2 : es2.length ≤ 100 := by
    have h1 := congrArg List.length hE2
    have h2 := (sortR_perm (rws es)).length_eq
    have := HL.out
    simp [rws] at h1 h2; omega
  have HV2 : Hid (∀ e ∈ es2, e.2.1.length ≤ 1000) := fun e he => by
    have : e.2 ∈ rws es2 := List.mem_map.2 ⟨e, he, rfl⟩
    rw [hE2] at this
    obtain ⟨x, hx, hq⟩ := List.mem_map.1 ((sortR_perm (rws es)).mem_iff.1 this)
    rw [← hq]
    exact HV.out x hx
  have HC : Hid (es2.length ≤ c) := hc
  generalize w2.alloc (.cells #[.slice (some ⟨g, 0, none⟩) es2.length c] 22) = W3 at *
  clear hO2 hE2 hB2 k17 hBg hg hn2 hc
  refine wpIn_wide.1 (wpIn_range0 (a := { tmps := #[.slice a es.length c0, undef, .slice none 0 0, .pointer (some ⟨w.heap.size, 0, none⟩), undef, undef, undef, .slice a es.length c0, .slice (some ⟨g, 0, none⟩) es2.length c, .func (.func 87) #[] #[.pointer (some ⟨w2.heap.size, 0, none⟩)], undef, undef, undef, undef, undef, undef, undef, undef, undef, undef, undef, undef, undef, undef, undef, undef, undef, undef, undef, undef, undef], defers := [] }) (gf := 87) (lb := #[.pointer (some ⟨w2.heap.size, 0, none⟩)]) rfl eg33 rfl (enc := encB g 0 c) (xs := cuts (vls es2)) (G := fun k => k ≠ w.heap.size ∧ k < W3.heap.size)
    (fun W1 k => runs33 (Blk.below Hbx.out k) ⟨Nat.ne_of_gt HS2.out.2, HS2.out.1⟩ ((RL.below HR3.out k).mono (fun b _ h => ?gx)) HC.out (by omega) HV2.out) (fun b h => h.2)
    (CW w w.heap.size (fun k => k ≠ w.heap.size ∧ k < W3.heap.size) g c es2) (fun _ _ _ _ => False) (fun O pre W h => h.lt) (CW.abide (fun b h => h.2) HB3.out.size) (fun c => fun O' q W1 W2 h k => h)
    (fun b => b = w.heap.size) (fun b h => ⟨fun q => q.1 h, by rw [h]; exact Blk.lt Hb3.out⟩) ⟨⟨.slice none 0 0, [], ⟨Hb3.out, OwnR.nil _ _, by simp [Value.ownBlock], fun e he => by cases he⟩, rfl, rfl, fun b hb => by simp [Value.ownBlock] at hb, fun e he => (by cases he), by simp⟩, HR3.out.mono (fun b _ h => ?gy), HB3.out, fun b h => by rw [h]; exact Blk.lt Hb3.out, fun b h q => q.1 h, fun b h => by rw [h]; exact Nat.le_refl _⟩ (fun x => { tmps := #[.slice a es.length c0, undef, .slice none 0 0, .pointer (some ⟨w.heap.size, 0, none⟩), encB g 0 c x, undef, undef, .slice a es.length c0, .slice (some ⟨g, 0, none⟩) es2.length c, .func (.func 87) #[] #[.pointer (some ⟨w2.heap.size, 0, none⟩)], encB g 0 c x, undef, undef, undef, undef, undef, undef, undef, undef, undef, undef, undef, undef, undef, undef, undef, undef, undef, undef, undef, undef], defers := [] }) ?assign ?body ?done ?stop)
  case gx => by_cases hq : b = w.heap.size; exact .inl (.inl hq); exact .inr (Nat.le_of_not_lt (fun hh => h ⟨hq, hh⟩))
  case gy => by_cases hq : b = w.heap.size; exact .inl (.inl hq); exact .inr (Nat.le_of_not_lt (fun hh => h ⟨hq, hh⟩))
  case assign =>
    intro l' x' W' K hK
    gi_wp2
    exact hK
  case body =>
    intro l' O pre x W' hI hle hpre
    obtain ⟨i, j⟩ := x
    obtain ⟨hij, hjN⟩ : i < j ∧ j ≤ es2.length := by
      have := cutsF_mem (vls es2) _ _ (i, j) (hpre.subset (by simp))
      simpa [vls] using this
    have hpl : pre.length ≤ 100 := by
      have h1 := hpre.length_le
      have h2 := cutsF_len (vls es2) (vls es2).length 0
      simp [cuts, vls] at h1 h2
      omega
    obtain ⟨⟨cv, ce, h1, h2, h3, h4, h5, h6⟩, hr, hkk, hl, hdis, hbase⟩ := hI
    have hRP := RL.part (i := i) (j := j) hr (by omega) hjN
    obtain ⟨ge, hge⟩ : ∃ l, (es2.drop i).take (j - i) = l := ⟨_, rfl⟩
    have hgl : ge.length = j - i := by rw [← hge]; simp; omega
    rw [hge, Nat.zero_add] at hRP
    obtain ⟨e0, he0⟩ : ∃ e, es2[i]? = some e := ⟨_, List.getElem?_eq_getElem (by omega)⟩
    have HSp : Hid (canonX (rws es2) (i, j) = (joinS (spn ge)).map fun s => (e0.2.1, s)) := by
      show _ = _
      unfold canonX run
      rw [show (rws es2)[i]? = some e0.2 by rw [rws, List.getElem?_map, he0]; rfl, ← hge]
      simp [spn, rws, List.map_take, List.map_drop, Function.comp_def]
    have hc0 := (hr.at3 he0).1
    rw [Nat.zero_add] at hc0
    have HSV0 : Hid (SV W' (fun k => ¬ (k ≠ w.heap.size ∧ k < W3.heap.size)) e0.1 e0.2.1) := hr.vals e0 (List.mem_of_getElem? he0)
    have HLe0 : Hid (e0.2.1.length ≤ 1000) := HV2.out e0 (List.mem_of_getElem? he0)
    have hgW : g < W'.heap.size := World.block_lt_of_cell? W' _ hc0
    have hgG : ¬ O g := fun h => by
      obtain ⟨g', o', hq, hg', hx, _⟩ := hr.get he0
      simp only [Option.some.injEq, Addr.mk.injEq] at hq
      obtain ⟨rfl, _⟩ := hq
      exact hx (hdis g h)
    have k19 := spans19 hRP (by rw [hgl]; omega)
    obtain ⟨sv0, vs, f0, t0⟩ := e0
    simp only at HSp hc0 HSV0 HLe0
    obtain ⟨pa, ca, rfl⟩ := SV.form HSV0.out
    have H1 : Hid (CI W' w.heap.size w.heap.size cv ce) := h1
    have H2 : Hid (rws ce = canonG (rws es2) pre) := h2
    have H3 : Hid (O w.heap.size) := h3
    have H4 : Hid (∀ b, cv.ownBlock = some b → O b) := h4
    have H5 : Hid (∀ e ∈ ce, SV W' (fun b => ¬ O b) e.1 e.2.1) := h5
    have H6 : Hid (ce.length ≤ pre.length * 100) := h6
    have HR : Hid _ := hr
    have HKK : Hid (Below w.heap.size w W') := hkk
    have HLt : Hid (∀ b, O b → b < W'.heap.size) := hl
    have HDis : Hid (∀ b, O b → ¬ (b ≠ w.heap.size ∧ b < W3.heap.size)) := hdis
    have HBase : Hid (∀ b, O b → w.heap.size ≤ b) := hbase
    have HgG : Hid (¬ O g) := hgG
    have HgW : Hid (g < W'.heap.size) := hgW
    have Hc0 : Hid (W'.cell? ⟨g, i * 3, none⟩ = some (.slice pa vs.length ca)) := hc0
    have Hgl : Hid (ge.length = j - i) := hgl
    have hm : (0 : Int) < ((j - i : Nat) : Int) := by omega
    clear h1 h2 h3 h4 h5 h6 hr hkk hl hdis hbase hgG hgW hc0 hRP he0 hge hgl
    rw [show encB g 0 c (i, j) = .slice (some ⟨g, i * 3, none⟩) (j - i) (c - i) by simp [encB]]
    gi_wp2
    refine ⟨trivial, rfl, (CallsIn.inRound l' ((callsIn_wide (n := 0)).2 k19)).mono ?_⟩
    rintro e w5 ⟨v5, rfl, hO5, hB5⟩
    have k18 := Sp.join24 v5 _ w5 (by have := Hgl.out; simp [spn]; omega) hO5.srow
    have HO5 : Hid (Sp.Own w5 W'.heap.size v5 (spn ge)) := hO5
    obtain ⟨p5, c5, hv5, _⟩ := hO5.open
    subst hv5
    clear hO5
    gi_wp2
    refine ⟨trivial, rfl, (CallsIn.inRound l' ((callsIn_wide (n := 0)).2 k18)).mono ?_⟩
    rintro e w6 ⟨v6, ys, rfl, hCa, hPt, hYl, hO6, hB6⟩
    obtain ⟨pj, cj, hv6, hOp⟩ := hO6.open
    subst hv6
    gi_wp2
    have HYs : Hid (ys = joinS (spn ge)) := joinS_eq hCa hPt
    have HB6 : Hid (Below W'.heap.size W' w6) := bmore hB5 hB6
    obtain ⟨M, hM⟩ : ∃ M, ys.length = M := ⟨_, rfl⟩
    have HM : Hid (ys.length = M) := hM
    have hM1 : M ≤ 100 := by have := Hgl.out; simp [spn] at hYl; omega
    have HOp : Hid (0 < M → ∃ jb, pj = some ⟨jb, 0, none⟩ ∧ W'.heap.size ≤ jb ∧ jb < w6.heap.size ∧ ∀ (i : Nat) (x : Int × Int), ys[i]? = some x → w6.cell? ⟨jb, i * 2, none⟩ = some (.int .i64 x.1) ∧ w6.cell? ⟨jb, i * 2 + 1, none⟩ = some (.int .i64 x.2)) := fun h0 => by
      obtain ⟨jb, q1, q2, q3, q4⟩ := hOp (by rw [hM]; exact h0)
      exact ⟨jb, q1, Nat.le_trans hB5.size q2, q3, q4⟩
    rw [hM]
    clear hB5 hB6 hCa hPt hYl hO6 hOp k18 k19 hM
    gi_loopw [15] (fun fi wr => ∃ (k : Nat) (cv1 : Value) (ce1 : List El), fi = .int .i64 (k : Int) ∧ Hid (k ≤ M) ∧ Hid (CI wr w.heap.size w.heap.size cv1 (ce ++ ce1)) ∧ Hid (rws ce1 = (ys.take k).map fun s => (vs, s)) ∧ Hid (Keep O w6 wr) ∧ Hid (∀ b, cv1.ownBlock = some b → O b ∨ W'.heap.size ≤ b ∧ (b < w6.heap.size → cv.ownBlock = some b)) ∧ Hid (∀ e ∈ ce1, ∃ wx, SV wx (fun b => b < W'.heap.size) e.1 e.2.1)) (fun fi _ => ((M : Int) - intOf fi).toNat)
    case atStart => exact ⟨0, cv, [], rfl, Nat.zero_le _, by show CI _ _ _ _ _; rw [List.append_nil]; exact H1.out.below HB6.out, rfl, Keep.refl _ _, fun b hb => .inl (H4.out b hb), fun e he => by cases he⟩
    case round =>
      obtain ⟨k, cv1, ce1, rfl, hk, hCI, hE1, hKp, hOw, hHi⟩ := hrel
      by_cases hkM : k < M
      · have hki : (k : Int) < (M : Int) := by omega
        have hk0 : (0 : Int) ≤ (k : Int) := by omega
        obtain ⟨jb, rfl, hj1, hj2, hjc⟩ := HOp.out (by omega)
        obtain ⟨⟨f, t⟩, hy⟩ : ∃ y, ys[k]? = some y := ⟨_, List.getElem?_eq_getElem (by rw [HM.out]; exact hkM)⟩
        have hnj : ¬ O jb := fun h => by have := HLt.out jb h; omega
        have d0 := (hKp.out.cell hj2 hnj).trans (hjc k _ hy).1
        have d1 := (hKp.out.cell hj2 hnj).trans (hjc k _ hy).2
        simp only at d0 d1
        have hIq := hCI.out.below (al wr (.cells #[.int .i64 f, .int .i64 t] 39))
        have hbq := blk_new wr [.int .i64 f, .int .i64 t] 39
        change Blk (wr.alloc (.cells #[.int .i64 f, .int .i64 t] 39)) _ _ _ at hbq
        have hgc : (wr.alloc (.cells #[.int .i64 f, .int .i64 t] 39)).cell? ⟨g, i * 3, none⟩ = some (.slice pa vs.length ca) := by
          rw [(al wr (.cells #[.int .i64 f, .int .i64 t] 39)).cell (p := ⟨g, i * 3, none⟩) (by have := HgW.out; have := HB6.out.size; have := hKp.out.size; simp; omega), hKp.out.cell (by have := HgW.out; have := HB6.out.size; omega) HgG.out, HB6.out.cell (p := ⟨g, i * 3, none⟩) HgW.out]
          exact Hc0.out
        have hsvq : SV (wr.alloc (.cells #[.int .i64 f, .int .i64 t] 39)) (fun k => ¬ (k ≠ w.heap.size ∧ k < W3.heap.size)) (.slice pa vs.length ca) vs := (SV.keep (SV.below HSV0.out HB6.out) (hKp.out.mono (fun b _ h => HDis.out b h)) (fun _ _ h => h)).below (al _ _)
        have hlenq : (ce ++ ce1).length ≤ 100000 := by
          have q1 := congrArg List.length hE1.out
          have q2 := H6.out
          simp [rws] at q1 ⊢
          omega
        have HIq : Hid _ := hIq
        have Hbq : Hid (Blk (wr.alloc (.cells #[.int .i64 f, .int .i64 t] 39)) wr.heap.size [.int .i64 f, .int .i64 t] 39) := hbq
        have Hgc : Hid _ := hgc
        have HSq : Hid _ := hsvq
        have HLq : Hid _ := hlenq
        have Hy : Hid _ := hy
        have HKq : Hid (Keep O w6 (wr.alloc (.cells #[.int .i64 f, .int .i64 t] 39))) := hKp.out.trans (Keep.of (al _ _)) (fun _ _ h => h)
        have HSz : Hid (wr.heap.size < (wr.alloc (.cells #[.int .i64 f, .int .i64 t] 39)).heap.size ∧ W'.heap.size ≤ wr.heap.size ∧ w6.heap.size ≤ wr.heap.size ∧ w.heap.size ≤ W'.heap.size) := ⟨by simp, Nat.le_trans HB6.out.size hKp.out.size, hKp.out.size, HKK.out.size⟩
        have Hj : Hid (∀ (i : Nat) (x : Int × Int), ys[i]? = some x → w6.cell? ⟨jb, i * 2, none⟩ = some (.int .i64 x.1) ∧ w6.cell? ⟨jb, i * 2 + 1, none⟩ = some (.int .i64 x.2)) := hjc
        have Hj2 : Hid (jb < w6.heap.size ∧ W'.heap.size ≤ jb ∧ ¬ O jb) := ⟨hj2, hj1, hnj⟩
        clear hIq hbq hgc hsvq hlenq hy hjc hj1 hj2 hnj
        gi_wp2
        refine reg7 (X := fun k => ¬ (k ≠ w.heap.size ∧ k < W3.heap.size)) (B := w.heap.size) HIq.out (by have := HSz.out; omega) HLq.out hm (by have := HgW.out; have := HSz.out; omega) (fun q => (hOw.out g q.symm).elim HgG.out (fun q => by have := HgW.out; omega)) Hgc.out Hbq.out HSz.out.1 (fun q => by have := (hCI.out.own.row.lt _ q.symm).2; omega) HSq.out HLe0.out ?_
        intro v24 v26 v27 v28 w' e he hCI' hSV' hKp' hOw'
        gi_wp2
        go_roundw
        case rel =>
          have hz := HSz.out
          refine ⟨k + 1, v28, ce1 ++ [e], by simp, by show _ ≤ _; omega, by show CI _ _ _ _ _; rw [← List.append_assoc]; exact hCI', ?_, HKq.out.trans hKp' (fun b hb q => q.elim (fun q => by rw [q]; exact H3.out) (fun q => (hOw.out b q).elim id (fun q2 => H4.out b (q2.2 hb)))), fun b q => (hOw' b q).elim (hOw.out b) (fun q2 => .inr ⟨by omega, fun h => by omega⟩), ?_⟩
          · show _ = _
            rw [List.take_add_one, Hy.out]
            simp only [rws, List.map_append, List.map_cons, List.map_nil, he, Option.toList_some]
            rw [← rws, hE1.out]
          · intro e' he'
            rcases List.mem_append.1 he' with he' | he'
            · exact hHi.out e' he'
            · simp only [List.mem_singleton] at he'
              subst he'
              exact ⟨w', hSV'.mono (fun b _ h => by omega)⟩
        case measure => simp only [intOf]; omega
      · have hki : ¬ (k : Int) < (M : Int) := by omega
        have KW : Keep O W' wr := (Keep.of HB6.out).trans hKp.out (fun _ _ h => h)
        have HKW : Hid _ := KW
        clear KW
        gi_wp2
        have hsz := HKW.out.size
        have hsz2 := HKK.out.size
        refine ⟨fun b => O b ∨ (W'.heap.size ≤ b ∧ b < wr.heap.size), ⟨⟨cv1, ce ++ ce1, hCI.out, ?_, .inl H3.out, fun b hb => (hOw.out b hb).imp id (fun q => ⟨q.1, (hCI.out.own.row.lt b hb).2⟩), ?_, ?_⟩, ?_, ?_, ?_, ?_, ?_⟩, fun b h => h.imp id (·.1), HKW.out⟩
        · rw [show rws (ce ++ ce1) = rws ce ++ rws ce1 by simp [rws], H2.out, canonG_snoc, HSp.out, hE1.out, List.take_of_length_le (by rw [HM.out]; omega), HYs.out]
        · intro e he
          rcases List.mem_append.1 he with he' | he'
          · exact ((H5.out e he').also (hCI.out.vals e he)).mono (fun b _ h q => h (.inl q))
          · obtain ⟨wx, hx⟩ := hHi.out e he'
            refine ((hx.also (hCI.out.vals e he)).bound).mono (fun b _ h => ?_)
            by_cases q : b < W'.heap.size
            · exact .inl q
            · exact .inr (Nat.le_of_not_lt (fun q2 => h (.inr ⟨by omega, q2⟩)))
        · have q1 := congrArg List.length hE1.out
          have q2 := H6.out
          have q3 := hk.out
          have q4 := HM.out
          simp [rws] at q1 ⊢
          omega
        · exact HR.out.keep (HKW.out.mono (fun b _ h => HDis.out b h)) (fun _ _ h => h)
        · exact HKK.out.trans (HKW.out.below HKK.out.size (fun i hi h => by have := HBase.out i h; omega))
        · exact fun b h => h.elim (fun h => Nat.lt_of_lt_of_le (HLt.out b h) hsz) (·.2)
        · exact fun b h q => h.elim (fun h => HDis.out b h q) (fun h => by omega)
        · exact fun b h => h.elim (HBase.out b) (fun h => by omega)
  case stop =>
    rintro D c O' pre W' _ _ _ h
    exact h.elim
  case done =>
    rintro D O' W' hD nD hI hgr hk hd
    obtain ⟨⟨cv, ce, h1, h2, h3, h4, h5, h6⟩, hr, hkk, hl, hdis, hbase⟩ := hI
    have zt := h1.blk.cell 0
    simp only [List.getElem?_cons_zero] at zt
    have HD : Hid (w.heap.size ≤ D) := Nat.le_trans HB3.out.size hD
    have HO : Hid (∀ w', Keep (· ∈ [D]) W' w' → OwnR w' w.heap.size cv ce) := fun w' k => by
      refine ⟨owns_keep h1.own.row (fun j hj => k.block j (h1.own.row.lt j hj).2 (fun q => nD (by simp at q; rw [← q]; exact h4 j hj))), fun e he => ?_⟩
      exact sv_both (h1.own.vals e he) ((h5 e he).mono (fun b _ q => by simp at q; rw [q]; exact nD)) k
    have HF : Hid (rws ce = canonR (rws es)) := by
      show _ = _
      rw [h2, canonR, ← HE2.out, show vls es2 = (rws es2).map (·.1) by simp [vls, rws]]
    have HK : Hid _ := hkk
    have Hd : Hid _ := hd
    obtain ⟨ac, nc, cc, rfl⟩ := h1.own.form
    clear h1 h2 h3 h4 h5 h6 hr hkk hl hdis hbase hgr hk hd hD
    go_wp2
    refine leave_marks [D] _ (fun w' k => ⟨results_tmp rfl _ _ _, .slice ac nc cc, ce, rfl, HO.out w' k, HF.out, HK.out.trans (k.below (HK.out.size) (fun i hi h => by have := HD.out; simp at h; omega))⟩) (fun D' h => by simp at h; subst h; exact Hd.out) (by simp)
end Go.Proofs.YtpagnphabchfcaaGreat
/-! ### At: a list of values is laid on. -/
namespace Go.Proofs.YtpagnphabchfcaaGreat
open Go.RowKit Go.Shelf
set_option maxRecDepth 100000
theorem rowForm {w : World} {B e m n : Nat} {v : Value} {xs : List Value} (h : w.ownsRow B e m v n xs) : ∃ a n c, v = .slice a n c := by
  obtain ⟨_, ⟨h, _⟩ | ⟨g, cap, cur, h, _⟩⟩ := h
  · exact ⟨_, _, _, h⟩
  · exact ⟨_, _, _, h⟩
theorem info30 : (Tryz.prog.info? 35).map (fun i => (i.zero, i.size, i.bytes)) = some (some (.slice none 0 0), 1, 24) := by kernel_rfl
theorem b1runA (a : Option Addr) (n c : Nat) (w : World) : (Instr.buildSlice 42 1 #[(0, .slice a n c)]).run Tryz.prog w = .ok (.slice (some ⟨w.heap.size, 0, none⟩) 1 1) (w.alloc (.cells #[.slice a n c] 35)) := by
  go_simp
set_option maxHeartbeats 4000000 in
theorem reg11 {l N tb g o m c B n : Nat} {av : Value} {xs : List Value} {pa : Option Addr} {vn ca : Nat} {u0 u1 u2 u3 u4 u5 u6 u7 u10 u11 u12 u13 u14 u15 u16 u17 u18 u19 u20 u21 u22 u23 u24 u25 u26 u27 u28 u29 u30 u31 u32 u33 u34 u35 u36 : Value} {ds : List Deferred} {w : World} {Q : Exit → Act → World → Prop}
    (htb : Blk w tb [av] 42) (hown : w.ownsRow B 35 1 av n xs) (hB : B ≤ w.heap.size) (hlen : n ≤ 100000) (hne : some tb ≠ av.ownBlock) (hm : (0 : Int) < (m : Int))
    (hg : g < w.heap.size) (hgn : some g ≠ av.ownBlock) (hgo : w.cell? ⟨g, o, none⟩ = some (.slice pa vn ca))
    (hQ : ∀ v34 v35 w', Blk w' tb [v35] 42 → w'.ownsRow B 35 1 v35 (n + 1) (xs ++ [.slice pa vn ca]) → some tb ≠ v35.ownBlock → Keep (fun b => b = tb ∨ av.ownBlock = some b) w w' → (∀ k, v35.ownBlock = some k → av.ownBlock = some k ∨ w.heap.size ≤ k) → Q .normal { tmps := #[u0, u1, u2, u3, u4, u5, u6, u7, .pointer (some ⟨tb, 0, none⟩), .slice (some ⟨g, o, none⟩) m c, u10, u11, u12, u13, u14, u15, u16, u17, u18, u19, u20, u21, u22, u23, u24, u25, u26, u27, u28, av, .slice (some ⟨g, o, none⟩) m c, .pointer (some ⟨g, o, none⟩), .pointer (some ⟨g, o, none⟩), .slice pa vn ca, v34, v35, u36], defers := ds } w') :
    Code.wpIn (Fence.wide.inRound l) N Tryz.prog (Code.region 11 #[{ dst := some 29, op := Op.load 42 (Operand.tmp 8), type := 42, pos := "rows.go:47", after := #[], guard := none }, { dst := some 30, op := Op.move (Operand.tmp 9), type := 22, pos := "rows.go:47", after := #[], guard := none }, { dst := some 31, op := Op.indexAddr 22 (Operand.tmp 30) (Operand.const (Value.int IntKind.i64 0)), type := 0, pos := "rows.go:47", after := #[{ on := 1, ground := Ground.data }], guard := none }, { dst := some 32, op := Op.fieldAddr 64 (Operand.tmp 31) 0, type := 0, pos := "rows.go:47", after := #[{ on := 2, ground := Ground.data }], guard := none }, { dst := some 33, op := Op.load 35 (Operand.tmp 32), type := 35, pos := "rows.go:47", after := #[{ on := 3, ground := Ground.data }], guard := none }, { dst := some 34, op := Op.buildSlice 42 1 #[(0, Operand.tmp 33)], type := 42, pos := "rows.go:47", after := #[{ on := 4, ground := Ground.data }], guard := none }, { dst := some 35, op := Op.call { callee := Callee.builtin Builtin.append, args := #[Operand.tmp 29, Operand.tmp 34], argTypes := #[42, 42] }, type := 42, pos := "rows.go:47", after := #[{ on := 0, ground := Ground.data }, { on := 5, ground := Ground.data }], guard := none }, { dst := none, op := Op.store 42 (Operand.tmp 8) (Operand.tmp 35), type := 0, pos := "rows.go:47", after := #[{ on := 6, ground := Ground.data }, { on := 6, ground := Ground.chain }, { on := 0, ground := Ground.phase }, { on := 1, ground := Ground.phase }, { on := 2, ground := Ground.phase }, { on := 3, ground := Ground.phase }, { on := 4, ground := Ground.phase }, { on := 5, ground := Ground.phase }, { on := 6, ground := Ground.phase }], guard := none }] true) Q { tmps := #[u0, u1, u2, u3, u4, u5, u6, u7, .pointer (some ⟨tb, 0, none⟩), .slice (some ⟨g, o, none⟩) m c, u10, u11, u12, u13, u14, u15, u16, u17, u18, u19, u20, u21, u22, u23, u24, u25, u26, u27, u28, u29, u30, u31, u32, u33, u34, u35, u36], defers := ds } w := by
  have HS : Hid (∀ W', Below w.heap.size w W' → W'.cell? ⟨tb, 0, none⟩ = some av ∧ W'.cell? ⟨g, o, none⟩ = some (.slice pa vn ca)) := fun W' h => ⟨(htb.below h).cell 0, (h.cell (p := ⟨g, o, none⟩) hg).trans hgo⟩
  have HT : Hid (Blk w tb [av] 42) := htb
  have HO : Hid (w.ownsRow B 35 1 av n xs) := hown
  have HQ : Hid _ := hQ
  have HNT : Hid (some tb ≠ av.ownBlock) := hne
  obtain ⟨ac, nc, cc, rfl⟩ : ∃ a n c, av = .slice a n c := rowForm hown
  clear htb hown hQ hgo hne
  refine Code.wpIn_mono Nrm.imp ?_
  refine wpIn_region_round (fun W' => W'.cell? ⟨tb, 0, none⟩ = some (.slice ac nc cc) ∧ W'.cell? ⟨g, o, none⟩ = some (.slice pa vn ca)) 7 (by kernel_rfl) (by kernel_rfl) (fun ⟨_, _, h⟩ => h) ?_
  have hm0 : ¬ m = 0 := by omega
  have B0 : Below w.heap.size w w.drew := (Below.refl _ _).drew
  have S0 := HS.out _ B0
  refine wpAnyL_take 0 (some 29) (.slice ac nc cc) rfl rfl (by kernel_rfl) (by kernel_rfl) (by kernel_rfl) (by kernel_rfl) (fun _ _ _ h => h) (Or.inl ⟨by rfl, fun w' hw' => by obtain ⟨q0, q1⟩ := hw'; go_simp⟩) S0 ?_
  simp only [Act.put, List.setIfInBounds_toArray, List.set_cons_zero, List.set_cons_succ]
  refine wpAnyL_take 1 (some 30) (.slice (some ⟨g, o, none⟩) m c) rfl rfl (by kernel_rfl) (by kernel_rfl) (by kernel_rfl) (by kernel_rfl) (fun _ _ _ h => h) (Or.inl ⟨by rfl, fun w' hw' => by obtain ⟨q0, q1⟩ := hw'; go_simp⟩) S0 ?_
  simp only [Act.put, List.setIfInBounds_toArray, List.set_cons_zero, List.set_cons_succ]
  refine wpAnyL_take 2 (some 31) (.pointer (some ⟨g, o, none⟩)) rfl rfl (by kernel_rfl) (by kernel_rfl) (by kernel_rfl) (by kernel_rfl) (fun _ _ _ h => h) (Or.inl ⟨by rfl, fun w' hw' => by obtain ⟨q0, q1⟩ := hw'; go_simp⟩) S0 ?_
  simp only [Act.put, List.setIfInBounds_toArray, List.set_cons_zero, List.set_cons_succ]
  refine wpAnyL_take 3 (some 32) (.pointer (some ⟨g, o, none⟩)) rfl rfl (by kernel_rfl) (by kernel_rfl) (by kernel_rfl) (by kernel_rfl) (fun _ _ _ h => h) (Or.inl ⟨by rfl, fun w' hw' => by obtain ⟨q0, q1⟩ := hw'; go_simp⟩) S0 ?_
  simp only [Act.put, List.setIfInBounds_toArray, List.set_cons_zero, List.set_cons_succ]
  refine wpAnyL_take 4 (some 33) (.slice pa vn ca) rfl rfl (by kernel_rfl) (by kernel_rfl) (by kernel_rfl) (by kernel_rfl) (fun _ _ _ h => h) (Or.inl ⟨by rfl, fun w' hw' => by obtain ⟨q0, q1⟩ := hw'; go_simp⟩) S0 ?_
  simp only [Act.put, List.setIfInBounds_toArray, List.set_cons_zero, List.set_cons_succ]
  refine wpAnyL_ready (rs := [5]) (by kernel_rfl) (by simp) (AllReadyL.cons rfl (fun K hK => ?_) AllReadyL.nil)
  clear S0
  refine step_b1 rfl (some 34) rfl 42 35 (.tmp 33) rfl (.slice pa vn ca) rfl [.slice pa vn ca] (fun w => b1runA _ _ _ w) ?_
  intro g34 w8 hg34 B8 b34
  have B2 := bmore B0 B8
  refine hK.out _ _ (fun _ => HS.out _ B2) ?_
  clear hK K
  try simp only [Act.put, List.setIfInBounds_toArray, List.set_cons_zero, List.set_cons_succ]
  refine wpAnyL_ready (rs := [6]) (by kernel_rfl) (by simp) (AllReadyL.cons rfl (fun K hK => ?_) AllReadyL.nil)
  have O8 : w8.ownsRow B 35 1 (.slice ac nc cc) n xs := owns_keep HO.out (fun j hj => B2.block j (World.ownsRow.lt HO.out j hj).2)
  obtain ⟨i0, hi, hz0, hz1, hz2⟩ := info_parts' info30
  obtain ⟨v35, w9, hr9, r1, r2, r3, r4⟩ := run_append_own_at (P := Tryz.prog) w8 B 42 42 35 i0 (.slice none 0 0) 1 24 Tryz.underlying42 hi hz0 hz1 hz2 rfl (by decide) (.slice ac nc cc) n xs O8 ⟨g34, 0, none⟩ 1 1 [.slice pa vn ca] rfl (fun j x hx => by rw [Addr.add_mid, Nat.zero_add]; exact (b34.cell j).trans hx) (by intro u hu; simp at hu; subst hu; rfl) (by unfold maxLen; omega) (by omega) (Nat.le_trans hB B2.size)
  have hnew : ∀ k, v35.ownBlock = some k → (Value.slice ac nc cc).ownBlock = some k ∨ w8.heap.size ≤ k := fun k hk => r4.elim (fun q => .inl (q ▸ hk)) (fun q => .inr (by rw [q] at hk; cases hk; exact Nat.le_refl _))
  refine step_append_d rfl (some 35) rfl (.tmp 29) (.tmp 34) 42 rfl rfl _ _ rfl rfl (R := fun u w' => v35 = u ∧ w9 = w') ⟨v35, w9, hr9, rfl, rfl⟩ ?_
  rintro _ _ ⟨rfl, rfl⟩
  have k9 : Keep (fun b => (Value.slice ac nc cc).ownBlock = some b) w w9 := (Keep.of B2).trans (keep_of_grown r2) (fun _ _ h => h)
  have ht9 : Blk w9 tb [.slice ac nc cc] 42 := Blk.keep HT.out k9 (fun h => HNT.out h.symm)
  have S9 : w9.cell? ⟨tb, 0, none⟩ = some (.slice ac nc cc) ∧ w9.cell? ⟨g, o, none⟩ = some (.slice pa vn ca) := ⟨ht9.cell 0, (cell_block (r2.block g (Nat.lt_of_lt_of_le hg B2.size) hgn)).trans (HS.out _ B2).2⟩
  refine hK.out _ _ (fun _ => S9) ?_
  clear hK K
  try simp only [Act.put, List.setIfInBounds_toArray, List.set_cons_zero, List.set_cons_succ]
  refine wpAnyL_ready (rs := [7]) (by kernel_rfl) (by simp) (AllReadyL.cons rfl (fun K hK => ?_) AllReadyL.nil)
  obtain ⟨a9, n9, c9, rfl⟩ : ∃ a n c, v35 = .slice a n c := rowForm r1
  have z9 := ht9.cell 0
  have y9 := ht9.frozen 0
  have x9 := ht9.lt
  simp only [List.getElem?_cons_zero] at z9
  have HA9 : Hid (w9.ownsRow B 35 1 (.slice a9 n9 c9) (n + 1) (xs ++ [.slice pa vn ca])) := r1
  have HNew : Hid _ := hnew
  have HT9 : Hid (Blk w9 tb [.slice ac nc cc] 42) := ht9
  have HK9 : Hid _ := k9
  have HB2 : Hid _ := B2
  clear r1 r2 r3 r4 hnew ht9 k9 S9 O8 b34 hr9 hi hz0 hz1 hz2
  go_simp
  refine hK.out _ _ (fun h => absurd rfl h) ?_
  clear hK K
  try simp only [Act.put, List.setIfInBounds_toArray, List.set_cons_zero, List.set_cons_succ]
  refine wpAnyL_done (by kernel_rfl) ?_ _
  have hnt : Value.ownBlock (.slice a9 n9 c9) ≠ some tb := fun h => (HNew.out tb h).elim (fun q => HNT.out q.symm) (fun q => by have := Blk.lt HT.out; have := HB2.out.size; omega)
  have kt : Keep (fun b => b = tb) w9 (w9.setCell ⟨tb, 0, none⟩ (.slice a9 n9 c9)) := Keep.set (F := fun b => b = tb) (Keep.refl _ w9) (p := ⟨tb, 0, none⟩) (.inr rfl) _
  refine Nrm.normal (HQ.out _ _ _ (HT9.out.set _) (owns_keep HA9.out (fun j hj => kt.block j (World.ownsRow.lt HA9.out j hj).2 (fun e => hnt (e ▸ hj)))) (fun h => hnt h.symm) ?_ ?_)
  · exact (HK9.out.mono (fun b _ h => .inr h)).set (.inr (.inl rfl)) _
  · exact fun k h => (HNew.out k h).imp id (fun q => Nat.le_trans HB2.out.size q)
end Go.Proofs.YtpagnphabchfcaaGreat
/-! ### At. -/
namespace Go.Proofs.YtpagnphabchfcaaGreat
open Go.RowKit Go.Shelf
set_option maxRecDepth 100000
attribute [local go_sem] Oper.semAt_some
def hasR (p : Int) (r : Rw) : Bool := Sp.hasB r.2.1 r.2.2 p
/-- The values at the runs' beginnings. -/
def valsAt (S : List Rw) (x : Nat × Nat) : List Vt := ((S[x.1]?).map (·.1)).getD []
def atR (l : List Rw) (p : Int) : List (List Vt) := (cuts ((sortR (l.filter (hasR p))).map (·.1))).map (valsAt (sortR (l.filter (hasR p))))
def slv (es : List El) (x : Nat × Nat) : Value := ((es[x.1]?).map (·.1)).getD (.slice none 0 0)
/-- What the loop over the runs holds. -/
structure AW (w0 : World) (tb : Nat) (G : Nat → Prop) (g c : Nat) (es : List El) (O : Nat → Prop) (pre : List (Nat × Nat)) (W : World) : Prop where
  ex : ∃ av, Blk W tb [av] 42 ∧ W.ownsRow w0.heap.size 35 1 av pre.length (pre.map (slv es)) ∧ some tb ≠ av.ownBlock ∧ (∀ b, O b ↔ b = tb ∨ av.ownBlock = some b)
  rl : RL W (fun k => ¬ G k) (.slice (some ⟨g, 0, none⟩) es.length c) es
  k : Below w0.heap.size w0 W
  dis : ∀ b, O b → ¬ G b
theorem AW.lt {w0 W : World} {tb g c : Nat} {G O : Nat → Prop} {es : List El} {pre : List (Nat × Nat)} (h : AW w0 tb G g c es O pre W) : ∀ b, O b → b < W.heap.size := by
  obtain ⟨av, h1, h2, _, h3⟩ := h.ex
  intro b hb
  rcases (h3 b).1 hb with rfl | hb
  · exact h1.lt
  · exact (World.ownsRow.lt h2 b hb).2
theorem AW.abide {w0 : World} {tb g c n : Nat} {G : Nat → Prop} {es : List El} (hG : ∀ b, G b → b < n) (hn : w0.heap.size ≤ n) : Abide n (AW w0 tb G g c es) := by
  rintro O pre W W' ⟨⟨av, h1, h2, h3, h4⟩, hr, hk, hd⟩ k
  refine ⟨⟨av, h1.keep k (fun h => h.1 ((h4 tb).2 (.inl rfl))), owns_keep h2 (fun j hj => k.block j (World.ownsRow.lt h2 j hj).2 (fun h => h.1 ((h4 j).2 (.inr hj)))), h3, h4⟩, ?_, hk.trans (k.below (by have := hk.size; omega) (fun i hi h => by omega)), hd⟩
  exact hr.keep (k.mono (fun i _ h hg => by have := hG i hg; omega)) (fun _ _ h => h)
def APost (w : World) (L : List (List Vt)) (e : Ending) (w' : World) : Prop := ∃ v, ∃ vv : List (Value × List Vt), e = .returned v ∧ w'.ownsRow w.heap.size 35 1 v vv.length (vv.map (·.1)) ∧ (∀ x ∈ vv, SV w' (fun b => v.ownBlock = some b) x.1 x.2) ∧ vv.map (·.2) = L ∧ Below w.heap.size w w'
set_option maxHeartbeats 4000000 in
theorem at9 {w : World} {X : Nat → Prop} {v : Value} {es : List El} {p : Int} (h0 : RL w X v es) (hl : es.length ≤ 100) (hv : ∀ e ∈ es, e.2.1.length ≤ 1000) :
    Calls Tryz.prog 29 #[v, .int .i64 p] w (APost w (atR (rws es) p)) := by
  have h := h0.bound
  obtain ⟨a, c0, rfl⟩ := h.form
  obtain ⟨N, hN⟩ : ∃ N, es.length = N := ⟨_, rfl⟩
  have HN : Hid (es.length = N) := hN
  have HR : Hid (RL w (fun b => X b ∨ w.heap.size ≤ b) (.slice a es.length c0) es) := h
  have HV : Hid _ := hv
  rw [hN] at hl ⊢
  clear h h0 hN hv
  refine (callsIn_wide (n := 0)).1 (callsIn_of_wp_marks Tryz.func29 rfl trivial (wpIn_wide.2 ?_) rfl)
  simp only [Tryz.ntmps29, List.size_toArray, List.length_cons, List.length_nil, Nat.reduceAdd, Nat.reduceSub, Array.replicate_succ, Array.replicate_zero, List.push_toArray, List.append_toArray, List.nil_append, List.cons_append]
  go_wp2_with fail
  go_loopw [5, 12] (fun fo fi wr => ∃ (k : Nat) (es' : List El), fi = .int .i64 (k : Int) ∧ Hid (k ≤ N) ∧ Hid (OwnR wr w.heap.size fo es') ∧ Hid (rws es' = ((rws es).take k).filter (hasR p)) ∧ Hid (Below w.heap.size w wr)) (fun _ fi _ => ((N : Int) - intOf fi).toNat)
  case atStart => exact ⟨0, [], rfl, Nat.zero_le _, OwnR.nil _ _, rfl, Below.refl _ _⟩
  case round =>
    obtain ⟨k, es', rfl, hk, hO, hE, hB⟩ := hrel
    by_cases hkN : k < N
    · have hki : (k : Int) < (N : Int) := by omega
      have hk0 : (0 : Int) ≤ (k : Int) := by omega
      obtain ⟨e, he⟩ : ∃ e, es[k]? = some e := ⟨_, List.getElem?_eq_getElem (by rw [HN.out]; exact hkN)⟩
      obtain ⟨g, o, rfl, _, _, d0, d1, d2⟩ := (RL.below HR.out hB.out).get he
      have HSV : Hid (SV wr (fun b => X b ∨ w.heap.size ≤ b) e.1 e.2.1) := (HR.out.vals e (List.mem_of_getElem? he)).below hB.out
      have HTk : Hid (((rws es).take (k + 1)).filter (hasR p) = ((rws es).take k).filter (hasR p) ++ [e.2].filter (hasR p)) := by
        show _ = _
        rw [List.take_add_one, rws, List.getElem?_map, he, List.filter_append]
        rfl
      have hlen : es'.length ≤ 100000 := by
        have q1 := congrArg List.length hE.out
        have q2 := List.length_filter_le (hasR p) ((rws es).take k)
        simp [rws] at q1 q2
        omega
      obtain ⟨sv, vs, f, t⟩ := e
      simp only at d0 d1 d2 HSV HTk
      obtain ⟨pa, ca, rfl⟩ := SV.form HSV.out
      have hA := al3 wr (.slice pa vs.length ca) f t
      have b5 := blk_new wr [.slice pa vs.length ca, .int .i64 f, .int .i64 t] 64
      change Blk (wr.alloc (.cells #[.slice pa vs.length ca, .int .i64 f, .int .i64 t] 64)) _ _ _ at b5
      have HA : Hid (Below wr.heap.size wr (wr.alloc (.cells #[.slice pa vs.length ca, .int .i64 f, .int .i64 t] 64))) := hA
      have k21 := Sp.has14 f t p (wr.alloc (.cells #[.slice pa vs.length ca, .int .i64 f, .int .i64 t] 64))
      have HH : Hid (hasR p (vs, f, t) = Sp.hasB f t p) := rfl
      have HC : Hid (∀ W', Below (wr.alloc (.cells #[.slice pa vs.length ca, .int .i64 f, .int .i64 t] 64)).heap.size (wr.alloc (.cells #[.slice pa vs.length ca, .int .i64 f, .int .i64 t] 64)) W' → W'.cell? ⟨wr.heap.size, 0, none⟩ = some (.slice pa vs.length ca) ∧ W'.cell? ⟨wr.heap.size, 1, none⟩ = some (.int .i64 f) ∧ W'.cell? ⟨wr.heap.size, 2, none⟩ = some (.int .i64 t)) := fun W' k => ⟨(b5.below k).cell 0, (b5.below k).cell 1, (b5.below k).cell 2⟩
      have z1 := b5.cell 1
      have z2 := b5.cell 2
      clear he b5 hA
      have HApp : Hid (∀ (w6 : World), Hid (Below wr.heap.size wr w6) → ∃ v7 w7, (Builtin.append_ #[22, 22] 22 #[u5, .slice (some ⟨w6.heap.size, 0, none⟩) 1 1]).run Tryz.prog (w6.alloc (.cells #[.slice pa vs.length ca, .int .i64 f, .int .i64 t] 64)) = .ok v7 w7 ∧ Hid (OwnR w7 w.heap.size v7 (es' ++ [(.slice pa vs.length ca, vs, f, t)])) ∧ Hid (Below w.heap.size w w7)) := fun w6 hB6 => by
        have hal := al3 w6 (.slice pa vs.length ca) f t
        have O6 := hO.out.below (bmore hB6.out hal)
        have nb := blk_new w6 [.slice pa vs.length ca, .int .i64 f, .int .i64 t] 64
        have hsv6 : SV (w6.alloc (.cells #[.slice pa vs.length ca, .int .i64 f, .int .i64 t] 64)) (fun b => u5.ownBlock = some b) (.slice pa vs.length ca) vs := (SV.below (SV.below HSV.out hB6.out) hal).mono (fun b _ q => .inr (O6.row.lt b q).1)
        have hbase := (bmore (bmore hB.out hB6.out) hal).size
        obtain ⟨v7, w7, hr7, A7⟩ := OwnR.app O6 hlen hbase 22 (gb := w6.heap.size) (c := 1) (e := (.slice pa vs.length ca, vs, f, t)) hsv6 (nb.cell 0) (nb.cell 1) (nb.cell 2)
        exact ⟨v7, w7, hr7, A7.own, (bmore (bmore hB.out hB6.out) hal).trans (A7.below O6 hbase)⟩
      generalize Sp.hasB f t p = T at *
      cases T
      · go_wp2_with (go_at_call 67; (with_reducible refine k21.mono ?_); rintro e w1 ⟨rfl, hB1⟩)
        go_roundw
        case rel => exact ⟨k + 1, es', by simp, by show _ ≤ _; omega, hO.out.below (bmore HA.out hB1), by show _ = _; rw [HTk.out, hE.out]; simp [HH.out], bmore hB.out (bmore HA.out hB1)⟩
        case measure => simp only [intOf]; omega
      · go_wp2_with (first
          | (go_at_call 67; (with_reducible refine k21.mono ?_); rintro e w1 ⟨rfl, hB1⟩; obtain ⟨y0, y1, y2⟩ := HC.out _ hB1; have HB1 : Hid (Below wr.heap.size wr w1) := bmore HA.out hB1)
          | (at_builtin; refine wpList_append_ex (by rfl) (.tmp 20) (.tmp 22) 22 (by rfl) _ _ (by rfl) (by rfl) (HApp.out _ HB1) ?_; rintro v7 w7 ⟨hO7, hB7⟩))
        go_roundw
        case rel => exact ⟨k + 1, es' ++ [(Value.slice pa vs.length ca, vs, f, t)], by simp, by show _ ≤ _; omega, hO7.out, by show _ = _; rw [HTk.out, ← hE.out]; simp [rws, HH.out], hB7.out⟩
        case measure => simp only [intOf]; omega
    · have hki : ¬ (k : Int) < (N : Int) := by omega
      have HF : Hid (rws es' = (rws es).filter (hasR p)) := by show _ = _; rw [hE.out, List.take_of_length_le (by rw [rws, List.length_map, HN.out]; omega)]
      have hlen : es'.length ≤ 100 := by
        have q1 := congrArg List.length HF.out
        have q2 := List.length_filter_le (hasR p) (rws es)
        have q3 := HN.out
        simp [rws] at q1 q2
        omega
      have HV' : Hid (∀ e ∈ es', e.2.1.length ≤ 1000) := fun e he => by
        have : e.2 ∈ rws es' := List.mem_map.2 ⟨e, he, rfl⟩
        rw [HF.out] at this
        obtain ⟨x, hx, hq⟩ := List.mem_map.1 (List.mem_filter.1 this).1
        rw [← hq]
        exact HV.out x hx
      obtain ⟨ac, nc, cc, hfo⟩ := hO.out.form
      subst hfo
      have kA : Below wr.heap.size wr (wr.alloc (.cells #[.slice none 0 0] 42)) := al _ _
      have b0 := blk_new wr [.slice none 0 0] 42
      change Blk (wr.alloc (.cells #[.slice none 0 0] 42)) _ _ _ at b0
      have k17 := sorted17 ((hO.out.rl).below kA) (by omega) HV'.out
      have Hb0 : Hid (Blk (wr.alloc (.cells #[.slice none 0 0] 42)) wr.heap.size [.slice none 0 0] 42) := b0
      have HkA : Hid _ := kA
      clear b0 kA
      go_wp2_with (first
        | (go_at_call 10; (with_reducible refine k17.mono ?_); rintro e w2 ⟨v2, es2, rfl, hn2, hO2, hE2, hB2⟩; obtain ⟨g, c, rfl, hc, hBg, hg⟩ := hO2.some hn2)
        | (go_at_call 60; (with_reducible refine (byValues16 _ _ _ _).mono ?_); rintro e w3 ⟨rfl, rfl⟩))
      have HB3 : Hid (Below wr.heap.size wr (w2.alloc (.cells #[.slice (some ⟨g, 0, none⟩) es2.length c] 22))) := bmore (bmore HkA.out hB2) (al _ _)
      have Hb2 : Hid (Blk w2 wr.heap.size [.slice none 0 0] 42) := Blk.below Hb0.out hB2
      have Hb3 : Hid (Blk (w2.alloc (.cells #[.slice (some ⟨g, 0, none⟩) es2.length c] 22)) wr.heap.size [.slice none 0 0] 42) := Blk.below Hb2.out (al _ _)
      have HR3 : Hid (RL (w2.alloc (.cells #[.slice (some ⟨g, 0, none⟩) es2.length c] 22)) (fun b => (b = wr.heap.size ∨ False) ∨ (w2.alloc (.cells #[.slice (some ⟨g, 0, none⟩) es2.length c] 22)).heap.size ≤ b) (.slice (some ⟨g, 0, none⟩) es2.length c) es2) := (RL.below (RL.not (OwnR.rl hO2) Hb2.out) (al _ _)).bound
      have Hbx : Hid (Blk (w2.alloc (.cells #[.slice (some ⟨g, 0, none⟩) es2.length c] 22)) w2.heap.size [.slice (some ⟨g, 0, none⟩) es2.length c] 22) := blk_new w2 _ _
      have HS2 : Hid (w2.heap.size < (w2.alloc (.cells #[.slice (some ⟨g, 0, none⟩) es2.length c] 22)).heap.size ∧ wr.heap.size < w2.heap.size) := ⟨by simp, Blk.lt Hb2.out⟩
      have HE2 : Hid (rws es2 = sortR ((rws es).filter (hasR p))) := by rw [← HF.out]; exact hE2
      have hN2 : es2.length ≤ 100 := by
        have h1 := congrArg List.length hE2
        have h2 := (sortR_perm (rws es')).length_eq
        simp [rws] at h1 h2; omega
      have HV2 : Hid (∀ e ∈ es2, e.2.1.length ≤ 1000) := fun e he => by
        have : e.2 ∈ rws es2 := List.mem_map.2 ⟨e, he, rfl⟩
        rw [hE2] at this
        obtain ⟨x, hx, hq⟩ := List.mem_map.1 ((sortR_perm (rws es')).mem_iff.1 this)
        rw [← hq]
        exact HV'.out x hx
      have HC : Hid (es2.length ≤ c) := hc
      generalize w2.alloc (.cells #[.slice (some ⟨g, 0, none⟩) es2.length c] 22) = W3 at *
      clear hO2 hE2 hB2 k17 hBg hg hn2 hc
      refine wpIn_wide.1 (wpIn_range0 (a := { tmps := #[.slice a N c0, .int .i64 p, undef, undef, .slice none 0 0, .slice ac nc cc, undef, u7, .pointer (some ⟨wr.heap.size, 0, none⟩), undef, .slice a N c0, .int .i64 (N : Int), .int .i64 (k : Int), .bool false, u14, u15, u16, u17, u18, u19, u20, u21, u22, u23, u24, .slice ac nc cc, .slice (some ⟨g, 0, none⟩) es2.length c, .func (.func 87) #[] #[.pointer (some ⟨w2.heap.size, 0, none⟩)], undef, undef, undef, undef, undef, undef, undef, undef, undef], defers := [] }) (gf := 87) (lb := #[.pointer (some ⟨w2.heap.size, 0, none⟩)]) rfl eg33 rfl (enc := encB g 0 c) (xs := cuts (vls es2)) (G := fun k => k ≠ wr.heap.size ∧ k < W3.heap.size)
        (fun W1 k => runs33 (Blk.below Hbx.out k) ⟨Nat.ne_of_gt HS2.out.2, HS2.out.1⟩ ((RL.below HR3.out k).mono (fun b _ h => ?gx)) HC.out (by omega) HV2.out) (fun b h => h.2)
        (AW wr wr.heap.size (fun k => k ≠ wr.heap.size ∧ k < W3.heap.size) g c es2) (fun _ _ _ _ => False) (fun O pre W h => h.lt) (AW.abide (fun b h => h.2) HB3.out.size) (fun c => fun O' q W1 W2 h k => h)
        (fun b => b = wr.heap.size) (fun b h => ⟨fun q => q.1 h, by rw [h]; exact Blk.lt Hb3.out⟩) ⟨⟨.slice none 0 0, Hb3.out, World.ownsRow_nil _ _ _ _, by simp [Value.ownBlock], fun b => by simp [Value.ownBlock]⟩, HR3.out.mono (fun b _ h => ?gy), HB3.out, fun b h q => q.1 h⟩ (fun x => { tmps := #[.slice a N c0, .int .i64 p, undef, undef, .slice none 0 0, .slice ac nc cc, undef, u7, .pointer (some ⟨wr.heap.size, 0, none⟩), encB g 0 c x, .slice a N c0, .int .i64 (N : Int), .int .i64 (k : Int), .bool false, u14, u15, u16, u17, u18, u19, u20, u21, u22, u23, u24, .slice ac nc cc, .slice (some ⟨g, 0, none⟩) es2.length c, .func (.func 87) #[] #[.pointer (some ⟨w2.heap.size, 0, none⟩)], encB g 0 c x, undef, undef, undef, undef, undef, undef, undef, undef], defers := [] }) ?assign ?body ?done ?stop)
      case gx => by_cases hq : b = wr.heap.size; exact .inl (.inl hq); exact .inr (Nat.le_of_not_lt (fun hh => h ⟨hq, hh⟩))
      case gy => by_cases hq : b = wr.heap.size; exact .inl (.inl hq); exact .inr (Nat.le_of_not_lt (fun hh => h ⟨hq, hh⟩))
      case assign =>
        intro l' x' W' K hK
        gi_wp2
        exact hK
      case body =>
        intro l' O pre x W' hI hle hpre
        obtain ⟨i, j⟩ := x
        obtain ⟨hij, hjN⟩ : i < j ∧ j ≤ es2.length := by
          have := cutsF_mem (vls es2) _ _ (i, j) (hpre.subset (by simp))
          simpa [vls] using this
        have hpl : pre.length ≤ 100 := by
          have h1 := hpre.length_le
          have h2 := cutsF_len (vls es2) (vls es2).length 0
          simp [cuts, vls] at h1 h2
          omega
        obtain ⟨⟨av, h1, h2, h3, h4⟩, hr, hkk, hdis⟩ := hI
        obtain ⟨e0, he0⟩ : ∃ e, es2[i]? = some e := ⟨_, List.getElem?_eq_getElem (by omega)⟩
        have hc0 := (hr.at3 he0).1
        rw [Nat.zero_add] at hc0
        have hgW : g < W'.heap.size := World.block_lt_of_cell? W' _ hc0
        have hgG : ¬ O g := fun h => by
          obtain ⟨g', o', hq, hg', hx, _⟩ := hr.get he0
          simp only [Option.some.injEq, Addr.mk.injEq] at hq
          obtain ⟨rfl, _⟩ := hq
          exact hx (hdis g h)
        have HSl : Hid (slv es2 (i, j) = e0.1) := by show _ = _; simp [slv, he0]
        obtain ⟨pa, ca, hs0⟩ := SV.form (hr.vals e0 (List.mem_of_getElem? he0))
        rw [hs0] at hc0 HSl
        have HI1 : Hid (Blk W' wr.heap.size [av] 42) := h1
        have HI2 : Hid (W'.ownsRow wr.heap.size 35 1 av pre.length (pre.map (slv es2))) := h2
        have HI3 : Hid (some wr.heap.size ≠ av.ownBlock) := h3
        have HI4 : Hid (∀ b, O b ↔ b = wr.heap.size ∨ av.ownBlock = some b) := h4
        have HR' : Hid _ := hr
        have HKK : Hid (Below wr.heap.size wr W') := hkk
        have HDis : Hid (∀ b, O b → ¬ (b ≠ wr.heap.size ∧ b < W3.heap.size)) := hdis
        have Hc0 : Hid (W'.cell? ⟨g, i * 3, none⟩ = some (.slice pa e0.2.1.length ca)) := hc0
        have HgG : Hid (¬ O g) := hgG
        have HgW : Hid (g < W'.heap.size) := hgW
        have hm : (0 : Int) < ((j - i : Nat) : Int) := by omega
        clear h1 h2 h3 h4 hr hkk hdis hgG hgW hc0 he0 hs0
        rw [show encB g 0 c (i, j) = .slice (some ⟨g, i * 3, none⟩) (j - i) (c - i) by simp [encB]]
        gi_wp2
        refine reg11 (B := wr.heap.size) HI1.out HI2.out HKK.out.size (by omega) HI3.out hm HgW.out (fun q => HgG.out ((HI4.out g).2 (.inr q.symm))) Hc0.out ?_
        intro v34 v35 w' hb' ho' hn' hk' hw'
        gi_wp2
        have hsz := HKK.out.size
        refine ⟨fun b => b = wr.heap.size ∨ v35.ownBlock = some b, ⟨⟨v35, hb', ?_, hn', fun b => Iff.rfl⟩, ?_, ?_, ?_⟩, ?_, ?_⟩
        · rw [show (pre ++ [(i, j)]).length = pre.length + 1 by simp, List.map_append, List.map_cons, List.map_nil, HSl.out]
          exact ho'
        · exact HR'.out.keep (hk'.mono (fun b _ h => HDis.out b ((HI4.out b).2 h))) (fun _ _ h => h)
        · exact HKK.out.trans (hk'.below hsz (fun b hb h => h.elim (fun h => by omega) (fun h => by have := (World.ownsRow.lt HI2.out b h).1; omega)))
        · rintro b (h | h)
          · exact fun q => q.1 h
          · exact (hw' b h).elim (fun h => HDis.out b ((HI4.out b).2 (.inr h))) (fun h q => by omega)
        · rintro b (h | h)
          · exact .inl ((HI4.out b).2 (.inl h))
          · exact (hw' b h).imp (fun h => (HI4.out b).2 (.inr h)) id
        · exact hk'.mono (fun b _ h => (HI4.out b).2 h)
      case stop =>
        rintro D c O' pre W' _ _ _ h
        exact h.elim
      case done =>
        rintro D O' W' hD nD hI hgr hkx hd
        obtain ⟨⟨av, h1, h2, h3, h4⟩, hr, hkk, hdis⟩ := hI
        have zt := h1.cell 0
        simp only [List.getElem?_cons_zero] at zt
        have HD : Hid (wr.heap.size ≤ D ∧ w.heap.size ≤ wr.heap.size) := ⟨Nat.le_trans HB3.out.size hD, hB.out.size⟩
        obtain ⟨vv, hvv⟩ : ∃ vv : List (Value × List Vt), vv = (cuts (vls es2)).map fun x => (slv es2 x, valsAt (rws es2) x) := ⟨_, rfl⟩
        have HO : Hid (∀ w', Keep (· ∈ [D]) W' w' → w'.ownsRow w.heap.size 35 1 av vv.length (vv.map (·.1))) := fun w' k => by
          have := owns_keep h2 (fun j hj => k.block j (World.ownsRow.lt h2 j hj).2 (fun q => nD (by simp at q; rw [← q]; exact (h4 j).2 (.inr hj))))
          rw [hvv, List.length_map, List.map_map]
          exact ⟨this.1, this.2.imp id fun ⟨g, cap, cur, q1, q2, q3⟩ => ⟨g, cap, cur, q1, Nat.le_trans hB.out.size q2, q3⟩⟩
        have HVs : Hid (∀ w', Keep (· ∈ [D]) W' w' → ∀ x ∈ vv, SV w' (fun b => av.ownBlock = some b) x.1 x.2) := fun w' k x hx => by
          rw [hvv] at hx
          obtain ⟨y, hy, rfl⟩ := List.mem_map.1 hx
          obtain ⟨q1, q2⟩ := cutsF_mem (vls es2) _ _ y hy
          obtain ⟨e0, he0⟩ : ∃ e, es2[y.1]? = some e := ⟨_, List.getElem?_eq_getElem (by simp [vls] at q2; omega)⟩
          have hsv := hr.vals e0 (List.mem_of_getElem? he0)
          rw [show slv es2 y = e0.1 by simp [slv, he0], show valsAt (rws es2) y = e0.2.1 by simp [valsAt, rws, he0]]
          refine hsv.keep (k.mono (fun b _ q => ?_)) (fun b _ q => hdis b ((h4 b).2 (.inr q)))
          simp at q
          subst q
          exact fun q => by omega
        have HL : Hid (vv.map (·.2) = atR (rws es) p) := by
          show _ = _
          rw [hvv, List.map_map, atR, ← HE2.out, show vls es2 = (rws es2).map (·.1) by simp [vls, rws]]
          rfl
        have HK : Hid (Below w.heap.size w W') := bmore hB.out hkk
        have Hd : Hid _ := hd
        obtain ⟨ax, nx, cx, rfl⟩ := rowForm h2
        clear h1 h2 h3 h4 hr hkk hdis hgr hkx hd hvv
        go_wp2
        refine leave_marks [D] _ (fun w' k => ⟨results_tmp rfl _ _ _, .slice ax nx cx, vv, rfl, HO.out w' k, HVs.out w' k, HL.out, HK.out.trans (k.below HK.out.size (fun i hi h => by have := HD.out; simp at h; omega))⟩) (fun D' h => by simp at h; subst h; exact Hd.out) (by simp)
end Go.Proofs.YtpagnphabchfcaaGreat
