/- The document's manager: New, look, Open, Since, Clock, High, Tick, End, Begin. -/
import Derived.Test.YtjgdcdeekpeenaaWr
namespace Go.Proofs.Ytjgdcdeekpeenaa
open Go.RowKit Go.Shelf
set_option maxRecDepth 100000
structure On where
  op : Bool
  since : Int
  keys : List ByteArray
/-- The document's manager. -/
structure Rf where
  clock : Int
  high : Int
  l : Nat → On
  done : List (ByteArray × Int)
abbrev rgL (c h : Int) (l : Nat → On) (K : Nat → Value) (D : Value) : List Value := [.int .i64 c, .int .i64 h, .bool (l 0).op, .int .i64 (l 0).since, K 0, .bool (l 1).op, .int .i64 (l 1).since, K 1, .bool (l 2).op, .int .i64 (l 2).since, K 2, .bool (l 3).op, .int .i64 (l 3).since, K 3, D]
structure RM (w : World) (r : Nat) (K : Nat → Value) (D : Value) (R : Rf) : Prop where
  blk : Blk w r (rgL R.clock R.high R.l K D) 75
  keys : ∀ i, i < 4 → LV ET w (K i) (R.l i).keys
  done : LV ED w D R.done
theorem RM.keep {w w' : World} {r : Nat} {K : Nat → Value} {D : Value} {R : Rf} (h : RM w r K D R) (hk : ∀ g l t, t ≠ 61 → Blk w g l t → Blk w' g l t) : RM w' r K D R :=
  ⟨hk _ _ _ (by decide) h.blk, fun i hi => (h.keys i hi).keep fun _ _ q => hk _ _ _ ET.not61 q, h.done.keep fun _ _ q => hk _ _ _ ED.not61 q⟩
theorem RM.below {w w' : World} {r : Nat} {K : Nat → Value} {D : Value} {R : Rf} (h : RM w r K D R) (k : Below w.heap.size w w') : RM w' r K D R := h.keep fun _ _ _ _ q => q.below k
theorem rg_get (c h : Int) (l : Nat → On) (K : Nat → Value) (D : Value) {i : Nat} (hi : i < 4) : (rgL c h l K D)[2 + i * 3]? = some (.bool (l i).op) ∧ (rgL c h l K D)[2 + i * 3 + 1]? = some (.int .i64 (l i).since) ∧ (rgL c h l K D)[2 + i * 3 + 2]? = some (K i) := by
  match i, hi with
  | 0, _ => exact ⟨rfl, rfl, rfl⟩
  | 1, _ => exact ⟨rfl, rfl, rfl⟩
  | 2, _ => exact ⟨rfl, rfl, rfl⟩
  | 3, _ => exact ⟨rfl, rfl, rfl⟩
theorem RM.at {w : World} {r : Nat} {K : Nat → Value} {D : Value} {R : Rf} (h : RM w r K D R) {i : Nat} (hi : i < 4) : w.cell? ⟨r, 2 + i * 3, none⟩ = some (.bool (R.l i).op) ∧ w.cell? ⟨r, 2 + i * 3 + 1, none⟩ = some (.int .i64 (R.l i).since) ∧ w.cell? ⟨r, 2 + i * 3 + 2, none⟩ = some (K i) := by
  obtain ⟨h1, h2, h3⟩ := rg_get R.clock R.high R.l K D hi
  exact ⟨(h.blk.cell _).trans h1, (h.blk.cell _).trans h2, (h.blk.cell _).trans h3⟩
def upd {β : Type} (f : Nat → β) (i : Nat) (x : β) : Nat → β := fun j => if j = i then x else f j
theorem rg_set (c h : Int) (l : Nat → On) (K : Nat → Value) (D : Value) (o : On) (v : Value) {i : Nat} (hi : i < 4) : (((rgL c h l K D).set (2 + i * 3) (.bool o.op)).set (2 + i * 3 + 1) (.int .i64 o.since)).set (2 + i * 3 + 2) v = rgL c h (upd l i o) (upd K i v) D := by
  match i, hi with
  | 0, _ => rfl
  | 1, _ => rfl
  | 2, _ => rfl
  | 3, _ => rfl
theorem is51_ok (i : Nat) (hi : i < 4) (w : World) : Calls Try.prog 51 #[.int .i64 (i : Int)] w fun e w' => e = .returned (.bool true) ∧ Below w.heap.size w w' := by
  have h1 : (0 : Int) ≤ (i : Int) := by omega
  have h2 : (i : Int) < 4 := by omega
  have h3 : decide ((0 : Int) ≤ (i : Int)) = true := decide_eq_true h1
  have h4 : decide ((i : Int) < 4) = true := decide_eq_true h2
  go_enter Try.func51, Try.ntmps51
  go_wp2
  go_ret
  exact ⟨by simp, Below.refl _ _⟩
theorem is51_no (id : Int) (hi : id < 0 ∨ 4 ≤ id) (w : World) : Calls Try.prog 51 #[.int .i64 id] w fun e w' => e = .returned (.bool false) ∧ Below w.heap.size w w' := by
  by_cases h1 : id < 0
  · have h0 : ¬ (0 : Int) ≤ id := by omega
    have h3 : decide ((0 : Int) ≤ id) = false := decide_eq_false h0
    go_enter Try.func51, Try.ntmps51
    go_wp2
    go_ret
    exact ⟨rfl, Below.refl _ _⟩
  · have h0 : (0 : Int) ≤ id := by omega
    have h2 : ¬ id < 4 := by omega
    have h3 : decide ((0 : Int) ≤ id) = true := decide_eq_true h0
    have h4 : decide (id < 4) = false := decide_eq_false h2
    go_enter Try.func51, Try.ntmps51
    go_wp2
    go_ret
    exact ⟨by simp, Below.refl _ _⟩
def errR (R : Rf) (id : Int) : Int := if id < 0 ∨ 4 ≤ id then 2 else if (R.l id.toNat).op = true then 0 else 7
theorem idR_cases (R : Rf) (id : Int) : ((id < 0 ∨ 4 ≤ id) ∧ errR R id = 2) ∨ ∃ i : Nat, i < 4 ∧ id = (i : Int) ∧ ((R.l i).op = true ∧ errR R id = 0 ∨ (R.l i).op = false ∧ errR R id = 7) := by
  by_cases h : id < 0 ∨ 4 ≤ id
  · exact .inl ⟨h, by simp [errR, h]⟩
  · right
    have e : id = (id.toNat : Int) := by omega
    refine ⟨id.toNat, by omega, e, ?_⟩
    cases ho : (R.l id.toNat).op
    · exact .inr ⟨rfl, by simp [errR, h, ho]⟩
    · exact .inl ⟨rfl, by simp [errR, h, ho]⟩
theorem look48 {w : World} {r : Nat} {K : Nat → Value} {D : Value} {R : Rf} (h : RM w r K D R) (id : Int) : Calls Try.prog 48 #[.pointer (some ⟨r, 0, none⟩), .int .i64 id] w fun e w' => e = .returned (.int .i64 (errR R id)) ∧ Below w.heap.size w w' := by
  rcases idR_cases R id with ⟨q, e⟩ | ⟨i, hi, rfl, q⟩
  · rw [e]
    have k := is51_no id q w
    clear h
    go_enter Try.func48, Try.ntmps48
    go_wp2_with (go_at_call 51; (with_reducible refine k.mono ?_); rintro e w1 ⟨rfl, hB⟩)
    go_ret
    exact ⟨rfl, hB⟩
  · have k := is51_ok i hi w
    have HC : Hid (∀ W, Below w.heap.size w W → W.cell? ⟨r, 2 + i * 3, none⟩ = some (.bool (R.l i).op)) := fun W b => ((h.below b).at hi).1
    have h1 : (0 : Int) ≤ (i : Int) := by omega
    have h2 : (i : Int) < 4 := by omega
    clear h
    rcases q with ⟨q, e⟩ | ⟨q, e⟩ <;> rw [e] <;> rw [q] at HC
    · go_enter Try.func48, Try.ntmps48
      go_wp2_with (go_at_call 51; (with_reducible refine k.mono ?_); rintro e w1 ⟨rfl, hB⟩; have c2 := HC.out _ hB)
      go_ret
      exact ⟨rfl, hB⟩
    · go_enter Try.func48, Try.ntmps48
      go_wp2_with (go_at_call 51; (with_reducible refine k.mono ?_); rintro e w1 ⟨rfl, hB⟩; have c2 := HC.out _ hB)
      go_ret
      exact ⟨rfl, hB⟩
theorem ropen30 {w : World} {r : Nat} {K : Nat → Value} {D : Value} {R : Rf} (h : RM w r K D R) (id : Int) : Calls Try.prog 30 #[.pointer (some ⟨r, 0, none⟩), .int .i64 id] w fun e w' => e = .returned (.bool (decide (errR R id = 0))) ∧ Below w.heap.size w w' := by
  have k := look48 h id
  generalize errR R id = n at *
  clear h
  go_enter Try.func30, Try.ntmps30
  go_wp2_with (go_at_call 48; (with_reducible refine k.mono ?_); rintro e w1 ⟨rfl, hB⟩)
  go_ret
  exact ⟨by by_cases c : n = 0 <;> simp [c], hB⟩
theorem rclock35 {w : World} {r : Nat} {K : Nat → Value} {D : Value} {R : Rf} (h : RM w r K D R) : Calls Try.prog 35 #[.pointer (some ⟨r, 0, none⟩)] w fun e w' => e = .returned (.int .i64 R.clock) ∧ Below w.heap.size w w' := by
  have c0 : w.cell? ⟨r, 0, none⟩ = some (.int .i64 R.clock) := h.blk.cell 0
  clear h
  go_enter Try.func35, Try.ntmps35
  go_wp2
  go_ret
  exact ⟨rfl, Below.refl _ _⟩
theorem rhigh36 {w : World} {r : Nat} {K : Nat → Value} {D : Value} {R : Rf} (h : RM w r K D R) : Calls Try.prog 36 #[.pointer (some ⟨r, 0, none⟩)] w fun e w' => e = .returned (.int .i64 R.high) ∧ Below w.heap.size w w' := by
  have c0 : w.cell? ⟨r, 1, none⟩ = some (.int .i64 R.high) := h.blk.cell 1
  clear h
  go_enter Try.func36, Try.ntmps36
  go_wp2
  go_ret
  exact ⟨rfl, Below.refl _ _⟩
def sinceR (R : Rf) (id : Int) : Int := if errR R id = 0 then (R.l id.toNat).since else 0
theorem rsince29 {w : World} {r : Nat} {K : Nat → Value} {D : Value} {R : Rf} (h : RM w r K D R) (id : Int) : Calls Try.prog 29 #[.pointer (some ⟨r, 0, none⟩), .int .i64 id] w fun e w' => e = .returned (.tuple #[.int .i64 (sinceR R id), .bool (decide (errR R id = 0))]) ∧ Below w.heap.size w w' := by
  have k := ropen30 h id
  rcases idR_cases R id with ⟨_, e⟩ | ⟨i, hi, rfl, ⟨_, e⟩ | ⟨_, e⟩⟩
  · have e2 : sinceR R id = 0 := by simp [sinceR, e]
    rw [e2]
    rw [e] at k ⊢
    clear h
    go_enter Try.func29, Try.ntmps29
    go_wp2_with (go_at_call 30; (with_reducible refine k.mono ?_); rintro e w1 ⟨rfl, hB⟩)
    exact bodyPost_ret (v := .tuple #[.int .i64 0, .bool false]) (by simp [results, Try.results29, go_sem]) rfl ⟨rfl, hB⟩
  · have e2 : sinceR R (i : Int) = (R.l i).since := by simp [sinceR, e]
    rw [e2]
    rw [e] at k ⊢
    have HC : Hid (∀ W, Below w.heap.size w W → W.cell? ⟨r, 2 + i * 3 + 1, none⟩ = some (.int .i64 (R.l i).since)) := fun W b => ((h.below b).at hi).2.1
    have h1 : (0 : Int) ≤ (i : Int) := by omega
    have h2 : (i : Int) < 4 := by omega
    clear h
    go_enter Try.func29, Try.ntmps29
    go_wp2_with (go_at_call 30; (with_reducible refine k.mono ?_); rintro e w1 ⟨rfl, hB⟩; have c2 := HC.out _ hB)
    exact bodyPost_ret (v := .tuple #[.int .i64 (R.l i).since, .bool true]) (by simp [results, Try.results29, go_sem]) rfl ⟨rfl, hB⟩
  · have e2 : sinceR R (i : Int) = 0 := by simp [sinceR, e]
    rw [e2]
    rw [e] at k ⊢
    clear h
    go_enter Try.func29, Try.ntmps29
    go_wp2_with (go_at_call 30; (with_reducible refine k.mono ?_); rintro e w1 ⟨rfl, hB⟩)
    exact bodyPost_ret (v := .tuple #[.int .i64 0, .bool false]) (by simp [results, Try.results29, go_sem]) rfl ⟨rfl, hB⟩
def Rf.new (n : Int) : Rf := { clock := n, high := n, l := fun _ => ⟨false, 0, []⟩, done := [] }
theorem rm_new (n : Int) (w : World) : RM (w.alloc (.cells #[.int .i64 n, .int .i64 n, .bool false, .int .i64 0, .slice none 0 0, .bool false, .int .i64 0, .slice none 0 0, .bool false, .int .i64 0, .slice none 0 0, .bool false, .int .i64 0, .slice none 0 0, .slice none 0 0] 75)) w.heap.size (fun _ => .slice none 0 0) (.slice none 0 0) (Rf.new n) :=
  ⟨blk_new w (rgL n n (fun _ => ⟨false, 0, []⟩) (fun _ => .slice none 0 0) (.slice none 0 0)) 75, fun _ _ => LV.nil ET _ none 0, LV.nil ED _ none 0⟩
theorem rnew28 (x : Int) (w : World) : Calls Try.prog 28 #[.int .i64 x] w fun e w' => ∃ r K D, e = .returned (.pointer (some ⟨r, 0, none⟩)) ∧ RM w' r K D (Rf.new (at0 x)) ∧ w.heap.size ≤ r ∧ Below w.heap.size w w' := by
  go_enter Try.func28, Try.ntmps28
  go_wp2
  go_ret
  exact ⟨_, _, _, rfl, rm_new _ w, Nat.le_refl _, al _ _⟩
end Go.Proofs.Ytjgdcdeekpeenaa
