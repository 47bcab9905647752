/- A manager, by plain data, and in memory; refusal, opened. -/
import Derived.Test.YtjgdcdeekpeenaaMb
namespace Go.Proofs.Ytjgdcdeekpeenaa
open Go.RowKit Go.Shelf
set_option maxRecDepth 100000
abbrev Ky := List UInt8
/-- One that is open. -/
structure Sn where
  since : Int
  keys : List Ky
/-- A manager: its clock, the highest instant, who is open, the keys' commits, the newest first. -/
structure Mg where
  clock : Int
  high : Int
  op : Nat → Option Sn
  wr : List (Ky × Int)
def wrE (l : List (Ky × Int)) : List (List UInt8 × Value) := l.map fun x => (x.1, .int .i64 x.2)
def kyE (l : List Ky) : List (List UInt8 × Value) := l.map fun x => (x, .agg #[])
/-- Where its parts lie. -/
structure At where
  m : Nat
  wm : Nat
  s : Nat → Nat
  k : Nat → Nat
def ptrV (a : At) (M : Mg) (i : Nat) : Value := match M.op i with
  | none => .pointer none
  | some _ => .pointer (some ⟨a.s i, 0, none⟩)
abbrev mgL (c h : Int) (P : Nat → Value) (wm : Nat) : List Value := [.int .i64 c, .int .i64 h, P 0, P 1, P 2, P 3, .map (some wm)]
/-- The manager at a.m. -/
structure MM (w : World) (B : Nat) (a : At) (M : Mg) : Prop where
  blk : Blk w a.m (mgL M.clock M.high (ptrV a M) a.wm) 61
  wm : w.ownsMap Try.prog 9 heldR a.wm M.wr.length (DT (wrE M.wr))
  sb : ∀ i, i < 4 → ∀ s, M.op i = some s → Blk w (a.s i) [.int .i64 s.since, .map (some (a.k i))] 64
  km : ∀ i, i < 4 → ∀ s, M.op i = some s → w.ownsMap Try.prog 9 heldR (a.k i) s.keys.length (DT (kyE s.keys))
  apart : ∀ i j, i < 4 → j < 4 → i ≠ j → (M.op i).isSome → (M.op j).isSome → a.k i ≠ a.k j
  off : ∀ i, i < 4 → (M.op i).isSome → a.k i ≠ a.wm
  base : B ≤ a.m ∧ B ≤ a.wm
  kbase : ∀ i, i < 4 → (M.op i).isSome → B ≤ a.k i
theorem MM.keep {w w' : World} {B : Nat} {a : At} {M : Mg} {F : Nat → Prop} (h : MM w B a M) (q : Keep F w w') (h1 : ¬ F a.m) (h2 : ¬ F a.wm) (h3 : ∀ i, i < 4 → (M.op i).isSome → ¬ F (a.s i) ∧ ¬ F (a.k i)) : MM w' B a M :=
  ⟨h.blk.keep q h1, own_keep h.wm q h2, fun i hi s hs => (h.sb i hi s hs).keep q (h3 i hi (by rw [hs]; rfl)).1, fun i hi s hs => own_keep (h.km i hi s hs) q (h3 i hi (by rw [hs]; rfl)).2, h.apart, h.off, h.base, h.kbase⟩
theorem MM.below {w w' : World} {B : Nat} {a : At} {M : Mg} (h : MM w B a M) (q : Below w.heap.size w w') : MM w' B a M := h.keep (F := fun _ => False) (Keep.of q) id id (fun _ _ _ => ⟨id, id⟩)
theorem MM.low {w : World} {B : Nat} {a : At} {M : Mg} (h : MM w B a M) {B' : Nat} (hB : B' ≤ B) : MM w B' a M := ⟨h.blk, h.wm, h.sb, h.km, h.apart, h.off, ⟨Nat.le_trans hB h.base.1, Nat.le_trans hB h.base.2⟩, fun i hi hs => Nat.le_trans hB (h.kbase i hi hs)⟩
theorem ptr_get (c h : Int) (P : Nat → Value) (wm : Nat) {i : Nat} (hi : i < 4) : (mgL c h P wm)[2 + i]? = some (P i) := by
  match i, hi with
  | 0, _ => rfl
  | 1, _ => rfl
  | 2, _ => rfl
  | 3, _ => rfl
theorem MM.ptr {w : World} {B : Nat} {a : At} {M : Mg} (h : MM w B a M) {i : Nat} (hi : i < 4) : w.cell? ⟨a.m, 2 + i, none⟩ = some (ptrV a M i) := (h.blk.cell (2 + i)).trans (ptr_get _ _ _ _ hi)
/-- What stands through a call: the blocks below B, and every block that is no manager's. -/
structure Fr (B : Nat) (w w' : World) : Prop where
  b : Below B w w'
  box : ∀ g l t, t ≠ 61 → Blk w g l t → Blk w' g l t
theorem Fr.of {B : Nat} {w w' : World} (h : Below w.heap.size w w') (hB : B ≤ w.heap.size) : Fr B w w' := ⟨h.mono hB, fun _ _ _ _ q => q.below h⟩
theorem Fr.refl (B : Nat) (w : World) : Fr B w w := ⟨Below.refl _ _, fun _ _ _ _ h => h⟩
theorem Fr.trans {B : Nat} {a b c : World} (h : Fr B a b) (k : Fr B b c) : Fr B a c := ⟨h.b.trans k.b, fun g l t ht q => k.box g l t ht (h.box g l t ht q)⟩
theorem refusal37_ok (m : Nat) (i : Nat) (hi : i < 4) (w : World) : Calls Try.prog 37 #[.pointer (some ⟨m, 0, none⟩), .int .i64 (i : Int)] w fun e w' => e = .returned (.int .i64 0) ∧ Below w.heap.size w w' := by
  have h1 : ¬ (i : Int) < 0 := by omega
  have h2 : ¬ (4 : Int) ≤ (i : Int) := by omega
  go_enter Try.func37, Try.ntmps37
  go_wp2
  go_ret
  exact ⟨rfl, Below.refl _ _⟩
theorem refusal37_no (m : Nat) (id : Int) (hi : id < 0 ∨ 4 ≤ id) (w : World) : Calls Try.prog 37 #[.pointer (some ⟨m, 0, none⟩), .int .i64 id] w fun e w' => e = .returned (.int .i64 2) ∧ Below w.heap.size w w' := by
  by_cases h1 : id < 0
  · go_enter Try.func37, Try.ntmps37
    go_wp2
    go_ret
    exact ⟨rfl, Below.refl _ _⟩
  · have h2 : (4 : Int) ≤ id := by omega
    go_enter Try.func37, Try.ntmps37
    go_wp2
    go_ret
    exact ⟨rfl, Below.refl _ _⟩
theorem opened38_no (a : At) (id : Int) (hi : id < 0 ∨ 4 ≤ id) (w : World) : Calls Try.prog 38 #[.pointer (some ⟨a.m, 0, none⟩), .int .i64 id] w fun e w' => e = .returned (.tuple #[.pointer none, .int .i64 2]) ∧ Below w.heap.size w w' := by
  have k := refusal37_no a.m id hi w
  go_enter Try.func38, Try.ntmps38
  go_wp2_with (go_at_call 37; (with_reducible refine k.mono ?_); rintro e w1 ⟨rfl, hB⟩)
  exact bodyPost_ret (v := .tuple #[.pointer none, .int .i64 2]) (by simp [results, Try.results38, go_sem]) rfl ⟨rfl, hB⟩
theorem opened38_none {w : World} {B : Nat} {a : At} {M : Mg} (h : MM w B a M) {i : Nat} (hi : i < 4) (hs : M.op i = none) : Calls Try.prog 38 #[.pointer (some ⟨a.m, 0, none⟩), .int .i64 (i : Int)] w fun e w' => e = .returned (.tuple #[.pointer none, .int .i64 7]) ∧ Below w.heap.size w w' := by
  have k := refusal37_ok a.m i hi w
  have HC : Hid (∀ W, Below w.heap.size w W → W.cell? ⟨a.m, 2 + i, none⟩ = some (.pointer none)) := fun W q => by
    have := (h.below q).ptr hi
    unfold ptrV at this
    rwa [hs] at this
  have h1 : (0 : Int) ≤ (i : Int) := by omega
  have h2 : (i : Int) < 4 := by omega
  clear h hs
  go_enter Try.func38, Try.ntmps38
  go_wp2_with (go_at_call 37; (with_reducible refine k.mono ?_); rintro e w1 ⟨rfl, hB⟩; have c2 := HC.out _ hB)
  exact bodyPost_ret (v := .tuple #[.pointer none, .int .i64 7]) (by simp [results, Try.results38, go_sem]) rfl ⟨rfl, hB⟩
theorem opened38_yes {w : World} {B : Nat} {a : At} {M : Mg} (h : MM w B a M) {i : Nat} (hi : i < 4) {s : Sn} (hs : M.op i = some s) : Calls Try.prog 38 #[.pointer (some ⟨a.m, 0, none⟩), .int .i64 (i : Int)] w fun e w' => e = .returned (.tuple #[.pointer (some ⟨a.s i, 0, none⟩), .int .i64 0]) ∧ Below w.heap.size w w' := by
  have k := refusal37_ok a.m i hi w
  have HC : Hid (∀ W, Below w.heap.size w W → W.cell? ⟨a.m, 2 + i, none⟩ = some (.pointer (some ⟨a.s i, 0, none⟩))) := fun W q => by
    have := (h.below q).ptr hi
    unfold ptrV at this
    rwa [hs] at this
  have h1 : (0 : Int) ≤ (i : Int) := by omega
  have h2 : (i : Int) < 4 := by omega
  clear h hs
  go_enter Try.func38, Try.ntmps38
  go_wp2_with (go_at_call 37; (with_reducible refine k.mono ?_); rintro e w1 ⟨rfl, hB⟩; have c2 := HC.out _ hB)
  exact bodyPost_ret (v := .tuple #[.pointer (some ⟨a.s i, 0, none⟩), .int .i64 0]) (by simp [results, Try.results38, go_sem]) rfl ⟨rfl, hB⟩
theorem clock14 {w : World} {B : Nat} {a : At} {M : Mg} (h : MM w B a M) : Calls Try.prog 14 #[.pointer (some ⟨a.m, 0, none⟩)] w fun e w' => e = .returned (.int .i64 M.clock) ∧ Below w.heap.size w w' := by
  have c0 : w.cell? ⟨a.m, 0, none⟩ = some (.int .i64 M.clock) := h.blk.cell 0
  clear h
  go_enter Try.func14, Try.ntmps14
  go_wp2
  go_ret
  exact ⟨rfl, Below.refl _ _⟩
theorem high26 {w : World} {B : Nat} {a : At} {M : Mg} (h : MM w B a M) : Calls Try.prog 26 #[.pointer (some ⟨a.m, 0, none⟩)] w fun e w' => e = .returned (.int .i64 M.high) ∧ Below w.heap.size w w' := by
  have c0 : w.cell? ⟨a.m, 1, none⟩ = some (.int .i64 M.high) := h.blk.cell 1
  clear h
  go_enter Try.func26, Try.ntmps26
  go_wp2
  go_ret
  exact ⟨rfl, Below.refl _ _⟩
/-- What is wrong with a number that must be open. -/
def errM (M : Mg) (id : Int) : Int := if id < 0 ∨ 4 ≤ id then 2 else if (M.op id.toNat).isSome then 0 else 7
theorem err_no {M : Mg} {id : Int} (h : id < 0 ∨ 4 ≤ id) : errM M id = 2 := by simp [errM, h]
theorem err_none {M : Mg} {i : Nat} (hi : i < 4) (h : M.op i = none) : errM M (i : Int) = 7 := by
  have h1 : ¬ ((i : Int) < 0 ∨ 4 ≤ (i : Int)) := by omega
  simp [errM, h1, h]
theorem err_yes {M : Mg} {i : Nat} {s : Sn} (hi : i < 4) (h : M.op i = some s) : errM M (i : Int) = 0 := by
  have h1 : ¬ ((i : Int) < 0 ∨ 4 ≤ (i : Int)) := by omega
  simp [errM, h1, h]
theorem id_cases (M : Mg) (id : Int) : (id < 0 ∨ 4 ≤ id) ∨ (∃ i : Nat, i < 4 ∧ id = (i : Int) ∧ M.op i = none) ∨ ∃ (i : Nat) (s : Sn), i < 4 ∧ id = (i : Int) ∧ M.op i = some s := by
  by_cases h : id < 0 ∨ 4 ≤ id
  · exact .inl h
  · right
    have e : id = (id.toNat : Int) := by omega
    cases hs : M.op id.toNat with
    | none => exact .inl ⟨id.toNat, by omega, e, hs⟩
    | some s => exact .inr ⟨id.toNat, s, by omega, e, hs⟩
/-- opened, whatever the number is. -/
theorem opened38 {w : World} {B : Nat} {a : At} {M : Mg} (h : MM w B a M) (id : Int) : Calls Try.prog 38 #[.pointer (some ⟨a.m, 0, none⟩), .int .i64 id] w fun e w' => e = .returned (.tuple #[if errM M id = 0 then .pointer (some ⟨a.s id.toNat, 0, none⟩) else .pointer none, .int .i64 (errM M id)]) ∧ Below w.heap.size w w' := by
  rcases id_cases M id with q | ⟨i, hi, rfl, q⟩ | ⟨i, s, hi, rfl, q⟩
  · rw [err_no q]; exact opened38_no a id q w
  · rw [err_none hi q]; exact opened38_none h hi q
  · rw [err_yes hi q]; exact opened38_yes h hi q
theorem open19 {w : World} {B : Nat} {a : At} {M : Mg} (h : MM w B a M) (id : Int) : Calls Try.prog 19 #[.pointer (some ⟨a.m, 0, none⟩), .int .i64 id] w fun e w' => e = .returned (.bool (decide (errM M id = 0))) ∧ Below w.heap.size w w' := by
  have k := opened38 h id
  generalize errM M id = n at *
  clear h
  go_enter Try.func19, Try.ntmps19
  by_cases hn : n = 0
  · subst hn
    go_wp2_with (go_at_call 38; (with_reducible refine k.mono ?_); rintro e w1 ⟨rfl, hB⟩)
    go_ret
    exact ⟨rfl, hB⟩
  · simp only [hn, if_false] at k
    go_wp2_with (go_at_call 38; (with_reducible refine k.mono ?_); rintro e w1 ⟨rfl, hB⟩)
    go_ret
    exact ⟨by simp [hn], hB⟩
theorem since23_no {w : World} {B : Nat} {a : At} {M : Mg} (h : MM w B a M) (id : Int) (hn : errM M id ≠ 0) : Calls Try.prog 23 #[.pointer (some ⟨a.m, 0, none⟩), .int .i64 id] w fun e w' => e = .returned (.tuple #[.int .i64 0, .bool false]) ∧ Below w.heap.size w w' := by
  have k := opened38 h id
  generalize errM M id = n at *
  clear h
  simp only [hn, if_false] at k
  go_enter Try.func23, Try.ntmps23
  go_wp2_with (go_at_call 38; (with_reducible refine k.mono ?_); rintro e w1 ⟨rfl, hB⟩)
  exact bodyPost_ret (v := .tuple #[.int .i64 0, .bool false]) (by simp [results, Try.results23, go_sem]) rfl ⟨rfl, hB⟩
theorem since23_yes {w : World} {B : Nat} {a : At} {M : Mg} (h : MM w B a M) {i : Nat} (hi : i < 4) {s : Sn} (hs : M.op i = some s) : Calls Try.prog 23 #[.pointer (some ⟨a.m, 0, none⟩), .int .i64 (i : Int)] w fun e w' => e = .returned (.tuple #[.int .i64 s.since, .bool true]) ∧ Below w.heap.size w w' := by
  have k := opened38_yes h hi hs
  have HC : Hid (∀ W, Below w.heap.size w W → W.cell? ⟨a.s i, 0, none⟩ = some (.int .i64 s.since)) := fun W q => ((h.sb i hi s hs).below q).cell 0
  clear h
  go_enter Try.func23, Try.ntmps23
  go_wp2_with (go_at_call 38; (with_reducible refine k.mono ?_); rintro e w1 ⟨rfl, hB⟩; have c0 := HC.out _ hB)
  exact bodyPost_ret (v := .tuple #[.int .i64 s.since, .bool true]) (by simp [results, Try.results23, go_sem]) rfl ⟨rfl, hB⟩
end Go.Proofs.Ytjgdcdeekpeenaa
