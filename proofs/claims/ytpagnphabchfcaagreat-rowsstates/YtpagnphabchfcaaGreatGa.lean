/- Which of two rows comes first: a total order. · A range over a function whose iterator may itself range over functions: who owns which blocks. · A range over a function whose variable lies in no block. · Blocks; worlds that only grew. · Which of two values, and of two lists of values, comes first. · Lists of values in memory; which of two rows comes first. · Values copied. · Rows in memory; rows of one's own. · copied. · slices.SortFunc at rows and at spans: the library's contracts. · slices.SortFunc of rows of one's own; Sorted. · Same. · Less, by plain data. · Less. -/
import Derived.Lib.Small
import Derived.Lib.Bytealg
import Derived.RangeFuncNested
import Derived.RangeFuncBound
import Derived.RangeFuncCalls
import Derived.RangeFuncLeaves
import Derived.Shelf.Abstract
import Derived.OwnWalkIn
import Derived.TacticsInMore
import Derived.LoopNIn
import Derived.LoopIn
import Derived.WalkKit
import Derived.WalkSpells
import Derived.WalkLawsBesides
import Derived.Below
import Derived.OwnWalk
import Derived.Deep.MidRow
import Derived.Deep.RegionHeld3
import Derived.Test.YtpagnphabchfcaaGreatProg
import Derived.Sort.Grow
import Derived.Sort.Row
import Derived.Shelf.Small.Strs
import Derived.Laws.CopyOwn
import Derived.Laws.MakeOwn
import Derived.Maps.AppendAt
import Derived.BigQuiet
import Derived.Ground.SlsfProg
import Derived.Shelf.SlSortCmp.WholeK
/-! ### Which of two rows comes first: a total order. -/
namespace Go.Proofs.YtpagnphabchfcaaGreat
open Go

/-- A comparison that answers -1, 0 or 1, and is a total order. -/
structure Ord3 {α : Type} (c : α → α → Int) : Prop where
  three : ∀ x y, c x y = -1 ∨ c x y = 0 ∨ c x y = 1
  eq : ∀ x y, c x y = 0 ↔ x = y
  neg : ∀ x y, c y x = - c x y
  trans : ∀ x y z, c x y = -1 → c y z = -1 → c x z = -1
def lexP {α β : Type} (c : α → α → Int) (d : β → β → Int) (x y : α × β) : Int := if c x.1 y.1 = 0 then d x.2 y.2 else c x.1 y.1
theorem Ord3.pair {α β : Type} {c : α → α → Int} {d : β → β → Int} (hc : Ord3 c) (hd : Ord3 d) : Ord3 (lexP c d) where
  three x y := by
    unfold lexP
    split
    · exact hd.three _ _
    · exact hc.three _ _
  eq x y := by
    obtain ⟨a, b⟩ := x
    obtain ⟨a', b'⟩ := y
    unfold lexP
    by_cases h : c a a' = 0
    · rw [if_pos h, hd.eq, Prod.mk.injEq]
      exact ⟨fun e => ⟨(hc.eq _ _).1 h, e⟩, fun e => e.2⟩
    · rw [if_neg h, Prod.mk.injEq]
      exact ⟨fun e => absurd e h, fun e => absurd ((hc.eq _ _).2 e.1) h⟩
  neg x y := by
    unfold lexP
    have h := hc.neg x.1 y.1
    by_cases e : c x.1 y.1 = 0
    · rw [if_pos e, if_pos (by omega), hd.neg]
    · rw [if_neg e, if_neg (by omega), h]
  trans x y z h1 h2 := by
    unfold lexP at *
    by_cases e1 : c x.1 y.1 = 0
    · rw [if_pos e1] at h1
      have ex := (hc.eq _ _).1 e1
      rw [ex]
      by_cases e2 : c y.1 z.1 = 0
      · rw [if_pos e2] at h2 ⊢
        exact hd.trans _ _ _ h1 h2
      · rw [if_neg e2] at h2 ⊢
        exact h2
    · rw [if_neg e1] at h1
      by_cases e2 : c y.1 z.1 = 0
      · have ez := (hc.eq _ _).1 e2
        rw [← ez, if_neg e1]
        exact h1
      · rw [if_neg e2] at h2
        have h3 := hc.trans _ _ _ h1 h2
        rw [if_neg (by omega)]
        exact h3
def lexL {α : Type} (c : α → α → Int) : List α → List α → Int
  | [], [] => 0
  | [], _ :: _ => -1
  | _ :: _, [] => 1
  | x :: a, y :: b => if c x y = 0 then lexL c a b else c x y
theorem lexL_three {α : Type} {c : α → α → Int} (h : Ord3 c) : ∀ x y, lexL c x y = -1 ∨ lexL c x y = 0 ∨ lexL c x y = 1
  | [], [] => .inr (.inl rfl)
  | [], _ :: _ => .inl rfl
  | _ :: _, [] => .inr (.inr rfl)
  | x :: a, y :: b => by
    unfold lexL
    split
    · exact lexL_three h a b
    · exact h.three x y
theorem lexL_eq {α : Type} {c : α → α → Int} (h : Ord3 c) : ∀ x y, lexL c x y = 0 ↔ x = y
  | [], [] => by simp [lexL]
  | [], _ :: _ => by simp [lexL]
  | _ :: _, [] => by simp [lexL]
  | x :: a, y :: b => by
    unfold lexL
    by_cases e : c x y = 0
    · rw [if_pos e, lexL_eq h a b, List.cons.injEq]
      exact ⟨fun q => ⟨(h.eq _ _).1 e, q⟩, fun q => q.2⟩
    · rw [if_neg e, List.cons.injEq]
      exact ⟨fun q => absurd q e, fun q => absurd ((h.eq _ _).2 q.1) e⟩
theorem lexL_neg {α : Type} {c : α → α → Int} (h : Ord3 c) : ∀ x y, lexL c y x = - lexL c x y
  | [], [] => rfl
  | [], _ :: _ => rfl
  | _ :: _, [] => rfl
  | x :: a, y :: b => by
    unfold lexL
    have q := h.neg x y
    by_cases e : c x y = 0
    · rw [if_pos e, if_pos (by omega), lexL_neg h a b]
    · rw [if_neg e, if_neg (by omega), q]
theorem lexL_trans {α : Type} {c : α → α → Int} (h : Ord3 c) : ∀ x y z, lexL c x y = -1 → lexL c y z = -1 → lexL c x z = -1
  | [], [], z, h1, _ => by simp [lexL] at h1
  | [], _ :: _, [], _, h2 => by simp [lexL] at h2
  | [], _ :: _, _ :: _, _, _ => rfl
  | _ :: _, [], z, h1, _ => by simp [lexL] at h1
  | _ :: _, _ :: _, [], _, h2 => by simp [lexL] at h2
  | x :: a, y :: b, z :: d, h1, h2 => by
    unfold lexL at *
    by_cases e1 : c x y = 0
    · rw [if_pos e1] at h1
      rw [(h.eq _ _).1 e1]
      by_cases e2 : c y z = 0
      · rw [if_pos e2] at h2 ⊢
        exact lexL_trans h a b d h1 h2
      · rw [if_neg e2] at h2 ⊢
        exact h2
    · rw [if_neg e1] at h1
      by_cases e2 : c y z = 0
      · rw [← (h.eq _ _).1 e2, if_neg e1]
        exact h1
      · rw [if_neg e2] at h2
        have h3 := h.trans _ _ _ h1 h2
        rw [if_neg (by omega)]
        exact h3
theorem Ord3.list {α : Type} {c : α → α → Int} (h : Ord3 c) : Ord3 (lexL c) := ⟨lexL_three h, lexL_eq h, lexL_neg h, lexL_trans h⟩
theorem ordInt : Ord3 Lib.compareInt where
  three x y := by unfold Lib.compareInt; split; exact .inl rfl; split; exact .inr (.inr rfl); exact .inr (.inl rfl)
  eq x y := by unfold Lib.compareInt; split; simp; omega; split; simp; omega; simp; omega
  neg x y := by unfold Lib.compareInt; split <;> split <;> (try split) <;> (try split) <;> omega
  trans x y z h1 h2 := by
    unfold Lib.compareInt at *
    split at h1
    · split at h2
      · rw [if_pos (by omega)]
      · split at h2 <;> simp at h2
    · split at h1 <;> simp at h1
def cmpU (x y : UInt8) : Int := if x < y then -1 else if y < x then 1 else 0
theorem ordU : Ord3 cmpU where
  three x y := by unfold cmpU; split; exact .inl rfl; split; exact .inr (.inr rfl); exact .inr (.inl rfl)
  eq x y := by
    unfold cmpU
    by_cases h1 : x < y
    · rw [if_pos h1]; simp; rintro rfl; exact UInt8.lt_irrefl x h1
    · by_cases h2 : y < x
      · rw [if_neg h1, if_pos h2]; simp; rintro rfl; exact UInt8.lt_irrefl x h2
      · rw [if_neg h1, if_neg h2]; simp; exact UInt8.le_antisymm (UInt8.not_lt.1 h2) (UInt8.not_lt.1 h1)
  neg x y := by
    unfold cmpU
    by_cases h1 : x < y
    · have h2 : ¬ y < x := fun h => UInt8.lt_irrefl x (UInt8.lt_trans h1 h)
      simp [h1, h2]
    · by_cases h2 : y < x <;> simp [h1, h2]
  trans x y z h1 h2 := by
    unfold cmpU at *
    split at h1
    · split at h2
      · rename_i a b
        rw [if_pos (UInt8.lt_trans a b)]
      · split at h2 <;> simp at h2
    · split at h1 <;> simp at h1
theorem bytes_lex : ∀ a b : List UInt8, Lib.compareBytes a b = lexL cmpU a b
  | [], [] => rfl
  | [], _ :: _ => rfl
  | _ :: _, [] => rfl
  | x :: a, y :: b => by
    unfold Lib.compareBytes lexL cmpU
    have ih := bytes_lex a b
    by_cases h1 : x < y
    · simp [h1]
    · by_cases h2 : y < x
      · simp [h1, h2]
      · simp [h1, h2, ih]
        rfl
theorem ordB : Ord3 Lib.compareBytes := by
  have e : Lib.compareBytes = lexL cmpU := by funext a b; exact bytes_lex a b
  rw [e]
  exact ordU.list
/-- A value: its kind, its number, its text. -/
abbrev Vt := Int × Int × ByteArray
def bs (s : ByteArray) : List UInt8 := s.data.toList
theorem bs_inj {a b : ByteArray} (h : bs a = bs b) : a = b := by
  obtain ⟨a⟩ := a
  obtain ⟨b⟩ := b
  unfold bs at h
  simp only at h
  rw [Array.toList_inj.1 h]
def cmpS (a b : ByteArray) : Int := Lib.compareBytes (bs a) (bs b)
theorem ordS : Ord3 cmpS where
  three _ _ := ordB.three _ _
  eq x y := by unfold cmpS; rw [ordB.eq]; exact ⟨bs_inj, fun e => by rw [e]⟩
  neg _ _ := ordB.neg _ _
  trans _ _ _ h1 h2 := ordB.trans _ _ _ h1 h2
def cmpT : Vt → Vt → Int := lexP Lib.compareInt (lexP Lib.compareInt cmpS)
theorem ordT : Ord3 cmpT := ordInt.pair (ordInt.pair ordS)
def cmpL : List Vt → List Vt → Int := lexL cmpT
theorem ordL : Ord3 cmpL := ordT.list
/-- A row: its values, where it begins, where it ends. -/
abbrev Rw := List Vt × Int × Int
def cmpR : Rw → Rw → Int := lexP cmpL (lexP Lib.compareInt Lib.compareInt)
theorem ordR : Ord3 cmpR := ordL.pair (ordInt.pair ordInt)
end Go.Proofs.YtpagnphabchfcaaGreat
/-! ### A range over a function whose iterator may itself range over functions: who owns which blocks. -/
namespace Go.Proofs.YtpagnphabchfcaaGreat
open Go.RowKit Go.Shelf
set_option maxRecDepth 100000

theorem al (w : World) (o : Obj) : Below w.heap.size w (w.alloc o) := (Below.refl _ _).alloc (Nat.le_refl _) o
theorem bmore {w w1 w2 : World} (h : Below w.heap.size w w1) (k : Below w1.heap.size w1 w2) : Below w.heap.size w w2 := h.trans (k.mono h.size)

/-- Every old block stands but those of F. -/
structure Keep (F : Nat → Prop) (w w' : World) : Prop where
  os : w'.os = w.os
  tape : w'.tape = w.tape
  output : w'.output = w.output
  size : w.heap.size ≤ w'.heap.size
  block : ∀ k, k < w.heap.size → ¬ F k → w'.heap[k]? = w.heap[k]?
section
variable {F G : Nat → Prop} {a b c : World}
theorem Keep.refl (F : Nat → Prop) (w : World) : Keep F w w := ⟨rfl, rfl, rfl, Nat.le_refl _, fun _ _ _ => rfl⟩
theorem Keep.trans (h : Keep F a b) (k : Keep G b c) (hG : ∀ i, i < a.heap.size → G i → F i) : Keep F a c :=
  ⟨k.os.trans h.os, k.tape.trans h.tape, k.output.trans h.output, Nat.le_trans h.size k.size, fun i hi hf => (k.block i (Nat.lt_of_lt_of_le hi h.size) (fun hg => hf (hG i hi hg))).trans (h.block i hi hf)⟩
theorem Keep.of (h : Below a.heap.size a b) : Keep F a b := ⟨h.os, h.tape, h.output, h.size, fun k hk _ => h.block k hk⟩
theorem Keep.below {B : Nat} (h : Keep F a b) (hB : B ≤ a.heap.size) (hF : ∀ i, i < B → ¬ F i) : Below B a b := ⟨h.os, h.tape, h.output, h.size, fun k hk => h.block k (by omega) (hF k hk)⟩
theorem Keep.put (h : Keep F a b) {l : Nat} (hl : a.heap.size ≤ l ∨ F l) (o : Obj) : Keep F a (b.putObj l o) :=
  ⟨h.os, h.tape, h.output, by simpa using h.size, fun k hk hf => by
    have hne : k ≠ l := fun e => hl.elim (fun h => by omega) (fun h => hf (e ▸ h))
    rw [World.putObj_heap_other hne]; exact h.block k hk hf⟩
theorem Keep.alloc (h : Keep F a b) (o : Obj) : Keep F a (b.alloc o) := h.trans (Keep.of (F := F) (al b o)) (fun _ _ h => h)
theorem Keep.drew (h : Keep F a b) : Keep F a b.drew := h.trans (Keep.of (F := F) (Below.refl _ _).drew) (fun _ _ h => h)
theorem Keep.set (h : Keep F a b) {p : Addr} (hp : a.heap.size ≤ p.block ∨ F p.block) (v : Value) : Keep F a (b.setCell p v) :=
  ⟨h.os, h.tape, h.output, by simpa [World.setCell] using h.size, fun k hk hf => by
    have hne : k ≠ p.block := fun e => hp.elim (fun h => by omega) (fun h => hf (e ▸ h))
    rw [Below.heap_setCell _ _ _ _ hne]; exact h.block k hk hf⟩
theorem Keep.cell (h : Keep F a b) {k o : Nat} (hk : k < a.heap.size) (hf : ¬ F k) : b.cell? ⟨k, o, none⟩ = a.cell? ⟨k, o, none⟩ := by
  simp only [World.cell?, h.block k hk hf]
theorem Keep.mono (h : Keep F a b) (hG : ∀ i, i < a.heap.size → F i → G i) : Keep G a b := ⟨h.os, h.tape, h.output, h.size, fun k hk hf => h.block k hk (fun x => hf (hG k hk x))⟩
end

/-- What is owned now was owned, or is new. -/
def Grew (O O' : Nat → Prop) (W : World) : Prop := ∀ b, O' b → O b ∨ W.heap.size ≤ b
theorem Grew.refl (O : Nat → Prop) (W : World) : Grew O O W := fun _ h => .inl h
theorem Grew.trans {O O' O'' : Nat → Prop} {W W' : World} (h : Grew O O' W) (k : Grew O' O'' W') (hs : W.heap.size ≤ W'.heap.size) : Grew O O'' W := fun b hb => (k b hb).elim (h b) (fun x => .inr (by omega))

/-- What is said of owned blocks, and of those below B, abides what becomes of others. -/
def Abide {α : Type} (B : Nat) (J : (Nat → Prop) → List α → World → Prop) : Prop := ∀ O pre W W', J O pre W → Keep (fun b => ¬ O b ∧ B ≤ b) W W' → J O pre W'

/-- What a round answers. -/
def Rnd {α : Type} (J Jx : (Nat → Prop) → List α → World → Prop) (O : Nat → Prop) (pre : List α) (W : World) (e : Ending) (W' : World) : Prop :=
  (e = .returned (.bool true) ∧ ∃ O', J O' pre W' ∧ Grew O O' W ∧ Keep O W W') ∨ (e = .returned (.bool false) ∧ ∃ O', Jx O' pre W' ∧ Grew O O' W ∧ Keep O W W')

/-- The function value g with lb, called with a yield in the world W, yields xs, one behind the other, or is stopped; it reads the blocks of G. -/
def Runs {α : Type} (P : Program) (g : Nat) (lb : Array Value) (enc : α → Value) (xs : List α) (G : Nat → Prop) (W : World) : Prop :=
  ∀ (l : Nat) (O : Nat → Prop) (J Jx : (Nat → Prop) → List α → World → Prop), (∀ b, O b → ¬ G b ∧ b < W.heap.size) → (∀ O pre W, J O pre W → ∀ b, O b → b < W.heap.size) → Abide W.heap.size J → Abide W.heap.size Jx →
    (∀ O pre x W1, J O pre W1 → pre ++ [x] <+: xs → YieldAt Fence.wide 0 P l #[enc x] W1 (Rnd J Jx O (pre ++ [x]) W1)) → J O [] W →
    CallsIn Fence.wide 0 P g (#[.func (.yield l) #[] #[]] ++ lb) W fun e W' => (∃ v, e = .returned v) ∧
      ((∃ O', J O' xs W' ∧ Grew O O' W ∧ Keep O W W') ∨ (∃ pre O', pre <+: xs ∧ Jx O' pre W' ∧ Grew O O' W ∧ Keep O W W'))

/-- How the body of a round may be left. -/
def PostB {α : Type} (I : (Nat → Prop) → List α → World → Prop) (Ix : Code → (Nat → Prop) → List α → World → Prop) (O : Nat → Prop) (pre : List α) (W : World) : Exit → Act → World → Prop
  | .normal, _, W' => ∃ O', I O' pre W' ∧ Grew O O' W ∧ Keep O W W'
  | .ret, _, W' => ∃ O', Ix .ret O' pre W' ∧ Grew O O' W ∧ Keep O W W'
  | .exit id, _, W' => ∃ O', Ix (.exit id) O' pre W' ∧ Grew O O' W ∧ Keep O W W'
  | _, _, _ => False

set_option maxHeartbeats 1000000 in
/-- The statement: a loop over such a value, whose variable is laid in a block of its own in each round. -/
theorem wpIn_range {α : Type} {P : Program} {g : Operand} {ps : Array Tmp} {assign body : Code} {Q : Exit → Act → World → Prop} {a : Act} {w : World} {gf : Nat} {lb : Array Value}
    (hg : a.eval g = .func (.func gf) #[] lb) (eg : ∀ args w, (callFunc gf args).run P w = .ok (.enter gf args) w) (hps : ps.size = 1)
    {enc : α → Value} {xs : List α} {G : Nat → Prop} (hseq : ∀ W1, Below w.heap.size w W1 → Runs P gf lb enc xs G W1) (hG : ∀ b, G b → b < w.heap.size)
    (I : (Nat → Prop) → List α → World → Prop) (Ix : Code → (Nat → Prop) → List α → World → Prop) (hIs : ∀ O pre W, I O pre W → ∀ b, O b → b < W.heap.size) (hI : Abide w.heap.size I) (hIx : ∀ c, Abide w.heap.size (Ix c))
    (O : Nat → Prop) (hO : ∀ b, O b → ¬ G b ∧ b < w.heap.size) (h0 : I O [] w) (A : α → Nat → Act) (cs : α → List Value) (t : TypeId)
    (hassign : ∀ l x W (K : Act → World → Prop), K (A x W.heap.size) (W.alloc (.cells (cs x).toArray t)) → assign.wpIn (Fence.wide.inRound l) 0 P (Exit.then K (fun _ _ _ => False)) { tmps := (ps.zip #[enc x]).foldl (fun t (p, v) => t.setIfInBounds p v) a.tmps, defers := [] } W)
    (hbody : ∀ l O pre x W b, I O pre W → ¬ O b → w.heap.size ≤ b → w.heap.size ≤ W.heap.size → W.heap[b]? = some (.cells (cs x).toArray t (0, 0)) → pre ++ [x] <+: xs → body.wpIn (Fence.wide.inRound l) 0 P (PostB I Ix O (pre ++ [x]) W) (A x b) W)
    (hdone : ∀ D O' W', w.heap.size ≤ D → ¬ O' D → I O' xs W' → Grew O O' w → Keep O w W' → W'.heap[D]? = some (.deferred (some [])) → Q .normal { a with defers := { target := .collected D, args := #[] } :: a.defers } W')
    (hstop : ∀ D c O' pre W', w.heap.size ≤ D → ¬ O' D → pre <+: xs → Ix c O' pre W' → Grew O O' w → Keep O w W' → W'.heap[D]? = some (.deferred (some [])) → c.wpIn Fence.wide 0 P Q { a with defers := { target := .collected D, args := #[] } :: a.defers } W') :
    (Code.rangeFunc g ps assign body).wpIn Fence.wide 0 P Q a w := by
  refine wpIn_rangeFunc fun fn hfn => ?_
  obtain ⟨rec, hrec⟩ : ∃ rec : LoopState → Option Code → Loop, rec = fun st pe => { state := st, pending := pe, fn, tmps := a.tmps, params := ps, assign, body, defers := w.heap.size } := ⟨_, rfl⟩
  obtain ⟨W1, hW1⟩ : ∃ W1, (w.alloc (.deferred (some []))).alloc (.loop (rec .ready none)) = W1 := ⟨_, rfl⟩
  have bW1 : Below w.heap.size w W1 := by rw [← hW1]; exact bmore (al _ _) (al _ _)
  have sW1 : W1.heap.size = w.heap.size + 2 := by rw [← hW1]; simp
  have hL1 : W1.heap[w.heap.size + 1]? = some (.loop (rec .ready none)) := by
    rw [← hW1]; have := World.alloc_heap_new (w.alloc (.deferred (some []))) (.loop (rec .ready none)); rwa [World.size_alloc] at this
  have hD1 : W1.heap[w.heap.size]? = some (.deferred (some [])) := by
    rw [← hW1]; exact (Below.heap_alloc _ _ _ (by simp)).trans (World.alloc_heap_new w _)
  generalize hl : w.heap.size + 1 = l at *
  generalize hD : w.heap.size = D at *
  have bW1' : Below w.heap.size w W1 := by rw [hD]; exact bW1
  have hps1 : ∀ x, (#[enc x] : Array Value).size = ps.size := fun x => by simp [hps]
  refine ⟨l, [{ target := .collected D, args := #[] }], W1, { target := .fn (.func gf) lb, args := #[.func (.yield l) #[] #[]] }, W1, gf, #[.func (.yield l) #[] #[]] ++ lb, W1, ?_, ?_, fun _ _ => trivial, ?_, (fun h => (by cases h)), ?_⟩
  · rw [← hW1, hrec, ← hl, ← hD]; exact run_enterLoop_outer _ _ _ _ _
  · simp only [resolve, hg]
    simp [go_sem]
  · simp [invoke, go_sem, eg]
  · refine (hseq W1 bW1 l (fun b => O b ∨ b = l)
      (fun OO pre W => ∃ O1, (∀ b, OO b ↔ O1 b ∨ b = l) ∧ ¬ O1 l ∧ ¬ O1 D ∧ I O1 pre W ∧ W.heap[l]? = some (.loop (rec .ready none)) ∧ W.heap[D]? = some (.deferred (some [])) ∧ Grew O O1 w)
      (fun OO pre W => ∃ O1 c, (∀ b, OO b ↔ O1 b ∨ b = l) ∧ ¬ O1 l ∧ ¬ O1 D ∧ Ix c O1 pre W ∧ W.heap[l]? = some (.loop (rec .done (some c))) ∧ W.heap[D]? = some (.deferred (some [])) ∧ Grew O O1 w)
      ?_ ?_ ?_ ?_ ?_ ?_).mono ?_
    · rintro b (h | rfl)
      · exact ⟨(hO b h).1, by have := (hO b h).2; omega⟩
      · exact ⟨fun h => by have := hG _ h; omega, by omega⟩
    · rintro OO pre W ⟨O1, e1, n1, n2, hi, h1, h2, hgr⟩ b hb
      rcases (e1 b).1 hb with h | rfl
      · exact hIs _ _ _ hi b h
      · exact (Array.getElem?_eq_some_iff.1 h1).1
    · rintro OO pre W W' ⟨O1, e1, n1, n2, hi, h1, h2, hgr⟩ hk
      have lw := (Array.getElem?_eq_some_iff.1 h1).1
      refine ⟨O1, e1, n1, n2, hI _ _ _ _ hi (hk.mono fun b _ hb => ⟨fun h => hb.1 ((e1 b).2 (.inl h)), by omega⟩), (hk.block l lw (fun h => h.1 ((e1 l).2 (.inr rfl)))).trans h1, (hk.block D (by omega) (fun h => by omega)).trans h2, hgr⟩
    · rintro OO pre W W' ⟨O1, c, e1, n1, n2, hi, h1, h2, hgr⟩ hk
      have lw := (Array.getElem?_eq_some_iff.1 h1).1
      refine ⟨O1, c, e1, n1, n2, hIx c _ _ _ _ hi (hk.mono fun b _ hb => ⟨fun h => hb.1 ((e1 b).2 (.inl h)), by omega⟩), (hk.block l lw (fun h => h.1 ((e1 l).2 (.inr rfl)))).trans h1, (hk.block D (by omega) (fun h => by omega)).trans h2, hgr⟩
    · rintro OO pre x W ⟨O1, e1, n1, n2, hi, h1, h2, hgr⟩ hpre
      have lw := (Array.getElem?_eq_some_iff.1 h1).1
      have hy := run_yield (P := P) (args := #[enc x]) h1 (by rw [hrec]; exact hps1 x)
      rw [hrec] at hy
      refine ⟨fn, _, assign, body, hy, roundIn_of_wpIn hfn (hassign l x W _ ?_)⟩
      clear hy
      have h1a : (W.alloc (.cells (cs x).toArray t)).heap[l]? = some (.loop (rec .ready none)) := (Below.heap_alloc _ _ _ lw).trans h1
      refine ⟨_, run_beginRound h1a (by rw [hrec]), ?_⟩
      obtain ⟨W2, hW2⟩ : ∃ W2, (W.alloc (.cells (cs x).toArray t)).putObj l (.loop { rec .ready none with state := .busy }) = W2 := ⟨_, rfl⟩
      have k2 : Keep (fun b => b = l) W W2 := by rw [← hW2]; exact ((Keep.refl (fun b => b = l) W).alloc _).put (.inr rfl) _
      have s2 : W2.heap.size = W.heap.size + 1 := by rw [← hW2]; simp
      have l2 : W2.heap[l]? = some (.loop { rec .ready none with state := .busy }) := by rw [← hW2]; exact World.putObj_heap_same (by simp; omega)
      have d2 : W2.heap[D]? = some (.deferred (some [])) := (k2.block D (by omega) (by omega)).trans h2
      have b2 : W2.heap[W.heap.size]? = some (.cells (cs x).toArray t (0, 0)) := by rw [← hW2, World.putObj_heap_other (by omega)]; exact World.alloc_heap_new W _
      have i2 := hI _ _ _ W2 hi (k2.mono fun b _ e => by subst e; exact ⟨n1, by omega⟩)
      have nb : ¬ O1 W.heap.size := fun h => by have := hIs _ _ _ hi _ h; omega
      have oo : ∀ b, O1 b → OO b := fun b h => (e1 b).2 (.inl h)
      rw [hW2]
      refine wpIn_mono (hbody l O1 pre x W2 W.heap.size i2 nb (by omega) (by omega) b2 hpre) ?_
      have fin : ∀ (jump : Option Code) (O' : Nat → Prop) (W3 : World), Grew O1 O' W2 → Keep O1 W2 W3 →
          (Instr.endRound l jump).run P W3 = .ok (.bool jump.isNone) (W3.putObj l (.loop (rec (if jump.isNone then .ready else .done) jump))) ∧ ¬ O' l ∧ ¬ O' D ∧
          Keep (fun b => ¬ O' b ∧ D ≤ b) W3 (W3.putObj l (.loop (rec (if jump.isNone then .ready else .done) jump))) ∧
          (W3.putObj l (.loop (rec (if jump.isNone then .ready else .done) jump))).heap[l]? = some (.loop (rec (if jump.isNone then .ready else .done) jump)) ∧
          (W3.putObj l (.loop (rec (if jump.isNone then .ready else .done) jump))).heap[D]? = some (.deferred (some [])) ∧ Grew O O' w ∧
          Grew OO (fun b => O' b ∨ b = l) W ∧ Keep OO W (W3.putObj l (.loop (rec (if jump.isNone then .ready else .done) jump))) := by
        intro jump O' W3 g3 k3
        have l3 : W3.heap[l]? = some (.loop { rec .ready none with state := .busy }) := (k3.block l (by omega) n1).trans l2
        have lw3 := (Array.getElem?_eq_some_iff.1 l3).1
        have r3 := run_endRound (P := P) jump l3
        rw [hrec] at r3
        have nl : ¬ O' l := fun h => (g3 l h).elim n1 (fun h => by omega)
        have nD : ¬ O' D := fun h => (g3 D h).elim n2 (fun h => by omega)
        refine ⟨by rw [hrec]; exact r3, nl, nD, (Keep.refl _ W3).put (.inr ⟨nl, by omega⟩) _, World.putObj_heap_same lw3, (World.putObj_heap_other (by omega)).trans ((k3.block D (by omega) n2).trans d2), ?_, ?_, ?_⟩
        · intro b hb
          rcases g3 b hb with h | h
          · exact hgr b h
          · exact .inr (by omega)
        · rintro b (hb | rfl)
          · rcases g3 b hb with h | h
            · exact .inl (oo b h)
            · exact .inr (by omega)
          · exact .inl ((e1 b).2 (.inr rfl))
        · exact Keep.put ((k2.mono (fun b _ e => (e1 b).2 (.inr e))).trans k3 (fun b _ h => oo b h)) (.inr ((e1 l).2 (.inr rfl))) _
      rintro e a3 W3 hp
      cases e with
      | normal =>
        obtain ⟨O', hi3, g3, k3⟩ := hp
        obtain ⟨hr, nl, nD, ka, hl4, hd4, gO, gg, kk⟩ := fin none O' W3 g3 k3
        exact ⟨_, _, hr, .inl ⟨rfl, _, ⟨O', fun b => Iff.rfl, nl, nD, hI _ _ _ _ hi3 ka, hl4, hd4, gO⟩, gg, kk⟩⟩
      | ret =>
        obtain ⟨O', hi3, g3, k3⟩ := hp
        obtain ⟨hr, nl, nD, ka, hl4, hd4, gO, gg, kk⟩ := fin (some .ret) O' W3 g3 k3
        exact ⟨_, _, hr, .inr ⟨rfl, _, ⟨O', .ret, fun b => Iff.rfl, nl, nD, hIx _ _ _ _ _ hi3 ka, hl4, hd4, gO⟩, gg, kk⟩⟩
      | exit id =>
        obtain ⟨O', hi3, g3, k3⟩ := hp
        obtain ⟨hr, nl, nD, ka, hl4, hd4, gO, gg, kk⟩ := fin (some (.exit id)) O' W3 g3 k3
        exact ⟨_, _, hr, .inr ⟨rfl, _, ⟨O', .exit id, fun b => Iff.rfl, nl, nD, hIx _ _ _ _ _ hi3 ka, hl4, hd4, gO⟩, gg, kk⟩⟩
      | goto t => exact hp.elim
      | panic ch => exact hp.elim
      | outgrown => exact hp.elim
    · exact ⟨O, fun b => Iff.rfl, fun h => by have := (hO _ h).2; omega, fun h => by have := (hO _ h).2; omega, hI _ _ _ _ h0 (Keep.of bW1'), hL1, hD1, Grew.refl _ _⟩
    · rintro e W2 ⟨⟨v, rfl⟩, (⟨OO, ⟨O1, e1, n1, n2, hi, h1, h2, hgr⟩, _, hk⟩ | ⟨pre, OO, hpre, ⟨O1, c, e1, n1, n2, hi, h1, h2, hgr⟩, _, hk⟩)⟩
      · have lw := (Array.getElem?_eq_some_iff.1 h1).1
        have kw : Keep O w W2 := (Keep.of (F := O) bW1').trans hk (fun b hb h => h.elim id (fun e => by omega))
        exact ⟨none, _, by have := run_endLoop (P := P) h1 (by rw [hrec]; simp); rw [hrec] at this; exact this, hdone D O1 _ (Nat.le_refl _) n2 (hI _ _ _ _ hi ((Keep.refl _ W2).put (.inr ⟨n1, by omega⟩) _)) hgr (kw.put (.inl (by omega)) _) ((World.putObj_heap_other (by omega)).trans h2)⟩
      · have lw := (Array.getElem?_eq_some_iff.1 h1).1
        have kw : Keep O w W2 := (Keep.of (F := O) bW1').trans hk (fun b hb h => h.elim id (fun e => by omega))
        exact ⟨some c, _, by have := run_endLoop (P := P) h1 (by rw [hrec]; simp); rw [hrec] at this; exact this, hstop D c O1 pre _ (Nat.le_refl _) n2 hpre (hIx c _ _ _ _ hi ((Keep.refl _ W2).put (.inr ⟨n1, by omega⟩) _)) hgr (kw.put (.inl (by omega)) _) ((World.putObj_heap_other (by omega)).trans h2)⟩
end Go.Proofs.YtpagnphabchfcaaGreat
/-! ### A range over a function whose variable lies in no block. -/
namespace Go.Proofs.YtpagnphabchfcaaGreat
open Go.RowKit Go.Shelf
set_option maxRecDepth 100000
set_option maxHeartbeats 1000000 in
/-- The same, where the variable lies in no block. -/
theorem wpIn_range0 {α : Type} {P : Program} {g : Operand} {ps : Array Tmp} {assign body : Code} {Q : Exit → Act → World → Prop} {a : Act} {w : World} {gf : Nat} {lb : Array Value}
    (hg : a.eval g = .func (.func gf) #[] lb) (eg : ∀ args w, (callFunc gf args).run P w = .ok (.enter gf args) w) (hps : ps.size = 1)
    {enc : α → Value} {xs : List α} {G : Nat → Prop} (hseq : ∀ W1, Below w.heap.size w W1 → Runs P gf lb enc xs G W1) (hG : ∀ b, G b → b < w.heap.size)
    (I : (Nat → Prop) → List α → World → Prop) (Ix : Code → (Nat → Prop) → List α → World → Prop) (hIs : ∀ O pre W, I O pre W → ∀ b, O b → b < W.heap.size) (hI : Abide w.heap.size I) (hIx : ∀ c, Abide w.heap.size (Ix c))
    (O : Nat → Prop) (hO : ∀ b, O b → ¬ G b ∧ b < w.heap.size) (h0 : I O [] w) (A : α → Act)
    (hassign : ∀ l x W (K : Act → World → Prop), K (A x) W → assign.wpIn (Fence.wide.inRound l) 0 P (Exit.then K (fun _ _ _ => False)) { tmps := (ps.zip #[enc x]).foldl (fun t (p, v) => t.setIfInBounds p v) a.tmps, defers := [] } W)
    (hbody : ∀ l O pre x W, I O pre W → w.heap.size ≤ W.heap.size → pre ++ [x] <+: xs → body.wpIn (Fence.wide.inRound l) 0 P (PostB I Ix O (pre ++ [x]) W) (A x) W)
    (hdone : ∀ D O' W', w.heap.size ≤ D → ¬ O' D → I O' xs W' → Grew O O' w → Keep O w W' → W'.heap[D]? = some (.deferred (some [])) → Q .normal { a with defers := { target := .collected D, args := #[] } :: a.defers } W')
    (hstop : ∀ D c O' pre W', w.heap.size ≤ D → ¬ O' D → pre <+: xs → Ix c O' pre W' → Grew O O' w → Keep O w W' → W'.heap[D]? = some (.deferred (some [])) → c.wpIn Fence.wide 0 P Q { a with defers := { target := .collected D, args := #[] } :: a.defers } W') :
    (Code.rangeFunc g ps assign body).wpIn Fence.wide 0 P Q a w := by
  refine wpIn_rangeFunc fun fn hfn => ?_
  obtain ⟨rec, hrec⟩ : ∃ rec : LoopState → Option Code → Loop, rec = fun st pe => { state := st, pending := pe, fn, tmps := a.tmps, params := ps, assign, body, defers := w.heap.size } := ⟨_, rfl⟩
  obtain ⟨W1, hW1⟩ : ∃ W1, (w.alloc (.deferred (some []))).alloc (.loop (rec .ready none)) = W1 := ⟨_, rfl⟩
  have bW1 : Below w.heap.size w W1 := by rw [← hW1]; exact bmore (al _ _) (al _ _)
  have sW1 : W1.heap.size = w.heap.size + 2 := by rw [← hW1]; simp
  have hL1 : W1.heap[w.heap.size + 1]? = some (.loop (rec .ready none)) := by
    rw [← hW1]; have := World.alloc_heap_new (w.alloc (.deferred (some []))) (.loop (rec .ready none)); rwa [World.size_alloc] at this
  have hD1 : W1.heap[w.heap.size]? = some (.deferred (some [])) := by
    rw [← hW1]; exact (Below.heap_alloc _ _ _ (by simp)).trans (World.alloc_heap_new w _)
  generalize hl : w.heap.size + 1 = l at *
  generalize hD : w.heap.size = D at *
  have bW1' : Below w.heap.size w W1 := by rw [hD]; exact bW1
  have hps1 : ∀ x, (#[enc x] : Array Value).size = ps.size := fun x => by simp [hps]
  refine ⟨l, [{ target := .collected D, args := #[] }], W1, { target := .fn (.func gf) lb, args := #[.func (.yield l) #[] #[]] }, W1, gf, #[.func (.yield l) #[] #[]] ++ lb, W1, ?_, ?_, fun _ _ => trivial, ?_, (fun h => (by cases h)), ?_⟩
  · rw [← hW1, hrec, ← hl, ← hD]; exact run_enterLoop_outer _ _ _ _ _
  · simp only [resolve, hg]
    simp [go_sem]
  · simp [invoke, go_sem, eg]
  · refine (hseq W1 bW1 l (fun b => O b ∨ b = l)
      (fun OO pre W => ∃ O1, (∀ b, OO b ↔ O1 b ∨ b = l) ∧ ¬ O1 l ∧ ¬ O1 D ∧ I O1 pre W ∧ W.heap[l]? = some (.loop (rec .ready none)) ∧ W.heap[D]? = some (.deferred (some [])) ∧ Grew O O1 w)
      (fun OO pre W => ∃ O1 c, (∀ b, OO b ↔ O1 b ∨ b = l) ∧ ¬ O1 l ∧ ¬ O1 D ∧ Ix c O1 pre W ∧ W.heap[l]? = some (.loop (rec .done (some c))) ∧ W.heap[D]? = some (.deferred (some [])) ∧ Grew O O1 w)
      ?_ ?_ ?_ ?_ ?_ ?_).mono ?_
    · rintro b (h | rfl)
      · exact ⟨(hO b h).1, by have := (hO b h).2; omega⟩
      · exact ⟨fun h => by have := hG _ h; omega, by omega⟩
    · rintro OO pre W ⟨O1, e1, n1, n2, hi, h1, h2, hgr⟩ b hb
      rcases (e1 b).1 hb with h | rfl
      · exact hIs _ _ _ hi b h
      · exact (Array.getElem?_eq_some_iff.1 h1).1
    · rintro OO pre W W' ⟨O1, e1, n1, n2, hi, h1, h2, hgr⟩ hk
      have lw := (Array.getElem?_eq_some_iff.1 h1).1
      refine ⟨O1, e1, n1, n2, hI _ _ _ _ hi (hk.mono fun b _ hb => ⟨fun h => hb.1 ((e1 b).2 (.inl h)), by omega⟩), (hk.block l lw (fun h => h.1 ((e1 l).2 (.inr rfl)))).trans h1, (hk.block D (by omega) (fun h => by omega)).trans h2, hgr⟩
    · rintro OO pre W W' ⟨O1, c, e1, n1, n2, hi, h1, h2, hgr⟩ hk
      have lw := (Array.getElem?_eq_some_iff.1 h1).1
      refine ⟨O1, c, e1, n1, n2, hIx c _ _ _ _ hi (hk.mono fun b _ hb => ⟨fun h => hb.1 ((e1 b).2 (.inl h)), by omega⟩), (hk.block l lw (fun h => h.1 ((e1 l).2 (.inr rfl)))).trans h1, (hk.block D (by omega) (fun h => by omega)).trans h2, hgr⟩
    · rintro OO pre x W ⟨O1, e1, n1, n2, hi, h1, h2, hgr⟩ hpre
      have lw := (Array.getElem?_eq_some_iff.1 h1).1
      have hy := run_yield (P := P) (args := #[enc x]) h1 (by rw [hrec]; exact hps1 x)
      rw [hrec] at hy
      refine ⟨fn, _, assign, body, hy, roundIn_of_wpIn hfn (hassign l x W _ ?_)⟩
      clear hy
      refine ⟨_, run_beginRound h1 (by rw [hrec]), ?_⟩
      obtain ⟨W2, hW2⟩ : ∃ W2, W.putObj l (.loop { rec .ready none with state := .busy }) = W2 := ⟨_, rfl⟩
      have k2 : Keep (fun b => b = l) W W2 := by rw [← hW2]; exact (Keep.refl (fun b => b = l) W).put (.inr rfl) _
      have s2 : W2.heap.size = W.heap.size := by rw [← hW2]; simp
      have l2 : W2.heap[l]? = some (.loop { rec .ready none with state := .busy }) := by rw [← hW2]; exact World.putObj_heap_same lw
      have d2 : W2.heap[D]? = some (.deferred (some [])) := (k2.block D (by omega) (by omega)).trans h2
      have i2 := hI _ _ _ W2 hi (k2.mono fun b _ e => by subst e; exact ⟨n1, by omega⟩)
      have oo : ∀ b, O1 b → OO b := fun b h => (e1 b).2 (.inl h)
      rw [hW2]
      refine wpIn_mono (hbody l O1 pre x W2 i2 (by omega) hpre) ?_
      have fin : ∀ (jump : Option Code) (O' : Nat → Prop) (W3 : World), Grew O1 O' W2 → Keep O1 W2 W3 →
          (Instr.endRound l jump).run P W3 = .ok (.bool jump.isNone) (W3.putObj l (.loop (rec (if jump.isNone then .ready else .done) jump))) ∧ ¬ O' l ∧ ¬ O' D ∧
          Keep (fun b => ¬ O' b ∧ D ≤ b) W3 (W3.putObj l (.loop (rec (if jump.isNone then .ready else .done) jump))) ∧
          (W3.putObj l (.loop (rec (if jump.isNone then .ready else .done) jump))).heap[l]? = some (.loop (rec (if jump.isNone then .ready else .done) jump)) ∧
          (W3.putObj l (.loop (rec (if jump.isNone then .ready else .done) jump))).heap[D]? = some (.deferred (some [])) ∧ Grew O O' w ∧
          Grew OO (fun b => O' b ∨ b = l) W ∧ Keep OO W (W3.putObj l (.loop (rec (if jump.isNone then .ready else .done) jump))) := by
        intro jump O' W3 g3 k3
        have l3 : W3.heap[l]? = some (.loop { rec .ready none with state := .busy }) := (k3.block l (by omega) n1).trans l2
        have lw3 := (Array.getElem?_eq_some_iff.1 l3).1
        have r3 := run_endRound (P := P) jump l3
        rw [hrec] at r3
        have nl : ¬ O' l := fun h => (g3 l h).elim n1 (fun h => by omega)
        have nD : ¬ O' D := fun h => (g3 D h).elim n2 (fun h => by omega)
        refine ⟨by rw [hrec]; exact r3, nl, nD, (Keep.refl _ W3).put (.inr ⟨nl, by omega⟩) _, World.putObj_heap_same lw3, (World.putObj_heap_other (by omega)).trans ((k3.block D (by omega) n2).trans d2), ?_, ?_, ?_⟩
        · intro b hb
          rcases g3 b hb with h | h
          · exact hgr b h
          · exact .inr (by omega)
        · rintro b (hb | rfl)
          · rcases g3 b hb with h | h
            · exact .inl (oo b h)
            · exact .inr (by omega)
          · exact .inl ((e1 b).2 (.inr rfl))
        · exact Keep.put ((k2.mono (fun b _ e => (e1 b).2 (.inr e))).trans k3 (fun b _ h => oo b h)) (.inr ((e1 l).2 (.inr rfl))) _
      rintro e a3 W3 hp
      cases e with
      | normal =>
        obtain ⟨O', hi3, g3, k3⟩ := hp
        obtain ⟨hr, nl, nD, ka, hl4, hd4, gO, gg, kk⟩ := fin none O' W3 g3 k3
        exact ⟨_, _, hr, .inl ⟨rfl, _, ⟨O', fun b => Iff.rfl, nl, nD, hI _ _ _ _ hi3 ka, hl4, hd4, gO⟩, gg, kk⟩⟩
      | ret =>
        obtain ⟨O', hi3, g3, k3⟩ := hp
        obtain ⟨hr, nl, nD, ka, hl4, hd4, gO, gg, kk⟩ := fin (some .ret) O' W3 g3 k3
        exact ⟨_, _, hr, .inr ⟨rfl, _, ⟨O', .ret, fun b => Iff.rfl, nl, nD, hIx _ _ _ _ _ hi3 ka, hl4, hd4, gO⟩, gg, kk⟩⟩
      | exit id =>
        obtain ⟨O', hi3, g3, k3⟩ := hp
        obtain ⟨hr, nl, nD, ka, hl4, hd4, gO, gg, kk⟩ := fin (some (.exit id)) O' W3 g3 k3
        exact ⟨_, _, hr, .inr ⟨rfl, _, ⟨O', .exit id, fun b => Iff.rfl, nl, nD, hIx _ _ _ _ _ hi3 ka, hl4, hd4, gO⟩, gg, kk⟩⟩
      | goto t => exact hp.elim
      | panic ch => exact hp.elim
      | outgrown => exact hp.elim
    · exact ⟨O, fun b => Iff.rfl, fun h => by have := (hO _ h).2; omega, fun h => by have := (hO _ h).2; omega, hI _ _ _ _ h0 (Keep.of bW1'), hL1, hD1, Grew.refl _ _⟩
    · rintro e W2 ⟨⟨v, rfl⟩, (⟨OO, ⟨O1, e1, n1, n2, hi, h1, h2, hgr⟩, _, hk⟩ | ⟨pre, OO, hpre, ⟨O1, c, e1, n1, n2, hi, h1, h2, hgr⟩, _, hk⟩)⟩
      · have lw := (Array.getElem?_eq_some_iff.1 h1).1
        have kw : Keep O w W2 := (Keep.of (F := O) bW1').trans hk (fun b hb h => h.elim id (fun e => by omega))
        exact ⟨none, _, by have := run_endLoop (P := P) h1 (by rw [hrec]; simp); rw [hrec] at this; exact this, hdone D O1 _ (Nat.le_refl _) n2 (hI _ _ _ _ hi ((Keep.refl _ W2).put (.inr ⟨n1, by omega⟩) _)) hgr (kw.put (.inl (by omega)) _) ((World.putObj_heap_other (by omega)).trans h2)⟩
      · have lw := (Array.getElem?_eq_some_iff.1 h1).1
        have kw : Keep O w W2 := (Keep.of (F := O) bW1').trans hk (fun b hb h => h.elim id (fun e => by omega))
        exact ⟨some c, _, by have := run_endLoop (P := P) h1 (by rw [hrec]; simp); rw [hrec] at this; exact this, hstop D c O1 pre _ (Nat.le_refl _) n2 hpre (hIx c _ _ _ _ hi ((Keep.refl _ W2).put (.inr ⟨n1, by omega⟩) _)) hgr (kw.put (.inl (by omega)) _) ((World.putObj_heap_other (by omega)).trans h2)⟩
end Go.Proofs.YtpagnphabchfcaaGreat
/-! ### Blocks; worlds that only grew. -/
namespace Go.Proofs.YtpagnphabchfcaaGreat
open Go.RowKit Go.Shelf
set_option maxRecDepth 100000

/-- The block b is just these cells. -/
def Blk (W : World) (b : Nat) (l : List Value) (t : TypeId) : Prop := W.heap[b]? = some (.cells l.toArray t (0, 0))
section
variable {W W' : World} {b : Nat} {l : List Value} {t : TypeId}
theorem Blk.lt (h : Blk W b l t) : b < W.heap.size := (Array.getElem?_eq_some_iff.1 h).1
theorem Blk.block (h : Blk W b l t) (e : W'.heap[b]? = W.heap[b]?) : Blk W' b l t := e.trans h
theorem Blk.below (h : Blk W b l t) (e : Below W.heap.size W W') : Blk W' b l t := (e.block b h.lt).trans h
theorem Blk.keep {O : Nat → Prop} (h : Blk W b l t) (e : Keep O W W') (hn : ¬ O b) : Blk W' b l t := (e.block b h.lt hn).trans h
theorem blk_new (W : World) (l : List Value) (t : TypeId) : Blk (W.alloc (.cells l.toArray t)) W.heap.size l t := (MapKept.heap_alloc W _).1
theorem blk_at (W : World) (l : List Value) (t : TypeId) {g : Nat} (h : W.heap.size = g) : Blk (W.alloc (.cells l.toArray t)) g l t := by subst h; exact blk_new W l t
theorem Blk.cell (h : Blk W b l t) (j : Nat) : W.cell? ⟨b, j, none⟩ = l[j]? := by
  unfold Blk at h
  simp [World.cell?, h]
theorem Blk.frozen (h : Blk W b l t) (j : Nat) : W.frozen? ⟨b, j, none⟩ = false := by
  unfold Blk at h
  simp [World.frozen?, h]
theorem Blk.set {o : Nat} (h : Blk W b l t) (v : Value) : Blk (W.setCell ⟨b, o, none⟩ v) b (l.set o v) t := by
  unfold Blk at h ⊢
  simp [World.setCell, Array.getElem?_modify, h]
end
theorem bal {w w1 : World} (h : Below w.heap.size w w1) (o : Obj) : Below w.heap.size w (w1.alloc o) := bmore h (al _ _)

/-- Nothing old has turned, and no draw is taken back. -/
structure GB (w w' : World) : Prop where
  b : Below w.heap.size w w'
  d : w.drawn ≤ w'.drawn
theorem GB.refl (w : World) : GB w w := ⟨Below.refl _ _, Nat.le_refl _⟩
theorem GB.trans {a b c : World} (h : GB a b) (k : GB b c) : GB a c := ⟨bmore h.b k.b, Nat.le_trans h.d k.d⟩
theorem GB.al (w : World) (o : Obj) : GB w (w.alloc o) := ⟨YtpagnphabchfcaaGreat.al w o, Nat.le_refl _⟩
theorem GB.drewN (w : World) (n : Nat) : GB w (w.drewN n) := ⟨⟨rfl, rfl, rfl, Nat.le_refl _, fun _ _ => rfl⟩, Nat.le_add_right _ _⟩
theorem GB.drew (w : World) : GB w w.drew := ⟨(Below.refl _ _).drew, Nat.le_succ _⟩
theorem GB.set {w w' : World} (h : GB w w') {p : Addr} (hp : w.heap.size ≤ p.block) (v : Value) : GB w (w'.setCell p v) := ⟨h.b.setCell hp v, h.d⟩
theorem GB.grows {w w' : World} (h : GB w w') : ∃ q os, w' = Sort.grow (w.drewN q) os := by
  obtain ⟨⟨h1, h2, h3, h4, h5⟩, h6⟩ := h
  refine ⟨w'.drawn - w.drawn, w'.heap.extract w.heap.size w'.heap.size, ?_⟩
  obtain ⟨hp, tp, dr, o, out⟩ := w'
  simp only at *
  unfold Sort.grow World.drewN
  simp only [World.mk.injEq]
  refine ⟨?_, h2, by omega, h1, h3⟩
  apply Array.ext_getElem?
  intro i
  by_cases hi : i < w.heap.size
  · rw [h5 i hi, Array.getElem?_append_left hi]
  · rw [Array.getElem?_append_right (by omega), Array.getElem?_extract]
    by_cases hj : i < hp.size
    · rw [if_pos (by omega)]
      congr 1
      omega
    · rw [if_neg (by omega), Array.getElem?_eq_none (by omega)]
end Go.Proofs.YtpagnphabchfcaaGreat
/-! ### Which of two values, and of two lists of values, comes first. -/
namespace Go.Proofs
open Go.Shelf
def Tryz.lays106_ren : Go.Shelf.Ren := ⟨fun | 106 => 94 | 213 => 138 | 265 => 154 | n => n, fun | 9 => 9 | 3 => 3 | n => n, fun | n => n⟩
theorem Tryz.lays106 : Go.Proofs.Lays.n106 Tryz.prog Tryz.lays106_ren := {
  mixed := by kernel_rfl
  f106 := Tryz.func94.trans (congrArg some (by kernel_rfl))
  f213 := Tryz.func138.trans (congrArg some (by kernel_rfl))
  f265 := Tryz.func154.trans (congrArg some (by kernel_rfl))
  t3 := Tryz.underlying3
  a3 := Tryz.isAgg3
  z3 := Tryz.sizeOf3
  v3 := Tryz.zeroValue3
  t9 := Tryz.underlying9
  a9 := Tryz.isAgg9
  z9 := Tryz.sizeOf9
  v9 := Tryz.zeroValue9 }
open Go.RowKit in
theorem Tryz.strings_Compare (a b : ByteArray) (w : World) :
    Calls Tryz.prog 94 #[.string a, .string b] w fun e w' => e = .returned (.int .i64 (Lib.compareBytes a.data.toList b.data.toList)) ∧ w' = w := Any.strings_Compare Tryz.lays106 a b w

end Go.Proofs
namespace Go.Proofs.YtpagnphabchfcaaGreat
open Go.RowKit Go.Shelf
set_option maxRecDepth 100000
theorem cmpI46 (x y : Int) (w : World) : Calls Tryz.prog 80 #[.int .i64 x, .int .i64 y] w fun e w' => e = .returned (.int .i64 (Lib.compareInt x y)) ∧ w' = w := by
  by_cases h1 : x < y
  · have hr : Lib.compareInt x y = -1 := by simp [Lib.compareInt, h1]
    rw [hr]
    go_enter Tryz.func80, Tryz.ntmps80
    go_wp2
    go_ret
    exact ⟨rfl, rfl⟩
  · by_cases h2 : y < x
    · have hr : Lib.compareInt x y = 1 := by simp [Lib.compareInt, h1]; omega
      rw [hr]
      go_enter Tryz.func80, Tryz.ntmps80
      go_wp2
      go_ret
      exact ⟨rfl, rfl⟩
    · have hr : Lib.compareInt x y = 0 := by simp [Lib.compareInt]; omega
      rw [hr]
      go_enter Tryz.func80, Tryz.ntmps80
      go_wp2
      go_ret
      exact ⟨rfl, rfl⟩
theorem cmpI65 (x y : Int) (w : World) : Calls Tryz.prog 86 #[.int .i64 x, .int .i64 y] w fun e w' => e = .returned (.int .i64 (Lib.compareInt x y)) ∧ w' = w := by
  by_cases h1 : x < y
  · have hr : Lib.compareInt x y = -1 := by simp [Lib.compareInt, h1]
    rw [hr]
    go_enter Tryz.func86, Tryz.ntmps86
    go_wp2
    go_ret
    exact ⟨rfl, rfl⟩
  · by_cases h2 : y < x
    · have hr : Lib.compareInt x y = 1 := by simp [Lib.compareInt, h1]; omega
      rw [hr]
      go_enter Tryz.func86, Tryz.ntmps86
      go_wp2
      go_ret
      exact ⟨rfl, rfl⟩
    · have hr : Lib.compareInt x y = 0 := by simp [Lib.compareInt]; omega
      rw [hr]
      go_enter Tryz.func86, Tryz.ntmps86
      go_wp2
      go_ret
      exact ⟨rfl, rfl⟩
theorem cmpK64 (x y : Int) (w : World) : Calls Tryz.prog 85 #[.int .u8 x, .int .u8 y] w fun e w' => e = .returned (.int .i64 (Lib.compareInt x y)) ∧ w' = w := by
  by_cases h1 : x < y
  · have hr : Lib.compareInt x y = -1 := by simp [Lib.compareInt, h1]
    rw [hr]
    go_enter Tryz.func85, Tryz.ntmps85
    go_wp2
    go_ret
    exact ⟨rfl, rfl⟩
  · by_cases h2 : y < x
    · have hr : Lib.compareInt x y = 1 := by simp [Lib.compareInt, h1]; omega
      rw [hr]
      go_enter Tryz.func85, Tryz.ntmps85
      go_wp2
      go_ret
      exact ⟨rfl, rfl⟩
    · have hr : Lib.compareInt x y = 0 := by simp [Lib.compareInt]; omega
      rw [hr]
      go_enter Tryz.func85, Tryz.ntmps85
      go_wp2
      go_ret
      exact ⟨rfl, rfl⟩
theorem word66 (a b : ByteArray) (w : World) : Calls Tryz.prog 76 #[.string a, .string b] w fun e w' => e = .returned (.int .i64 (cmpS a b)) ∧ w' = w := by
  have c := Tryz.strings_Compare a b w
  go_enter Tryz.func76, Tryz.ntmps76
  go_wp2_with (go_at_call 94; refine c.mono ?_; rintro e w1 ⟨rfl, rfl⟩)
  go_ret
  exact ⟨rfl, rfl⟩
/-- A value as it is handed. -/
abbrev V (x : Vt) : Value := .agg #[.int .u8 x.1, .int .i64 x.2.1, .string x.2.2]
set_option maxHeartbeats 2000000 in
theorem value45 (x y : Vt) (w : World) : Calls Tryz.prog 58 #[V x, V y] w fun e w' => e = .returned (.int .i64 (cmpT x y)) ∧ GB w w' := by
  have hA : ∀ o o', GB w ((w.alloc o).alloc o') := fun o o' => (GB.al w o).trans (GB.al _ o')
  obtain ⟨k, n, s⟩ := x
  obtain ⟨k', n', s'⟩ := y
  by_cases hk : k = k'
  · subst hk
    by_cases hn : n = n'
    · subst hn
      have hr : cmpT (k, n, s) (k, n, s') = cmpS s s' := by simp [cmpT, lexP, (ordInt.eq _ _).2]
      rw [hr]
      have c := word66 s s'
      go_enter Tryz.func58, Tryz.ntmps58
      go_wp2_with (go_at_call 76; refine (c _).mono ?_; rintro e w1 ⟨rfl, rfl⟩)
      go_ret
      exact ⟨rfl, hA _ _⟩
    · have hr : cmpT (k, n, s) (k, n', s') = Lib.compareInt n n' := by
        have : ¬ Lib.compareInt n n' = 0 := fun e => hn ((ordInt.eq _ _).1 e)
        simp [cmpT, lexP, (ordInt.eq _ _).2, this]
      have hb : (n != n') = true := by simpa using hn
      rw [hr]
      have c := cmpI65 n n'
      go_enter Tryz.func58, Tryz.ntmps58
      go_wp2_with (go_at_call 86; refine (c _).mono ?_; rintro e w1 ⟨rfl, rfl⟩)
      go_ret
      exact ⟨rfl, hA _ _⟩
  · have hr : cmpT (k, n, s) (k', n', s') = Lib.compareInt k k' := by
      have : ¬ Lib.compareInt k k' = 0 := fun e => hk ((ordInt.eq _ _).1 e)
      simp [cmpT, lexP, this]
    have hb : (k != k') = true := by simpa using hk
    rw [hr]
    have c := cmpK64 k k'
    go_enter Tryz.func58, Tryz.ntmps58
    go_wp2_with (go_at_call 85; refine (c _).mono ?_; rintro e w1 ⟨rfl, rfl⟩)
    go_ret
    exact ⟨rfl, hA _ _⟩
end Go.Proofs.YtpagnphabchfcaaGreat
/-! ### Lists of values in memory; which of two rows comes first. -/
namespace Go.Proofs.YtpagnphabchfcaaGreat
open Go.RowKit Go.Shelf
set_option maxRecDepth 100000
/-- A slice of values reads as vs, from a block outside of X. -/
def SV (w : World) (X : Nat → Prop) (v : Value) (vs : List Vt) : Prop := ∃ a c, v = .slice a vs.length c ∧ (0 < vs.length → ∃ g o, a = some ⟨g, o, none⟩ ∧ g < w.heap.size ∧ ¬ X g ∧
  ∀ (i : Nat) (x : Vt), vs[i]? = some x → w.cell? ⟨g, o + i * 3, none⟩ = some (.int .u8 x.1) ∧ w.cell? ⟨g, o + i * 3 + 1, none⟩ = some (.int .i64 x.2.1) ∧ w.cell? ⟨g, o + i * 3 + 2, none⟩ = some (.string x.2.2))
theorem SV.keep {w w' : World} {X Y : Nat → Prop} {v : Value} {vs : List Vt} (h : SV w X v vs) (k : Keep X w w') (hY : ∀ b, b < w.heap.size → Y b → X b) : SV w' Y v vs := by
  obtain ⟨a, c, rfl, h⟩ := h
  refine ⟨a, c, rfl, fun h0 => ?_⟩
  obtain ⟨g, o, rfl, hg, hx, hc⟩ := h h0
  exact ⟨g, o, rfl, Nat.lt_of_lt_of_le hg k.size, fun y => hx (hY g hg y), fun i s hs => ⟨(k.cell hg hx).trans (hc i s hs).1, (k.cell hg hx).trans (hc i s hs).2.1, (k.cell hg hx).trans (hc i s hs).2.2⟩⟩
theorem SV.mono {w : World} {X Y : Nat → Prop} {v : Value} {vs : List Vt} (h : SV w X v vs) (hY : ∀ b, b < w.heap.size → Y b → X b) : SV w Y v vs := h.keep (Keep.refl _ _) hY
theorem SV.below {w w' : World} {X : Nat → Prop} {v : Value} {vs : List Vt} (h : SV w X v vs) (k : Below w.heap.size w w') : SV w' X v vs := h.keep (Keep.of k) (fun _ _ h => h)
theorem SV.at {w : World} {X : Nat → Prop} {a : Option Addr} {n c : Nat} {vs : List Vt} (h : SV w X (.slice a n c) vs) {k : Nat} {x : Vt} (hy : vs[k]? = some x) : ∃ g o, a = some ⟨g, o, none⟩ ∧ w.cell? ⟨g, o + k * 3, none⟩ = some (.int .u8 x.1) ∧ w.cell? ⟨g, o + k * 3 + 1, none⟩ = some (.int .i64 x.2.1) ∧ w.cell? ⟨g, o + k * 3 + 2, none⟩ = some (.string x.2.2) := by
  obtain ⟨a', c', hv, h⟩ := h
  simp only [Value.slice.injEq] at hv
  obtain ⟨rfl, -, -⟩ := hv
  obtain ⟨g, o, rfl, hg, _, hc⟩ := h (by have := (List.getElem?_eq_some_iff.1 hy).1; omega)
  exact ⟨g, o, rfl, hc k x hy⟩
theorem SV.form {w : World} {X : Nat → Prop} {v : Value} {vs : List Vt} (h : SV w X v vs) : ∃ a c, v = .slice a vs.length c := by
  obtain ⟨a, c, h, _⟩ := h
  exact ⟨a, c, h⟩
theorem SV.nil {w : World} {X : Nat → Prop} (a : Option Addr) (c : Nat) : SV w X (.slice a 0 c) [] := ⟨a, c, rfl, fun h => by simp at h⟩
theorem lexL_step {a b : List Vt} {k : Nat} {x y : Vt} (hx : a[k]? = some x) (hy : b[k]? = some y) : cmpL (a.drop k) (b.drop k) = if cmpT x y = 0 then cmpL (a.drop (k + 1)) (b.drop (k + 1)) else cmpT x y := by
  have h1 := List.getElem?_eq_some_iff.1 hx
  have h2 := List.getElem?_eq_some_iff.1 hy
  rw [List.drop_eq_getElem_cons h1.1, List.drop_eq_getElem_cons h2.1, h1.2, h2.2]
  rfl
set_option maxHeartbeats 2000000 in
theorem cmp44 {w : World} {X : Nat → Prop} {v v' : Value} {a b : List Vt} (ha : SV w X v a) (hb : SV w X v' b) (hza : a.length ≤ 1000000) (hzb : b.length ≤ 1000000) :
    Calls Tryz.prog 79 #[v, v', .func (.func 58) #[] #[]] w fun e w' => e = .returned (.int .i64 (cmpL a b)) ∧ GB w w' := by
  obtain ⟨pa, ca, rfl⟩ := ha.form
  obtain ⟨pb, cb, rfl⟩ := hb.form
  obtain ⟨n, hn⟩ : ∃ n, a.length = n := ⟨_, rfl⟩
  obtain ⟨m, hm⟩ : ∃ m, b.length = m := ⟨_, rfl⟩
  have HA : Hid (SV w X (.slice pa a.length ca) a) := ha
  have HB : Hid (SV w X (.slice pb b.length cb) b) := hb
  have HN : Hid (a.length = n) := hn
  have HM : Hid (b.length = m) := hm
  rw [hn] at hza ⊢
  rw [hm] at hzb ⊢
  clear hn hm ha hb
  go_enter Tryz.func79, Tryz.ntmps79
  go_wp2_with fail
  go_loopw [13] (fun i wr => ∃ k : Nat, i = .int .i64 (k : Int) ∧ Hid (k ≤ n ∧ k ≤ m) ∧ Hid (cmpL a b = cmpL (a.drop k) (b.drop k)) ∧ Hid (GB w wr)) (fun i _ => ((n : Int) - intOf i).toNat)
  case atStart => exact ⟨0, rfl, ⟨by omega, by omega⟩, rfl, GB.refl _⟩
  case round =>
    obtain ⟨k, rfl, hkk, hcmp, hbe⟩ := hrel
    by_cases hlt : k < n
    · have hkz : (k : Int) < (n : Int) := by omega
      have hk0 : (0 : Int) ≤ (k : Int) := by omega
      obtain ⟨x, hx⟩ : ∃ x, a[k]? = some x := ⟨_, List.getElem?_eq_getElem (by rw [HN.out]; exact hlt)⟩
      obtain ⟨b1, o1, rfl, a0, a1, a2⟩ := (SV.below HA.out hbe.out.b).at hx
      by_cases hlm : k < m
      · have hkz2 : ¬ ((m : Int) ≤ (k : Int)) := by omega
        have hkz3 : (k : Int) < (m : Int) := by omega
        obtain ⟨y, hy⟩ : ∃ y, b[k]? = some y := ⟨_, List.getElem?_eq_getElem (by rw [HM.out]; exact hlm)⟩
        have HS : Hid (cmpL a b = if cmpT x y = 0 then cmpL (a.drop (k + 1)) (b.drop (k + 1)) else cmpT x y) := by
          show _ = _
          rw [hcmp.out]; exact lexL_step hx hy
        obtain ⟨b2, o2, rfl, q0, q1, q2⟩ := (SV.below HB.out (hbe.out.b)).at hy
        have p0 := fun ob => ((YtpagnphabchfcaaGreat.al wr ob).cell (p := ⟨b2, o2 + k * 3, none⟩) (World.block_lt_of_cell? wr _ q0)).trans q0
        have p1 := fun ob => ((YtpagnphabchfcaaGreat.al wr ob).cell (p := ⟨b2, o2 + k * 3 + 1, none⟩) (World.block_lt_of_cell? wr _ q1)).trans q1
        have p2 := fun ob => ((YtpagnphabchfcaaGreat.al wr ob).cell (p := ⟨b2, o2 + k * 3 + 2, none⟩) (World.block_lt_of_cell? wr _ q2)).trans q2
        have c45 := fun w => value45 x y w
        clear hcmp hx hy q0 q1 q2
        generalize hT : cmpT x y = T at *
        clear hT
        obtain ⟨xk, xn, xs⟩ := x
        obtain ⟨yk, yn, ys⟩ := y
        simp only at a0 a1 a2 p0 p1 p2 c45
        by_cases hT0 : T = 0
        · subst hT0
          go_wp2_with (go_at_call 58; (with_reducible refine (c45 _).mono ?_); rintro e w1 ⟨rfl, hb1⟩)
          go_roundw
          case rel => exact ⟨k + 1, by simp, ⟨by omega, by omega⟩, by rw [HS.out]; rfl, ((hbe.out.trans (GB.al _ _)).trans (GB.al _ _)).trans hb1⟩
          case measure => simp only [intOf]; omega
        · have hT1 : (T != 0) = true := by simpa using hT0
          go_wp2_with (go_at_call 58; (with_reducible refine (c45 _).mono ?_); rintro e w1 ⟨rfl, hb1⟩)
          go_ret
          exact ⟨by rw [HS.out, if_neg hT0]; rfl, ((hbe.out.trans (GB.al _ _)).trans (GB.al _ _)).trans hb1⟩
      · have hkz2 : (m : Int) ≤ (k : Int) := by omega
        have HS : Hid (cmpL a b = 1) := by
          show _ = _
          rw [hcmp.out, show b.drop k = [] from List.drop_eq_nil_of_le (by rw [HM.out]; omega), List.drop_eq_getElem_cons (List.getElem?_eq_some_iff.1 hx).1]
          rfl
        obtain ⟨xk, xn, xs⟩ := x
        simp only at a0 a1 a2
        clear hcmp hx
        go_wp2
        go_ret
        exact ⟨by rw [HS.out]; rfl, hbe.out.trans (GB.al _ _)⟩
    · have hkz : ¬ ((k : Int) < (n : Int)) := by omega
      have hda : a.drop k = [] := List.drop_eq_nil_of_le (by rw [HN.out]; omega)
      have hc := hcmp.out
      rw [hda] at hc
      by_cases hnm : n < m
      · have hz : (n : Int) < (m : Int) := by omega
        have HS : Hid (cmpL a b = -1) := by
          show _ = _
          rw [hc, List.drop_eq_getElem_cons (by rw [HM.out]; have := hkk.out; omega)]
          rfl
        clear hc hda
        go_wp2
        go_ret
        exact ⟨by rw [HS.out]; rfl, hbe.out⟩
      · have hz : ¬ (n : Int) < (m : Int) := by omega
        have HS : Hid (cmpL a b = 0) := by
          show _ = _
          rw [hc, List.drop_eq_nil_of_le (by rw [HM.out]; have := hkk.out; omega)]
          rfl
        clear hc hda
        go_wp2
        go_ret
        exact ⟨by rw [HS.out]; rfl, hbe.out⟩
/-- A row as it is handed: the slice of its values, its span. -/
abbrev RV (v : Value) (r : Rw) : Value := .agg #[v, .int .i64 r.2.1, .int .i64 r.2.2]
set_option maxHeartbeats 2000000 in
theorem codec30 {w : World} {X : Nat → Prop} {v v' : Value} {r r' : Rw} (ha : SV w X v r.1) (hb : SV w X v' r'.1) (hza : r.1.length ≤ 1000000) (hzb : r'.1.length ≤ 1000000) :
    Calls Tryz.prog 47 #[RV v r, RV v' r'] w fun e w' => e = .returned (.int .i64 (cmpR r r')) ∧ GB w w' := by
  obtain ⟨vs, f, t⟩ := r
  obtain ⟨vs', f', t'⟩ := r'
  simp only at ha hb hza hzb
  have hG : GB w ((w.alloc (.cells #[v, .int .i64 f, .int .i64 t] 64)).alloc (.cells #[v', .int .i64 f', .int .i64 t'] 64)) := (GB.al _ _).trans (GB.al _ _)
  have b0 := (blk_new w [v, .int .i64 f, .int .i64 t] 64).below (YtpagnphabchfcaaGreat.al _ (.cells #[v', .int .i64 f', .int .i64 t'] 64))
  have b1 := blk_at (w.alloc (.cells #[v, .int .i64 f, .int .i64 t] 64)) [v', .int .i64 f', .int .i64 t'] 64 (g := w.heap.size + 1) (by simp)
  change Blk ((w.alloc (.cells #[v, .int .i64 f, .int .i64 t] 64)).alloc (.cells #[v', .int .i64 f', .int .i64 t'] 64)) _ _ _ at b0 b1
  have k44 := cmp44 (ha.below hG.b) (hb.below hG.b) hza hzb
  have HC : Hid (∀ W', Below ((w.alloc (.cells #[v, .int .i64 f, .int .i64 t] 64)).alloc (.cells #[v', .int .i64 f', .int .i64 t'] 64)).heap.size ((w.alloc (.cells #[v, .int .i64 f, .int .i64 t] 64)).alloc (.cells #[v', .int .i64 f', .int .i64 t'] 64)) W' → W'.cell? ⟨w.heap.size, 1, none⟩ = some (.int .i64 f) ∧ W'.cell? ⟨w.heap.size, 2, none⟩ = some (.int .i64 t) ∧ W'.cell? ⟨w.heap.size + 1, 1, none⟩ = some (.int .i64 f') ∧ W'.cell? ⟨w.heap.size + 1, 2, none⟩ = some (.int .i64 t')) := fun W' k => ⟨(b0.below k).cell 1, (b0.below k).cell 2, (b1.below k).cell 1, (b1.below k).cell 2⟩
  have x0 := b0.cell 0
  have x1 := b1.cell 0
  simp only [List.getElem?_cons_zero] at x0 x1
  have HG : Hid _ := hG
  obtain ⟨pa, ca, hva⟩ := ha.form
  obtain ⟨pb, cb, hvb⟩ := hb.form
  subst hva hvb
  clear ha hb b0 b1 hG
  have hr : cmpR (vs, f, t) (vs', f', t') = if cmpL vs vs' = 0 then (if Lib.compareInt f f' = 0 then Lib.compareInt t t' else Lib.compareInt f f') else cmpL vs vs' := rfl
  generalize cmpL vs vs' = z at *
  by_cases hz : z = 0
  · subst hz
    rw [if_pos rfl] at hr
    by_cases hf : f = f'
    · subst hf
      rw [if_pos ((ordInt.eq _ _).2 rfl)] at hr
      rw [hr]
      clear hr
      have c46 := cmpI46 t t'
      go_enter Tryz.func47, Tryz.ntmps47
      go_wp2_with (first
        | (go_at_call 79; (with_reducible refine k44.mono ?_); rintro e w1 ⟨rfl, g1⟩; obtain ⟨y0, y1, y2, y3⟩ := HC.out _ g1.b)
        | (go_at_call 80; (with_reducible refine (c46 _).mono ?_); rintro e w2 ⟨rfl, rfl⟩))
      go_ret
      exact ⟨rfl, HG.out.trans g1⟩
    · have hne : (f != f') = true := by simpa using hf
      rw [if_neg (fun e => hf ((ordInt.eq _ _).1 e))] at hr
      rw [hr]
      clear hr hf
      have c46 := cmpI46 f f'
      go_enter Tryz.func47, Tryz.ntmps47
      go_wp2_with (first
        | (go_at_call 79; (with_reducible refine k44.mono ?_); rintro e w1 ⟨rfl, g1⟩; obtain ⟨y0, y1, y2, y3⟩ := HC.out _ g1.b)
        | (go_at_call 80; (with_reducible refine (c46 _).mono ?_); rintro e w2 ⟨rfl, rfl⟩))
      go_ret
      exact ⟨rfl, HG.out.trans g1⟩
  · have hne : (z != 0) = true := by simpa using hz
    rw [if_neg hz] at hr
    rw [hr]
    clear hr hz
    go_enter Tryz.func47, Tryz.ntmps47
    go_wp2_with (first
      | (go_at_call 79; (with_reducible refine k44.mono ?_); rintro e w1 ⟨rfl, g1⟩; obtain ⟨y0, y1, y2, y3⟩ := HC.out _ g1.b))
    go_ret
    exact ⟨rfl, HG.out.trans g1⟩
set_option maxHeartbeats 1000000 in
theorem sorted37 {w : World} {X : Nat → Prop} {v v' : Value} {r r' : Rw} (ha : SV w X v r.1) (hb : SV w X v' r'.1) (hza : r.1.length ≤ 1000000) (hzb : r'.1.length ≤ 1000000) :
    Calls Tryz.prog 46 #[RV v r, RV v' r'] w fun e w' => e = .returned (.int .i64 (cmpR r r')) ∧ GB w w' := by
  obtain ⟨vs, f, t⟩ := r
  obtain ⟨vs', f', t'⟩ := r'
  simp only at ha hb hza hzb
  have hG : GB w ((w.alloc (.cells #[v, .int .i64 f, .int .i64 t] 64)).alloc (.cells #[v', .int .i64 f', .int .i64 t'] 64)) := (GB.al _ _).trans (GB.al _ _)
  have k30 := codec30 (r := (vs, f, t)) (r' := (vs', f', t')) (ha.below hG.b) (hb.below hG.b) hza hzb
  generalize cmpR (vs, f, t) (vs', f', t') = z at *
  have b0 := (blk_new w [v, .int .i64 f, .int .i64 t] 64).below (YtpagnphabchfcaaGreat.al _ (.cells #[v', .int .i64 f', .int .i64 t'] 64))
  have b1 := blk_at (w.alloc (.cells #[v, .int .i64 f, .int .i64 t] 64)) [v', .int .i64 f', .int .i64 t'] 64 (g := w.heap.size + 1) (by simp)
  change Blk ((w.alloc (.cells #[v, .int .i64 f, .int .i64 t] 64)).alloc (.cells #[v', .int .i64 f', .int .i64 t'] 64)) _ _ _ at b0 b1
  have x0 := b0.cell 0
  have x1 := b0.cell 1
  have x2 := b0.cell 2
  have y0 := b1.cell 0
  have y1 := b1.cell 1
  have y2 := b1.cell 2
  simp only [List.getElem?_cons_zero, List.getElem?_cons_succ] at x0 x1 x2 y0 y1 y2
  have HG : Hid _ := hG
  obtain ⟨pa, ca, hva⟩ := ha.form
  obtain ⟨pb, cb, hvb⟩ := hb.form
  subst hva hvb
  clear ha hb b0 b1 hG
  go_enter Tryz.func46, Tryz.ntmps46
  go_wp2_with (go_at_call 47; (with_reducible refine k30.mono ?_); rintro e w1 ⟨rfl, g1⟩)
  go_ret
  exact ⟨rfl, HG.out.trans g1⟩
end Go.Proofs.YtpagnphabchfcaaGreat
/-! ### Values copied. -/
namespace Go.Proofs.YtpagnphabchfcaaGreat
open Go.RowKit Go.Shelf
set_option maxRecDepth 100000
section
variable {F G : Nat → Prop} {a b c : World}
theorem heap_setCells (b : Nat) : ∀ (vs : List Value) (o : Nat) (w : World) (k : Nat), k ≠ b → (w.setCells b o vs).heap[k]? = w.heap[k]?
  | [], _, _, _, _ => rfl
  | v :: vs, o, w, k, hk => by
    rw [World.setCells, heap_setCells b vs (o + 1) _ k hk]
    exact Below.heap_setCell _ _ _ _ hk
theorem size_setCells (b : Nat) : ∀ (vs : List Value) (o : Nat) (w : World), (w.setCells b o vs).heap.size = w.heap.size
  | [], _, _ => rfl
  | v :: vs, o, w => by rw [World.setCells, size_setCells b vs (o + 1)]; simp [World.setCell]
theorem os_setCells (b : Nat) : ∀ (vs : List Value) (o : Nat) (w : World), (w.setCells b o vs).os = w.os ∧ (w.setCells b o vs).tape = w.tape ∧ (w.setCells b o vs).output = w.output
  | [], _, _ => ⟨rfl, rfl, rfl⟩
  | v :: vs, o, w => by rw [World.setCells]; exact os_setCells b vs (o + 1) _
theorem Keep.sets (h : Keep F a b) {g : Nat} (hp : a.heap.size ≤ g ∨ F g) (o : Nat) (vs : List Value) : Keep F a (b.setCells g o vs) := by
  obtain ⟨h1, h2, h3⟩ := os_setCells g vs o b
  refine ⟨h1.trans h.os, h2.trans h.tape, h3.trans h.output, by rw [size_setCells]; exact h.size, fun k hk hf => ?_⟩
  rw [heap_setCells g vs o b k (fun e => hp.elim (fun h => by omega) (fun h => hf (e ▸ h)))]
  exact h.block k hk hf
theorem Keep.grown (h : Keep F a b) {r : Option Nat} (hg : b.grownBy c r) (hr : ∀ k, r = some k → a.heap.size ≤ k ∨ F k) : Keep F a c :=
  ⟨hg.os.trans h.os, hg.tape.trans h.tape, hg.output.trans h.output, Nat.le_trans h.size hg.size, fun k hk hf => by
    rw [hg.block k (Nat.lt_of_lt_of_le hk h.size) (fun e => (hr k e.symm).elim (fun h => by omega) (fun h => hf h))]; exact h.block k hk hf⟩
end
section
variable {W W' : World} {b o : Nat} {l : List Value} {t : TypeId}
theorem splice_set (l : List Value) (o : Nat) (v : Value) (vs : List Value) (h : o + (v :: vs).length ≤ l.length) : splice (l.set o v) (o + 1) vs = splice l o (v :: vs) := by
  have h' : o < l.length := by simp at h; omega
  unfold splice
  rw [List.take_set, List.take_succ_eq_append_getElem h', List.set_append_right _ _ (by rw [List.length_take]; omega), List.drop_set_of_lt (by omega), List.length_cons, show o + 1 + vs.length = o + (vs.length + 1) by omega]
  have e : o - (l.take o).length = 0 := by rw [List.length_take]; omega
  rw [e]
  simp
theorem Blk.sets : ∀ {vs : List Value} {o : Nat} {l : List Value} {W : World}, Blk W b l t → o + vs.length ≤ l.length → Blk (W.setCells b o vs) b (splice l o vs) t
  | [], o, l, W, h, _ => by
    rw [World.setCells, show splice l o [] = l by simp [splice]]; exact h
  | v :: vs, o, l, W, h, hl => by
    rw [World.setCells, ← splice_set l o v vs hl]
    refine Blk.sets (h.set v) ?_
    simp at hl ⊢
    omega
theorem Blk.range (h : Blk W b l t) {cs : List Value} (e : ∀ j v, cs[j]? = some v → l[o + j]? = some v) : W.rangeAt b o cs := fun j v hv => (h.cell (o + j)).trans (e j v hv)
theorem Blk.there (h : Blk W b l t) {n : Nat} (e : o + n ≤ l.length) : W.there b o n := fun j hj => ⟨by rw [h.cell, List.getElem?_eq_getElem (by omega)]; rfl, h.frozen _⟩
theorem Blk.whole (h : Blk W b l t) : W.rangeAt b 0 l := h.range fun j v hv => by simpa using hv
end
def cellsV (l : List Vt) : List Value := l.flatMap fun x => [.int .u8 x.1, .int .i64 x.2.1, .string x.2.2]
theorem cellsV_length : ∀ l : List Vt, (cellsV l).length = l.length * 3
  | [] => rfl
  | x :: l => by
    have := cellsV_length l
    rw [show cellsV (x :: l) = .int .u8 x.1 :: .int .i64 x.2.1 :: .string x.2.2 :: cellsV l by simp [cellsV]]
    simp [this]; omega
theorem cellsV_one (l : List Vt) : ∀ u ∈ cellsV l, u.oneCell' = true := by
  intro u hu
  simp only [cellsV, List.mem_flatMap, List.mem_cons, List.not_mem_nil, or_false] at hu
  obtain ⟨x, _, rfl | rfl | rfl⟩ := hu <;> rfl
theorem cellsV_get : ∀ (l : List Vt) (i : Nat) (x : Vt), l[i]? = some x → (cellsV l)[i * 3]? = some (.int .u8 x.1) ∧ (cellsV l)[i * 3 + 1]? = some (.int .i64 x.2.1) ∧ (cellsV l)[i * 3 + 2]? = some (.string x.2.2)
  | [], i, x, h => by simp at h
  | y :: l, 0, x, h => by
    simp only [List.getElem?_cons_zero, Option.some.injEq] at h
    subst h
    exact ⟨rfl, rfl, rfl⟩
  | y :: l, i + 1, x, h => by
    have := cellsV_get l i x (by simpa using h)
    rw [show cellsV (y :: l) = .int .u8 y.1 :: .int .i64 y.2.1 :: .string y.2.2 :: cellsV l by simp [cellsV], show (i + 1) * 3 = i * 3 + 1 + 1 + 1 by omega]
    exact this
theorem SV.blk {w : World} {X : Nat → Prop} {g c : Nat} {l : List Vt} {t : TypeId} (h : Blk w g (cellsV l) t) (hx : ¬ X g) : SV w X (.slice (some ⟨g, 0, none⟩) l.length c) l :=
  ⟨_, c, rfl, fun _ => ⟨g, 0, rfl, h.lt, hx, fun i x hx => by
    rw [Nat.zero_add]
    exact ⟨(h.cell _).trans (cellsV_get l i x hx).1, (h.cell _).trans (cellsV_get l i x hx).2.1, (h.cell _).trans (cellsV_get l i x hx).2.2⟩⟩⟩
theorem vals_range {w : World} {g o : Nat} {l : List Vt} (h : ∀ (i : Nat) (x : Vt), l[i]? = some x → w.cell? ⟨g, o + i * 3, none⟩ = some (.int .u8 x.1) ∧ w.cell? ⟨g, o + i * 3 + 1, none⟩ = some (.int .i64 x.2.1) ∧ w.cell? ⟨g, o + i * 3 + 2, none⟩ = some (.string x.2.2)) : w.rangeAt g o (cellsV l) := fun j v hv => by
  have hj := (List.getElem?_eq_some_iff.1 hv).1
  rw [cellsV_length] at hj
  obtain ⟨x, hx⟩ : ∃ x, l[j / 3]? = some x := ⟨_, List.getElem?_eq_getElem (by omega)⟩
  obtain ⟨h1, h2, h3⟩ := h (j / 3) x hx
  obtain ⟨e1, e2, e3⟩ := cellsV_get l (j / 3) x hx
  have hm : j % 3 = 0 ∨ j % 3 = 1 ∨ j % 3 = 2 := by omega
  rcases hm with hm | hm | hm
  · rw [show j / 3 * 3 = j by omega] at h1 e1
    rw [e1] at hv; rw [h1, hv]
  · rw [show o + j / 3 * 3 + 1 = o + j by omega] at h2
    rw [show j / 3 * 3 + 1 = j by omega] at e2
    rw [e2] at hv; rw [h2, hv]
  · rw [show o + j / 3 * 3 + 2 = o + j by omega] at h3
    rw [show j / 3 * 3 + 2 = j by omega] at e3
    rw [e3] at hv; rw [h3, hv]
theorem info54 : (Tryz.prog.info? 25).map (fun i => (i.zero, i.size, i.bytes)) = some (some (.agg #[.int .u8 0, .int .i64 0, .string ByteArray.empty]), 3, 32) := by kernel_rfl
theorem run_make_vals (n : Nat) (hn : n ≤ 100000) (w : World) :
    (Instr.makeSlice 35 (.int .i64 (n : Int)) (.int .i64 (n : Int))).run Tryz.prog w = .ok (.slice (some ⟨w.heap.size, 0, none⟩) n n) (w.alloc (.cells (madeCells #[.int .u8 0, .int .i64 0, .string ByteArray.empty] (n * 3)) 25)) := by
  obtain ⟨i, hi, hzz⟩ := Option.map_eq_some_iff.1 info54
  simp only [Prod.mk.injEq] at hzz
  obtain ⟨hz, hs, hb⟩ := hzz
  have hr := run_make (P := Tryz.prog) w 35 25 i _ Tryz.underlying35 hi hz .i64 .i64 n n (by omega) (Int.le_refl _) (by rw [hb]; omega) (by omega)
  simp only [Int.toNat_natCast, hs] at hr
  exact hr
theorem run_copy_vals {w : World} {X : Nat → Prop} {g N : Nat} {v : Value} {l : List Vt} {cur : List Value} (hv : SV w X v l) (hN : l.length = N) (hb : Blk w g cur 25) (hl : cur.length = N * 3) (ty : TypeId) :
    ∃ w', (Builtin.copy_ #[35, 35] ty #[.slice (some ⟨g, 0, none⟩) N N, v]).run Tryz.prog w = .ok (goInt N) w' ∧ Blk w' g (cellsV l) 25 ∧ Keep (fun k => k = g) w w' := by
  obtain ⟨i, hi, hzz⟩ := Option.map_eq_some_iff.1 info54
  simp only [Prod.mk.injEq] at hzz
  obtain ⟨_, hs, _⟩ := hzz
  obtain ⟨a, c, rfl, hat⟩ := hv
  rw [hN]
  by_cases h0 : N = 0
  · subst h0
    have : l = [] := List.eq_nil_of_length_eq_zero hN
    subst this
    have : cur = [] := List.eq_nil_of_length_eq_zero (by omega)
    subst this
    refine ⟨w, ?_, hb, Keep.refl _ _⟩
    have hl : ∀ (x : Addr), (loadCells x 0).run Tryz.prog w = .ok #[] w := fun x => by simpa using run_loadCells_list (P := Tryz.prog) w x [] (by simp)
    cases a <;> simp [Builtin.copy_, run_underlying Tryz.underlying35, Builtin.lenOf, Builtin.firstCells, sizeOf, typeInfo, hi, hl, storeCells]
  · obtain ⟨g', o, rfl, hgl, _, hco⟩ := hat (by omega)
    have hr := vals_range hco
    have hld := run_loadCells_list (P := Tryz.prog) w ⟨g', o, none⟩ (cellsV l) (fun j u hu => by
      have := hr j u hu
      rwa [show (⟨g', o, none⟩ : Addr).add j = ⟨g', o + j, none⟩ by unfold Addr.add; split <;> simp_all])
    have hcl := cellsV_length l
    rw [hN] at hcl
    have hst := run_storeCells_cells (P := Tryz.prog) g 0 (cellsV l) 0 w (fun j hj => by rw [hb.cell, List.getElem?_eq_getElem (by omega)]; rfl) (fun j _ => hb.frozen _) (cellsV_one l)
    refine ⟨w.setCells g 0 (cellsV l), ?_, ?_, Keep.sets (F := fun k => k = g) (Keep.refl _ w) (.inr rfl) _ _⟩
    · simp [Builtin.copy_, run_underlying Tryz.underlying35, Builtin.lenOf, Builtin.firstCells, sizeOf, typeInfo, hi, hs, ← hcl, hld, hst]
    · have := hb.sets (vs := cellsV l) (o := 0) (by omega)
      rwa [show splice cur 0 (cellsV l) = cellsV l by simp [splice, hcl, hl]] at this
theorem wpList_copy_vals {w : World} {X : Nat → Prop} {ops : Array Oper} {rest : List Oper} {o : Oper} {a : Act} {Q : Exit → Act → World → Prop} (hgd : o.guard = none) (d s : Operand)
    (ho : o.op = .call { callee := .builtin .copy, args := #[d, s], argTypes := #[35, 35] }) (g N : Nat) (v : Value) (l : List Vt) (cur : List Value) (hd : a.eval d = .slice (some ⟨g, 0, none⟩) N N) (hs : a.eval s = v)
    (hv : SV w X v l) (hN : Hid (l.length = N)) (hb : Blk w g cur 25) (hl : cur.length = N * 3)
    (h : ∀ w', Blk w' g (cellsV l) 25 → Keep (fun k => k = g) w w' → wpList Tryz.prog ops Q rest (a.put o.dst (goInt N)) w') : wpList Tryz.prog ops Q (o :: rest) a w := by
  refine wpList_plain hgd fun K hK => ?_
  obtain ⟨w', hrun, h1, h2⟩ := run_copy_vals hv hN.out hb hl o.type
  unfold Oper.wp
  simp [execOp, ho, resolve, invoke, builtin, hd, hs, hrun, Result.andThen]
  exact hK _ _ (h w' h1 h2)
theorem copied20 {w : World} {X : Nat → Prop} {v : Value} {l : List Vt} (hv : SV w X v l) (hl : l.length ≤ 1000) :
    Calls Tryz.prog 63 #[v] w fun e w' => ∃ g, e = .returned (.slice (some ⟨g, 0, none⟩) l.length l.length) ∧ w.heap.size ≤ g ∧ Blk w' g (cellsV l) 25 ∧ Below w.heap.size w w' := by
  have HSV : Hid (∀ w1, Below w.heap.size w w1 → SV w1 X v l) := fun w1 h => hv.below h
  obtain ⟨a, c, rfl⟩ := hv.form
  obtain ⟨N, hN⟩ : ∃ N, l.length = N := ⟨_, rfl⟩
  have HNN : Hid (l.length = N) := hN
  have hmk := run_make_vals N (by omega)
  rw [hN] at hl HSV ⊢
  clear hN hv
  go_enter Tryz.func63, Tryz.ntmps63
  go_wp2_with (refine wpList_copy_vals rfl (.tmp 7) (.tmp 8) rfl w.heap.size N _ l (madeCells #[.int .u8 0, .int .i64 0, .string ByteArray.empty] (N * 3)).toList rfl rfl (HSV.out _ (al _ _)) HNN ?_ ?_ ?_)
  · exact blk_new _ _ _
  · simp [size_madeCells]
  · intro w' hblk hkeep
    have hB : Below w.heap.size w w' := (al _ _).trans (hkeep.below (B := w.heap.size) (by simp) (fun i hi h => by omega))
    go_wp2
    go_ret
    exact ⟨_, rfl, Nat.le_refl _, hblk, hB⟩
end Go.Proofs.YtpagnphabchfcaaGreat
/-! ### Rows in memory; rows of one's own. -/
namespace Go.Proofs.YtpagnphabchfcaaGreat
open Go.RowKit Go.Shelf
set_option maxRecDepth 100000
/-- A row in memory: the slice of its values, the row. -/
abbrev El := Value × Rw
def encE (e : El) : List Value := [e.1, .int .i64 e.2.2.1, .int .i64 e.2.2.2]
def cellsE (es : List El) : List Value := es.flatMap encE
theorem cellsE_length : ∀ l : List El, (cellsE l).length = l.length * 3
  | [] => rfl
  | x :: l => by
    have := cellsE_length l
    rw [show cellsE (x :: l) = encE x ++ cellsE l by simp [cellsE]]
    simp [this, encE]; omega
theorem cellsE_app (l m : List El) : cellsE (l ++ m) = cellsE l ++ cellsE m := by simp [cellsE]
theorem cellsE_get : ∀ (l : List El) (i : Nat) (x : El), l[i]? = some x → (cellsE l)[i * 3]? = some x.1 ∧ (cellsE l)[i * 3 + 1]? = some (.int .i64 x.2.2.1) ∧ (cellsE l)[i * 3 + 2]? = some (.int .i64 x.2.2.2)
  | [], i, x, h => by simp at h
  | y :: l, 0, x, h => by
    simp only [List.getElem?_cons_zero, Option.some.injEq] at h
    subst h
    exact ⟨rfl, rfl, rfl⟩
  | y :: l, i + 1, x, h => by
    have := cellsE_get l i x (by simpa using h)
    rw [show cellsE (y :: l) = y.1 :: .int .i64 y.2.2.1 :: .int .i64 y.2.2.2 :: cellsE l by simp [cellsE, encE], show (i + 1) * 3 = i * 3 + 1 + 1 + 1 by omega]
    exact this
/-- A slice reads as rows, all of it in blocks outside of X. -/
structure RL (w : World) (X : Nat → Prop) (v : Value) (es : List El) : Prop where
  at' : ∃ a c, v = .slice a es.length c ∧ (0 < es.length → ∃ g o, a = some ⟨g, o, none⟩ ∧ g < w.heap.size ∧ ¬ X g ∧
    ∀ (i : Nat) (e : El), es[i]? = some e → w.cell? ⟨g, o + i * 3, none⟩ = some e.1 ∧ w.cell? ⟨g, o + i * 3 + 1, none⟩ = some (.int .i64 e.2.2.1) ∧ w.cell? ⟨g, o + i * 3 + 2, none⟩ = some (.int .i64 e.2.2.2))
  vals : ∀ e ∈ es, SV w X e.1 e.2.1
theorem RL.keep {w w' : World} {X Y : Nat → Prop} {v : Value} {es : List El} (h : RL w X v es) (k : Keep X w w') (hY : ∀ b, b < w.heap.size → Y b → X b) : RL w' Y v es := by
  refine ⟨?_, fun e he => (h.vals e he).keep k hY⟩
  obtain ⟨a, c, rfl, hh⟩ := h.at'
  refine ⟨a, c, rfl, fun h0 => ?_⟩
  obtain ⟨g, o, rfl, hg, hx, hc⟩ := hh h0
  exact ⟨g, o, rfl, Nat.lt_of_lt_of_le hg k.size, fun y => hx (hY g hg y), fun i s hs => ⟨(k.cell hg hx).trans (hc i s hs).1, (k.cell hg hx).trans (hc i s hs).2.1, (k.cell hg hx).trans (hc i s hs).2.2⟩⟩
theorem RL.below {w w' : World} {X : Nat → Prop} {v : Value} {es : List El} (h : RL w X v es) (k : Below w.heap.size w w') : RL w' X v es := h.keep (Keep.of k) (fun _ _ h => h)
theorem RL.mono {w : World} {X Y : Nat → Prop} {v : Value} {es : List El} (h : RL w X v es) (hY : ∀ b, b < w.heap.size → Y b → X b) : RL w Y v es := h.keep (Keep.refl _ _) hY
theorem RL.form {w : World} {X : Nat → Prop} {v : Value} {es : List El} (h : RL w X v es) : ∃ a c, v = .slice a es.length c := by
  obtain ⟨a, c, h, _⟩ := h.at'
  exact ⟨a, c, h⟩
theorem RL.get {w : World} {X : Nat → Prop} {a : Option Addr} {n c : Nat} {es : List El} (h : RL w X (.slice a n c) es) {k : Nat} {e : El} (hy : es[k]? = some e) : ∃ g o, a = some ⟨g, o, none⟩ ∧ g < w.heap.size ∧ ¬ X g ∧ w.cell? ⟨g, o + k * 3, none⟩ = some e.1 ∧ w.cell? ⟨g, o + k * 3 + 1, none⟩ = some (.int .i64 e.2.2.1) ∧ w.cell? ⟨g, o + k * 3 + 2, none⟩ = some (.int .i64 e.2.2.2) := by
  obtain ⟨a', c', hv, hh⟩ := h.at'
  simp only [Value.slice.injEq] at hv
  obtain ⟨rfl, -, -⟩ := hv
  obtain ⟨g, o, rfl, hg, hx, hc⟩ := hh (by have := (List.getElem?_eq_some_iff.1 hy).1; omega)
  exact ⟨g, o, rfl, hg, hx, hc k e hy⟩
theorem RL.nil {w : World} {X : Nat → Prop} (a : Option Addr) (c : Nat) : RL w X (.slice a 0 c) [] := ⟨⟨a, c, rfl, fun h => by simp at h⟩, fun e he => by cases he⟩
/-- Rows in a block of one's own, from the block B on; their values lie elsewhere. -/
structure OwnR (w : World) (B : Nat) (v : Value) (es : List El) : Prop where
  row : w.ownsRow B 64 3 v es.length (cellsE es)
  vals : ∀ e ∈ es, SV w (fun b => v.ownBlock = some b) e.1 e.2.1
theorem OwnR.nil (w : World) (B : Nat) : OwnR w B (.slice none 0 0) [] := ⟨World.ownsRow_nil _ _ _ _, fun e he => by cases he⟩
theorem OwnR.rl {w : World} {B : Nat} {v : Value} {es : List El} (h : OwnR w B v es) : RL w (fun _ => False) v es := by
  refine ⟨?_, fun e he => (h.vals e he).mono (fun _ _ h => h.elim)⟩
  have hc := fun g hg => World.ownsRow.cells h.row (g := g) hg
  have hlt := World.ownsRow.lt h.row
  obtain ⟨_, ⟨rfl, h0⟩ | ⟨g, c, cur, rfl, _⟩⟩ := h.row
  · exact ⟨none, 0, by rw [h0], fun h => by omega⟩
  · refine ⟨_, c, rfl, fun _ => ⟨g, 0, rfl, (hlt g rfl).2, id, fun i e he => ?_⟩⟩
    obtain ⟨e1, e2, e3⟩ := cellsE_get es i e he
    have q1 := hc g rfl _ _ e1
    have q2 := hc g rfl _ _ e2
    have q3 := hc g rfl _ _ e3
    rw [Addr.add_mid] at q1 q2 q3
    exact ⟨q1, by rw [Nat.add_assoc]; exact q2, by rw [Nat.add_assoc]; exact q3⟩
theorem owns_keep {W W' : World} {base e m : Nat} {v : Value} {n : Nat} {xs : List Value} (h : W.ownsRow base e m v n xs) (hk : ∀ k, v.ownBlock = some k → W'.heap[k]? = W.heap[k]?) : W'.ownsRow base e m v n xs := by
  obtain ⟨hl, h | ⟨g, cap, cur, rfl, hg, hblk, r⟩⟩ := h
  · exact ⟨hl, .inl h⟩
  · exact ⟨hl, .inr ⟨g, cap, cur, rfl, hg, (hk g rfl).trans hblk, r⟩⟩
theorem OwnR.below {w w' : World} {B : Nat} {v : Value} {es : List El} (h : OwnR w B v es) (k : Below w.heap.size w w') : OwnR w' B v es :=
  ⟨owns_keep h.row (fun j hj => k.block j (h.row.lt j hj).2), fun e he => (h.vals e he).below k⟩
theorem OwnR.base {w : World} {B B' : Nat} {v : Value} {es : List El} (h : OwnR w B v es) (hB : B' ≤ B) : OwnR w B' v es :=
  ⟨⟨h.row.1, h.row.2.imp id fun ⟨g, cap, cur, h1, h2, h3⟩ => ⟨g, cap, cur, h1, Nat.le_trans hB h2, h3⟩⟩, h.vals⟩
theorem info_parts' {ty : TypeId} {z : Value} {m b : Nat} (h : (Tryz.prog.info? ty).map (fun i => (i.zero, i.size, i.bytes)) = some (some z, m, b)) : ∃ i, Tryz.prog.info? ty = some i ∧ i.zero = some z ∧ i.size = m ∧ i.bytes = b := by
  obtain ⟨i, hi, hzz⟩ := Option.map_eq_some_iff.1 h
  simp only [Prod.mk.injEq] at hzz
  exact ⟨i, hi, hzz⟩
theorem info34 : (Tryz.prog.info? 64).map (fun i => (i.zero, i.size, i.bytes)) = some (some (.agg #[.slice none 0 0, .int .i64 0, .int .i64 0]), 3, 40) := by kernel_rfl
/-- What an append of a row leaves. -/
structure Apd (w w' : World) (B : Nat) (v v' : Value) (es : List El) : Prop where
  own : OwnR w' B v' es
  grown : w.grownBy w' v.ownBlock
  new : ∀ k, v'.ownBlock = some k → v.ownBlock = some k ∨ w.heap.size ≤ k
  nn : v' ≠ .slice none 0 0
theorem keep_of_grown {w w' : World} {o : Option Nat} (g : w.grownBy w' o) : Keep (fun b => o = some b) w w' := ⟨g.os, g.tape, g.output, g.size, fun k hk hn => g.block k hk (fun e => hn e.symm)⟩
theorem OwnR.app {w : World} {B : Nat} {v : Value} {es : List El} (h : OwnR w B v es) (hn : es.length ≤ 100000) (hB : B ≤ w.heap.size) (ty : TypeId) {gb c : Nat} {e : El} (hsv : SV w (fun b => v.ownBlock = some b) e.1 e.2.1)
    (h0 : w.cell? ⟨gb, 0, none⟩ = some e.1) (h1 : w.cell? ⟨gb, 1, none⟩ = some (.int .i64 e.2.2.1)) (h2 : w.cell? ⟨gb, 2, none⟩ = some (.int .i64 e.2.2.2)) :
    ∃ v' w', (Builtin.append_ #[22, 22] ty #[v, .slice (some ⟨gb, 0, none⟩) 1 c]).run Tryz.prog w = .ok v' w' ∧ Apd w w' B v v' (es ++ [e]) := by
  obtain ⟨i0, hi, hz0, hz1, hz2⟩ := info_parts' info34
  have hc : ∀ j x, (encE e)[j]? = some x → w.cell? ((⟨gb, 0, none⟩ : Addr).add j) = some x := fun j x hx => by
    rw [Addr.add_mid, Nat.zero_add]
    match j with
    | 0 => simp [encE] at hx; subst hx; exact h0
    | 1 => simp [encE] at hx; subst hx; exact h1
    | 2 => simp [encE] at hx; subst hx; exact h2
    | j + 3 => simp [encE] at hx
  obtain ⟨pa, ca, hf⟩ := hsv.form
  obtain ⟨v', w', hrun, r1, r2, r3, r4⟩ := run_append_own_at (P := Tryz.prog) w B 22 ty 64 i0 (.agg #[.slice none 0 0, .int .i64 0, .int .i64 0]) 3 40 Tryz.underlying22 hi hz0 hz1 hz2 rfl (by decide) v es.length (cellsE es) h.row ⟨gb, 0, none⟩ 1 c (encE e) rfl hc (by intro u hu; simp [encE] at hu; rcases hu with rfl | rfl | rfl; rw [hf]; rfl; rfl; rfl) (by unfold maxLen; omega) (by omega) hB
  have hnew : ∀ k, v'.ownBlock = some k → v.ownBlock = some k ∨ w.heap.size ≤ k := fun k hk => r4.elim (fun q => .inl (q ▸ hk)) (fun q => .inr (by rw [q] at hk; cases hk; exact Nat.le_refl _))
  refine ⟨v', w', hrun, ⟨?_, fun x hx => ?_⟩, r2, hnew, fun e => by have := (r3.1 e).2; omega⟩
  · rw [List.length_append, cellsE_app, show cellsE [e] = encE e by simp [cellsE]]
    exact r1
  · have hs : SV w (fun b => v.ownBlock = some b) x.1 x.2.1 := by
      rcases List.mem_append.1 hx with hx | hx
      · exact h.vals x hx
      · simp at hx; subst hx; exact hsv
    exact hs.keep (keep_of_grown r2) (fun b hb hy => (hnew b hy).elim id (fun h => by omega))
theorem Apd.below {w w' : World} {B : Nat} {v v' : Value} {es es' : List El} (h : Apd w w' B v v' es') (ho : OwnR w B v es) (hB : B ≤ w.heap.size) : Below B w w' := ⟨h.grown.os, h.grown.tape, h.grown.output, h.grown.size, fun k hk => h.grown.block k (by omega) (fun e => by have := (ho.row.lt k e.symm).1; omega)⟩
theorem step_append_ex {P : Program} {ops : Array Oper} {Q : Exit → Act → World → Prop} {o : Oper} {a : Act} {w : World} {K : Act → World → Prop} {E : Prop} (hgd : o.guard = none) (s x : Operand) (t : TypeId)
    (ho : o.op = .call { callee := .builtin .append, args := #[s, x], argTypes := #[t, t] }) (v y : Value) (hs : a.eval s = v) (hx : a.eval x = y) {R : Value → World → Prop} (hrun : ∃ u w', (Builtin.append_ #[t, t] o.type #[v, y]).run P w = .ok u w' ∧ R u w')
    (h : ∀ u w', R u w' → K (a.put o.dst u) w') : if Region.wanted o (yielded ops a.tmps) = true then Oper.wp P o a w K Q else E := by
  have hw : Region.wanted o (yielded ops a.tmps) = true := by simp [Region.wanted, hgd]
  obtain ⟨u, w', h1, h2⟩ := hrun
  rw [if_pos hw]
  unfold Oper.wp execOp
  simp only [ho, resolve, invoke, builtin, Sem.run_bind, Sem.run_pure, Result.andThen_ok, List.map_toArray, List.map_cons, List.map_nil, hs, hx, h1]
  exact h u w' h2
theorem wpList_append_ex {P : Program} {ops : Array Oper} {rest : List Oper} {o : Oper} {a : Act} {w : World} {Q : Exit → Act → World → Prop} (hgd : o.guard = none) (s x : Operand) (t : TypeId)
    (ho : o.op = .call { callee := .builtin .append, args := #[s, x], argTypes := #[t, t] }) (v y : Value) (hs : a.eval s = v) (hx : a.eval x = y) {R : Value → World → Prop} (hrun : ∃ u w', (Builtin.append_ #[t, t] o.type #[v, y]).run P w = .ok u w' ∧ R u w')
    (h : ∀ u w', R u w' → wpList P ops Q rest (a.put o.dst u) w') : wpList P ops Q (o :: rest) a w := by
  refine wpList_plain hgd fun K hK => ?_
  obtain ⟨u, w', h1, h2⟩ := hrun
  unfold Oper.wp execOp
  simp only [ho, resolve, invoke, builtin, Sem.run_bind, Sem.run_pure, Result.andThen_ok, List.map_toArray, List.map_cons, List.map_nil, hs, hx, h1]
  exact hK _ _ (h u w' h2)
end Go.Proofs.YtpagnphabchfcaaGreat
/-! ### copied. -/
namespace Go.Proofs.YtpagnphabchfcaaGreat
open Go.RowKit Go.Shelf
set_option maxRecDepth 100000
def rws (es : List El) : List Rw := es.map (·.2)
theorem run_make_rows (N : Nat) (hN : N ≤ 100000) (w : World) : ∃ w', (Instr.makeSlice 22 (.int .i64 0) (.int .i64 (N : Int))).run Tryz.prog w = .ok (.slice (some ⟨w.heap.size, 0, none⟩) 0 N) w' ∧ OwnR w' w.heap.size (.slice (some ⟨w.heap.size, 0, none⟩) 0 N) [] ∧ Below w.heap.size w w' := by
  obtain ⟨i0, hi, hz0, hz1, hz2⟩ := info_parts' info34
  obtain ⟨w', h1, h2, h3⟩ := run_make_own (P := Tryz.prog) (w := w) w.heap.size 22 64 i0 _ 3 Tryz.underlying22 hi hz0 hz1 .i64 .i64 N (by rw [hz2]; omega) (by unfold maxLen; omega) (Nat.le_refl _)
  exact ⟨w', h1, ⟨h2, fun e he => by cases he⟩, ⟨h3.os, h3.tape, h3.output, h3.size, fun k hk => h3.block k hk (by simp)⟩⟩
set_option maxHeartbeats 1000000 in
theorem copied35 {w : World} {X : Nat → Prop} {v : Value} {es : List El} (h : RL w X v es) (hl : es.length ≤ 1000) (hv : ∀ e ∈ es, e.2.1.length ≤ 1000) :
    Calls Tryz.prog 44 #[v] w fun e w' => ∃ v' es', e = .returned v' ∧ Hid (v' ≠ .slice none 0 0 ∧ OwnR w' w.heap.size v' es') ∧ Hid (rws es' = rws es) ∧ Below w.heap.size w w' := by
  obtain ⟨a, c, rfl⟩ := h.form
  obtain ⟨N, hN⟩ : ∃ N, es.length = N := ⟨_, rfl⟩
  have HN : Hid _ := hN
  have HR : Hid (RL w X (.slice a es.length c) es) := h
  have HV : Hid _ := hv
  rw [hN] at hl ⊢
  obtain ⟨w1, hmk, ho1, hB1⟩ := run_make_rows N (by omega) w
  have HO1 : Hid _ := ho1
  have HB1 : Hid _ := hB1
  clear h hN hv ho1 hB1
  go_enter Tryz.func44, Tryz.ntmps44
  go_wp2_with fail
  go_loopw [3, 11] (fun fo fi wr => ∃ (k : Nat) (es' : List El), fi = .int .i64 (k : Int) ∧ Hid (k ≤ N) ∧ Hid (fo ≠ .slice none 0 0 ∧ OwnR wr w.heap.size fo es') ∧ Hid (rws es' = (rws es).take k) ∧ Hid (Below w.heap.size w wr)) (fun _ fi _ => ((N : Int) - intOf fi).toNat)
  case atStart => exact ⟨0, [], rfl, Nat.zero_le _, ⟨by simp, HO1.out⟩, rfl, HB1.out⟩
  case round =>
    obtain ⟨k, es', rfl, hk, hO, hE, hB⟩ := hrel
    by_cases hkN : k < N
    · have hki : (k : Int) < (N : Int) := by omega
      have hk0 : (0 : Int) ≤ (k : Int) := by omega
      obtain ⟨e, he⟩ : ∃ e, es[k]? = some e := ⟨_, List.getElem?_eq_getElem (by rw [HN.out]; exact hkN)⟩
      obtain ⟨g, o, rfl, _, _, d0, d1, d2⟩ := (RL.below HR.out hB.out).get he
      have HSV : Hid (SV w X e.1 e.2.1) := HR.out.vals e (List.mem_of_getElem? he)
      have HLen : Hid (e.2.1.length ≤ 1000) := HV.out e (List.mem_of_getElem? he)
      have HTk : Hid ((rws es).take (k + 1) = (rws es).take k ++ [e.2]) := by
        show _ = _
        rw [List.take_add_one, rws, List.getElem?_map, he]
        rfl
      obtain ⟨sv, vs, f, t⟩ := e
      simp only at d0 d1 d2 HSV HLen
      obtain ⟨pa, ca, rfl⟩ := SV.form HSV.out
      have HLo : Hid (∀ b, Value.ownBlock u3 = some b → b < wr.heap.size) := fun b hb => (hO.out.2.row.lt b hb).2
      have hlen : es'.length ≤ 100000 := by
        have := congrArg List.length hE.out
        simp [rws] at this
        omega
      have hA := al wr (.cells #[.slice pa vs.length ca, .int .i64 f, .int .i64 t] 64)
      have b5 := blk_new wr [.slice pa vs.length ca, .int .i64 f, .int .i64 t] 64
      change Blk (wr.alloc (.cells #[.slice pa vs.length ca, .int .i64 f, .int .i64 t] 64)) _ _ _ at b5
      have HSl : Hid (wr.heap.size ≤ (wr.alloc (.cells #[.slice pa vs.length ca, .int .i64 f, .int .i64 t] 64)).heap.size) := hA.size
      clear he
      go_wp2_with fail
      generalize wr.alloc (.cells #[.slice pa vs.length ca, .int .i64 f, .int .i64 t] 64) = W5 at *
      have K0 : Below W5.heap.size W5 W5.drew := (Below.refl _ _).drew
      have HS : Hid (∀ W', Below W5.heap.size W5 W' → W'.cell? ⟨wr.heap.size, 0, none⟩ = some (.slice pa vs.length ca) ∧ W'.cell? ⟨wr.heap.size, 1, none⟩ = some (.int .i64 f) ∧ W'.cell? ⟨wr.heap.size, 2, none⟩ = some (.int .i64 t)) := fun W' k => ⟨(b5.below k).cell 0, (b5.below k).cell 1, (b5.below k).cell 2⟩
      have hS0 := HS.out _ K0
      have k20 := copied20 (w := W5.drew) (SV.below HSV.out (bmore (bmore hB.out hA) K0)) HLen.out
      have HApp : Hid (∀ (g6 : Nat) (w6 : World), Hid (W5.heap.size ≤ g6) → Hid (Blk w6 g6 (cellsV vs) 25) → Hid (Below W5.heap.size W5 w6) → ∃ v7 w7, (Builtin.append_ #[22, 22] 22 #[u3, .slice (some ⟨w6.heap.size, 0, none⟩) 1 1]).run Tryz.prog (w6.alloc (.cells #[.slice (some ⟨g6, 0, none⟩) vs.length vs.length, .int .i64 f, .int .i64 t] 64)) = .ok v7 w7 ∧ Hid (∃ e : El, e.2 = (vs, f, t) ∧ v7 ≠ .slice none 0 0 ∧ OwnR w7 w.heap.size v7 (es' ++ [e])) ∧ Hid (Below w.heap.size w w7) ∧ Hid (w7.cell? ⟨wr.heap.size, 0, none⟩ = some (.slice pa vs.length ca) ∧ w7.cell? ⟨wr.heap.size, 1, none⟩ = some (.int .i64 f) ∧ w7.cell? ⟨wr.heap.size, 2, none⟩ = some (.int .i64 t))) := fun g6 w6 hg6 hb6 B6 => by
        have hal := al w6 (.cells #[.slice (some ⟨g6, 0, none⟩) vs.length vs.length, .int .i64 f, .int .i64 t] 64)
        have K6 := bmore hA (bmore B6.out hal)
        have nb := blk_new w6 [.slice (some ⟨g6, 0, none⟩) vs.length vs.length, .int .i64 f, .int .i64 t] 64
        have HO6 := hO.out.2.below K6
        have HV6 : SV (w6.alloc (.cells #[.slice (some ⟨g6, 0, none⟩) vs.length vs.length, .int .i64 f, .int .i64 t] 64)) (fun b => u3.ownBlock = some b) (.slice (some ⟨g6, 0, none⟩) vs.length vs.length) vs := SV.blk (hb6.out.below hal) (fun q => by have h1 := HLo.out _ q; have h2 := HSl.out; have h3 := hg6.out; omega)
        have hbase := (bmore hB.out K6).size
        obtain ⟨v7, w7, hr7, A7⟩ := OwnR.app HO6 hlen hbase 22 (gb := w6.heap.size) (c := 1) (e := (.slice (some ⟨g6, 0, none⟩) vs.length vs.length, vs, f, t)) HV6 (nb.cell 0) (nb.cell 1) (nb.cell 2)
        have bb := (b5.below (bmore B6.out hal)).keep (keep_of_grown A7.grown) (fun q => by have := HLo.out _ q; omega)
        exact ⟨v7, w7, hr7, ⟨_, rfl, A7.nn, A7.own⟩, (bmore hB.out K6).trans (A7.below HO6 hbase), bb.cell 0, bb.cell 1, bb.cell 2⟩
      clear d0 d1 d2 b5 hA
      go_region_held3 (fun W' => W'.cell? ⟨wr.heap.size, 0, none⟩ = some (.slice pa vs.length ca) ∧ W'.cell? ⟨wr.heap.size, 1, none⟩ = some (.int .i64 f) ∧ W'.cell? ⟨wr.heap.size, 2, none⟩ = some (.int .i64 t)) (first | exact hS0 | exact HS.out _ K1 | exact HS.out _ (bmore K1 (al _ _)) | exact hS7.out) (first
        | (go_at_call 63; (with_reducible refine k20.mono ?_); rintro e w6 ⟨g6, rfl, hg6, hb6, B6⟩; have K1 := bmore K0 B6; have HK1 : Hid (Below W5.heap.size W5 w6) := K1; have Hg6 : Hid (W5.heap.size ≤ g6) := hg6; have Hb6 : Hid (Blk w6 g6 (cellsV vs) 25) := hb6; clear hb6 hg6 B6)
        | (refine step_append_ex (by rfl) (.tmp 15) (.tmp 22) 22 (by rfl) _ _ (by rfl) (by rfl) (HApp.out _ _ (by assumption) (by assumption) (by assumption)) ?_; rintro v7 w7 ⟨hE7, hB7, hS7⟩))
      go_wp2_with fail
      go_roundw
      case rel =>
        obtain ⟨e, he, ho⟩ := hE7.out
        exact ⟨k + 1, es' ++ [e], by simp, by show _ ≤ _; omega, ho, (show rws (es' ++ [e]) = (rws es).take (k + 1) by rw [HTk.out, ← hE.out]; simp only [rws, List.map_append, List.map_cons, List.map_nil, he]), hB7.out⟩
      case measure => simp only [intOf]; omega
    · have hki : ¬ (k : Int) < (N : Int) := by omega
      go_wp2
      go_ret
      exact ⟨_, rfl, es', hO, by rw [hE.out, List.take_of_length_le (by rw [rws, List.length_map, HN.out]; omega)]; rfl, hB.out⟩
end Go.Proofs.YtpagnphabchfcaaGreat
/-! ### slices.SortFunc at rows and at spans: the library's contracts. -/
namespace Go.Proofs
open Go.Shelf
def Tryz.sortRw_ren : Go.Shelf.Ren := ⟨fun | 6 => 45 | 15 => 78 | 14 => 77 | 28 => 103 | 29 => 104 | 20 => 95 | 21 => 96 | 22 => 97 | 23 => 98 | 24 => 99 | 25 => 100 | 26 => 101 | 27 => 102 | 46 => 139 | 47 => 140 | 48 => 141 | 49 => 142 | 50 => 143 | 57 => 155 | n => n, fun | 22 => 22 | 24 => 64 | 25 => 67 | 3 => 3 | 39 => 100 | 0 => 0 | 53 => 124 | 55 => 126 | 4 => 4 | 46 => 117 | 45 => 116 | 50 => 121 | 5 => 5 | 9 => 9 | 66 => 147 | 70 => 151 | 76 => 160 | 77 => 161 | n => n, fun | n => n⟩
theorem Tryz.sortRw : Go.Proofs.SlLaysF0.n6 Tryz.prog Tryz.sortRw_ren := {
  mixed := by kernel_rfl
  f6 := ⟨Tryz.f45.name, by decide, Tryz.func45.trans (congrArg some (by kernel_rfl))⟩
  f14 := ⟨Tryz.f77.name, by decide, Tryz.func77.trans (congrArg some (by kernel_rfl))⟩
  f15 := Tryz.func78.trans (congrArg some (by kernel_rfl))
  f20 := ⟨Tryz.f95.name, by decide, Tryz.func95.trans (congrArg some (by kernel_rfl))⟩
  f21 := ⟨Tryz.f96.name, by decide, Tryz.func96.trans (congrArg some (by kernel_rfl))⟩
  f22 := ⟨Tryz.f97.name, by decide, Tryz.func97.trans (congrArg some (by kernel_rfl))⟩
  f23 := ⟨Tryz.f98.name, by decide, Tryz.func98.trans (congrArg some (by kernel_rfl))⟩
  f24 := ⟨Tryz.f99.name, by decide, Tryz.func99.trans (congrArg some (by kernel_rfl))⟩
  f25 := ⟨Tryz.f100.name, by decide, Tryz.func100.trans (congrArg some (by kernel_rfl))⟩
  f26 := ⟨Tryz.f101.name, by decide, Tryz.func101.trans (congrArg some (by kernel_rfl))⟩
  f27 := ⟨Tryz.f102.name, by decide, Tryz.func102.trans (congrArg some (by kernel_rfl))⟩
  f28 := Tryz.func103.trans (congrArg some (by kernel_rfl))
  f29 := Tryz.func104.trans (congrArg some (by kernel_rfl))
  f46 := ⟨Tryz.f139.name, by decide, Tryz.func139.trans (congrArg some (by kernel_rfl))⟩
  f47 := Tryz.func140.trans (congrArg some (by kernel_rfl))
  f48 := Tryz.func141.trans (congrArg some (by kernel_rfl))
  f49 := ⟨Tryz.f142.name, by decide, Tryz.func142.trans (congrArg some (by kernel_rfl))⟩
  f50 := ⟨Tryz.f143.name, by decide, Tryz.func143.trans (congrArg some (by kernel_rfl))⟩
  f57 := ⟨Tryz.f155.name, by decide, Tryz.func155.trans (congrArg some (by kernel_rfl))⟩
  t0 := Tryz.underlying0
  a0 := Tryz.isAgg0
  z0 := Tryz.sizeOf0
  v0 := Tryz.zeroValue0
  t3 := Tryz.underlying3
  a3 := Tryz.isAgg3
  z3 := Tryz.sizeOf3
  v3 := Tryz.zeroValue3
  t4 := Tryz.underlying4
  a4 := Tryz.isAgg4
  z4 := Tryz.sizeOf4
  v4 := Tryz.zeroValue4
  t5 := Tryz.underlying5
  a5 := Tryz.isAgg5
  z5 := Tryz.sizeOf5
  v5 := Tryz.zeroValue5
  t9 := Tryz.underlying9
  a9 := Tryz.isAgg9
  z9 := Tryz.sizeOf9
  v9 := Tryz.zeroValue9
  t22 := Tryz.underlying22
  a22 := Tryz.isAgg22
  z22 := Tryz.sizeOf22
  v22 := Tryz.zeroValue22
  t25 := Tryz.underlying67
  a25 := Tryz.isAgg67
  z25 := Tryz.sizeOf67
  v25 := Tryz.zeroValue67
  t39 := Tryz.underlying100
  a39 := Tryz.isAgg100
  z39 := Tryz.sizeOf100
  v39 := Tryz.zeroValue100
  t45 := Tryz.underlying116
  a45 := Tryz.isAgg116
  z45 := Tryz.sizeOf116
  v45 := Tryz.zeroValue116
  t46 := Tryz.underlying117
  a46 := Tryz.isAgg117
  z46 := Tryz.sizeOf117
  v46 := Tryz.zeroValue117
  t50 := Tryz.underlying121
  a50 := Tryz.isAgg121
  z50 := Tryz.sizeOf121
  v50 := Tryz.zeroValue121
  t53 := Tryz.underlying124
  a53 := Tryz.isAgg124
  z53 := Tryz.sizeOf124
  v53 := Tryz.zeroValue124
  t55 := Tryz.underlying126
  a55 := Tryz.isAgg126
  z55 := Tryz.sizeOf126
  v55 := Tryz.zeroValue126
  t66 := Tryz.underlying147
  a66 := Tryz.isAgg147
  z66 := Tryz.sizeOf147
  v66 := Tryz.zeroValue147
  t70 := Tryz.underlying151
  a70 := Tryz.isAgg151
  z70 := Tryz.sizeOf151
  v70 := Tryz.zeroValue151
  t76 := Tryz.underlying160
  a76 := Tryz.isAgg160
  z76 := Tryz.sizeOf160
  v76 := Tryz.zeroValue160
  t77 := Tryz.underlying161
  a77 := Tryz.isAgg161
  z77 := Tryz.sizeOf161
  v77 := Tryz.zeroValue161 }
def Tryz.sortSp_ren : Go.Shelf.Ren := ⟨fun | 6 => 128 | 15 => 78 | 14 => 150 | 28 => 103 | 29 => 104 | 20 => 158 | 21 => 159 | 22 => 160 | 23 => 161 | 24 => 162 | 25 => 163 | 26 => 164 | 27 => 165 | 46 => 167 | 47 => 140 | 48 => 141 | 49 => 168 | 50 => 169 | 57 => 170 | n => n, fun | 22 => 80 | 24 => 39 | 25 => 104 | 3 => 3 | 39 => 100 | 0 => 0 | 53 => 124 | 55 => 126 | 4 => 4 | 46 => 117 | 45 => 116 | 50 => 121 | 5 => 5 | 9 => 9 | 66 => 147 | 70 => 151 | 76 => 160 | 77 => 161 | n => n, fun | n => n⟩
theorem Tryz.sortSp : Go.Proofs.SlLaysF0.n6 Tryz.prog Tryz.sortSp_ren := {
  mixed := by kernel_rfl
  f6 := ⟨Tryz.f128.name, by decide, Tryz.func128.trans (congrArg some (by kernel_rfl))⟩
  f14 := ⟨Tryz.f150.name, by decide, Tryz.func150.trans (congrArg some (by kernel_rfl))⟩
  f15 := Tryz.func78.trans (congrArg some (by kernel_rfl))
  f20 := ⟨Tryz.f158.name, by decide, Tryz.func158.trans (congrArg some (by kernel_rfl))⟩
  f21 := ⟨Tryz.f159.name, by decide, Tryz.func159.trans (congrArg some (by kernel_rfl))⟩
  f22 := ⟨Tryz.f160.name, by decide, Tryz.func160.trans (congrArg some (by kernel_rfl))⟩
  f23 := ⟨Tryz.f161.name, by decide, Tryz.func161.trans (congrArg some (by kernel_rfl))⟩
  f24 := ⟨Tryz.f162.name, by decide, Tryz.func162.trans (congrArg some (by kernel_rfl))⟩
  f25 := ⟨Tryz.f163.name, by decide, Tryz.func163.trans (congrArg some (by kernel_rfl))⟩
  f26 := ⟨Tryz.f164.name, by decide, Tryz.func164.trans (congrArg some (by kernel_rfl))⟩
  f27 := ⟨Tryz.f165.name, by decide, Tryz.func165.trans (congrArg some (by kernel_rfl))⟩
  f28 := Tryz.func103.trans (congrArg some (by kernel_rfl))
  f29 := Tryz.func104.trans (congrArg some (by kernel_rfl))
  f46 := ⟨Tryz.f167.name, by decide, Tryz.func167.trans (congrArg some (by kernel_rfl))⟩
  f47 := Tryz.func140.trans (congrArg some (by kernel_rfl))
  f48 := Tryz.func141.trans (congrArg some (by kernel_rfl))
  f49 := ⟨Tryz.f168.name, by decide, Tryz.func168.trans (congrArg some (by kernel_rfl))⟩
  f50 := ⟨Tryz.f169.name, by decide, Tryz.func169.trans (congrArg some (by kernel_rfl))⟩
  f57 := ⟨Tryz.f170.name, by decide, Tryz.func170.trans (congrArg some (by kernel_rfl))⟩
  t0 := Tryz.underlying0
  a0 := Tryz.isAgg0
  z0 := Tryz.sizeOf0
  v0 := Tryz.zeroValue0
  t3 := Tryz.underlying3
  a3 := Tryz.isAgg3
  z3 := Tryz.sizeOf3
  v3 := Tryz.zeroValue3
  t4 := Tryz.underlying4
  a4 := Tryz.isAgg4
  z4 := Tryz.sizeOf4
  v4 := Tryz.zeroValue4
  t5 := Tryz.underlying5
  a5 := Tryz.isAgg5
  z5 := Tryz.sizeOf5
  v5 := Tryz.zeroValue5
  t9 := Tryz.underlying9
  a9 := Tryz.isAgg9
  z9 := Tryz.sizeOf9
  v9 := Tryz.zeroValue9
  t22 := Tryz.underlying80
  a22 := Tryz.isAgg80
  z22 := Tryz.sizeOf80
  v22 := Tryz.zeroValue80
  t25 := Tryz.underlying104
  a25 := Tryz.isAgg104
  z25 := Tryz.sizeOf104
  v25 := Tryz.zeroValue104
  t39 := Tryz.underlying100
  a39 := Tryz.isAgg100
  z39 := Tryz.sizeOf100
  v39 := Tryz.zeroValue100
  t45 := Tryz.underlying116
  a45 := Tryz.isAgg116
  z45 := Tryz.sizeOf116
  v45 := Tryz.zeroValue116
  t46 := Tryz.underlying117
  a46 := Tryz.isAgg117
  z46 := Tryz.sizeOf117
  v46 := Tryz.zeroValue117
  t50 := Tryz.underlying121
  a50 := Tryz.isAgg121
  z50 := Tryz.sizeOf121
  v50 := Tryz.zeroValue121
  t53 := Tryz.underlying124
  a53 := Tryz.isAgg124
  z53 := Tryz.sizeOf124
  v53 := Tryz.zeroValue124
  t55 := Tryz.underlying126
  a55 := Tryz.isAgg126
  z55 := Tryz.sizeOf126
  v55 := Tryz.zeroValue126
  t66 := Tryz.underlying147
  a66 := Tryz.isAgg147
  z66 := Tryz.sizeOf147
  v66 := Tryz.zeroValue147
  t70 := Tryz.underlying151
  a70 := Tryz.isAgg151
  z70 := Tryz.sizeOf151
  v70 := Tryz.zeroValue151
  t76 := Tryz.underlying160
  a76 := Tryz.isAgg160
  z76 := Tryz.sizeOf160
  v76 := Tryz.zeroValue160
  t77 := Tryz.underlying161
  a77 := Tryz.isAgg161
  z77 := Tryz.sizeOf161
  v77 := Tryz.zeroValue161 }
end Go.Proofs
/-! ### slices.SortFunc of rows of one's own; Sorted. -/
namespace Go.Proofs.YtpagnphabchfcaaGreat
open Go.Shelf Go.RowKit Go.Lib Go.Sort
set_option maxRecDepth 100000
/-- Rising, by rows' order. -/
def Rise (l : List Rw) : Prop := l.Pairwise fun a b => cmpR b a ≠ -1
/-- Rows that may lie in the block g: their values lie elsewhere. -/
def Fit (w : World) (g : Nat) (e : El) : Prop := SV w (fun b => b = g) e.1 e.2.1 ∧ e.2.1.length ≤ 1000000
def FitT (w : World) (g : Nat) : Type := { e : El // Fit w g e }
instance (w : World) (g : Nat) : Inhabited (FitT w g) := ⟨⟨(.slice none 0 0, [], 0, 0), SV.nil _ _, by simp⟩⟩
def cfT {w : World} {g : Nat} (x y : FitT w g) : Int := cmpR x.1.2 y.1.2
def encT {w : World} {g : Nat} (x : FitT w g) : List Value := encE x.1
theorem ltT {w : World} {g : Nat} (x y : FitT w g) : ltOf cfT x y = decide (cmpR x.1.2 y.1.2 = -1) := by
  unfold ltOf cfT
  have := ordR.three x.1.2 y.1.2
  by_cases h : cmpR x.1.2 y.1.2 = -1
  · simp [h]
  · simp [h]; omega
theorem swoT {w : World} {g : Nat} : SWO (ltOf (cfT (w := w) (g := g))) where
  irrefl x := by
    rw [ltT]
    have := (ordR.eq x.1.2 x.1.2).2 rfl
    simp; omega
  trans x y z h1 h2 := by
    rw [ltT] at *
    simp only [decide_eq_true_eq] at *
    exact ordR.trans _ _ _ h1 h2
  ntrans x y z h1 h2 := by
    rw [ltT] at *
    simp only [decide_eq_false_iff_not] at *
    intro h3
    have a1 := ordR.three x.1.2 y.1.2
    have a2 := ordR.three y.1.2 z.1.2
    have n1 := ordR.neg x.1.2 y.1.2
    have n2 := ordR.neg y.1.2 z.1.2
    have n3 := ordR.neg x.1.2 z.1.2
    rcases a1 with a1 | a1 | a1
    · exact h1 a1
    · rw [(ordR.eq _ _).1 a1] at h3
      exact h2 h3
    · rcases a2 with a2 | a2 | a2
      · exact h2 a2
      · rw [← (ordR.eq _ _).1 a2] at h3
        omega
      · have := ordR.trans z.1.2 y.1.2 x.1.2 (by omega) (by omega)
        omega
theorem grown_put {w : World} {g n : Nat} {os : Array Obj} (d : Array Value) : w.grownBy (grow (putRow id (Sort.ahead w n) g 0 d) os) (some g) := by
  refine ⟨rfl, rfl, rfl, by simp, fun k hk hne => ?_⟩
  rw [heap_grow_old _ _ (by simpa using hk)]
  have : g ≠ k := fun e => hne (by rw [e])
  simp [putRow, mapBlock, Sort.ahead, Array.getElem?_modify, this]
theorem cmpLays37 (g size : Nat) (w : World) : CmpLays Tryz.prog 46 #[] (encT (w := w) (g := g)) 3 cfT g 0 size w := fun m os dk _ x y => by
  have k : Keep (fun b => b = g) w (sortWorldK encT 3 w g 0 m dk os) := by
    have h := keep_of_grown (grown_put (w := w) (g := g) (n := m) (os := os) (flatK encT 3 dk))
    exact ⟨h.os, h.tape, h.output, h.size, fun k hk hf => h.block k hk (fun e => hf (by cases e; rfl))⟩
  have hx := x.2.1.keep k (Y := fun b => b = g) (fun _ _ h => h)
  have hy := y.2.1.keep k (Y := fun b => b = g) (fun _ _ h => h)
  refine (sorted37 (r := x.1.2) (r' := y.1.2) hx hy x.2.2 y.2.2).mono ?_
  rintro e w' ⟨he, hg⟩
  exact ⟨he, hg.grows⟩
section
variable {w0 : World} {g0 : Nat}
def vals0 (xs : List (FitT w0 g0)) : List El := xs.map (·.1)
theorem flat_get (xs : List (FitT w0 g0)) (j : Nat) (h : j < xs.length * 3) : (flatK encT 3 xs.toArray)[j]! = (cellsE (vals0 xs))[j]'(by rw [cellsE_length]; simpa [vals0] using h) := by
  rw [get_flatK _ _ _ _ (by simpa using h)]
  have hj : j / 3 < xs.length := by omega
  have hx : xs.toArray[j / 3]! = xs[j / 3] := by simp [hj]
  have hv : (vals0 xs)[j / 3]? = some xs[j / 3].1 := by simp [vals0, hj]
  obtain ⟨e1, e2, e3⟩ := cellsE_get (vals0 xs) (j / 3) _ hv
  have hl : j < (cellsE (vals0 xs)).length := by rw [cellsE_length]; simpa [vals0] using h
  rw [hx]
  have hm : j % 3 = 0 ∨ j % 3 = 1 ∨ j % 3 = 2 := by omega
  rcases hm with hr | hr | hr
  · rw [show j / 3 * 3 = j by omega, List.getElem?_eq_getElem hl, Option.some.injEq] at e1
    rw [e1, hr]; rfl
  · rw [show j / 3 * 3 + 1 = j by omega, List.getElem?_eq_getElem hl, Option.some.injEq] at e2
    rw [e2, hr]; rfl
  · rw [show j / 3 * 3 + 2 = j by omega, List.getElem?_eq_getElem hl, Option.some.injEq] at e3
    rw [e3, hr]; rfl
theorem heap_put {w : World} {g n : Nat} {os : Array Obj} {cur : Array Value} {e : TypeId} {fr : Nat × Nat} (d : Array Value) (hb : w.heap[g]? = some (.cells cur e fr)) :
    (grow (putRow id (Sort.ahead w n) g 0 d) os).heap[g]? = some (.cells (putCells id 0 d cur) e fr) := by
  have hg : g < w.heap.size := (Array.getElem?_eq_some_iff.1 hb).1
  rw [heap_grow_old _ _ (by simpa using hg)]
  simp [putRow, mapBlock, Sort.ahead, Array.getElem?_modify, hb, onCells]
theorem take_put (cur : Array Value) (ts : List (FitT w0 g0)) (h : ts.length * 3 ≤ cur.size) : (putCells id 0 (flatK encT 3 ts.toArray) cur).toList.take (ts.length * 3) = cellsE (vals0 ts) := by
  apply List.ext_getElem?
  intro j
  have hlen : (cellsE (vals0 ts)).length = ts.length * 3 := by rw [cellsE_length]; simp [vals0]
  by_cases hj : j < ts.length * 3
  · rw [List.getElem?_take_of_lt hj, Array.getElem?_toList]
    have hf := flat_get ts j hj
    have hs : (flatK (encT (w := w0) (g := g0)) 3 ts.toArray).size = ts.length * 3 := by simp
    rw [List.getElem?_eq_getElem (by omega), ← hf]
    simp [putCells, hj, hs, show j < cur.size by omega]
  · rw [List.getElem?_take_eq_none (by omega), List.getElem?_eq_none (by omega)]
theorem holds_own {w : World} {g : Nat} {cur : Array Value} {e : TypeId} {xs : List (FitT w0 g0)} (hb : w.heap[g]? = some (.cells cur e (0, 0))) (ht : cur.toList.take (xs.length * 3) = cellsE (vals0 xs)) : HoldsK encT 3 w g 0 xs.toArray := by
  intro j hj
  have hj' : j < xs.length * 3 := by simpa using hj
  have hlen : (cellsE (vals0 xs)).length = xs.length * 3 := by rw [cellsE_length]; simp [vals0]
  refine ⟨?_, by simp [World.frozen?, hb]⟩
  rw [flat_get xs j hj']
  have h1 : (cur.toList.take (xs.length * 3))[j]? = (cellsE (vals0 xs))[j]? := by rw [ht]
  rw [List.getElem?_take_of_lt hj', List.getElem?_eq_getElem (l := cellsE (vals0 xs)) (by omega)] at h1
  simp only [World.cell?, hb, Nat.zero_add]
  simp only [Option.isSome_none, Bool.false_eq_true, if_false]
  rw [← Array.getElem?_toList, h1]
  rfl
end
theorem fit_list {w : World} {g : Nat} : ∀ (es : List El), (∀ e ∈ es, Fit w g e) → ∃ xs : List (FitT w g), vals0 xs = es
  | [], _ => ⟨[], rfl⟩
  | e :: es, h => by
    obtain ⟨xs, hx⟩ := fit_list es (fun x hx => h x (by simp [hx]))
    exact ⟨⟨e, h e (by simp)⟩ :: xs, congrArg (List.cons e) hx⟩
/-- Sorting leaves the same rows, rising. -/
theorem sort36 {w : World} {B : Nat} {v : Value} {es : List El} (ho : OwnR w B v es) (hn : v ≠ .slice none 0 0) (hB : B ≤ w.heap.size) (hl : es.length ≤ 100000) (hv : ∀ e ∈ es, e.2.1.length ≤ 1000) :
    Calls Tryz.prog 45 #[v, .func (.func 46) #[] #[]] w fun e w' => e = .returned (.tuple #[]) ∧ ∃ es', es'.Perm es ∧ Rise (rws es') ∧ OwnR w' B v es' ∧ Below B w w' := by
  obtain ⟨h1, h2⟩ := ho.row
  rcases h2 with ⟨rfl, _⟩ | ⟨g, cap, cur, rfl, hb, hg, hnc, hcm, hcs, htake⟩
  · exact absurd rfl hn
  have hfit : ∀ e ∈ es, Fit w g e := fun e he => ⟨(ho.vals e he).mono (fun b _ q => by rw [q]; rfl), Nat.le_trans (hv e he) (by decide)⟩
  obtain ⟨xs, hxs⟩ := fit_list es hfit
  have hlen : xs.length = es.length := by rw [← hxs]; simp [vals0]
  have eg : ∀ args w, (callFunc 46 args).run Tryz.prog w = .ok (.enter 46 args) w := enters_of Tryz.func46 (by kernel_rfl) rfl
  have hcon := AnyQ.slices_SortFunc Tryz.sortRw 3 Tryz.isAgg64 Tryz.sizeOf64 (encT (w := w) (g := g)) (fun _ => rfl) (fun x u hu => by
    obtain ⟨pa, ca, hf⟩ := x.2.1.form
    simp only [encT, encE, List.mem_cons, List.not_mem_nil, or_false] at hu
    rcases hu with rfl | rfl | rfl
    · rw [hf]; rfl
    · rfl
    · rfl) cfT swoT 46 #[] g 0 cap xs.toArray w eg (cmpLays37 g _ w) (holds_own hg (by rw [hxs, hlen]; exact htake)) (Array.getElem?_eq_some_iff.1 hg).1 (by simp; omega)
  change Calls Tryz.prog 45 _ _ _ at hcon
  rw [show xs.toArray.size = es.length by simp [hlen]] at hcon
  refine hcon.mono ?_
  rintro e w' ⟨rfl, d', n, os, hp, hs, rfl⟩
  have hsz : d'.size = es.length := by have := hp.1; simp at this; omega
  have hperm : d'.toList.Perm xs := by
    have h3 := hp.2.2
    have e1 : d'.extract 0 es.length = d' := by rw [← hsz]; simp
    have e2 : xs.toArray.extract 0 es.length = xs.toArray := by rw [← hlen]; simp
    rw [e1, e2] at h3
    simpa using h3
  have hpv : (vals0 d'.toList).Perm es := by
    rw [← hxs]
    exact hperm.map _
  have hdl : d'.toList.length = es.length := by simpa using hsz
  refine ⟨rfl, vals0 d'.toList, hpv, ?_, ⟨?_, ?_⟩, ?_⟩
  · unfold Rise rws vals0
    rw [List.map_map, List.pairwise_map, List.pairwise_iff_getElem]
    intro i j hi hj hij
    have := hs i j (Nat.zero_le _) hij (by omega)
    rw [ltT] at this
    have hj' : j < d'.size := by simpa using hj
    rw [getElem!_pos d' j hj', getElem!_pos d' i (by omega)] at this
    simp only [decide_eq_false_iff_not] at this
    simpa using this
  · unfold sortWorldK putRowK
    have hl2 : (vals0 d'.toList).length = es.length := by simp [vals0, hsz]
    rw [hl2]
    refine ⟨by rw [cellsE_length, hl2], .inr ⟨g, cap, _, rfl, hb, heap_put _ hg, hnc, hcm, by simp [putCells, hcs], ?_⟩⟩
    have := take_put cur d'.toList (by rw [hdl, hcs]; omega)
    rw [hdl] at this
    simpa using this
  · intro e he
    have hk : Keep (fun b => b = g) w (sortWorldK encT 3 w g 0 n d' os) := by
      have h := keep_of_grown (grown_put (w := w) (g := g) (n := n) (os := os) (flatK encT 3 d'))
      exact ⟨h.os, h.tape, h.output, h.size, fun k hk hf => h.block k hk (fun q => hf (by cases q; rfl))⟩
    exact ((hfit e (hpv.mem_iff.1 he)).1).keep hk (fun b _ q => by cases q; rfl)
  · unfold sortWorldK putRowK
    exact (Below.refl _ _).grown (grown_put _) hB (fun k hk => by cases hk; exact hb)
/-- Rows in order. -/
def sortR (l : List Rw) : List Rw := l.mergeSort fun a b => decide (cmpR b a ≠ -1)
theorem rise_unique {l m : List Rw} (h1 : Rise l) (h2 : Rise m) (hp : l.Perm m) : l = m :=
  List.Perm.eq_of_pairwise (fun a b _ _ h k => by
    have t := ordR.three a b
    have n := ordR.neg a b
    exact (ordR.eq a b).1 (by omega)) h1 h2 hp
theorem sortR_perm (l : List Rw) : (sortR l).Perm l := List.mergeSort_perm _ _
theorem sortR_rise (l : List Rw) : Rise (sortR l) := by
  have h := List.pairwise_mergeSort (le := fun a b : Rw => decide (cmpR b a ≠ -1)) (fun a b c h1 h2 => by
    simp only [decide_eq_true_eq] at *
    intro h3
    have a1 := ordR.three a b
    have a2 := ordR.three b c
    have n1 := ordR.neg a b
    have n2 := ordR.neg b c
    have n3 := ordR.neg a c
    rcases a1 with a1 | a1 | a1
    · rcases a2 with a2 | a2 | a2
      · have := ordR.trans _ _ _ a1 a2
        omega
      · obtain rfl := (ordR.eq _ _).1 a2
        exact h1 h3
      · omega
    · obtain rfl := (ordR.eq _ _).1 a1
      exact h2 h3
    · omega) (fun a b => by
    have t := ordR.three a b
    have n := ordR.neg a b
    simp only [Bool.or_eq_true, decide_eq_true_eq]
    omega) l
  exact h.imp (fun h => by simpa using h)
theorem sortR_of {l m : List Rw} (h : Rise l) (hp : l.Perm m) : l = sortR m := rise_unique h (sortR_rise m) (hp.trans (sortR_perm m).symm)
theorem vals_len {es es' : List El} {n : Nat} (h : rws es' = rws es) (hv : ∀ e ∈ es, e.2.1.length ≤ n) : ∀ e ∈ es', e.2.1.length ≤ n := fun e he => by
  have : e.2 ∈ rws es := by rw [← h]; exact List.mem_map.2 ⟨e, he, rfl⟩
  obtain ⟨x, hx, hq⟩ := List.mem_map.1 this
  rw [← hq]
  exact hv x hx
def SPost (w : World) (l : List Rw) (e : Ending) (w' : World) : Prop := ∃ v' es', e = .returned v' ∧ v' ≠ .slice none 0 0 ∧ OwnR w' w.heap.size v' es' ∧ rws es' = l ∧ Below w.heap.size w w'
theorem sorted17 {w : World} {X : Nat → Prop} {v : Value} {es : List El} (h : RL w X v es) (hl : es.length ≤ 1000) (hv : ∀ e ∈ es, e.2.1.length ≤ 1000) :
    Calls Tryz.prog 10 #[v] w (SPost w (sortR (rws es))) := by
  have k35 := copied35 h hl hv
  have HV : Hid _ := hv
  have HL : Hid _ := hl
  clear h hl hv
  go_enter Tryz.func10, Tryz.ntmps10
  go_wp2_with (first
    | (go_at_call 44; (with_reducible refine k35.mono ?_); rintro e w1 ⟨v1, es1, rfl, hO, hE, B1⟩; have k36 := sort36 hO.out.2 hO.out.1 B1.size (by have := congrArg List.length hE.out; have := HL.out; simp [rws] at *; omega) (vals_len hE.out HV.out))
    | (go_at_call 45; (with_reducible refine k36.mono ?_); rintro e w2 ⟨rfl, es2, hp, hr, hO2, B2⟩))
  go_ret
  refine ⟨v1, es2, rfl, hO.out.1, hO2, ?_, B1.trans B2⟩
  rw [← hE.out]
  exact sortR_of hr (hp.map _)
end Go.Proofs.YtpagnphabchfcaaGreat
/-! ### Same. -/
namespace Go.Proofs.YtpagnphabchfcaaGreat
open Go.Shelf Go.RowKit
set_option maxRecDepth 100000
theorem same32 {w : World} {X : Nat → Prop} {v v' : Value} {r r' : Rw} (ha : SV w X v r.1) (hb : SV w X v' r'.1) (hza : r.1.length ≤ 1000000) (hzb : r'.1.length ≤ 1000000) :
    Calls Tryz.prog 51 #[RV v r, RV v' r'] w fun e w' => e = .returned (.bool (decide (r = r'))) ∧ Below w.heap.size w w' := by
  have hd : decide (r = r') = (cmpR r r' == 0) := by
    rw [Bool.eq_iff_iff]
    simp only [decide_eq_true_eq, beq_iff_eq]
    exact (ordR.eq r r').symm
  rw [hd]
  obtain ⟨vs, f, t⟩ := r
  obtain ⟨vs', f', t'⟩ := r'
  simp only at ha hb hza hzb
  have hG : GB w ((w.alloc (.cells #[v, .int .i64 f, .int .i64 t] 64)).alloc (.cells #[v', .int .i64 f', .int .i64 t'] 64)) := (GB.al _ _).trans (GB.al _ _)
  have k30 := codec30 (r := (vs, f, t)) (r' := (vs', f', t')) (ha.below hG.b) (hb.below hG.b) hza hzb
  generalize cmpR (vs, f, t) (vs', f', t') = z at *
  have b0 := (blk_new w [v, .int .i64 f, .int .i64 t] 64).below (YtpagnphabchfcaaGreat.al _ (.cells #[v', .int .i64 f', .int .i64 t'] 64))
  have b1 := blk_at (w.alloc (.cells #[v, .int .i64 f, .int .i64 t] 64)) [v', .int .i64 f', .int .i64 t'] 64 (g := w.heap.size + 1) (by simp)
  change Blk ((w.alloc (.cells #[v, .int .i64 f, .int .i64 t] 64)).alloc (.cells #[v', .int .i64 f', .int .i64 t'] 64)) _ _ _ at b0 b1
  have x0 := b0.cell 0
  have x1 := b0.cell 1
  have x2 := b0.cell 2
  have y0 := b1.cell 0
  have y1 := b1.cell 1
  have y2 := b1.cell 2
  simp only [List.getElem?_cons_zero, List.getElem?_cons_succ] at x0 x1 x2 y0 y1 y2
  have HG : Hid _ := hG
  obtain ⟨pa, ca, hva⟩ := ha.form
  obtain ⟨pb, cb, hvb⟩ := hb.form
  subst hva hvb
  clear ha hb b0 b1 hG hd
  go_enter Tryz.func51, Tryz.ntmps51
  go_wp2_with (go_at_call 47; (with_reducible refine k30.mono ?_); rintro e w1 ⟨rfl, g1⟩)
  go_ret
  exact ⟨rfl, (HG.out.trans g1).b⟩
set_option maxHeartbeats 2000000 in
theorem equal31 {w : World} {X : Nat → Prop} {v v' : Value} {es es' : List El} (h : RL w X v es) (h' : RL w X v' es') (hl : es.length ≤ 1000) (hl' : es'.length ≤ 1000) (hv : ∀ e ∈ es, e.2.1.length ≤ 1000) (hv' : ∀ e ∈ es', e.2.1.length ≤ 1000) :
    Calls Tryz.prog 50 #[v, v', .func (.func 51) #[] #[]] w fun e w' => e = .returned (.bool (decide (rws es = rws es'))) ∧ Below w.heap.size w w' := by
  obtain ⟨a, c, rfl⟩ := h.form
  obtain ⟨a', c', rfl⟩ := h'.form
  obtain ⟨N, hN⟩ : ∃ N, es.length = N := ⟨_, rfl⟩
  obtain ⟨M, hM⟩ : ∃ M, es'.length = M := ⟨_, rfl⟩
  have HN : Hid _ := hN
  have HM : Hid _ := hM
  have HR : Hid (RL w X (.slice a es.length c) es) := h
  have HR' : Hid (RL w X (.slice a' es'.length c') es') := h'
  have HV : Hid _ := hv
  have HV' : Hid _ := hv'
  rw [hN] at hl ⊢
  rw [hM] at hl' ⊢
  by_cases hNM : N = M
  · subst hNM
    have HD : Hid ((rws es = rws es') ↔ rws (es.drop 0) = rws (es'.drop 0)) := by show _ ↔ _; simp
    clear h h' hN hM hv hv'
    go_enter Tryz.func50, Tryz.ntmps50
    go_wp2_with fail
    go_loopw [17] (fun fi wr => ∃ (k : Nat), fi = .int .i64 (k : Int) ∧ Hid (k ≤ N) ∧ Hid ((rws es = rws es') ↔ rws (es.drop k) = rws (es'.drop k)) ∧ Hid (Below w.heap.size w wr)) (fun fi _ => ((N : Int) - intOf fi).toNat)
    case atStart => exact ⟨0, rfl, Nat.zero_le _, HD.out, Below.refl _ _⟩
    case round =>
      obtain ⟨k, rfl, hk, hE, hB⟩ := hrel
      by_cases hkN : k < N
      · have hki : (k : Int) < (N : Int) := by omega
        have hk0 : (0 : Int) ≤ (k : Int) := by omega
        obtain ⟨e, he⟩ : ∃ e, es[k]? = some e := ⟨_, List.getElem?_eq_getElem (by rw [HN.out]; exact hkN)⟩
        obtain ⟨e', he'⟩ : ∃ e, es'[k]? = some e := ⟨_, List.getElem?_eq_getElem (by rw [HM.out]; exact hkN)⟩
        obtain ⟨g, o, rfl, _, _, d0, d1, d2⟩ := (RL.below HR.out hB.out).get he
        obtain ⟨g', o', rfl, _, _, p0, p1, p2⟩ := (RL.below HR'.out hB.out).get he'
        have HSV : Hid (SV wr X e.1 e.2.1) := (HR.out.vals e (List.mem_of_getElem? he)).below hB.out
        have HSV' : Hid (SV wr X e'.1 e'.2.1) := (HR'.out.vals e' (List.mem_of_getElem? he')).below hB.out
        have HL1 : Hid (e.2.1.length ≤ 1000000) := Nat.le_trans (HV.out e (List.mem_of_getElem? he)) (by decide)
        have HL2 : Hid (e'.2.1.length ≤ 1000000) := Nat.le_trans (HV'.out e' (List.mem_of_getElem? he')) (by decide)
        have HStep : Hid (rws (es.drop k) = rws (es'.drop k) ↔ e.2 = e'.2 ∧ rws (es.drop (k + 1)) = rws (es'.drop (k + 1))) := by
          show _ ↔ _
          obtain ⟨h1, h1'⟩ := List.getElem?_eq_some_iff.1 he
          obtain ⟨h2, h2'⟩ := List.getElem?_eq_some_iff.1 he'
          rw [List.drop_eq_getElem_cons h1, List.drop_eq_getElem_cons h2, h1', h2']
          simp [rws]
        have q0 := fun ob => ((YtpagnphabchfcaaGreat.al wr ob).cell (p := ⟨g', o' + k * 3, none⟩) (World.block_lt_of_cell? wr _ p0)).trans p0
        have q1 := fun ob => ((YtpagnphabchfcaaGreat.al wr ob).cell (p := ⟨g', o' + k * 3 + 1, none⟩) (World.block_lt_of_cell? wr _ p1)).trans p1
        have q2 := fun ob => ((YtpagnphabchfcaaGreat.al wr ob).cell (p := ⟨g', o' + k * 3 + 2, none⟩) (World.block_lt_of_cell? wr _ p2)).trans p2
        clear he he' p0 p1 p2
        obtain ⟨sv, vs, f, t⟩ := e
        obtain ⟨sv', vs', f', t'⟩ := e'
        simp only at d0 d1 d2 q0 q1 q2 HSV HSV' HL1 HL2
        obtain ⟨pa, ca, rfl⟩ := SV.form HSV.out
        obtain ⟨pb, cb, rfl⟩ := SV.form HSV'.out
        have hA : Below wr.heap.size wr ((wr.alloc (.cells #[.slice pa vs.length ca, .int .i64 f, .int .i64 t] 64)).alloc (.cells #[.slice pb vs'.length cb, .int .i64 f', .int .i64 t'] 64)) := bmore (al _ _) (al _ _)
        have k32 := same32 (r := (vs, f, t)) (r' := (vs', f', t')) (SV.below HSV.out hA) (SV.below HSV'.out hA) HL1.out HL2.out
        have HA : Hid _ := hA
        clear hA
        by_cases heq : (vs, f, t) = (vs', f', t')
        · rw [show decide ((vs, f, t) = (vs', f', t')) = true by simpa using heq] at k32
          have HEq : Hid _ := heq
          clear heq
          go_wp2_with (go_at_call 51; (with_reducible refine k32.mono ?_); rintro e w1 ⟨rfl, B1⟩)
          go_roundw
          case rel => exact ⟨k + 1, by simp, by show _ ≤ _; omega, by show _ ↔ _; rw [hE.out, HStep.out]; exact ⟨fun h => h.2, fun h => ⟨HEq.out, h⟩⟩, bmore (bmore hB.out HA.out) B1⟩
          case measure => simp only [intOf]; omega
        · rw [show decide ((vs, f, t) = (vs', f', t')) = false by simpa using heq] at k32
          have HNe : Hid (decide (rws es = rws es') = false) := by
            show _ = _
            rw [decide_eq_false_iff_not, hE.out, HStep.out]
            exact fun h => heq h.1
          clear heq
          go_wp2_with (go_at_call 51; (with_reducible refine k32.mono ?_); rintro e w1 ⟨rfl, B1⟩)
          go_ret
          exact ⟨by rw [HNe.out]; rfl, bmore (bmore hB.out HA.out) B1⟩
      · have hki : ¬ (k : Int) < (N : Int) := by omega
        have HT : Hid (decide (rws es = rws es') = true) := by
          show _ = _
          rw [decide_eq_true_eq, hE.out, List.drop_eq_nil_of_le (by rw [HN.out]; omega), List.drop_eq_nil_of_le (by rw [HM.out]; omega)]
        go_wp2
        go_ret
        exact ⟨by rw [HT.out]; rfl, hB.out⟩
  · have hne : ((N : Int) != (M : Int)) = true := by simp; omega
    have HNe : Hid (decide (rws es = rws es') = false) := by
      show _ = _
      rw [decide_eq_false_iff_not]
      intro h
      have := congrArg List.length h
      simp [rws] at this
      omega
    clear h h' hN hM hv hv'
    go_enter Tryz.func50, Tryz.ntmps50
    go_wp2
    go_ret
    exact ⟨by rw [HNe.out]; rfl, Below.refl _ _⟩
theorem rws_vals {es : List El} {l : List Rw} (h : rws es = l) {n : Nat} (hv : ∀ r ∈ l, r.1.length ≤ n) : ∀ e ∈ es, e.2.1.length ≤ n := fun e he => hv e.2 (by rw [← h]; exact List.mem_map.2 ⟨e, he, rfl⟩)
theorem sortR_len (l : List Rw) : (sortR l).length = l.length := (sortR_perm l).length_eq
theorem sortR_vals {l : List Rw} {n : Nat} (hv : ∀ r ∈ l, r.1.length ≤ n) : ∀ r ∈ sortR l, r.1.length ≤ n := fun r hr => hv r ((sortR_perm l).mem_iff.1 hr)
theorem sortR_eq (l m : List Rw) : sortR l = sortR m ↔ l.Perm m := ⟨fun h => (sortR_perm l).symm.trans (h ▸ sortR_perm m), fun h => rise_unique (sortR_rise l) (sortR_rise m) ((sortR_perm l).trans (h.trans (sortR_perm m).symm))⟩
set_option maxHeartbeats 1000000 in
theorem same15 {w : World} {X : Nat → Prop} {v v' : Value} {es es' : List El} (h : RL w X v es) (h' : RL w X v' es') (hl : es.length ≤ 1000) (hl' : es'.length ≤ 1000) (hv : ∀ e ∈ es, e.2.1.length ≤ 1000) (hv' : ∀ e ∈ es', e.2.1.length ≤ 1000) :
    Calls Tryz.prog 12 #[v, v'] w fun e w' => e = .returned (.bool (decide (sortR (rws es) = sortR (rws es')))) ∧ Below w.heap.size w w' := by
  have k1 := sorted17 h hl hv
  have H2 : Hid (∀ w1, Below w.heap.size w w1 → Calls Tryz.prog 10 #[v'] w1 (SPost w1 (sortR (rws es')))) := fun w1 k => sorted17 (h'.below k) hl' hv'
  have H3 : Hid (∀ w1 B B' u u' x x', OwnR w1 B u x → OwnR w1 B' u' x' → rws x = sortR (rws es) → rws x' = sortR (rws es') → Calls Tryz.prog 50 #[u, u', .func (.func 51) #[] #[]] w1 fun e w' => e = .returned (.bool (decide (sortR (rws es) = sortR (rws es')))) ∧ Below w1.heap.size w1 w') := fun w1 B B' u u' x x' o1 o2 e1 e2 => by
    have l1 : x.length = es.length := by have := congrArg List.length e1; rw [sortR_len] at this; simpa [rws] using this
    have l2 : x'.length = es'.length := by have := congrArg List.length e2; rw [sortR_len] at this; simpa [rws] using this
    have := equal31 o1.rl o2.rl (by omega) (by omega) (rws_vals e1 (sortR_vals (fun r hr => by obtain ⟨e, he, rfl⟩ := List.mem_map.1 hr; exact hv e he))) (rws_vals e2 (sortR_vals (fun r hr => by obtain ⟨e, he, rfl⟩ := List.mem_map.1 hr; exact hv' e he)))
    rw [e1, e2] at this
    exact this
  clear h h' hl hl' hv hv'
  go_enter Tryz.func12, Tryz.ntmps12
  go_wp2_with (first
    | (go_at_call 10; (with_reducible refine k1.mono ?_); rintro e w1 ⟨v1, x1, rfl, _, o1, e1, B1⟩; have HO1 : Hid (OwnR w1 w.heap.size v1 x1) := o1; have HE1 : Hid (rws x1 = sortR (rws es)) := e1; clear o1 e1)
    | (go_at_call 10; (with_reducible refine (H2.out _ B1).mono ?_); rintro e w2 ⟨v2, x2, rfl, _, o2, e2, B2⟩; have HO2 : Hid (OwnR w2 w1.heap.size v2 x2) := o2; have HE2 : Hid (rws x2 = sortR (rws es')) := e2; have HO1' : Hid (OwnR w2 w.heap.size v1 x1) := OwnR.below HO1.out B2; clear o2 e2)
    | (go_at_call 50; (with_reducible refine (H3.out _ _ _ _ _ _ _ HO1'.out HO2.out HE1.out HE2.out).mono ?_); rintro e w3 ⟨rfl, B3⟩))
  go_ret
  exact ⟨rfl, bmore (bmore B1 B2) B3⟩
end Go.Proofs.YtpagnphabchfcaaGreat
/-! ### Less, by plain data. -/
namespace Go.Proofs.YtpagnphabchfcaaGreat
open Go.Shelf Go.RowKit
set_option maxRecDepth 100000
instance (priority := 20000) rwBEq : BEq Rw := instBEqOfDecidableEq
instance (priority := 20000) rwLaw : LawfulBEq Rw := inferInstanceAs (@LawfulBEq Rw instBEqOfDecidableEq)
/-- Of rising rows those that the other rising ones do not take away. -/
def lessL : List Rw → List Rw → List Rw
  | [], _ => []
  | x :: a, r => match r.dropWhile (fun y => decide (cmpR y x = -1)) with
    | [] => x :: lessL a []
    | y :: r' => if y = x then lessL a r' else x :: lessL a (y :: r')
theorem lessL_drop {x y : Rw} {a r : List Rw} (h : cmpR y x = -1) : lessL (x :: a) (y :: r) = lessL (x :: a) r := by
  unfold lessL
  rw [List.dropWhile_cons_of_pos (by simpa using h)]
theorem lessL_nil (x : Rw) (a : List Rw) : lessL (x :: a) [] = x :: lessL a [] := by
  conv => lhs; unfold lessL
  rfl
theorem lessL_eq (x : Rw) (a r : List Rw) : lessL (x :: a) (x :: r) = lessL a r := by
  conv => lhs; unfold lessL
  have h0 : ¬ cmpR x x = -1 := by have := (ordR.eq x x).2 rfl; omega
  rw [List.dropWhile_cons_of_neg (by simpa using h0)]
  simp
theorem lessL_ne {x y : Rw} {a r : List Rw} (h1 : ¬ cmpR y x = -1) (h2 : ¬ y = x) : lessL (x :: a) (y :: r) = x :: lessL a (y :: r) := by
  conv => lhs; unfold lessL
  rw [List.dropWhile_cons_of_neg (by simpa using h1)]
  simp [h2]
theorem rise_head {x : Rw} {l : List Rw} (h : Rise (x :: l)) : ∀ y ∈ l, cmpR y x ≠ -1 := (List.pairwise_cons.1 h).1
theorem lessL_count (z : Rw) : ∀ (a r : List Rw), Rise a → Rise r → (lessL a r).count z = a.count z - r.count z
  | [], r, _, _ => by simp [lessL]
  | x :: a, [], ha, hr => by
    rw [lessL_nil, List.count_cons, List.count_cons, lessL_count z a [] (List.pairwise_cons.1 ha).2 hr]
    simp
  | x :: a, y :: r, ha, hr => by
    have ha' := (List.pairwise_cons.1 ha).2
    have hr' := (List.pairwise_cons.1 hr).2
    by_cases h1 : cmpR y x = -1
    · rw [lessL_drop h1, lessL_count z (x :: a) r ha hr', List.count_cons (a := z) (b := y)]
      by_cases hz : y = z
      · subst hz
        have h0 : (x :: a).count y = 0 := by
          rw [List.count_eq_zero]
          intro hm
          rcases List.mem_cons.1 hm with e | hm
          · rw [e] at h1; have := (ordR.eq x x).2 rfl; omega
          · exact rise_head ha y hm h1
        rw [h0]; simp
      · simp [hz]
    · by_cases h2 : y = x
      · subst h2
        rw [lessL_eq, lessL_count z a r ha' hr', List.count_cons, List.count_cons]
        omega
      · rw [lessL_ne h1 h2, List.count_cons, lessL_count z a (y :: r) ha' hr, List.count_cons (a := z) (b := x)]
        by_cases hz : x = z
        · subst hz
          have h0 : (y :: r).count x = 0 := by
            rw [List.count_eq_zero]
            intro hm
            have t := ordR.three x y
            have n := ordR.neg x y
            rcases List.mem_cons.1 hm with e | hm
            · exact h2 e.symm
            · have h3 := rise_head hr x hm
              have : cmpR x y = 0 := by omega
              exact h2 ((ordR.eq _ _).1 this).symm
          rw [h0]; simp
        · simp [hz]
  termination_by a r => a.length + r.length
theorem lessL_sub : ∀ (a r : List Rw), (lessL a r).Sublist a
  | [], r => by simp [lessL]
  | x :: a, [] => by rw [lessL_nil]; exact (lessL_sub a []).cons_cons x
  | x :: a, y :: r => by
    by_cases h1 : cmpR y x = -1
    · rw [lessL_drop h1]; exact lessL_sub (x :: a) r
    · by_cases h2 : y = x
      · subst h2
        rw [lessL_eq]; exact (lessL_sub a r).cons _
      · rw [lessL_ne h1 h2]; exact (lessL_sub a (y :: r)).cons_cons x
  termination_by a r => a.length + r.length
theorem lessL_rise {a r : List Rw} (h : Rise a) : Rise (lessL a r) := h.sublist (lessL_sub a r)
/-- What is in the one alone. -/
def lessR (a b : List Rw) : List Rw := lessL (sortR a) (sortR b)
theorem lessR_count (z : Rw) (a b : List Rw) : (lessR a b).count z = a.count z - b.count z := by
  unfold lessR
  rw [lessL_count z _ _ (sortR_rise a) (sortR_rise b), (sortR_perm a).count_eq, (sortR_perm b).count_eq]
end Go.Proofs.YtpagnphabchfcaaGreat
/-! ### Less. -/
namespace Go.Proofs.YtpagnphabchfcaaGreat
open Go.Shelf Go.RowKit
set_option maxRecDepth 100000
def lenV : Value → Nat
  | .slice _ n _ => n
  | _ => 0
def CapOk (v : Value) : Prop := ∀ a n c, v = .slice a n c → n ≤ c
theorem SV.old {w : World} {v : Value} {vs : List Vt} (h : SV w (fun _ => False) v vs) : SV w (fun b => w.heap.size ≤ b) v vs := by
  obtain ⟨a, c, rfl, h⟩ := h
  refine ⟨a, c, rfl, fun h0 => ?_⟩
  obtain ⟨g, o, rfl, hg, _, hc⟩ := h h0
  exact ⟨g, o, rfl, hg, by omega, hc⟩
theorem RL.old {w : World} {v : Value} {es : List El} (h : RL w (fun _ => False) v es) : RL w (fun b => w.heap.size ≤ b) v es := by
  refine ⟨?_, fun e he => (h.vals e he).old⟩
  obtain ⟨a, c, rfl, hh⟩ := h.at'
  refine ⟨a, c, rfl, fun h0 => ?_⟩
  obtain ⟨g, o, rfl, hg, _, hc⟩ := hh h0
  exact ⟨g, o, rfl, hg, by omega, hc⟩
theorem OwnR.cap {w : World} {B : Nat} {v : Value} {es : List El} (h : OwnR w B v es) : CapOk v := by
  intro a n c hv
  obtain ⟨_, ⟨rfl, _⟩ | ⟨g, cap, cur, rfl, _, _, hnc, _⟩⟩ := h.row
  · cases hv; exact Nat.le_refl _
  · cases hv; exact hnc
/-- Without the first one. -/
theorem RL.tail {w : World} {X : Nat → Prop} {a : Option Addr} {n c : Nat} {e : El} {es : List El} (h : RL w X (.slice a n c) (e :: es)) (hc : n ≤ c) : n = es.length + 1 ∧ RL w X (.slice (if c = 1 then a else Option.map (fun x => x.add 3) a) (n - 1) (c - 1)) es := by
  obtain ⟨a', c', hv, hh⟩ := h.at'
  simp only [Value.slice.injEq, List.length_cons] at hv
  obtain ⟨rfl, rfl, rfl⟩ := hv
  refine ⟨rfl, ?_, fun x hx => h.vals x (by simp [hx])⟩
  refine ⟨if c = 1 then a else Option.map (fun x => x.add 3) a, c - 1, by rw [Nat.add_sub_cancel], fun h0 => ?_⟩
  obtain ⟨g, o, rfl, hg, hx, hce⟩ := hh (by simp)
  refine ⟨g, o + 3, by rw [if_neg (by omega), Option.map_some, Addr.add_mid], hg, hx, fun i s hs => ?_⟩
  have := hce (i + 1) s (by simpa using hs)
  rw [show o + (i + 1) * 3 = o + 3 + i * 3 by omega] at this
  exact this
theorem RL.head {w : World} {X : Nat → Prop} {a : Option Addr} {n c : Nat} {e : El} {es : List El} (h : RL w X (.slice a n c) (e :: es)) : ∃ g o, a = some ⟨g, o, none⟩ ∧ g < w.heap.size ∧ w.cell? ⟨g, o, none⟩ = some e.1 ∧ w.cell? ⟨g, o + 1, none⟩ = some (.int .i64 e.2.2.1) ∧ w.cell? ⟨g, o + 2, none⟩ = some (.int .i64 e.2.2.2) := by
  obtain ⟨g, o, h1, h2, _, h3, h4, h5⟩ := h.get (k := 0) rfl
  rw [Nat.zero_mul, Nat.add_zero] at h3 h4 h5
  exact ⟨g, o, h1, h2, h3, h4, h5⟩
theorem RL.tail' {w : World} {X : Nat → Prop} {g o n c : Nat} {e : El} {es : List El} (h : RL w X (.slice (some ⟨g, o, none⟩) n c) (e :: es)) (hc : n ≤ c) : RL w X (.slice (if c = 1 then some ⟨g, o, none⟩ else some ⟨g, o + 3, none⟩) es.length (c - 1)) es := by
  obtain ⟨h1, h2⟩ := RL.tail h hc
  rw [h1, Nat.add_sub_cancel, Option.map_some, Addr.add_mid] at h2
  exact h2
theorem al3 (w : World) (v : Value) (f t : Int) : Below w.heap.size w (w.alloc (.cells #[v, .int .i64 f, .int .i64 t] 64)) := al _ _
/-- The state of Less's loops. -/
structure LsI (w2 wr : World) (fo fr : Value) (oe re : List El) : Prop where
  own : OwnR wr w2.heap.size fo oe
  rest : RL wr (fun b => w2.heap.size ≤ b) fr re
  cap : CapOk fr
  len : ∀ e ∈ re, e.2.1.length ≤ 1000
  k : Below w2.heap.size w2 wr
theorem LsI.below {w2 wr w' : World} {fo fr : Value} {oe re : List El} (h : LsI w2 wr fo fr oe re) (k : Below wr.heap.size wr w') : LsI w2 w' fo fr oe re := ⟨h.own.below k, h.rest.below k, h.cap, h.len, bmore h.k k⟩
def LPost (w : World) (l : List Rw) (e : Ending) (w' : World) : Prop := ∃ v1 x1, e = .returned v1 ∧ OwnR w' w.heap.size v1 x1 ∧ rws x1 = l ∧ Below w.heap.size w w'
set_option maxHeartbeats 4000000 in
theorem less14 {w : World} {X : Nat → Prop} {v v' : Value} {es es' : List El} (h : RL w X v es) (h' : RL w X v' es') (hl : es.length ≤ 1000) (hl' : es'.length ≤ 1000) (hv : ∀ e ∈ es, e.2.1.length ≤ 1000) (hv' : ∀ e ∈ es', e.2.1.length ≤ 1000) :
    Calls Tryz.prog 14 #[v, v'] w (LPost w (lessR (rws es) (rws es'))) := by
  have k1 := sorted17 h' hl' hv'
  have H2 : Hid (∀ w1, Below w.heap.size w w1 → Calls Tryz.prog 10 #[v] w1 (SPost w1 (sortR (rws es)))) := fun w1 k => sorted17 (h.below k) hl hv
  have HV : Hid (∀ r ∈ sortR (rws es), r.1.length ≤ 1000) := sortR_vals (fun r hr => by obtain ⟨e, he, rfl⟩ := List.mem_map.1 hr; exact hv e he)
  have HV' : Hid (∀ r ∈ sortR (rws es'), r.1.length ≤ 1000) := sortR_vals (fun r hr => by obtain ⟨e, he, rfl⟩ := List.mem_map.1 hr; exact hv' e he)
  have HNl : Hid ((sortR (rws es)).length ≤ 1000) := by show _ ≤ _; rw [sortR_len]; simpa [rws] using hl
  have HLR : Hid (lessR (rws es) (rws es') = lessL (sortR (rws es)) (sortR (rws es'))) := rfl
  clear h h' hl hl' hv hv'
  generalize hA0 : sortR (rws es) = A at *
  generalize hB0 : sortR (rws es') = Bl at *
  generalize lessR (rws es) (rws es') = LR at *
  clear hA0 hB0
  go_enter Tryz.func14, Tryz.ntmps14
  go_wp2_with (first
    | (go_at_call 10; (with_reducible refine k1.mono ?_); rintro e w1 ⟨v1, x1, rfl, _, o1, e1, B1⟩; have HO1 : Hid (OwnR w1 w.heap.size v1 x1) := o1; have HE1 : Hid (rws x1 = Bl) := e1; clear o1 e1)
    | (go_at_call 10; (with_reducible refine (H2.out _ B1).mono ?_); rintro e w2 ⟨v2, x2, rfl, _, o2, e2, B2⟩; have HO2 : Hid (OwnR w2 w1.heap.size v2 x2) := o2; have HE2 : Hid (rws x2 = A) := e2; have HO1' : Hid (OwnR w2 w.heap.size v1 x1) := OwnR.below HO1.out B2; clear o2 e2; obtain ⟨a2, c2, hv2⟩ := (OwnR.rl HO2.out).form; subst hv2))
  all_goals skip
  obtain ⟨N, hN⟩ : ∃ N, x2.length = N := ⟨_, rfl⟩
  have HN : Hid _ := hN
  have HR2 : Hid (RL w2 (fun b => w2.heap.size ≤ b) (.slice a2 x2.length c2) x2) := RL.old (OwnR.rl HO2.out)
  have hNl : N ≤ 1000 := by have h1 := congrArg List.length HE2.out; have h2 := HNl.out; simp [rws] at h1; omega
  have HI0 : Hid (LsI w2 w2 (.slice none 0 0) v1 [] x1) := ⟨OwnR.nil _ _, RL.old (OwnR.rl HO1'.out), OwnR.cap HO1'.out, rws_vals HE1.out HV'.out, Below.refl _ _⟩
  have HW2 : Hid (Below w.heap.size w w2) := bmore B1 B2
  rw [hN]
  clear hN k1 B1 B2
  go_loopw [5, 6, 14] (fun fo fr fi wr => ∃ (k : Nat) (oe re : List El), fi = .int .i64 (k : Int) ∧ Hid (k ≤ N ∧ oe.length ≤ k) ∧ Hid (LsI w2 wr fo fr oe re) ∧ Hid (rws oe ++ lessL (A.drop k) (rws re) = LR)) (fun _ _ fi _ => ((N : Int) - intOf fi).toNat)
  case atStart => exact ⟨0, [], x1, rfl, ⟨Nat.zero_le _, by simp⟩, HI0.out, by show _ = _; rw [HLR.out, HE1.out]; simp [rws]⟩
  case round =>
    obtain ⟨k, oe, re, rfl, hk, hI, hE⟩ := hrel
    by_cases hkN : k < N
    · have hki : (k : Int) < (N : Int) := by omega
      have hk0 : (0 : Int) ≤ (k : Int) := by omega
      obtain ⟨e, he⟩ : ∃ e, x2[k]? = some e := ⟨_, List.getElem?_eq_getElem (by rw [HN.out]; exact hkN)⟩
      have HAk : Hid (A.drop k = e.2 :: A.drop (k + 1)) := by
        show _ = _
        rw [← HE2.out]
        obtain ⟨h1, h2⟩ := List.getElem?_eq_some_iff.1 he
        rw [List.drop_eq_getElem_cons (by simpa [rws] using h1)]
        congr 1
        simp [rws, h2]
      obtain ⟨g, o, rfl, _, _, d0, d1, d2⟩ := (RL.below HR2.out hI.out.k).get he
      have HSV : Hid (SV wr (fun b => w2.heap.size ≤ b) e.1 e.2.1) := (HR2.out.vals e (List.mem_of_getElem? he)).below hI.out.k
      have HLe : Hid (e.2.1.length ≤ 1000) := rws_vals HE2.out HV.out e (List.mem_of_getElem? he)
      obtain ⟨sv, vs, f, t⟩ := e
      simp only at d0 d1 d2 HSV HLe HAk
      obtain ⟨pa, ca, rfl⟩ := SV.form HSV.out
      have b8 := blk_new wr [.slice pa vs.length ca, .int .i64 f, .int .i64 t] 64
      have hA8 := al3 wr (.slice pa vs.length ca) f t
      change Blk (wr.alloc (.cells #[.slice pa vs.length ca, .int .i64 f, .int .i64 t] 64)) _ _ _ at b8
      have HI8 : Hid _ := LsI.below hI.out hA8
      have HSV8 : Hid _ := SV.below HSV.out hA8
      clear he
      go_wp2_with fail
      generalize wr.alloc (.cells #[.slice pa vs.length ca, .int .i64 f, .int .i64 t] 64) = W8 at *
      generalize wr.heap.size = bx at *
      have HC : Hid (∀ W', Below W8.heap.size W8 W' → W'.cell? ⟨bx, 0, none⟩ = some (.slice pa vs.length ca) ∧ W'.cell? ⟨bx, 1, none⟩ = some (.int .i64 f) ∧ W'.cell? ⟨bx, 2, none⟩ = some (.int .i64 t)) := fun W' k => ⟨(b8.below k).cell 0, (b8.below k).cell 1, (b8.below k).cell 2⟩
      clear b8 d0 d1 d2
      have HApp : Hid (∀ (w6 : World) (fr : Value) (re' : List El), Hid (LsI w2 w6 u5 fr oe re') → Hid (Below W8.heap.size W8 w6) → ∃ v7 w7, (Builtin.append_ #[22, 22] 22 #[u5, .slice (some ⟨w6.heap.size, 0, none⟩) 1 1]).run Tryz.prog (w6.alloc (.cells #[.slice pa vs.length ca, .int .i64 f, .int .i64 t] 64)) = .ok v7 w7 ∧ Hid (LsI w2 w7 v7 fr (oe ++ [(.slice pa vs.length ca, vs, f, t)]) re')) := fun w6 fr re' hI6 hB6 => by
        have hal := al3 w6 (.slice pa vs.length ca) f t
        have I6 := hI6.out.below hal
        have nb := blk_new w6 [.slice pa vs.length ca, .int .i64 f, .int .i64 t] 64
        have hsv : SV (w6.alloc (.cells #[.slice pa vs.length ca, .int .i64 f, .int .i64 t] 64)) (fun b => u5.ownBlock = some b) (.slice pa vs.length ca) vs := (SV.below (SV.below HSV8.out hB6.out) hal).mono (fun b _ q => (I6.own.row.lt b q).1)
        obtain ⟨v7, w7, hr7, A7⟩ := OwnR.app I6.own (by have := hk.out; omega) I6.k.size 22 (gb := w6.heap.size) (c := 1) (e := (.slice pa vs.length ca, vs, f, t)) hsv (nb.cell 0) (nb.cell 1) (nb.cell 2)
        refine ⟨v7, w7, hr7, A7.own, ?_, I6.cap, I6.len, I6.k.trans (A7.below I6.own I6.k.size)⟩
        exact I6.rest.keep ((keep_of_grown A7.grown).mono (fun b _ q => (I6.own.row.lt b q).1)) (fun _ _ h => h)
      go_loopw [6] (fun fr wr => ∃ re', Hid (LsI w2 wr u5 fr oe re') ∧ Hid (Below W8.heap.size W8 wr) ∧ Hid (lessL ((vs, f, t) :: A.drop (k + 1)) (rws re') = lessL ((vs, f, t) :: A.drop (k + 1)) (rws re))) (fun fr _ => lenV fr)
      case atStart => exact ⟨re, HI8.out, Below.refl _ _, rfl⟩
      case round =>
        obtain ⟨re', hIq, hBq, hEq⟩ := hrel
        obtain ⟨aq, cq, hvq⟩ := hIq.out.rest.form
        cases re' with
        | nil =>
          simp only [List.length_nil] at hvq
          subst hvq
          go_wp2_with fail
          go_big_quiet (fail)
          have Ky : Below wr.heap.size wr (wr.drewN nq) := ⟨rfl, rfl, rfl, Nat.le_refl _, fun _ _ => rfl⟩
          generalize wr.drewN nq = wy at *
          go_wp2_with fail
          go_big_quiet (fail)
          have Kz : Below wr.heap.size wr (wy.drewN nq) := bmore Ky ⟨rfl, rfl, rfl, Nat.le_refl _, fun _ _ => rfl⟩
          have HIz : Hid (LsI w2 (wy.drewN nq) u5 (.slice aq 0 cq) oe []) := LsI.below hIq.out Kz
          have HBz : Hid (Below W8.heap.size W8 (wy.drewN nq)) := bmore hBq.out Kz
          obtain ⟨z0, z1, z2⟩ := HC.out _ HBz.out
          generalize wy.drewN nq = wz at *
          go_wp2_with (at_builtin; refine wpList_append_ex (by rfl) (.tmp 44) (.tmp 46) 22 (by rfl) _ _ (by rfl) (by rfl) (HApp.out _ _ _ HIz HBz) ?_; rintro v7 w7 hI7)
          go_roundw
          case rel => exact ⟨k + 1, oe ++ [(Value.slice pa vs.length ca, vs, f, t)], [], by simp, ⟨by omega, by have := hk.out; simp; omega⟩, hI7.out, by show _ = _; rw [← hE.out, HAk.out, ← hEq.out, show rws ([] : List El) = [] from rfl, lessL_nil]; simp [rws]⟩
          case measure => simp only [intOf]; omega
        | cons y re'' =>
          subst hvq
          obtain ⟨g', o', rfl, hg', _, _, _⟩ := RL.head hIq.out.rest
          have HTail : Hid (∀ W', Below wr.heap.size wr W' → LsI w2 W' u5 (.slice (if cq = 1 then some ⟨g', o', none⟩ else some ⟨g', o' + 3, none⟩) re''.length (cq - 1)) oe re'') := fun W' kk => ⟨hIq.out.own.below kk, RL.tail' (RL.below hIq.out.rest kk) (hIq.out.cap _ _ _ rfl), fun a n c q => by
            simp only [Value.slice.injEq] at q
            have := hIq.out.cap _ _ _ rfl
            simp only [List.length_cons] at this
            omega, fun e he => hIq.out.len e (by simp [he]), bmore hIq.out.k kk⟩
          have HSVy : Hid (SV wr (fun b => w2.heap.size ≤ b) y.1 y.2.1) := hIq.out.rest.vals y (by simp)
          have HLy : Hid (y.2.1.length ≤ 1000) := hIq.out.len y (by simp)
          have HRy : Hid (∀ W', Below wr.heap.size wr W' → W'.cell? ⟨g', o', none⟩ = some y.1 ∧ W'.cell? ⟨g', o' + 1, none⟩ = some (.int .i64 y.2.2.1) ∧ W'.cell? ⟨g', o' + 2, none⟩ = some (.int .i64 y.2.2.2)) := fun W' kk => by
            obtain ⟨g2, o2, e2, _, r0, r1, r2⟩ := RL.head (RL.below hIq.out.rest kk)
            simp only [Option.some.injEq, Addr.mk.injEq] at e2
            obtain ⟨rfl, rfl, _⟩ := e2
            exact ⟨r0, r1, r2⟩
          obtain ⟨sy, vs', f', t'⟩ := y
          simp only at HSVy HLy HRy
          obtain ⟨pb, cb, rfl⟩ := SV.form HSVy.out
          have HS : Hid (∀ W', Below wr.heap.size wr W' → W'.cell? ⟨bx, 0, none⟩ = some (.slice pa vs.length ca) ∧ W'.cell? ⟨bx, 1, none⟩ = some (.int .i64 f) ∧ W'.cell? ⟨bx, 2, none⟩ = some (.int .i64 t) ∧ W'.cell? ⟨g', o', none⟩ = some (.slice pb vs'.length cb) ∧ W'.cell? ⟨g', o' + 1, none⟩ = some (.int .i64 f') ∧ W'.cell? ⟨g', o' + 2, none⟩ = some (.int .i64 t')) := fun W' kk => by
            obtain ⟨z0, z1, z2⟩ := HC.out _ (bmore hBq.out kk)
            exact ⟨z0, z1, z2, HRy.out W' kk⟩
          have H30 : Hid (∀ W', Below wr.heap.size wr W' → Calls Tryz.prog 47 #[RV (.slice pb vs'.length cb) (vs', f', t'), RV (.slice pa vs.length ca) (vs, f, t)] W' fun e w' => e = .returned (.int .i64 (cmpR (vs', f', t') (vs, f, t))) ∧ GB W' w') := fun W' kk => codec30 (r := (vs', f', t')) (r' := (vs, f, t)) (SV.below HSVy.out kk) (SV.below (SV.below HSV8.out hBq.out) kk) (Nat.le_trans HLy.out (by decide)) (Nat.le_trans HLe.out (by decide))
          have hc0 : (0 : Int) < ((re''.length : Int) + 1) := by omega
          have K0 : Below wr.heap.size wr wr.drew := (Below.refl _ _).drew
          have hS0 := HS.out _ K0
          have t3 := ordR.three (vs', f', t') (vs, f, t)
          have HEqR : Hid (cmpR (vs', f', t') (vs, f, t) = 0 ↔ (vs', f', t') = (vs, f, t)) := ordR.eq _ _
          have HDrop : Hid (cmpR (vs', f', t') (vs, f, t) = -1 → lessL ((vs, f, t) :: A.drop (k + 1)) ((vs', f', t') :: rws re'') = lessL ((vs, f, t) :: A.drop (k + 1)) (rws re'')) := fun h => lessL_drop h
          have HKeepL : Hid (cmpR (vs', f', t') (vs, f, t) = 1 → lessL ((vs, f, t) :: A.drop (k + 1)) ((vs', f', t') :: rws re'') = (vs, f, t) :: lessL (A.drop (k + 1)) ((vs', f', t') :: rws re'')) := fun h => lessL_ne (by omega) (fun e => by have := (ordR.eq _ _).2 e; omega)
          generalize cmpR (vs', f', t') (vs, f, t) = z at *
          have hcq : re''.length + 1 ≤ cq := by have := hIq.out.cap _ _ _ rfl; simpa using this
          have hcq' : (1 : Int) ≤ (cq : Int) := by omega
          simp only [List.length_cons] at *
          rcases t3 with hz | hz | hz
          · subst hz
            go_wp2_with fail
            go_region_held3 (fun W' => W'.cell? ⟨bx, 0, none⟩ = some (.slice pa vs.length ca) ∧ W'.cell? ⟨bx, 1, none⟩ = some (.int .i64 f) ∧ W'.cell? ⟨bx, 2, none⟩ = some (.int .i64 t) ∧ W'.cell? ⟨g', o', none⟩ = some (.slice pb vs'.length cb) ∧ W'.cell? ⟨g', o' + 1, none⟩ = some (.int .i64 f') ∧ W'.cell? ⟨g', o' + 2, none⟩ = some (.int .i64 t')) (first | exact hS0 | exact HS.out _ K1) (first
              | (go_at_call 47; (with_reducible refine (H30.out _ K0).mono ?_); rintro e w3 ⟨rfl, B3⟩; have K1 := bmore K0 B3.b))
            clear hS0
            go_wp2_with fail
            go_roundw
            case rel => exact ⟨re'', HTail.out _ K1, bmore hBq.out K1, by show _ = _; rw [← hEq.out]; exact (HDrop.out trivial).symm⟩
            case measure => simp [lenV]
          · subst hz
            go_wp2_with fail
            go_region_held3 (fun W' => W'.cell? ⟨bx, 0, none⟩ = some (.slice pa vs.length ca) ∧ W'.cell? ⟨bx, 1, none⟩ = some (.int .i64 f) ∧ W'.cell? ⟨bx, 2, none⟩ = some (.int .i64 t) ∧ W'.cell? ⟨g', o', none⟩ = some (.slice pb vs'.length cb) ∧ W'.cell? ⟨g', o' + 1, none⟩ = some (.int .i64 f') ∧ W'.cell? ⟨g', o' + 2, none⟩ = some (.int .i64 t')) (first | exact hS0 | exact HS.out _ K1) (first
              | (go_at_call 47; (with_reducible refine (H30.out _ K0).mono ?_); rintro e w3 ⟨rfl, B3⟩; have K1 := bmore K0 B3.b))
            clear hS0
            go_wp2_with fail
            have K2 : Below wr.heap.size wr w3.drew := bmore K1 ((Below.refl _ _).drew)
            have hS2 := HS.out _ K2
            go_region_held3 (fun W' => W'.cell? ⟨bx, 0, none⟩ = some (.slice pa vs.length ca) ∧ W'.cell? ⟨bx, 1, none⟩ = some (.int .i64 f) ∧ W'.cell? ⟨bx, 2, none⟩ = some (.int .i64 t) ∧ W'.cell? ⟨g', o', none⟩ = some (.slice pb vs'.length cb) ∧ W'.cell? ⟨g', o' + 1, none⟩ = some (.int .i64 f') ∧ W'.cell? ⟨g', o' + 2, none⟩ = some (.int .i64 t')) (first | exact hS2 | exact HS.out _ K3) (first
              | (go_at_call 47; (with_reducible refine (H30.out _ K2).mono ?_); rintro e w4 ⟨rfl, B4⟩; have K3 := bmore K2 B4.b))
            clear hS2
            go_wp2_with fail
            go_roundw
            case rel => exact ⟨k + 1, oe, re'', by simp, ⟨by omega, by have := hk.out; omega⟩, HTail.out _ K3, by show _ = _; rw [← hE.out, HAk.out, ← hEq.out, show rws ((Value.slice pb vs'.length cb, vs', f', t') :: re'') = (vs', f', t') :: rws re'' from rfl, HEqR.out.1 trivial, lessL_eq]⟩
            case measure => simp only [intOf]; omega
          · subst hz
            go_wp2_with fail
            go_region_held3 (fun W' => W'.cell? ⟨bx, 0, none⟩ = some (.slice pa vs.length ca) ∧ W'.cell? ⟨bx, 1, none⟩ = some (.int .i64 f) ∧ W'.cell? ⟨bx, 2, none⟩ = some (.int .i64 t) ∧ W'.cell? ⟨g', o', none⟩ = some (.slice pb vs'.length cb) ∧ W'.cell? ⟨g', o' + 1, none⟩ = some (.int .i64 f') ∧ W'.cell? ⟨g', o' + 2, none⟩ = some (.int .i64 t')) (first | exact hS0 | exact HS.out _ K1) (first
              | (go_at_call 47; (with_reducible refine (H30.out _ K0).mono ?_); rintro e w3 ⟨rfl, B3⟩; have K1 := bmore K0 B3.b))
            clear hS0
            go_wp2_with fail
            have K2 : Below wr.heap.size wr w3.drew := bmore K1 ((Below.refl _ _).drew)
            have hS2 := HS.out _ K2
            go_region_held3 (fun W' => W'.cell? ⟨bx, 0, none⟩ = some (.slice pa vs.length ca) ∧ W'.cell? ⟨bx, 1, none⟩ = some (.int .i64 f) ∧ W'.cell? ⟨bx, 2, none⟩ = some (.int .i64 t) ∧ W'.cell? ⟨g', o', none⟩ = some (.slice pb vs'.length cb) ∧ W'.cell? ⟨g', o' + 1, none⟩ = some (.int .i64 f') ∧ W'.cell? ⟨g', o' + 2, none⟩ = some (.int .i64 t')) (first | exact hS2 | exact HS.out _ K3) (first
              | (go_at_call 47; (with_reducible refine (H30.out _ K2).mono ?_); rintro e w4 ⟨rfl, B4⟩; have K3 := bmore K2 B4.b))
            clear hS2
            have HIz : Hid (LsI w2 w4 u5 (.slice (some ⟨g', o', none⟩) (re''.length + 1) cq) oe ((.slice pb vs'.length cb, vs', f', t') :: re'')) := LsI.below hIq.out K3
            have HBz : Hid (Below W8.heap.size W8 w4) := bmore hBq.out K3
            obtain ⟨z0, z1, z2⟩ := HC.out _ HBz.out
            go_wp2_with (at_builtin; refine wpList_append_ex (by rfl) (.tmp 44) (.tmp 46) 22 (by rfl) _ _ (by rfl) (by rfl) (HApp.out _ _ _ HIz HBz) ?_; rintro v7 w7 hI7)
            go_roundw
            case rel => exact ⟨k + 1, oe ++ [(Value.slice pa vs.length ca, vs, f, t)], (Value.slice pb vs'.length cb, vs', f', t') :: re'', by simp, ⟨by omega, by have := hk.out; simp; omega⟩, hI7.out, by show _ = _; rw [← hE.out, HAk.out, ← hEq.out, show rws ((Value.slice pb vs'.length cb, vs', f', t') :: re'') = (vs', f', t') :: rws re'' from rfl, HKeepL.out trivial]; simp [rws]⟩
            case measure => simp only [intOf]; omega
    · have hki : ¬ (k : Int) < (N : Int) := by omega
      have HF : Hid (rws oe = LR) := by show _ = _; rw [← hE.out, List.drop_eq_nil_of_le (by have h1 := congrArg List.length HE2.out; have := HN.out; simp [rws] at h1; omega)]; simp [lessL]
      go_wp2
      go_ret
      exact ⟨_, oe, rfl, hI.out.own.base HW2.out.size, HF.out, bmore HW2.out hI.out.k⟩
end Go.Proofs.YtpagnphabchfcaaGreat
