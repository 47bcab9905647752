/- A range over a function whose iterator may itself range over functions: who owns which blocks. · Blocks that are known whole. · Which of two rows comes first: a total order. · Lists behind slices, whatever the elements; appends. · Pairs by keys, rising: what is put, taken out, found; plain. · Parts of a tree in memory: which pairs they hold. -/
import Derived.RangeFuncNested
import Derived.RangeFuncBound
import Derived.RangeFuncCalls
import Derived.RangeFuncLeaves
import Derived.Shelf.Abstract
import Derived.OwnWalkIn
import Derived.TacticsInMore
import Derived.LoopNIn
import Derived.LoopIn
import Derived.WalkKit
import Derived.WalkSpells
import Derived.WalkLawsBesides
import Derived.Below
import Derived.OwnWalk
import Derived.Deep.MidRow
import Derived.Deep.RegionHeld3
import Derived.Test.YthfkmedpcmiibaaDoorProg
import Derived.Lib.Small
import Derived.Lib.Bytealg
import Derived.ArgAppend
import Derived.Deep.AppendLies
import Derived.Deep.Upon
/-! ### A range over a function whose iterator may itself range over functions: who owns which blocks. -/
namespace Go.Proofs.YthfkmedpcmiibaaDoor.T
open Go.RowKit Go.Shelf
set_option maxRecDepth 100000

theorem al (w : World) (o : Obj) : Below w.heap.size w (w.alloc o) := (Below.refl _ _).alloc (Nat.le_refl _) o
theorem bmore {w w1 w2 : World} (h : Below w.heap.size w w1) (k : Below w1.heap.size w1 w2) : Below w.heap.size w w2 := h.trans (k.mono h.size)

/-- Every old block stands but those of F. -/
structure Keep (F : Nat → Prop) (w w' : World) : Prop where
  os : w'.os = w.os
  tape : w'.tape = w.tape
  output : w'.output = w.output
  size : w.heap.size ≤ w'.heap.size
  block : ∀ k, k < w.heap.size → ¬ F k → w'.heap[k]? = w.heap[k]?
section
variable {F G : Nat → Prop} {a b c : World}
theorem Keep.refl (F : Nat → Prop) (w : World) : Keep F w w := ⟨rfl, rfl, rfl, Nat.le_refl _, fun _ _ _ => rfl⟩
theorem Keep.trans (h : Keep F a b) (k : Keep G b c) (hG : ∀ i, i < a.heap.size → G i → F i) : Keep F a c :=
  ⟨k.os.trans h.os, k.tape.trans h.tape, k.output.trans h.output, Nat.le_trans h.size k.size, fun i hi hf => (k.block i (Nat.lt_of_lt_of_le hi h.size) (fun hg => hf (hG i hi hg))).trans (h.block i hi hf)⟩
theorem Keep.of (h : Below a.heap.size a b) : Keep F a b := ⟨h.os, h.tape, h.output, h.size, fun k hk _ => h.block k hk⟩
theorem Keep.below {B : Nat} (h : Keep F a b) (hB : B ≤ a.heap.size) (hF : ∀ i, i < B → ¬ F i) : Below B a b := ⟨h.os, h.tape, h.output, h.size, fun k hk => h.block k (by omega) (hF k hk)⟩
theorem Keep.put (h : Keep F a b) {l : Nat} (hl : a.heap.size ≤ l ∨ F l) (o : Obj) : Keep F a (b.putObj l o) :=
  ⟨h.os, h.tape, h.output, by simpa using h.size, fun k hk hf => by
    have hne : k ≠ l := fun e => hl.elim (fun h => by omega) (fun h => hf (e ▸ h))
    rw [World.putObj_heap_other hne]; exact h.block k hk hf⟩
theorem Keep.alloc (h : Keep F a b) (o : Obj) : Keep F a (b.alloc o) := h.trans (Keep.of (F := F) (al b o)) (fun _ _ h => h)
theorem Keep.drew (h : Keep F a b) : Keep F a b.drew := h.trans (Keep.of (F := F) (Below.refl _ _).drew) (fun _ _ h => h)
theorem Keep.set (h : Keep F a b) {p : Addr} (hp : a.heap.size ≤ p.block ∨ F p.block) (v : Value) : Keep F a (b.setCell p v) :=
  ⟨h.os, h.tape, h.output, by simpa [World.setCell] using h.size, fun k hk hf => by
    have hne : k ≠ p.block := fun e => hp.elim (fun h => by omega) (fun h => hf (e ▸ h))
    rw [Below.heap_setCell _ _ _ _ hne]; exact h.block k hk hf⟩
theorem Keep.cell (h : Keep F a b) {k o : Nat} (hk : k < a.heap.size) (hf : ¬ F k) : b.cell? ⟨k, o, none⟩ = a.cell? ⟨k, o, none⟩ := by
  simp only [World.cell?, h.block k hk hf]
theorem Keep.mono (h : Keep F a b) (hG : ∀ i, i < a.heap.size → F i → G i) : Keep G a b := ⟨h.os, h.tape, h.output, h.size, fun k hk hf => h.block k hk (fun x => hf (hG k hk x))⟩
end

/-- What is owned now was owned, or is new. -/
def Grew (O O' : Nat → Prop) (W : World) : Prop := ∀ b, O' b → O b ∨ W.heap.size ≤ b
theorem Grew.refl (O : Nat → Prop) (W : World) : Grew O O W := fun _ h => .inl h
theorem Grew.trans {O O' O'' : Nat → Prop} {W W' : World} (h : Grew O O' W) (k : Grew O' O'' W') (hs : W.heap.size ≤ W'.heap.size) : Grew O O'' W := fun b hb => (k b hb).elim (h b) (fun x => .inr (by omega))

/-- What is said of owned blocks, and of those below B, abides what becomes of others. -/
def Abide {α : Type} (B : Nat) (J : (Nat → Prop) → List α → World → Prop) : Prop := ∀ O pre W W', J O pre W → Keep (fun b => ¬ O b ∧ B ≤ b) W W' → J O pre W'

/-- What a round answers. -/
def Rnd {α : Type} (J Jx : (Nat → Prop) → List α → World → Prop) (O : Nat → Prop) (pre : List α) (W : World) (e : Ending) (W' : World) : Prop :=
  (e = .returned (.bool true) ∧ ∃ O', J O' pre W' ∧ Grew O O' W ∧ Keep O W W') ∨ (e = .returned (.bool false) ∧ ∃ O', Jx O' pre W' ∧ Grew O O' W ∧ Keep O W W')

/-- The function value g with lb, called with a yield in the world W, yields xs, one behind the other, or is stopped; it reads the blocks of G. -/
def Runs {α : Type} (P : Program) (g : Nat) (lb : Array Value) (enc : α → Value) (xs : List α) (G : Nat → Prop) (W : World) : Prop :=
  ∀ (l : Nat) (O : Nat → Prop) (J Jx : (Nat → Prop) → List α → World → Prop), (∀ b, O b → ¬ G b ∧ b < W.heap.size) → (∀ O pre W, J O pre W → ∀ b, O b → b < W.heap.size) → Abide W.heap.size J → Abide W.heap.size Jx →
    (∀ O pre x W1, J O pre W1 → pre ++ [x] <+: xs → YieldAt Fence.wide 0 P l #[enc x] W1 (Rnd J Jx O (pre ++ [x]) W1)) → J O [] W →
    CallsIn Fence.wide 0 P g (#[.func (.yield l) #[] #[]] ++ lb) W fun e W' => (∃ v, e = .returned v) ∧
      ((∃ O', J O' xs W' ∧ Grew O O' W ∧ Keep O W W') ∨ (∃ pre O', pre <+: xs ∧ Jx O' pre W' ∧ Grew O O' W ∧ Keep O W W'))

/-- How the body of a round may be left. -/
def PostB {α : Type} (I : (Nat → Prop) → List α → World → Prop) (Ix : Code → (Nat → Prop) → List α → World → Prop) (O : Nat → Prop) (pre : List α) (W : World) : Exit → Act → World → Prop
  | .normal, _, W' => ∃ O', I O' pre W' ∧ Grew O O' W ∧ Keep O W W'
  | .ret, _, W' => ∃ O', Ix .ret O' pre W' ∧ Grew O O' W ∧ Keep O W W'
  | .exit id, _, W' => ∃ O', Ix (.exit id) O' pre W' ∧ Grew O O' W ∧ Keep O W W'
  | _, _, _ => False

set_option maxHeartbeats 1000000 in
/-- The statement: a loop over such a value, whose variable is laid in a block of its own in each round. -/
theorem wpIn_range {α : Type} {P : Program} {g : Operand} {ps : Array Tmp} {assign body : Code} {Q : Exit → Act → World → Prop} {a : Act} {w : World} {gf : Nat} {lb : Array Value}
    (hg : a.eval g = .func (.func gf) #[] lb) (eg : ∀ args w, (callFunc gf args).run P w = .ok (.enter gf args) w) (hps : ps.size = 1)
    {enc : α → Value} {xs : List α} {G : Nat → Prop} (hseq : ∀ W1, Below w.heap.size w W1 → Runs P gf lb enc xs G W1) (hG : ∀ b, G b → b < w.heap.size)
    (I : (Nat → Prop) → List α → World → Prop) (Ix : Code → (Nat → Prop) → List α → World → Prop) (hIs : ∀ O pre W, I O pre W → ∀ b, O b → b < W.heap.size) (hI : Abide w.heap.size I) (hIx : ∀ c, Abide w.heap.size (Ix c))
    (O : Nat → Prop) (hO : ∀ b, O b → ¬ G b ∧ b < w.heap.size) (h0 : I O [] w) (A : α → Nat → Act) (cs : α → List Value) (t : TypeId)
    (hassign : ∀ l x W (K : Act → World → Prop), K (A x W.heap.size) (W.alloc (.cells (cs x).toArray t)) → assign.wpIn (Fence.wide.inRound l) 0 P (Exit.then K (fun _ _ _ => False)) { tmps := (ps.zip #[enc x]).foldl (fun t (p, v) => t.setIfInBounds p v) a.tmps, defers := [] } W)
    (hbody : ∀ l O pre x W b, I O pre W → ¬ O b → w.heap.size ≤ b → w.heap.size ≤ W.heap.size → W.heap[b]? = some (.cells (cs x).toArray t (0, 0)) → pre ++ [x] <+: xs → body.wpIn (Fence.wide.inRound l) 0 P (PostB I Ix O (pre ++ [x]) W) (A x b) W)
    (hdone : ∀ D O' W', w.heap.size ≤ D → ¬ O' D → I O' xs W' → Grew O O' w → Keep O w W' → W'.heap[D]? = some (.deferred (some [])) → Q .normal { a with defers := { target := .collected D, args := #[] } :: a.defers } W')
    (hstop : ∀ D c O' pre W', w.heap.size ≤ D → ¬ O' D → pre <+: xs → Ix c O' pre W' → Grew O O' w → Keep O w W' → W'.heap[D]? = some (.deferred (some [])) → c.wpIn Fence.wide 0 P Q { a with defers := { target := .collected D, args := #[] } :: a.defers } W') :
    (Code.rangeFunc g ps assign body).wpIn Fence.wide 0 P Q a w := by
  refine wpIn_rangeFunc fun fn hfn => ?_
  obtain ⟨rec, hrec⟩ : ∃ rec : LoopState → Option Code → Loop, rec = fun st pe => { state := st, pending := pe, fn, tmps := a.tmps, params := ps, assign, body, defers := w.heap.size } := ⟨_, rfl⟩
  obtain ⟨W1, hW1⟩ : ∃ W1, (w.alloc (.deferred (some []))).alloc (.loop (rec .ready none)) = W1 := ⟨_, rfl⟩
  have bW1 : Below w.heap.size w W1 := by rw [← hW1]; exact bmore (al _ _) (al _ _)
  have sW1 : W1.heap.size = w.heap.size + 2 := by rw [← hW1]; simp
  have hL1 : W1.heap[w.heap.size + 1]? = some (.loop (rec .ready none)) := by
    rw [← hW1]; have := World.alloc_heap_new (w.alloc (.deferred (some []))) (.loop (rec .ready none)); rwa [World.size_alloc] at this
  have hD1 : W1.heap[w.heap.size]? = some (.deferred (some [])) := by
    rw [← hW1]; exact (Below.heap_alloc _ _ _ (by simp)).trans (World.alloc_heap_new w _)
  generalize hl : w.heap.size + 1 = l at *
  generalize hD : w.heap.size = D at *
  have bW1' : Below w.heap.size w W1 := by rw [hD]; exact bW1
  have hps1 : ∀ x, (#[enc x] : Array Value).size = ps.size := fun x => by simp [hps]
  refine ⟨l, [{ target := .collected D, args := #[] }], W1, { target := .fn (.func gf) lb, args := #[.func (.yield l) #[] #[]] }, W1, gf, #[.func (.yield l) #[] #[]] ++ lb, W1, ?_, ?_, fun _ _ => trivial, ?_, (fun h => (by cases h)), ?_⟩
  · rw [← hW1, hrec, ← hl, ← hD]; exact run_enterLoop_outer _ _ _ _ _
  · simp only [resolve, hg]
    simp [go_sem]
  · simp [invoke, go_sem, eg]
  · refine (hseq W1 bW1 l (fun b => O b ∨ b = l)
      (fun OO pre W => ∃ O1, (∀ b, OO b ↔ O1 b ∨ b = l) ∧ ¬ O1 l ∧ ¬ O1 D ∧ I O1 pre W ∧ W.heap[l]? = some (.loop (rec .ready none)) ∧ W.heap[D]? = some (.deferred (some [])) ∧ Grew O O1 w)
      (fun OO pre W => ∃ O1 c, (∀ b, OO b ↔ O1 b ∨ b = l) ∧ ¬ O1 l ∧ ¬ O1 D ∧ Ix c O1 pre W ∧ W.heap[l]? = some (.loop (rec .done (some c))) ∧ W.heap[D]? = some (.deferred (some [])) ∧ Grew O O1 w)
      ?_ ?_ ?_ ?_ ?_ ?_).mono ?_
    · rintro b (h | rfl)
      · exact ⟨(hO b h).1, by have := (hO b h).2; omega⟩
      · exact ⟨fun h => by have := hG _ h; omega, by omega⟩
    · rintro OO pre W ⟨O1, e1, n1, n2, hi, h1, h2, hgr⟩ b hb
      rcases (e1 b).1 hb with h | rfl
      · exact hIs _ _ _ hi b h
      · exact (Array.getElem?_eq_some_iff.1 h1).1
    · rintro OO pre W W' ⟨O1, e1, n1, n2, hi, h1, h2, hgr⟩ hk
      have lw := (Array.getElem?_eq_some_iff.1 h1).1
      refine ⟨O1, e1, n1, n2, hI _ _ _ _ hi (hk.mono fun b _ hb => ⟨fun h => hb.1 ((e1 b).2 (.inl h)), by omega⟩), (hk.block l lw (fun h => h.1 ((e1 l).2 (.inr rfl)))).trans h1, (hk.block D (by omega) (fun h => by omega)).trans h2, hgr⟩
    · rintro OO pre W W' ⟨O1, c, e1, n1, n2, hi, h1, h2, hgr⟩ hk
      have lw := (Array.getElem?_eq_some_iff.1 h1).1
      refine ⟨O1, c, e1, n1, n2, hIx c _ _ _ _ hi (hk.mono fun b _ hb => ⟨fun h => hb.1 ((e1 b).2 (.inl h)), by omega⟩), (hk.block l lw (fun h => h.1 ((e1 l).2 (.inr rfl)))).trans h1, (hk.block D (by omega) (fun h => by omega)).trans h2, hgr⟩
    · rintro OO pre x W ⟨O1, e1, n1, n2, hi, h1, h2, hgr⟩ hpre
      have lw := (Array.getElem?_eq_some_iff.1 h1).1
      have hy := run_yield (P := P) (args := #[enc x]) h1 (by rw [hrec]; exact hps1 x)
      rw [hrec] at hy
      refine ⟨fn, _, assign, body, hy, roundIn_of_wpIn hfn (hassign l x W _ ?_)⟩
      clear hy
      have h1a : (W.alloc (.cells (cs x).toArray t)).heap[l]? = some (.loop (rec .ready none)) := (Below.heap_alloc _ _ _ lw).trans h1
      refine ⟨_, run_beginRound h1a (by rw [hrec]), ?_⟩
      obtain ⟨W2, hW2⟩ : ∃ W2, (W.alloc (.cells (cs x).toArray t)).putObj l (.loop { rec .ready none with state := .busy }) = W2 := ⟨_, rfl⟩
      have k2 : Keep (fun b => b = l) W W2 := by rw [← hW2]; exact ((Keep.refl (fun b => b = l) W).alloc _).put (.inr rfl) _
      have s2 : W2.heap.size = W.heap.size + 1 := by rw [← hW2]; simp
      have l2 : W2.heap[l]? = some (.loop { rec .ready none with state := .busy }) := by rw [← hW2]; exact World.putObj_heap_same (by simp; omega)
      have d2 : W2.heap[D]? = some (.deferred (some [])) := (k2.block D (by omega) (by omega)).trans h2
      have b2 : W2.heap[W.heap.size]? = some (.cells (cs x).toArray t (0, 0)) := by rw [← hW2, World.putObj_heap_other (by omega)]; exact World.alloc_heap_new W _
      have i2 := hI _ _ _ W2 hi (k2.mono fun b _ e => by subst e; exact ⟨n1, by omega⟩)
      have nb : ¬ O1 W.heap.size := fun h => by have := hIs _ _ _ hi _ h; omega
      have oo : ∀ b, O1 b → OO b := fun b h => (e1 b).2 (.inl h)
      rw [hW2]
      refine wpIn_mono (hbody l O1 pre x W2 W.heap.size i2 nb (by omega) (by omega) b2 hpre) ?_
      have fin : ∀ (jump : Option Code) (O' : Nat → Prop) (W3 : World), Grew O1 O' W2 → Keep O1 W2 W3 →
          (Instr.endRound l jump).run P W3 = .ok (.bool jump.isNone) (W3.putObj l (.loop (rec (if jump.isNone then .ready else .done) jump))) ∧ ¬ O' l ∧ ¬ O' D ∧
          Keep (fun b => ¬ O' b ∧ D ≤ b) W3 (W3.putObj l (.loop (rec (if jump.isNone then .ready else .done) jump))) ∧
          (W3.putObj l (.loop (rec (if jump.isNone then .ready else .done) jump))).heap[l]? = some (.loop (rec (if jump.isNone then .ready else .done) jump)) ∧
          (W3.putObj l (.loop (rec (if jump.isNone then .ready else .done) jump))).heap[D]? = some (.deferred (some [])) ∧ Grew O O' w ∧
          Grew OO (fun b => O' b ∨ b = l) W ∧ Keep OO W (W3.putObj l (.loop (rec (if jump.isNone then .ready else .done) jump))) := by
        intro jump O' W3 g3 k3
        have l3 : W3.heap[l]? = some (.loop { rec .ready none with state := .busy }) := (k3.block l (by omega) n1).trans l2
        have lw3 := (Array.getElem?_eq_some_iff.1 l3).1
        have r3 := run_endRound (P := P) jump l3
        rw [hrec] at r3
        have nl : ¬ O' l := fun h => (g3 l h).elim n1 (fun h => by omega)
        have nD : ¬ O' D := fun h => (g3 D h).elim n2 (fun h => by omega)
        refine ⟨by rw [hrec]; exact r3, nl, nD, (Keep.refl _ W3).put (.inr ⟨nl, by omega⟩) _, World.putObj_heap_same lw3, (World.putObj_heap_other (by omega)).trans ((k3.block D (by omega) n2).trans d2), ?_, ?_, ?_⟩
        · intro b hb
          rcases g3 b hb with h | h
          · exact hgr b h
          · exact .inr (by omega)
        · rintro b (hb | rfl)
          · rcases g3 b hb with h | h
            · exact .inl (oo b h)
            · exact .inr (by omega)
          · exact .inl ((e1 b).2 (.inr rfl))
        · exact Keep.put ((k2.mono (fun b _ e => (e1 b).2 (.inr e))).trans k3 (fun b _ h => oo b h)) (.inr ((e1 l).2 (.inr rfl))) _
      rintro e a3 W3 hp
      cases e with
      | normal =>
        obtain ⟨O', hi3, g3, k3⟩ := hp
        obtain ⟨hr, nl, nD, ka, hl4, hd4, gO, gg, kk⟩ := fin none O' W3 g3 k3
        exact ⟨_, _, hr, .inl ⟨rfl, _, ⟨O', fun b => Iff.rfl, nl, nD, hI _ _ _ _ hi3 ka, hl4, hd4, gO⟩, gg, kk⟩⟩
      | ret =>
        obtain ⟨O', hi3, g3, k3⟩ := hp
        obtain ⟨hr, nl, nD, ka, hl4, hd4, gO, gg, kk⟩ := fin (some .ret) O' W3 g3 k3
        exact ⟨_, _, hr, .inr ⟨rfl, _, ⟨O', .ret, fun b => Iff.rfl, nl, nD, hIx _ _ _ _ _ hi3 ka, hl4, hd4, gO⟩, gg, kk⟩⟩
      | exit id =>
        obtain ⟨O', hi3, g3, k3⟩ := hp
        obtain ⟨hr, nl, nD, ka, hl4, hd4, gO, gg, kk⟩ := fin (some (.exit id)) O' W3 g3 k3
        exact ⟨_, _, hr, .inr ⟨rfl, _, ⟨O', .exit id, fun b => Iff.rfl, nl, nD, hIx _ _ _ _ _ hi3 ka, hl4, hd4, gO⟩, gg, kk⟩⟩
      | goto t => exact hp.elim
      | panic ch => exact hp.elim
      | outgrown => exact hp.elim
    · exact ⟨O, fun b => Iff.rfl, fun h => by have := (hO _ h).2; omega, fun h => by have := (hO _ h).2; omega, hI _ _ _ _ h0 (Keep.of bW1'), hL1, hD1, Grew.refl _ _⟩
    · rintro e W2 ⟨⟨v, rfl⟩, (⟨OO, ⟨O1, e1, n1, n2, hi, h1, h2, hgr⟩, _, hk⟩ | ⟨pre, OO, hpre, ⟨O1, c, e1, n1, n2, hi, h1, h2, hgr⟩, _, hk⟩)⟩
      · have lw := (Array.getElem?_eq_some_iff.1 h1).1
        have kw : Keep O w W2 := (Keep.of (F := O) bW1').trans hk (fun b hb h => h.elim id (fun e => by omega))
        exact ⟨none, _, by have := run_endLoop (P := P) h1 (by rw [hrec]; simp); rw [hrec] at this; exact this, hdone D O1 _ (Nat.le_refl _) n2 (hI _ _ _ _ hi ((Keep.refl _ W2).put (.inr ⟨n1, by omega⟩) _)) hgr (kw.put (.inl (by omega)) _) ((World.putObj_heap_other (by omega)).trans h2)⟩
      · have lw := (Array.getElem?_eq_some_iff.1 h1).1
        have kw : Keep O w W2 := (Keep.of (F := O) bW1').trans hk (fun b hb h => h.elim id (fun e => by omega))
        exact ⟨some c, _, by have := run_endLoop (P := P) h1 (by rw [hrec]; simp); rw [hrec] at this; exact this, hstop D c O1 pre _ (Nat.le_refl _) n2 hpre (hIx c _ _ _ _ hi ((Keep.refl _ W2).put (.inr ⟨n1, by omega⟩) _)) hgr (kw.put (.inl (by omega)) _) ((World.putObj_heap_other (by omega)).trans h2)⟩
end Go.Proofs.YthfkmedpcmiibaaDoor.T
/-! ### Blocks that are known whole. -/
namespace Go.Proofs.YthfkmedpcmiibaaDoor.T
open Go.RowKit Go.Shelf
set_option maxRecDepth 100000

/-- The block b is just these cells. -/
def Blk (W : World) (b : Nat) (l : List Value) (t : TypeId) : Prop := W.heap[b]? = some (.cells l.toArray t (0, 0))
section
variable {W W' : World} {b : Nat} {l : List Value} {t : TypeId}
theorem Blk.lt (h : Blk W b l t) : b < W.heap.size := (Array.getElem?_eq_some_iff.1 h).1
theorem Blk.block (h : Blk W b l t) (e : W'.heap[b]? = W.heap[b]?) : Blk W' b l t := e.trans h
theorem Blk.below (h : Blk W b l t) (e : Below W.heap.size W W') : Blk W' b l t := (e.block b h.lt).trans h
theorem Blk.keep {O : Nat → Prop} (h : Blk W b l t) (e : Keep O W W') (hn : ¬ O b) : Blk W' b l t := (e.block b h.lt hn).trans h
theorem blk_new (W : World) (l : List Value) (t : TypeId) : Blk (W.alloc (.cells l.toArray t)) W.heap.size l t := (MapKept.heap_alloc W _).1
theorem blk_at (W : World) (l : List Value) (t : TypeId) {g : Nat} (h : W.heap.size = g) : Blk (W.alloc (.cells l.toArray t)) g l t := by subst h; exact blk_new W l t
theorem Blk.cell (h : Blk W b l t) (j : Nat) : W.cell? ⟨b, j, none⟩ = l[j]? := by
  unfold Blk at h
  simp [World.cell?, h]
theorem Blk.frozen (h : Blk W b l t) (j : Nat) : W.frozen? ⟨b, j, none⟩ = false := by
  unfold Blk at h
  simp [World.frozen?, h]
theorem Blk.set {o : Nat} (h : Blk W b l t) (v : Value) : Blk (W.setCell ⟨b, o, none⟩ v) b (l.set o v) t := by
  unfold Blk at h ⊢
  simp [World.setCell, Array.getElem?_modify, h]
end
theorem bal {w w1 : World} (h : Below w.heap.size w w1) (o : Obj) : Below w.heap.size w (w1.alloc o) := bmore h (al _ _)

section
variable {W : World} {b o : Nat} {l : List Value} {t : TypeId}
theorem Blk.range (h : Blk W b l t) {cs : List Value} (e : ∀ j v, cs[j]? = some v → l[o + j]? = some v) : W.rangeAt b o cs := fun j v hv => (h.cell (o + j)).trans (e j v hv)
theorem Blk.whole (h : Blk W b l t) : W.rangeAt b 0 l := h.range fun j v hv => by simpa using hv
end
theorem Blk.other {W : World} {b : Nat} {l : List Value} {t : TypeId} (h : Blk W b l t) {p : Addr} (hp : b ≠ p.block) (v : Value) : Blk (W.setCell p v) b l t := h.block (Below.heap_setCell _ _ _ _ hp)
theorem bset {B : Nat} {w w1 : World} (h : Below B w w1) {p : Addr} (hp : B ≤ p.block) (v : Value) : Below B w (w1.setCell p v) := h.trans ⟨rfl, rfl, rfl, by simp [World.setCell], fun k hk => Below.heap_setCell _ _ _ _ (by omega)⟩
theorem results_cell {fn : Func} {t : Tmp} {ty : TypeId} (h : fn.results = #[.cell t ty]) (tmps : Array Value) (P : Program) (w : World) (b : Nat) (l : List Value) (t' : TypeId) (hb : Blk w b l t') (ht : tmps.getD t undef = .pointer (some ⟨b, 0, none⟩)) (d : TypeDesc) (hu : P.underlying ty = some d) (hd : d.isRow = true) (hi : (P.info? ty).map (·.size) = some l.length) :
    (results fn tmps).run P w = .ok (.agg l.toArray) w := by
  have ht' : tmps[t]?.getD undef = .pointer (some ⟨b, 0, none⟩) := by simpa using ht
  simp [results, h, ht', asAddr, run_loadVar_mid w b 0 ty l d hb.whole hu hd hi]
theorem results_cell2 {fn : Func} {t u : Tmp} {ty : TypeId} (h : fn.results = #[.cell t ty, .tmp u]) (tmps : Array Value) (P : Program) (w : World) (b : Nat) (l : List Value) (t' : TypeId) (hb : Blk w b l t') (ht : tmps.getD t undef = .pointer (some ⟨b, 0, none⟩)) (d : TypeDesc) (hu : P.underlying ty = some d) (hd : d.isRow = true) (hi : (P.info? ty).map (·.size) = some l.length) :
    (results fn tmps).run P w = .ok (.tuple #[.agg l.toArray, tmps.getD u undef]) w := by
  have ht' : tmps[t]?.getD undef = .pointer (some ⟨b, 0, none⟩) := by simpa using ht
  simp [results, h, ht', asAddr, run_loadVar_mid w b 0 ty l d hb.whole hu hd hi]
end Go.Proofs.YthfkmedpcmiibaaDoor.T
/-! ### Which of two rows comes first: a total order. -/
namespace Go.Proofs.YthfkmedpcmiibaaDoor.T
open Go

/-- A comparison that answers -1, 0 or 1, and is a total order. -/
structure Ord3 {α : Type} (c : α → α → Int) : Prop where
  three : ∀ x y, c x y = -1 ∨ c x y = 0 ∨ c x y = 1
  eq : ∀ x y, c x y = 0 ↔ x = y
  neg : ∀ x y, c y x = - c x y
  trans : ∀ x y z, c x y = -1 → c y z = -1 → c x z = -1
def lexP {α β : Type} (c : α → α → Int) (d : β → β → Int) (x y : α × β) : Int := if c x.1 y.1 = 0 then d x.2 y.2 else c x.1 y.1
theorem Ord3.pair {α β : Type} {c : α → α → Int} {d : β → β → Int} (hc : Ord3 c) (hd : Ord3 d) : Ord3 (lexP c d) where
  three x y := by
    unfold lexP
    split
    · exact hd.three _ _
    · exact hc.three _ _
  eq x y := by
    obtain ⟨a, b⟩ := x
    obtain ⟨a', b'⟩ := y
    unfold lexP
    by_cases h : c a a' = 0
    · rw [if_pos h, hd.eq, Prod.mk.injEq]
      exact ⟨fun e => ⟨(hc.eq _ _).1 h, e⟩, fun e => e.2⟩
    · rw [if_neg h, Prod.mk.injEq]
      exact ⟨fun e => absurd e h, fun e => absurd ((hc.eq _ _).2 e.1) h⟩
  neg x y := by
    unfold lexP
    have h := hc.neg x.1 y.1
    by_cases e : c x.1 y.1 = 0
    · rw [if_pos e, if_pos (by omega), hd.neg]
    · rw [if_neg e, if_neg (by omega), h]
  trans x y z h1 h2 := by
    unfold lexP at *
    by_cases e1 : c x.1 y.1 = 0
    · rw [if_pos e1] at h1
      have ex := (hc.eq _ _).1 e1
      rw [ex]
      by_cases e2 : c y.1 z.1 = 0
      · rw [if_pos e2] at h2 ⊢
        exact hd.trans _ _ _ h1 h2
      · rw [if_neg e2] at h2 ⊢
        exact h2
    · rw [if_neg e1] at h1
      by_cases e2 : c y.1 z.1 = 0
      · have ez := (hc.eq _ _).1 e2
        rw [← ez, if_neg e1]
        exact h1
      · rw [if_neg e2] at h2
        have h3 := hc.trans _ _ _ h1 h2
        rw [if_neg (by omega)]
        exact h3
def lexL {α : Type} (c : α → α → Int) : List α → List α → Int
  | [], [] => 0
  | [], _ :: _ => -1
  | _ :: _, [] => 1
  | x :: a, y :: b => if c x y = 0 then lexL c a b else c x y
theorem lexL_three {α : Type} {c : α → α → Int} (h : Ord3 c) : ∀ x y, lexL c x y = -1 ∨ lexL c x y = 0 ∨ lexL c x y = 1
  | [], [] => .inr (.inl rfl)
  | [], _ :: _ => .inl rfl
  | _ :: _, [] => .inr (.inr rfl)
  | x :: a, y :: b => by
    unfold lexL
    split
    · exact lexL_three h a b
    · exact h.three x y
theorem lexL_eq {α : Type} {c : α → α → Int} (h : Ord3 c) : ∀ x y, lexL c x y = 0 ↔ x = y
  | [], [] => by simp [lexL]
  | [], _ :: _ => by simp [lexL]
  | _ :: _, [] => by simp [lexL]
  | x :: a, y :: b => by
    unfold lexL
    by_cases e : c x y = 0
    · rw [if_pos e, lexL_eq h a b, List.cons.injEq]
      exact ⟨fun q => ⟨(h.eq _ _).1 e, q⟩, fun q => q.2⟩
    · rw [if_neg e, List.cons.injEq]
      exact ⟨fun q => absurd q e, fun q => absurd ((h.eq _ _).2 q.1) e⟩
theorem lexL_neg {α : Type} {c : α → α → Int} (h : Ord3 c) : ∀ x y, lexL c y x = - lexL c x y
  | [], [] => rfl
  | [], _ :: _ => rfl
  | _ :: _, [] => rfl
  | x :: a, y :: b => by
    unfold lexL
    have q := h.neg x y
    by_cases e : c x y = 0
    · rw [if_pos e, if_pos (by omega), lexL_neg h a b]
    · rw [if_neg e, if_neg (by omega), q]
theorem lexL_trans {α : Type} {c : α → α → Int} (h : Ord3 c) : ∀ x y z, lexL c x y = -1 → lexL c y z = -1 → lexL c x z = -1
  | [], [], z, h1, _ => by simp [lexL] at h1
  | [], _ :: _, [], _, h2 => by simp [lexL] at h2
  | [], _ :: _, _ :: _, _, _ => rfl
  | _ :: _, [], z, h1, _ => by simp [lexL] at h1
  | _ :: _, _ :: _, [], _, h2 => by simp [lexL] at h2
  | x :: a, y :: b, z :: d, h1, h2 => by
    unfold lexL at *
    by_cases e1 : c x y = 0
    · rw [if_pos e1] at h1
      rw [(h.eq _ _).1 e1]
      by_cases e2 : c y z = 0
      · rw [if_pos e2] at h2 ⊢
        exact lexL_trans h a b d h1 h2
      · rw [if_neg e2] at h2 ⊢
        exact h2
    · rw [if_neg e1] at h1
      by_cases e2 : c y z = 0
      · rw [← (h.eq _ _).1 e2, if_neg e1]
        exact h1
      · rw [if_neg e2] at h2
        have h3 := h.trans _ _ _ h1 h2
        rw [if_neg (by omega)]
        exact h3
theorem Ord3.list {α : Type} {c : α → α → Int} (h : Ord3 c) : Ord3 (lexL c) := ⟨lexL_three h, lexL_eq h, lexL_neg h, lexL_trans h⟩
theorem ordInt : Ord3 Lib.compareInt where
  three x y := by unfold Lib.compareInt; split; exact .inl rfl; split; exact .inr (.inr rfl); exact .inr (.inl rfl)
  eq x y := by unfold Lib.compareInt; split; simp; omega; split; simp; omega; simp; omega
  neg x y := by unfold Lib.compareInt; split <;> split <;> (try split) <;> (try split) <;> omega
  trans x y z h1 h2 := by
    unfold Lib.compareInt at *
    split at h1
    · split at h2
      · rw [if_pos (by omega)]
      · split at h2 <;> simp at h2
    · split at h1 <;> simp at h1
def cmpU (x y : UInt8) : Int := if x < y then -1 else if y < x then 1 else 0
theorem ordU : Ord3 cmpU where
  three x y := by unfold cmpU; split; exact .inl rfl; split; exact .inr (.inr rfl); exact .inr (.inl rfl)
  eq x y := by
    unfold cmpU
    by_cases h1 : x < y
    · rw [if_pos h1]; simp; rintro rfl; exact UInt8.lt_irrefl x h1
    · by_cases h2 : y < x
      · rw [if_neg h1, if_pos h2]; simp; rintro rfl; exact UInt8.lt_irrefl x h2
      · rw [if_neg h1, if_neg h2]; simp; exact UInt8.le_antisymm (UInt8.not_lt.1 h2) (UInt8.not_lt.1 h1)
  neg x y := by
    unfold cmpU
    by_cases h1 : x < y
    · have h2 : ¬ y < x := fun h => UInt8.lt_irrefl x (UInt8.lt_trans h1 h)
      simp [h1, h2]
    · by_cases h2 : y < x <;> simp [h1, h2]
  trans x y z h1 h2 := by
    unfold cmpU at *
    split at h1
    · split at h2
      · rename_i a b
        rw [if_pos (UInt8.lt_trans a b)]
      · split at h2 <;> simp at h2
    · split at h1 <;> simp at h1
theorem bytes_lex : ∀ a b : List UInt8, Lib.compareBytes a b = lexL cmpU a b
  | [], [] => rfl
  | [], _ :: _ => rfl
  | _ :: _, [] => rfl
  | x :: a, y :: b => by
    unfold Lib.compareBytes lexL cmpU
    have ih := bytes_lex a b
    by_cases h1 : x < y
    · simp [h1]
    · by_cases h2 : y < x
      · simp [h1, h2]
      · simp [h1, h2, ih]
        rfl
theorem ordB : Ord3 Lib.compareBytes := by
  have e : Lib.compareBytes = lexL cmpU := by funext a b; exact bytes_lex a b
  rw [e]
  exact ordU.list
def bs (s : ByteArray) : List UInt8 := s.data.toList
theorem bs_inj {a b : ByteArray} (h : bs a = bs b) : a = b := by
  obtain ⟨a⟩ := a
  obtain ⟨b⟩ := b
  unfold bs at h
  simp only at h
  rw [Array.toList_inj.1 h]
def cmpS (a b : ByteArray) : Int := Lib.compareBytes (bs a) (bs b)
theorem ordS : Ord3 cmpS where
  three _ _ := ordB.three _ _
  eq x y := by unfold cmpS; rw [ordB.eq]; exact ⟨bs_inj, fun e => by rw [e]⟩
  neg _ _ := ordB.neg _ _
  trans _ _ _ h1 h2 := ordB.trans _ _ _ h1 h2
end Go.Proofs.YthfkmedpcmiibaaDoor.T
/-! ### Lists behind slices, whatever the elements; appends. -/
namespace Go.Proofs.YthfkmedpcmiibaaDoor.T
open Go.RowKit Go.Shelf
set_option maxRecDepth 100000
/-- A kind of elements. -/
structure Ety (α : Type) where
  m : Nat
  enc : α → List Value
  tE : TypeId
  tS : TypeId
  z : Value
  bytes : Nat
  len : ∀ x, (enc x).length = m
  one : ∀ x u, u ∈ enc x → u.oneCell' = true
  und : Tryd.prog.underlying tS = some (.slice tE)
  info : (Tryd.prog.info? tE).map (fun i => (i.zero, i.size, i.bytes)) = some (some z, m, bytes)
  zs : z.cells.size = m
  pos : 0 < m
  by32 : bytes ≤ 32
variable {α : Type} {E : Ety α} {w w' : World} {L L' : List α}
def Ety.cells (E : Ety α) (L : List α) : List Value := L.flatMap E.enc
theorem cells_len (E : Ety α) : ∀ L : List α, (E.cells L).length = L.length * E.m
  | [] => by simp [Ety.cells]
  | x :: L => by
    have := cells_len E L
    rw [show E.cells (x :: L) = E.enc x ++ E.cells L by simp [Ety.cells]]
    simp [this, E.len, Nat.add_mul]; omega
theorem cells_app (E : Ety α) (L M : List α) : E.cells (L ++ M) = E.cells L ++ E.cells M := by simp [Ety.cells]
theorem cells_one (E : Ety α) (L : List α) : ∀ u ∈ E.cells L, u.oneCell' = true := by
  intro u hu
  obtain ⟨x, _, h⟩ := List.mem_flatMap.1 hu
  exact E.one x u h
theorem cells_get (E : Ety α) {L : List α} {i : Nat} {x : α} (h : L[i]? = some x) {j : Nat} (hj : j < E.m) : (E.cells L)[i * E.m + j]? = (E.enc x)[j]? := by
  obtain ⟨hi, hx⟩ := List.getElem?_eq_some_iff.1 h
  have e : L = L.take i ++ (x :: L.drop (i + 1)) := by rw [← hx]; simp
  have hl : (E.cells (L.take i)).length = i * E.m := by rw [cells_len, List.length_take, Nat.min_eq_left (by omega)]
  rw [e, cells_app, List.getElem?_append_right (by omega), hl, show E.cells (x :: L.drop (i + 1)) = E.enc x ++ E.cells (L.drop (i + 1)) by simp [Ety.cells], List.getElem?_append_left (by rw [E.len]; omega)]
  simp
/-- A slice reads as a list, in a block that is known whole. -/
def LV (E : Ety α) (w : World) (v : Value) (L : List α) : Prop := ∃ a c, v = .slice a L.length c ∧ L.length ≤ c ∧ (0 < L.length → ∃ g o cs, a = some ⟨g, o, none⟩ ∧ Blk w g cs E.tE ∧ ∀ (j : Nat) (u : Value), (E.cells L)[j]? = some u → cs[o + j]? = some u)
theorem LV.form {v : Value} (h : LV E w v L) : ∃ a c, v = .slice a L.length c := by obtain ⟨a, c, h, _⟩ := h; exact ⟨a, c, h⟩
theorem LV.keep {v : Value} (h : LV E w v L) (hk : ∀ g l, Blk w g l E.tE → Blk w' g l E.tE) : LV E w' v L := by
  obtain ⟨a, c, h1, hcap, h2⟩ := h
  refine ⟨a, c, h1, hcap, fun h0 => ?_⟩
  obtain ⟨g, o, cs, h3, h4, h5⟩ := h2 h0
  exact ⟨g, o, cs, h3, hk _ _ h4, h5⟩
theorem LV.below {v : Value} (h : LV E w v L) (k : Below w.heap.size w w') : LV E w' v L := h.keep fun _ _ q => q.below k
theorem LV.at {a : Option Addr} {n c : Nat} (h : LV E w (.slice a n c) L) {i : Nat} {x : α} (hx : L[i]? = some x) : ∃ g o, a = some ⟨g, o, none⟩ ∧ ∀ j, j < E.m → w.cell? ⟨g, o + i * E.m + j, none⟩ = (E.enc x)[j]? := by
  obtain ⟨a', c', h1, _, h2⟩ := h
  simp only [Value.slice.injEq] at h1
  obtain ⟨rfl, -, -⟩ := h1
  obtain ⟨g, o, cs, rfl, h4, h5⟩ := h2 (by have := (List.getElem?_eq_some_iff.1 hx).1; omega)
  refine ⟨g, o, rfl, fun j hj => ?_⟩
  rw [h4.cell]
  have e := cells_get E hx hj
  obtain ⟨u, hu⟩ : ∃ u, (E.enc x)[j]? = some u := ⟨_, List.getElem?_eq_getElem (by rw [E.len]; exact hj)⟩
  rw [hu] at e ⊢
  rw [Nat.add_assoc]
  exact h5 _ u e
theorem LV.nil (E : Ety α) (w : World) (a : Option Addr) (c : Nat) : LV E w (.slice a 0 c) [] := ⟨a, c, rfl, Nat.zero_le _, fun h => by simp at h⟩
/-- What an append onto an empty literal leaves: nothing, or a row of its own from the block B on. -/
def RU (E : Ety α) (B : Nat) (w : World) (u : Value) (L : List α) : Prop := (L = [] ∧ ∃ b : Addr, u = .slice (some b) 0 0 ∧ B ≤ b.block ∧ b.block < w.heap.size) ∨ (L ≠ [] ∧ w.ownsRow B E.tE E.m u L.length (E.cells L))
theorem RU.keep {B : Nat} {u : Value} (h : RU E B w u L) (hs : w.heap.size ≤ w'.heap.size) (hk : ∀ k, B ≤ k → k < w.heap.size → w'.heap[k]? = w.heap[k]?) : RU E B w' u L := by
  rcases h with ⟨h0, b, h1, h2, h3⟩ | ⟨h0, h1, h2⟩
  · exact .inl ⟨h0, b, h1, h2, Nat.lt_of_lt_of_le h3 hs⟩
  · refine .inr ⟨h0, h1, ?_⟩
    rcases h2 with h2 | ⟨g, cap, cur, rfl, h3, h4, h5⟩
    · exact .inl h2
    · exact .inr ⟨g, cap, cur, rfl, h3, (hk g h3 (Array.getElem?_eq_some_iff.1 h4).1).trans h4, h5⟩
theorem RU.below {B : Nat} {u : Value} (h : RU E B w u L) (k : Below w.heap.size w w') : RU E B w' u L := h.keep k.size fun b _ hb => k.block b hb
theorem RU.at {B k : Nat} {u : Value} (h : RU E B w u L) (hk : u.ownBlock = some k) : B ≤ k ∧ k < w.heap.size := by
  rcases h with ⟨_, b, rfl, h2, h3⟩ | ⟨_, _, h2⟩
  · cases hk; exact ⟨h2, h3⟩
  · rcases h2 with ⟨rfl, _⟩ | ⟨g, cap, cur, rfl, h3, h4, _⟩
    · cases hk
    · cases hk; exact ⟨h3, (Array.getElem?_eq_some_iff.1 h4).1⟩
theorem RU.read {B : Nat} {u : Value} (h : RU E B w u L) : LV E w u L := by
  rcases h with ⟨rfl, b, rfl, h2, h3⟩ | ⟨h0, h1, h2⟩
  · exact ⟨some b, 0, rfl, Nat.le_refl _, fun h => absurd h (by simp)⟩
  · rcases h2 with ⟨rfl, hn⟩ | ⟨g, cap, cur, rfl, _, h3, h4, h5, h6, h7⟩
    · exact absurd (List.length_pos_iff.2 h0) (by omega)
    · refine ⟨_, cap, rfl, h4, fun _ => ⟨g, 0, cur.toList, rfl, h3, fun j u hu => ?_⟩⟩
      have hj := (List.getElem?_eq_some_iff.1 hu).1
      rw [cells_len] at hj
      rw [← h7, List.getElem?_take, if_pos (by omega)] at hu
      rw [Nat.zero_add]
      exact hu
theorem news_of {g o : Nat} {cs : List Value} (hb : Blk w g cs E.tE) (h : ∀ (j : Nat) (u : Value), (E.cells L)[j]? = some u → cs[o + j]? = some u) : ∀ j u, (E.cells L)[j]? = some u → w.cell? ((⟨g, o, none⟩ : Addr).add j) = some u := fun j u hu => by
  rw [show (⟨g, o, none⟩ : Addr).add j = ⟨g, o + j, none⟩ by unfold Addr.add; split <;> simp_all, hb.cell]
  exact h j u hu
theorem run_app {B : Nat} {u lv : Value} (hU : RU E B w u L) (hV : LV E w lv L') (hfew : L.length + L'.length ≤ 100000) (hB : B ≤ w.heap.size) : ∃ u' w', (Builtin.append_ #[E.tS, E.tS] E.tS #[u, lv]).run Tryd.prog w = .ok u' w' ∧ RU E B w' u' (L ++ L') ∧ w.grownBy w' u.ownBlock := by
  obtain ⟨a, c, rfl, _, hat⟩ := hV
  obtain ⟨i, hi, hzz⟩ := Option.map_eq_some_iff.1 E.info
  simp only [Prod.mk.injEq] at hzz
  obtain ⟨hz, hs, hb⟩ := hzz
  have h32 := E.by32
  have hby : (L.length + L'.length) * E.bytes ≤ 140737488355328 := Nat.le_trans (Nat.mul_le_mul hfew h32) (by decide)
  by_cases h0 : L' = []
  · subst h0
    rw [List.append_nil]
    have hsrc : Src Tryd.prog i.size E.tS (.slice a 0 c) 0 [] w := by
      cases a with
      | none => exact Src.ofNil w E.und c
      | some a => exact Src.ofSlice w E.und a 0 c [] (by simp) (by simp) (by simp)
    have hform : ∃ b n k, u = .slice b n k ∧ n ≤ k := by
      rcases hU with ⟨_, b, rfl, _, _⟩ | ⟨_, _, h2⟩
      · exact ⟨_, _, _, rfl, Nat.le_refl _⟩
      · rcases h2 with ⟨rfl, hn⟩ | ⟨g, cap, cur, rfl, _, _, h4, _⟩
        · exact ⟨_, _, _, rfl, Nat.le_refl _⟩
        · exact ⟨_, _, _, rfl, h4⟩
    obtain ⟨b, n, k, rfl, hnk⟩ := hform
    exact ⟨_, w, run_append_nothing w E.tS E.tS E.tS E.tE i E.und hi b n k hnk _ hsrc, hU, ⟨rfl, rfl, rfl, Nat.le_refl _, fun _ _ _ => rfl⟩⟩
  · have hpos : 0 < L'.length := List.length_pos_iff.2 h0
    obtain ⟨g, o, cs, rfl, hbk, hta⟩ := hat hpos
    have hne : L ++ L' ≠ [] := by simp [h0]
    rcases hU with ⟨rfl, b, rfl, _, _⟩ | ⟨h1, hown⟩
    · obtain ⟨v', w', h1, h2, h3⟩ := run_append_arg_grows (P := Tryd.prog) w E.tS E.tS E.tE i E.z E.m E.bytes E.und hi hz hs hb E.zs E.pos b 0 0 [] (by simp) (by simp) ⟨g, o, none⟩ L'.length c (E.cells L') (cells_len E L') (news_of hbk hta) (by omega) (by unfold maxLen; omega) (by simpa using hby)
      refine ⟨v', w', h1, .inr ⟨hne, ?_⟩, ⟨h3.os, h3.tape, h3.output, h3.size, fun k hk _ => h3.block k hk (by simp)⟩⟩
      rw [Nat.zero_add, List.nil_append] at h2
      exact ⟨h2.1, h2.2.imp id fun ⟨g', cap, cur, q1, q2, q3⟩ => ⟨g', cap, cur, q1, Nat.le_trans hB q2, q3⟩⟩
    · obtain ⟨g', cap, w', q1, q2, q3, q4, q5⟩ := run_append_lies (P := Tryd.prog) w E.tS E.tS B E.tE i E.z E.m E.bytes E.und hi hz hs hb E.zs E.pos u L.length (E.cells L) hown ⟨g, o, none⟩ L'.length c (E.cells L') (cells_len E L') (news_of hbk hta) (cells_one E L') hpos (by unfold maxLen; omega) hby hB _ rfl
      refine ⟨_, w', q1, .inr ⟨hne, ?_⟩, q3⟩
      rw [List.length_append, cells_app]
      exact q2
theorem grown_below {B : Nat} {u : Value} (hU : RU E B w u L) (h : w.grownBy w' u.ownBlock) (hB : B ≤ w.heap.size) : Below B w w' :=
  ⟨h.os, h.tape, h.output, h.size, fun k hk => h.block k (by omega) fun e => by have := (hU.at e.symm).1; omega⟩
theorem LV.take {a : Option Addr} {n c : Nat} (h : LV E w (.slice a n c) L) {k : Nat} (hk : k ≤ L.length) (c' : Nat) (hc' : k ≤ c') : LV E w (.slice a k c') (L.take k) := by
  obtain ⟨a', c0, hv, _, hc⟩ := h
  simp only [Value.slice.injEq] at hv
  obtain ⟨rfl, -, rfl⟩ := hv
  have hl : (L.take k).length = k := by simp; omega
  refine ⟨a, c', by rw [hl], by rw [hl]; exact hc', fun h0 => ?_⟩
  obtain ⟨g, o, cs, rfl, hg, hcc⟩ := hc (by omega)
  refine ⟨g, o, cs, rfl, hg, fun j u hu => hcc j u ?_⟩
  have hj := (List.getElem?_eq_some_iff.1 hu).1
  rw [← List.take_append_drop k L, cells_app, List.getElem?_append_left hj]
  exact hu
theorem LV.drop {a : Option Addr} {n c : Nat} (h : LV E w (.slice a n c) L) {k : Nat} (hk : k < L.length) (c' : Nat) (hc' : L.length - k ≤ c') : ∃ g o, a = some ⟨g, o, none⟩ ∧ LV E w (.slice (some ⟨g, o + k * E.m, none⟩) (L.length - k) c') (L.drop k) := by
  obtain ⟨a', c0, hv, _, hc⟩ := h
  simp only [Value.slice.injEq] at hv
  obtain ⟨rfl, -, rfl⟩ := hv
  obtain ⟨g, o, cs, rfl, hg, hcc⟩ := hc (by omega)
  refine ⟨g, o, rfl, _, c', by rw [List.length_drop], by rw [List.length_drop]; exact hc', fun _ => ⟨g, o + k * E.m, cs, rfl, hg, fun j u hu => ?_⟩⟩
  rw [Nat.add_assoc]
  refine hcc _ u ?_
  have hl : (E.cells (L.take k)).length = k * E.m := by rw [cells_len, List.length_take, Nat.min_eq_left (by omega)]
  rw [← List.take_append_drop k L, cells_app, List.getElem?_append_right (by omega), hl]
  simpa using hu
theorem LV.cap {a : Option Addr} {n c : Nat} (h : LV E w (.slice a n c) L) : n = L.length ∧ L.length ≤ c := by
  obtain ⟨a', c0, hv, h1, _⟩ := h
  simp only [Value.slice.injEq] at hv
  obtain ⟨-, rfl, rfl⟩ := hv
  exact ⟨rfl, h1⟩
theorem LV.sliced {a : Option Addr} {n c : Nat} (h : LV E w (.slice a n c) L) {k : Nat} (hk : k ≤ n) : LV E w (.slice (if c = k then a else Option.map (fun x => x.add (k * E.m)) a) (n - k) (c - k)) (L.drop k) := by
  obtain ⟨rfl, hcap⟩ := h.cap
  by_cases hkn : k < L.length
  · obtain ⟨g, o, rfl, h2⟩ := h.drop hkn (c - k) (by omega)
    rw [if_neg (by omega), Option.map_some, Addr.add_mid]
    exact h2
  · refine ⟨_, _, by rw [List.length_drop], by rw [List.length_drop]; omega, fun h0 => ?_⟩
    rw [List.length_drop] at h0
    omega
theorem lv_blk (E : Ety α) {g : Nat} {L : List α} (h : Blk w g (E.cells L) E.tE) (c : Nat) (hc : L.length ≤ c) : LV E w (.slice (some ⟨g, 0, none⟩) L.length c) L := ⟨_, c, rfl, hc, fun _ => ⟨g, 0, _, rfl, h, fun j u hu => by rw [Nat.zero_add]; exact hu⟩⟩
end Go.Proofs.YthfkmedpcmiibaaDoor.T
/-! ### Pairs by keys, rising: what is put, taken out, found; plain. -/
namespace Go.Proofs.YthfkmedpcmiibaaDoor.T
open Go

abbrev Pr := ByteArray × ByteArray
def lt (a b : ByteArray) : Bool := decide (cmpS a b = -1)
theorem lt_irrefl (a : ByteArray) : lt a a = false := by
  have := (ordS.eq a a).2 rfl
  simp [lt, this]
theorem lt_trans {a b c : ByteArray} (h : lt a b = true) (k : lt b c = true) : lt a c = true := by
  simp only [lt, decide_eq_true_eq] at *
  exact ordS.trans _ _ _ h k
theorem lt_three (a b : ByteArray) : lt a b = true ∨ a = b ∨ lt b a = true := by
  simp only [lt, decide_eq_true_eq]
  have h1 := ordS.three a b
  have h2 := ordS.neg a b
  have h3 := ordS.eq a b
  rcases h1 with h | h | h
  · exact .inl h
  · exact .inr (.inl (h3.1 h))
  · exact .inr (.inr (by omega))
theorem lt_not {a b : ByteArray} (h : lt a b = true) : lt b a = false := by
  cases h2 : lt b a
  · rfl
  · have := lt_trans h h2
    rw [lt_irrefl] at this
    cases this
theorem lt_ne {a b : ByteArray} (h : lt a b = true) : a ≠ b := fun e => by rw [e, lt_irrefl] at h; cases h
theorem nlt_eq {a b : ByteArray} (h : lt a b = false) (k : lt b a = false) : a = b := by
  rcases lt_three a b with q | q | q
  · rw [q] at h; cases h
  · exact q
  · rw [q] at k; cases k
theorem nlt_lt {a b c : ByteArray} (h : lt b a = false) (k : lt b c = true) : lt a c = true := by
  rcases lt_three a b with q | q | q
  · exact lt_trans q k
  · rw [q]; exact k
  · rw [q] at h; cases h
theorem lt_nlt {a b c : ByteArray} (h : lt a b = true) (k : lt c b = false) : lt a c = true := by
  rcases lt_three b c with q | q | q
  · exact lt_trans h q
  · rw [← q]; exact h
  · rw [q] at k; cases k

def Srt (kv : List Pr) : Prop := kv.Pairwise fun a b => lt a.1 b.1 = true
def lo (kv : List Pr) (k : ByteArray) : List Pr := kv.filter fun p => lt p.1 k
def ge (kv : List Pr) (k : ByteArray) : List Pr := kv.filter fun p => !lt p.1 k
def hi (kv : List Pr) (k : ByteArray) : List Pr := kv.filter fun p => lt k p.1
def le (kv : List Pr) (k : ByteArray) : List Pr := kv.filter fun p => !lt k p.1
def put (kv : List Pr) (p : Pr) : List Pr := lo kv p.1 ++ p :: hi kv p.1
def del (kv : List Pr) (k : ByteArray) : List Pr := lo kv k ++ hi kv k
def has (kv : List Pr) (k : ByteArray) : Bool := kv.any fun p => decide (p.1 = k)

/-- A list that is cut at a place, ahead of which all keys are below k, and from which on none is. -/
theorem cut_lo : ∀ {kv : List Pr} {i : Nat} {k : ByteArray}, (∀ (j : Nat) (p : Pr), kv[j]? = some p → (lt p.1 k = true ↔ j < i)) → lo kv k = kv.take i ∧ ge kv k = kv.drop i
  | [], i, k, _ => by simp [lo, ge]
  | p :: kv, 0, k, h => by
    have h0 : lt p.1 k = false := by
      have := (h 0 p rfl)
      cases hq : lt p.1 k
      · rfl
      · exact absurd (this.1 hq) (by omega)
    have ih := @cut_lo kv 0 k (fun j q hj => ⟨fun hl => by have := (h (j + 1) q (by simpa using hj)).1 hl; omega, fun hl => by omega⟩)
    simp only [lo, ge, List.filter_cons, h0] at ih ⊢
    simp only [List.take_zero, List.drop_zero] at ih ⊢
    simp [ih.1, ih.2]
  | p :: kv, i + 1, k, h => by
    have h0 : lt p.1 k = true := (h 0 p rfl).2 (by omega)
    have ih := @cut_lo kv i k (fun j q hj => by have := h (j + 1) q (by simpa using hj); rw [this]; omega)
    simp only [lo, ge, List.filter_cons, h0] at ih ⊢
    simp [ih.1, ih.2]
theorem Srt.get {kv : List Pr} (h : Srt kv) {i j : Nat} {p q : Pr} (hi : kv[i]? = some p) (hj : kv[j]? = some q) (hij : i < j) : lt p.1 q.1 = true := by
  obtain ⟨h1, rfl⟩ := List.getElem?_eq_some_iff.1 hi
  obtain ⟨h2, rfl⟩ := List.getElem?_eq_some_iff.1 hj
  exact List.pairwise_iff_getElem.1 h i j h1 h2 hij
theorem filter_all {l : List Pr} {f : Pr → Bool} (h : ∀ x ∈ l, f x = true) : l.filter f = l := List.filter_eq_self.2 h
theorem filter_none {l : List Pr} {f : Pr → Bool} (h : ∀ x ∈ l, f x = false) : l.filter f = [] := List.filter_eq_nil_iff.2 (fun x hx => by rw [h x hx]; simp)
/-- The key is found at the place. -/
theorem cut_found {kv : List Pr} {i : Nat} {k : ByteArray} {p : Pr} (hs : Srt kv) (hp : kv[i]? = some p) (hk : p.1 = k) (h : ∀ (j : Nat) (p : Pr), kv[j]? = some p → (lt p.1 k = true ↔ j < i)) : hi kv k = kv.drop (i + 1) ∧ le kv k = kv.take (i + 1) ∧ has kv k = true := by
  subst hk
  have e : kv = kv.take (i + 1) ++ kv.drop (i + 1) := (List.take_append_drop _ _).symm
  have h1 : ∀ x ∈ kv.take (i + 1), lt p.1 x.1 = false := fun x hx => by
    obtain ⟨j, hj⟩ := List.getElem?_of_mem hx
    rw [List.getElem?_take] at hj
    split at hj
    · rename_i hji
      by_cases hij : j = i
      · subst hij
        rw [hp] at hj
        cases hj
        exact lt_irrefl _
      · exact lt_not (hs.get hj hp (by omega))
    · cases hj
  have h2 : ∀ x ∈ kv.drop (i + 1), lt p.1 x.1 = true := fun x hx => by
    obtain ⟨j, hj⟩ := List.getElem?_of_mem hx
    rw [List.getElem?_drop] at hj
    exact hs.get hp hj (by omega)
  refine ⟨?_, ?_, ?_⟩
  · unfold hi
    rw [e, List.filter_append, filter_none h1, filter_all h2]
    simp
  · unfold le
    rw [e, List.filter_append, filter_all (fun x hx => by rw [h1 x hx]; rfl), filter_none (fun x hx => by rw [h2 x hx]; rfl)]
    simp
  · exact List.any_eq_true.2 ⟨p, List.mem_of_getElem? hp, by simp⟩
/-- It is not there. -/
theorem cut_none {kv : List Pr} {i : Nat} {k : ByteArray} (h : ∀ (j : Nat) (p : Pr), kv[j]? = some p → (lt p.1 k = true ↔ j < i)) (hn : ∀ p, kv[i]? = some p → p.1 ≠ k) (hs : Srt kv) : hi kv k = kv.drop i ∧ le kv k = kv.take i ∧ has kv k = false := by
  have e : kv = kv.take i ++ kv.drop i := (List.take_append_drop _ _).symm
  have h1 : ∀ x ∈ kv.take i, lt x.1 k = true := fun x hx => by
    obtain ⟨j, hj⟩ := List.getElem?_of_mem hx
    rw [List.getElem?_take] at hj
    split at hj
    · exact (h j x hj).2 (by omega)
    · cases hj
  have h2 : ∀ x ∈ kv.drop i, lt k x.1 = true := fun x hx => by
    obtain ⟨j, hj⟩ := List.getElem?_of_mem hx
    rw [List.getElem?_drop] at hj
    have hl : ∃ p, kv[i]? = some p := by
      have := (List.getElem?_eq_some_iff.1 hj).1
      exact ⟨_, List.getElem?_eq_getElem (by omega)⟩
    obtain ⟨p, hp⟩ := hl
    have hp1 : lt p.1 k = false := by
      cases hq : lt p.1 k
      · rfl
      · exact absurd ((h i p hp).1 hq) (by omega)
    have hp2 : lt k p.1 = true := by
      rcases lt_three p.1 k with q | q | q
      · rw [q] at hp1; cases hp1
      · exact absurd q (hn p hp)
      · exact q
    by_cases hj0 : j = 0
    · subst hj0
      rw [Nat.add_zero, hp] at hj
      cases hj
      exact hp2
    · exact lt_trans hp2 (hs.get hp hj (by omega))
  refine ⟨?_, ?_, ?_⟩
  · unfold hi
    rw [e, List.filter_append, filter_none (fun x hx => lt_not (h1 x hx)), filter_all h2]
    simp
  · unfold le
    rw [e, List.filter_append, filter_all (fun x hx => by rw [lt_not (h1 x hx)]; rfl), filter_none (fun x hx => by rw [h2 x hx]; rfl)]
    simp
  · rw [e]
    unfold has
    rw [List.any_append, Bool.or_eq_false_iff]
    refine ⟨List.any_eq_false.2 fun x hx => ?_, List.any_eq_false.2 fun x hx => ?_⟩
    · simpa using lt_ne (h1 x hx)
    · simpa using (lt_ne (h2 x hx)).symm
/-- Three lists, one behind the other, of which the middle one alone has to do with k. -/
structure Mid (A B C : List Pr) (k : ByteArray) : Prop where
  a : ∀ x ∈ A, lt x.1 k = true
  c : ∀ x ∈ C, lt k x.1 = true
section
variable {A B C : List Pr} {k : ByteArray}
theorem Mid.lo (h : Mid A B C k) : lo (A ++ B ++ C) k = A ++ lo B k := by
  unfold T.lo
  rw [List.filter_append, List.filter_append, filter_all h.a, filter_none (fun x hx => lt_not (h.c x hx)), List.append_nil]
theorem Mid.hi (h : Mid A B C k) : hi (A ++ B ++ C) k = hi B k ++ C := by
  unfold T.hi
  rw [List.filter_append, List.filter_append, filter_none (fun x hx => lt_not (h.a x hx)), filter_all h.c, List.nil_append]
theorem Mid.ge (h : Mid A B C k) : ge (A ++ B ++ C) k = ge B k ++ C := by
  unfold T.ge
  rw [List.filter_append, List.filter_append, filter_none (l := A) (fun x hx => by rw [h.a x hx]; rfl), filter_all (l := C) (fun x hx => by rw [lt_not (h.c x hx)]; rfl), List.nil_append]
theorem Mid.le (h : Mid A B C k) : le (A ++ B ++ C) k = A ++ le B k := by
  unfold T.le
  rw [List.filter_append, List.filter_append, filter_all (l := A) (fun x hx => by rw [lt_not (h.a x hx)]; rfl), filter_none (l := C) (fun x hx => by rw [h.c x hx]; rfl), List.append_nil]
theorem Mid.put {v : ByteArray} (h : Mid A B C k) : put (A ++ B ++ C) (k, v) = A ++ put B (k, v) ++ C := by
  unfold T.put
  rw [h.lo, h.hi]
  simp
theorem Mid.del (h : Mid A B C k) : del (A ++ B ++ C) k = A ++ del B k ++ C := by
  unfold T.del
  rw [h.lo, h.hi]
  simp
theorem Mid.has (h : Mid A B C k) : has (A ++ B ++ C) k = has B k := by
  unfold T.has
  rw [List.any_append, List.any_append]
  have h1 : A.any (fun p => decide (p.1 = k)) = false := List.any_eq_false.2 fun x hx => by simpa using lt_ne (h.a x hx)
  have h2 : C.any (fun p => decide (p.1 = k)) = false := List.any_eq_false.2 fun x hx => by simpa using (lt_ne (h.c x hx)).symm
  rw [h1, h2]
  simp
end
theorem Srt.append {A B : List Pr} : Srt (A ++ B) ↔ Srt A ∧ Srt B ∧ ∀ x ∈ A, ∀ y ∈ B, lt x.1 y.1 = true := List.pairwise_append
theorem Srt.filter {l : List Pr} (h : Srt l) (f : Pr → Bool) : Srt (l.filter f) := List.Pairwise.filter f h
theorem Srt.put {kv : List Pr} (h : Srt kv) (p : Pr) : Srt (put kv p) := by
  refine Srt.append.2 ⟨h.filter _, List.pairwise_cons.2 ⟨fun x hx => ?_, h.filter _⟩, fun x hx y hy => ?_⟩
  · exact (List.mem_filter.1 hx).2
  · have h1 := (List.mem_filter.1 hx).2
    rcases List.mem_cons.1 hy with rfl | hy
    · exact h1
    · exact lt_trans h1 (List.mem_filter.1 hy).2
theorem Srt.del {kv : List Pr} (h : Srt kv) (k : ByteArray) : Srt (del kv k) :=
  Srt.append.2 ⟨h.filter _, h.filter _, fun _ hx _ hy => lt_trans (List.mem_filter.1 hx).2 (List.mem_filter.1 hy).2⟩
theorem part_len {kv : List Pr} (hs : Srt kv) (k : ByteArray) : (lo kv k).length + (hi kv k).length + (has kv k).toNat = kv.length := by
  induction kv with
  | nil => rfl
  | cons p kv ih =>
    obtain ⟨hp, hs'⟩ := List.pairwise_cons.1 hs
    have ih := ih hs'
    have e1 : lo (p :: kv) k = if lt p.1 k then p :: lo kv k else lo kv k := by simp only [lo, List.filter_cons]
    have e2 : hi (p :: kv) k = if lt k p.1 then p :: hi kv k else hi kv k := by simp only [hi, List.filter_cons]
    have e3 : has (p :: kv) k = (decide (p.1 = k) || has kv k) := by simp only [has, List.any_cons]
    rw [e1, e2, e3, List.length_cons]
    rcases lt_three p.1 k with q | q | q
    · have hd : decide (p.1 = k) = false := by simpa using lt_ne q
      rw [q, lt_not q, hd]
      simp
      omega
    · subst q
      have hn : has kv p.1 = false := List.any_eq_false.2 fun x hx => by simpa using (lt_ne (hp x hx)).symm
      rw [hn] at ih ⊢
      rw [lt_irrefl]
      simp at ih ⊢
      omega
    · have hd : decide (p.1 = k) = false := by simpa using (lt_ne q).symm
      rw [q, lt_not q, hd]
      simp
      omega
theorem put_len {kv : List Pr} (hs : Srt kv) (p : Pr) : (put kv p).length + (has kv p.1).toNat = kv.length + 1 := by
  have := part_len hs p.1
  unfold put
  rw [List.length_append, List.length_cons]
  omega
theorem del_len {kv : List Pr} (hs : Srt kv) {k : ByteArray} (h : has kv k = true) : (del kv k).length + 1 = kv.length := by
  have := part_len hs k
  rw [h] at this
  unfold del
  rw [List.length_append]
  simp at this
  omega
end Go.Proofs.YthfkmedpcmiibaaDoor.T
/-! ### Parts of a tree in memory: which pairs they hold. -/
namespace Go.Proofs.YthfkmedpcmiibaaDoor.T
open Go.RowKit Go.Shelf
set_option maxRecDepth 100000
/-- Pairs. -/
def EP : Ety Pr where
  m := 2
  enc := fun x => [.string x.1, .string x.2]
  tE := 42
  tS := 37
  z := .agg #[.string { data := #[] }, .string { data := #[] }]
  bytes := 32
  len := fun _ => rfl
  one := fun x u h => by simp at h; rcases h with rfl | rfl <;> rfl
  und := Tryd.underlying37
  info := by kernel_rfl
  zs := rfl
  pos := by decide
  by32 := by decide
/-- Pairs of a leaf. -/
def EL : Ety Pr where
  m := 2
  enc := fun x => [.string x.1, .string x.2]
  tE := 42
  tS := 47
  z := .agg #[.string { data := #[] }, .string { data := #[] }]
  bytes := 32
  len := fun _ => rfl
  one := fun x u h => by simp at h; rcases h with rfl | rfl <;> rfl
  und := Tryd.underlying47
  info := by kernel_rfl
  zs := rfl
  pos := by decide
  by32 := by decide
/-- Parts: of which type, and what. -/
abbrev Bx := Nat × Value
abbrev bxV (x : Bx) : Value := .iface x.1 x.2
def EK : Ety Bx where
  m := 1
  enc := fun x => [.iface x.1 x.2]
  tE := 49
  tS := 60
  z := .nilIface
  bytes := 16
  len := fun _ => rfl
  one := fun x u h => by simp at h; subst h; rfl
  und := Tryd.underlying60
  info := by kernel_rfl
  zs := rfl
  pos := by decide
  by32 := by decide
/-- The key that comes first. -/
def fst (kv : List Pr) : ByteArray := (kv.headD (.empty, .empty)).1
abbrev Kd := Bx × List Pr
def flat (ks : List Kd) : List Pr := (ks.map (·.2)).flatten
/-- A part of that height, with so many of its own, that holds these pairs. -/
def Part (w : World) : Nat → Nat → Bx → List Pr → Prop
  | 0, n, x, kv => x.1 = 47 ∧ LV EP w x.2 kv ∧ kv.length = n
  | h + 1, n, x, kv => ∃ (sl : Value) (ks : List Kd), x = (63, .agg #[sl, .string (fst kv), .int .i64 (kv.length : Int)]) ∧ LV EK w sl (ks.map (·.1)) ∧ ks.length = n ∧ 0 < n ∧ kv = flat ks ∧ ∀ k ∈ ks, ∃ m, 4 ≤ m ∧ m ≤ 8 ∧ Part w h m k.1 k.2
theorem Part.below {w w' : World} (b : Below w.heap.size w w') : ∀ {h n : Nat} {x : Bx} {kv : List Pr}, Part w h n x kv → Part w' h n x kv
  | 0, _, _, _, ⟨h1, h2, h3⟩ => ⟨h1, h2.below b, h3⟩
  | _ + 1, _, _, _, ⟨sl, ks, h1, h2, h3, h4, h5, h6⟩ => ⟨sl, ks, h1, h2.below b, h3, h4, h5, fun k hk => by obtain ⟨m, q1, q2, q3⟩ := h6 k hk; exact ⟨m, q1, q2, q3.below b⟩⟩
theorem flat_len : ∀ {ks : List Kd}, (∀ k ∈ ks, 1 ≤ k.2.length) → ks.length ≤ (flat ks).length
  | [], _ => by simp [flat]
  | a :: l, hh => by
    have h1 := hh a (by simp)
    have h2 := @flat_len l (fun k hk => hh k (by simp [hk]))
    simp only [flat, List.map_cons, List.flatten_cons, List.length_append, List.length_cons] at h2 ⊢
    omega
theorem Part.len {w : World} : ∀ {h n : Nat} {x : Bx} {kv : List Pr}, Part w h n x kv → n ≤ kv.length
  | 0, _, _, _, ⟨_, _, h3⟩ => Nat.le_of_eq h3.symm
  | h + 1, _, _, _, ⟨sl, ks, _, _, h3, _, h5, h6⟩ => by
    subst h3 h5
    exact flat_len fun k hk => by
      obtain ⟨m, q1, _, q3⟩ := h6 k hk
      have := Part.len q3
      omega
theorem first90 {w : World} {v : Value} {kv : List Pr} (h : LV EP w v kv) (h0 : 0 < kv.length) : Calls Tryd.prog 93 #[v] w fun e w' => e = .returned (.string (fst kv)) ∧ w = w' := by
  obtain ⟨a, c, rfl⟩ := h.form
  obtain ⟨p, hp⟩ : ∃ p, kv[0]? = some p := ⟨_, List.getElem?_eq_getElem h0⟩
  obtain ⟨g, o, rfl, hc⟩ := h.at hp
  have c0 := hc 0 (by decide)
  have hf : fst kv = p.1 := by cases kv with | nil => cases hp | cons a l => cases hp; rfl
  have h1 : (0 : Int) < (kv.length : Int) := by omega
  simp only [EP, Nat.zero_mul, Nat.add_zero, List.getElem?_cons_zero] at c0
  rw [hf]
  go_enter Tryd.func93, Tryd.ntmps93
  go_wp2
  go_ret
  exact ⟨rfl, rfl⟩
theorem count89 (a : Option Addr) (n c : Nat) (w : World) : Calls Tryd.prog 92 #[.slice a n c] w fun e w' => e = .returned (.int .i64 (n : Int)) ∧ w = w' := by
  go_enter Tryd.func92, Tryd.ntmps92
  go_wp2
  go_ret
  exact ⟨rfl, rfl⟩
theorem size91 (a : Option Addr) (n c : Nat) (w : World) : Calls Tryd.prog 94 #[.slice a n c] w fun e w' => e = .returned (.int .i64 (n : Int)) ∧ w = w' := by
  go_enter Tryd.func94, Tryd.ntmps94
  go_wp2
  go_ret
  exact ⟨rfl, rfl⟩
theorem count92 (a : Option Addr) (n c : Nat) (s : ByteArray) (x : Int) (w : World) : Calls Tryd.prog 95 #[.agg #[.slice a n c, .string s, .int .i64 x]] w fun e w' => e = .returned (.int .i64 x) ∧ Below w.heap.size w w' := by
  go_enter Tryd.func95, Tryd.ntmps95
  go_wp2
  go_ret
  exact ⟨rfl, al _ _⟩
theorem first93 (a : Option Addr) (n c : Nat) (s : ByteArray) (x : Int) (w : World) : Calls Tryd.prog 96 #[.agg #[.slice a n c, .string s, .int .i64 x]] w fun e w' => e = .returned (.string s) ∧ Below w.heap.size w w' := by
  go_enter Tryd.func96, Tryd.ntmps96
  go_wp2
  go_ret
  exact ⟨rfl, al _ _⟩
theorem size94 (a : Option Addr) (n c : Nat) (s : ByteArray) (x : Int) (w : World) : Calls Tryd.prog 97 #[.agg #[.slice a n c, .string s, .int .i64 x]] w fun e w' => e = .returned (.int .i64 (n : Int)) ∧ Below w.heap.size w w' := by
  go_enter Tryd.func97, Tryd.ntmps97
  go_wp2
  go_ret
  exact ⟨rfl, al _ _⟩
end Go.Proofs.YthfkmedpcmiibaaDoor.T
