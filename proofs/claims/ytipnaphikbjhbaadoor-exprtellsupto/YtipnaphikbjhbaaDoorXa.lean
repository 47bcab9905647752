/- A range over a function whose iterator may itself range over functions: who owns which blocks. · Blocks that are known whole. · Lists behind slices, whatever the elements; appends. -/
import Derived.RangeFuncNested
import Derived.RangeFuncBound
import Derived.RangeFuncCalls
import Derived.RangeFuncLeaves
import Derived.Shelf.Abstract
import Derived.OwnWalkIn
import Derived.TacticsInMore
import Derived.LoopNIn
import Derived.LoopIn
import Derived.WalkKit
import Derived.WalkSpells
import Derived.WalkLawsBesides
import Derived.Below
import Derived.OwnWalk
import Derived.Deep.MidRow
import Derived.Deep.RegionHeld3
import Derived.Test.YtipnaphikbjhbaaDoorProg
import Derived.ArgAppend
import Derived.Deep.AppendLies
import Derived.Deep.Upon
import Derived.Deep.AppendSrc
import Derived.BigRegionIn
import Derived.Deep.RegionLaw
/-! ### A range over a function whose iterator may itself range over functions: who owns which blocks. -/
namespace Go.Proofs.YtipnaphikbjhbaaDoor.T
open Go.RowKit Go.Shelf
set_option maxRecDepth 100000

theorem al (w : World) (o : Obj) : Below w.heap.size w (w.alloc o) := (Below.refl _ _).alloc (Nat.le_refl _) o
theorem bmore {w w1 w2 : World} (h : Below w.heap.size w w1) (k : Below w1.heap.size w1 w2) : Below w.heap.size w w2 := h.trans (k.mono h.size)

/-- Every old block stands but those of F. -/
structure Keep (F : Nat → Prop) (w w' : World) : Prop where
  os : w'.os = w.os
  tape : w'.tape = w.tape
  output : w'.output = w.output
  size : w.heap.size ≤ w'.heap.size
  block : ∀ k, k < w.heap.size → ¬ F k → w'.heap[k]? = w.heap[k]?
section
variable {F G : Nat → Prop} {a b c : World}
theorem Keep.refl (F : Nat → Prop) (w : World) : Keep F w w := ⟨rfl, rfl, rfl, Nat.le_refl _, fun _ _ _ => rfl⟩
theorem Keep.trans (h : Keep F a b) (k : Keep G b c) (hG : ∀ i, i < a.heap.size → G i → F i) : Keep F a c :=
  ⟨k.os.trans h.os, k.tape.trans h.tape, k.output.trans h.output, Nat.le_trans h.size k.size, fun i hi hf => (k.block i (Nat.lt_of_lt_of_le hi h.size) (fun hg => hf (hG i hi hg))).trans (h.block i hi hf)⟩
theorem Keep.of (h : Below a.heap.size a b) : Keep F a b := ⟨h.os, h.tape, h.output, h.size, fun k hk _ => h.block k hk⟩
theorem Keep.below {B : Nat} (h : Keep F a b) (hB : B ≤ a.heap.size) (hF : ∀ i, i < B → ¬ F i) : Below B a b := ⟨h.os, h.tape, h.output, h.size, fun k hk => h.block k (by omega) (hF k hk)⟩
theorem Keep.put (h : Keep F a b) {l : Nat} (hl : a.heap.size ≤ l ∨ F l) (o : Obj) : Keep F a (b.putObj l o) :=
  ⟨h.os, h.tape, h.output, by simpa using h.size, fun k hk hf => by
    have hne : k ≠ l := fun e => hl.elim (fun h => by omega) (fun h => hf (e ▸ h))
    rw [World.putObj_heap_other hne]; exact h.block k hk hf⟩
theorem Keep.alloc (h : Keep F a b) (o : Obj) : Keep F a (b.alloc o) := h.trans (Keep.of (F := F) (al b o)) (fun _ _ h => h)
theorem Keep.drew (h : Keep F a b) : Keep F a b.drew := h.trans (Keep.of (F := F) (Below.refl _ _).drew) (fun _ _ h => h)
theorem Keep.set (h : Keep F a b) {p : Addr} (hp : a.heap.size ≤ p.block ∨ F p.block) (v : Value) : Keep F a (b.setCell p v) :=
  ⟨h.os, h.tape, h.output, by simpa [World.setCell] using h.size, fun k hk hf => by
    have hne : k ≠ p.block := fun e => hp.elim (fun h => by omega) (fun h => hf (e ▸ h))
    rw [Below.heap_setCell _ _ _ _ hne]; exact h.block k hk hf⟩
theorem Keep.cell (h : Keep F a b) {k o : Nat} (hk : k < a.heap.size) (hf : ¬ F k) : b.cell? ⟨k, o, none⟩ = a.cell? ⟨k, o, none⟩ := by
  simp only [World.cell?, h.block k hk hf]
theorem Keep.mono (h : Keep F a b) (hG : ∀ i, i < a.heap.size → F i → G i) : Keep G a b := ⟨h.os, h.tape, h.output, h.size, fun k hk hf => h.block k hk (fun x => hf (hG k hk x))⟩
end

/-- What is owned now was owned, or is new. -/
def Grew (O O' : Nat → Prop) (W : World) : Prop := ∀ b, O' b → O b ∨ W.heap.size ≤ b
theorem Grew.refl (O : Nat → Prop) (W : World) : Grew O O W := fun _ h => .inl h
theorem Grew.trans {O O' O'' : Nat → Prop} {W W' : World} (h : Grew O O' W) (k : Grew O' O'' W') (hs : W.heap.size ≤ W'.heap.size) : Grew O O'' W := fun b hb => (k b hb).elim (h b) (fun x => .inr (by omega))

/-- What is said of owned blocks, and of those below B, abides what becomes of others. -/
def Abide {α : Type} (B : Nat) (J : (Nat → Prop) → List α → World → Prop) : Prop := ∀ O pre W W', J O pre W → Keep (fun b => ¬ O b ∧ B ≤ b) W W' → J O pre W'

/-- What a round answers. -/
def Rnd {α : Type} (J Jx : (Nat → Prop) → List α → World → Prop) (O : Nat → Prop) (pre : List α) (W : World) (e : Ending) (W' : World) : Prop :=
  (e = .returned (.bool true) ∧ ∃ O', J O' pre W' ∧ Grew O O' W ∧ Keep O W W') ∨ (e = .returned (.bool false) ∧ ∃ O', Jx O' pre W' ∧ Grew O O' W ∧ Keep O W W')

/-- The function value g with lb, called with a yield in the world W, yields xs, one behind the other, or is stopped; it reads the blocks of G. -/
def Runs {α : Type} (P : Program) (g : Nat) (lb : Array Value) (enc : α → Value) (xs : List α) (G : Nat → Prop) (W : World) : Prop :=
  ∀ (l : Nat) (O : Nat → Prop) (J Jx : (Nat → Prop) → List α → World → Prop), (∀ b, O b → ¬ G b ∧ b < W.heap.size) → (∀ O pre W, J O pre W → ∀ b, O b → b < W.heap.size) → Abide W.heap.size J → Abide W.heap.size Jx →
    (∀ O pre x W1, J O pre W1 → pre ++ [x] <+: xs → YieldAt Fence.wide 0 P l #[enc x] W1 (Rnd J Jx O (pre ++ [x]) W1)) → J O [] W →
    CallsIn Fence.wide 0 P g (#[.func (.yield l) #[] #[]] ++ lb) W fun e W' => (∃ v, e = .returned v) ∧
      ((∃ O', J O' xs W' ∧ Grew O O' W ∧ Keep O W W') ∨ (∃ pre O', pre <+: xs ∧ Jx O' pre W' ∧ Grew O O' W ∧ Keep O W W'))

/-- How the body of a round may be left. -/
def PostB {α : Type} (I : (Nat → Prop) → List α → World → Prop) (Ix : Code → (Nat → Prop) → List α → World → Prop) (O : Nat → Prop) (pre : List α) (W : World) : Exit → Act → World → Prop
  | .normal, _, W' => ∃ O', I O' pre W' ∧ Grew O O' W ∧ Keep O W W'
  | .ret, _, W' => ∃ O', Ix .ret O' pre W' ∧ Grew O O' W ∧ Keep O W W'
  | .exit id, _, W' => ∃ O', Ix (.exit id) O' pre W' ∧ Grew O O' W ∧ Keep O W W'
  | _, _, _ => False

set_option maxHeartbeats 1000000 in
/-- The statement: a loop over such a value, whose variable is laid in a block of its own in each round. -/
theorem wpIn_range {α : Type} {P : Program} {g : Operand} {ps : Array Tmp} {assign body : Code} {Q : Exit → Act → World → Prop} {a : Act} {w : World} {gf : Nat} {lb : Array Value}
    (hg : a.eval g = .func (.func gf) #[] lb) (eg : ∀ args w, (callFunc gf args).run P w = .ok (.enter gf args) w) (hps : ps.size = 1)
    {enc : α → Value} {xs : List α} {G : Nat → Prop} (hseq : ∀ W1, Below w.heap.size w W1 → Runs P gf lb enc xs G W1) (hG : ∀ b, G b → b < w.heap.size)
    (I : (Nat → Prop) → List α → World → Prop) (Ix : Code → (Nat → Prop) → List α → World → Prop) (hIs : ∀ O pre W, I O pre W → ∀ b, O b → b < W.heap.size) (hI : Abide w.heap.size I) (hIx : ∀ c, Abide w.heap.size (Ix c))
    (O : Nat → Prop) (hO : ∀ b, O b → ¬ G b ∧ b < w.heap.size) (h0 : I O [] w) (A : α → Nat → Act) (cs : α → List Value) (t : TypeId)
    (hassign : ∀ l x W (K : Act → World → Prop), K (A x W.heap.size) (W.alloc (.cells (cs x).toArray t)) → assign.wpIn (Fence.wide.inRound l) 0 P (Exit.then K (fun _ _ _ => False)) { tmps := (ps.zip #[enc x]).foldl (fun t (p, v) => t.setIfInBounds p v) a.tmps, defers := [] } W)
    (hbody : ∀ l O pre x W b, I O pre W → ¬ O b → w.heap.size ≤ b → w.heap.size ≤ W.heap.size → W.heap[b]? = some (.cells (cs x).toArray t (0, 0)) → pre ++ [x] <+: xs → body.wpIn (Fence.wide.inRound l) 0 P (PostB I Ix O (pre ++ [x]) W) (A x b) W)
    (hdone : ∀ D O' W', w.heap.size ≤ D → ¬ O' D → I O' xs W' → Grew O O' w → Keep O w W' → W'.heap[D]? = some (.deferred (some [])) → Q .normal { a with defers := { target := .collected D, args := #[] } :: a.defers } W')
    (hstop : ∀ D c O' pre W', w.heap.size ≤ D → ¬ O' D → pre <+: xs → Ix c O' pre W' → Grew O O' w → Keep O w W' → W'.heap[D]? = some (.deferred (some [])) → c.wpIn Fence.wide 0 P Q { a with defers := { target := .collected D, args := #[] } :: a.defers } W') :
    (Code.rangeFunc g ps assign body).wpIn Fence.wide 0 P Q a w := by
  refine wpIn_rangeFunc fun fn hfn => ?_
  obtain ⟨rec, hrec⟩ : ∃ rec : LoopState → Option Code → Loop, rec = fun st pe => { state := st, pending := pe, fn, tmps := a.tmps, params := ps, assign, body, defers := w.heap.size } := ⟨_, rfl⟩
  obtain ⟨W1, hW1⟩ : ∃ W1, (w.alloc (.deferred (some []))).alloc (.loop (rec .ready none)) = W1 := ⟨_, rfl⟩
  have bW1 : Below w.heap.size w W1 := by rw [← hW1]; exact bmore (al _ _) (al _ _)
  have sW1 : W1.heap.size = w.heap.size + 2 := by rw [← hW1]; simp
  have hL1 : W1.heap[w.heap.size + 1]? = some (.loop (rec .ready none)) := by
    rw [← hW1]; have := World.alloc_heap_new (w.alloc (.deferred (some []))) (.loop (rec .ready none)); rwa [World.size_alloc] at this
  have hD1 : W1.heap[w.heap.size]? = some (.deferred (some [])) := by
    rw [← hW1]; exact (Below.heap_alloc _ _ _ (by simp)).trans (World.alloc_heap_new w _)
  generalize hl : w.heap.size + 1 = l at *
  generalize hD : w.heap.size = D at *
  have bW1' : Below w.heap.size w W1 := by rw [hD]; exact bW1
  have hps1 : ∀ x, (#[enc x] : Array Value).size = ps.size := fun x => by simp [hps]
  refine ⟨l, [{ target := .collected D, args := #[] }], W1, { target := .fn (.func gf) lb, args := #[.func (.yield l) #[] #[]] }, W1, gf, #[.func (.yield l) #[] #[]] ++ lb, W1, ?_, ?_, fun _ _ => trivial, ?_, (fun h => (by cases h)), ?_⟩
  · rw [← hW1, hrec, ← hl, ← hD]; exact run_enterLoop_outer _ _ _ _ _
  · simp only [resolve, hg]
    simp [go_sem]
  · simp [invoke, go_sem, eg]
  · refine (hseq W1 bW1 l (fun b => O b ∨ b = l)
      (fun OO pre W => ∃ O1, (∀ b, OO b ↔ O1 b ∨ b = l) ∧ ¬ O1 l ∧ ¬ O1 D ∧ I O1 pre W ∧ W.heap[l]? = some (.loop (rec .ready none)) ∧ W.heap[D]? = some (.deferred (some [])) ∧ Grew O O1 w)
      (fun OO pre W => ∃ O1 c, (∀ b, OO b ↔ O1 b ∨ b = l) ∧ ¬ O1 l ∧ ¬ O1 D ∧ Ix c O1 pre W ∧ W.heap[l]? = some (.loop (rec .done (some c))) ∧ W.heap[D]? = some (.deferred (some [])) ∧ Grew O O1 w)
      ?_ ?_ ?_ ?_ ?_ ?_).mono ?_
    · rintro b (h | rfl)
      · exact ⟨(hO b h).1, by have := (hO b h).2; omega⟩
      · exact ⟨fun h => by have := hG _ h; omega, by omega⟩
    · rintro OO pre W ⟨O1, e1, n1, n2, hi, h1, h2, hgr⟩ b hb
      rcases (e1 b).1 hb with h | rfl
      · exact hIs _ _ _ hi b h
      · exact (Array.getElem?_eq_some_iff.1 h1).1
    · rintro OO pre W W' ⟨O1, e1, n1, n2, hi, h1, h2, hgr⟩ hk
      have lw := (Array.getElem?_eq_some_iff.1 h1).1
      refine ⟨O1, e1, n1, n2, hI _ _ _ _ hi (hk.mono fun b _ hb => ⟨fun h => hb.1 ((e1 b).2 (.inl h)), by omega⟩), (hk.block l lw (fun h => h.1 ((e1 l).2 (.inr rfl)))).trans h1, (hk.block D (by omega) (fun h => by omega)).trans h2, hgr⟩
    · rintro OO pre W W' ⟨O1, c, e1, n1, n2, hi, h1, h2, hgr⟩ hk
      have lw := (Array.getElem?_eq_some_iff.1 h1).1
      refine ⟨O1, c, e1, n1, n2, hIx c _ _ _ _ hi (hk.mono fun b _ hb => ⟨fun h => hb.1 ((e1 b).2 (.inl h)), by omega⟩), (hk.block l lw (fun h => h.1 ((e1 l).2 (.inr rfl)))).trans h1, (hk.block D (by omega) (fun h => by omega)).trans h2, hgr⟩
    · rintro OO pre x W ⟨O1, e1, n1, n2, hi, h1, h2, hgr⟩ hpre
      have lw := (Array.getElem?_eq_some_iff.1 h1).1
      have hy := run_yield (P := P) (args := #[enc x]) h1 (by rw [hrec]; exact hps1 x)
      rw [hrec] at hy
      refine ⟨fn, _, assign, body, hy, roundIn_of_wpIn hfn (hassign l x W _ ?_)⟩
      clear hy
      have h1a : (W.alloc (.cells (cs x).toArray t)).heap[l]? = some (.loop (rec .ready none)) := (Below.heap_alloc _ _ _ lw).trans h1
      refine ⟨_, run_beginRound h1a (by rw [hrec]), ?_⟩
      obtain ⟨W2, hW2⟩ : ∃ W2, (W.alloc (.cells (cs x).toArray t)).putObj l (.loop { rec .ready none with state := .busy }) = W2 := ⟨_, rfl⟩
      have k2 : Keep (fun b => b = l) W W2 := by rw [← hW2]; exact ((Keep.refl (fun b => b = l) W).alloc _).put (.inr rfl) _
      have s2 : W2.heap.size = W.heap.size + 1 := by rw [← hW2]; simp
      have l2 : W2.heap[l]? = some (.loop { rec .ready none with state := .busy }) := by rw [← hW2]; exact World.putObj_heap_same (by simp; omega)
      have d2 : W2.heap[D]? = some (.deferred (some [])) := (k2.block D (by omega) (by omega)).trans h2
      have b2 : W2.heap[W.heap.size]? = some (.cells (cs x).toArray t (0, 0)) := by rw [← hW2, World.putObj_heap_other (by omega)]; exact World.alloc_heap_new W _
      have i2 := hI _ _ _ W2 hi (k2.mono fun b _ e => by subst e; exact ⟨n1, by omega⟩)
      have nb : ¬ O1 W.heap.size := fun h => by have := hIs _ _ _ hi _ h; omega
      have oo : ∀ b, O1 b → OO b := fun b h => (e1 b).2 (.inl h)
      rw [hW2]
      refine wpIn_mono (hbody l O1 pre x W2 W.heap.size i2 nb (by omega) (by omega) b2 hpre) ?_
      have fin : ∀ (jump : Option Code) (O' : Nat → Prop) (W3 : World), Grew O1 O' W2 → Keep O1 W2 W3 →
          (Instr.endRound l jump).run P W3 = .ok (.bool jump.isNone) (W3.putObj l (.loop (rec (if jump.isNone then .ready else .done) jump))) ∧ ¬ O' l ∧ ¬ O' D ∧
          Keep (fun b => ¬ O' b ∧ D ≤ b) W3 (W3.putObj l (.loop (rec (if jump.isNone then .ready else .done) jump))) ∧
          (W3.putObj l (.loop (rec (if jump.isNone then .ready else .done) jump))).heap[l]? = some (.loop (rec (if jump.isNone then .ready else .done) jump)) ∧
          (W3.putObj l (.loop (rec (if jump.isNone then .ready else .done) jump))).heap[D]? = some (.deferred (some [])) ∧ Grew O O' w ∧
          Grew OO (fun b => O' b ∨ b = l) W ∧ Keep OO W (W3.putObj l (.loop (rec (if jump.isNone then .ready else .done) jump))) := by
        intro jump O' W3 g3 k3
        have l3 : W3.heap[l]? = some (.loop { rec .ready none with state := .busy }) := (k3.block l (by omega) n1).trans l2
        have lw3 := (Array.getElem?_eq_some_iff.1 l3).1
        have r3 := run_endRound (P := P) jump l3
        rw [hrec] at r3
        have nl : ¬ O' l := fun h => (g3 l h).elim n1 (fun h => by omega)
        have nD : ¬ O' D := fun h => (g3 D h).elim n2 (fun h => by omega)
        refine ⟨by rw [hrec]; exact r3, nl, nD, (Keep.refl _ W3).put (.inr ⟨nl, by omega⟩) _, World.putObj_heap_same lw3, (World.putObj_heap_other (by omega)).trans ((k3.block D (by omega) n2).trans d2), ?_, ?_, ?_⟩
        · intro b hb
          rcases g3 b hb with h | h
          · exact hgr b h
          · exact .inr (by omega)
        · rintro b (hb | rfl)
          · rcases g3 b hb with h | h
            · exact .inl (oo b h)
            · exact .inr (by omega)
          · exact .inl ((e1 b).2 (.inr rfl))
        · exact Keep.put ((k2.mono (fun b _ e => (e1 b).2 (.inr e))).trans k3 (fun b _ h => oo b h)) (.inr ((e1 l).2 (.inr rfl))) _
      rintro e a3 W3 hp
      cases e with
      | normal =>
        obtain ⟨O', hi3, g3, k3⟩ := hp
        obtain ⟨hr, nl, nD, ka, hl4, hd4, gO, gg, kk⟩ := fin none O' W3 g3 k3
        exact ⟨_, _, hr, .inl ⟨rfl, _, ⟨O', fun b => Iff.rfl, nl, nD, hI _ _ _ _ hi3 ka, hl4, hd4, gO⟩, gg, kk⟩⟩
      | ret =>
        obtain ⟨O', hi3, g3, k3⟩ := hp
        obtain ⟨hr, nl, nD, ka, hl4, hd4, gO, gg, kk⟩ := fin (some .ret) O' W3 g3 k3
        exact ⟨_, _, hr, .inr ⟨rfl, _, ⟨O', .ret, fun b => Iff.rfl, nl, nD, hIx _ _ _ _ _ hi3 ka, hl4, hd4, gO⟩, gg, kk⟩⟩
      | exit id =>
        obtain ⟨O', hi3, g3, k3⟩ := hp
        obtain ⟨hr, nl, nD, ka, hl4, hd4, gO, gg, kk⟩ := fin (some (.exit id)) O' W3 g3 k3
        exact ⟨_, _, hr, .inr ⟨rfl, _, ⟨O', .exit id, fun b => Iff.rfl, nl, nD, hIx _ _ _ _ _ hi3 ka, hl4, hd4, gO⟩, gg, kk⟩⟩
      | goto t => exact hp.elim
      | panic ch => exact hp.elim
      | outgrown => exact hp.elim
    · exact ⟨O, fun b => Iff.rfl, fun h => by have := (hO _ h).2; omega, fun h => by have := (hO _ h).2; omega, hI _ _ _ _ h0 (Keep.of bW1'), hL1, hD1, Grew.refl _ _⟩
    · rintro e W2 ⟨⟨v, rfl⟩, (⟨OO, ⟨O1, e1, n1, n2, hi, h1, h2, hgr⟩, _, hk⟩ | ⟨pre, OO, hpre, ⟨O1, c, e1, n1, n2, hi, h1, h2, hgr⟩, _, hk⟩)⟩
      · have lw := (Array.getElem?_eq_some_iff.1 h1).1
        have kw : Keep O w W2 := (Keep.of (F := O) bW1').trans hk (fun b hb h => h.elim id (fun e => by omega))
        exact ⟨none, _, by have := run_endLoop (P := P) h1 (by rw [hrec]; simp); rw [hrec] at this; exact this, hdone D O1 _ (Nat.le_refl _) n2 (hI _ _ _ _ hi ((Keep.refl _ W2).put (.inr ⟨n1, by omega⟩) _)) hgr (kw.put (.inl (by omega)) _) ((World.putObj_heap_other (by omega)).trans h2)⟩
      · have lw := (Array.getElem?_eq_some_iff.1 h1).1
        have kw : Keep O w W2 := (Keep.of (F := O) bW1').trans hk (fun b hb h => h.elim id (fun e => by omega))
        exact ⟨some c, _, by have := run_endLoop (P := P) h1 (by rw [hrec]; simp); rw [hrec] at this; exact this, hstop D c O1 pre _ (Nat.le_refl _) n2 hpre (hIx c _ _ _ _ hi ((Keep.refl _ W2).put (.inr ⟨n1, by omega⟩) _)) hgr (kw.put (.inl (by omega)) _) ((World.putObj_heap_other (by omega)).trans h2)⟩
end Go.Proofs.YtipnaphikbjhbaaDoor.T
/-! ### Blocks that are known whole. -/
namespace Go.Proofs.YtipnaphikbjhbaaDoor.T
open Go.RowKit Go.Shelf
set_option maxRecDepth 100000

/-- The block b is just these cells. -/
def Blk (W : World) (b : Nat) (l : List Value) (t : TypeId) : Prop := W.heap[b]? = some (.cells l.toArray t (0, 0))
section
variable {W W' : World} {b : Nat} {l : List Value} {t : TypeId}
theorem Blk.lt (h : Blk W b l t) : b < W.heap.size := (Array.getElem?_eq_some_iff.1 h).1
theorem Blk.block (h : Blk W b l t) (e : W'.heap[b]? = W.heap[b]?) : Blk W' b l t := e.trans h
theorem Blk.below (h : Blk W b l t) (e : Below W.heap.size W W') : Blk W' b l t := (e.block b h.lt).trans h
theorem Blk.keep {O : Nat → Prop} (h : Blk W b l t) (e : Keep O W W') (hn : ¬ O b) : Blk W' b l t := (e.block b h.lt hn).trans h
theorem blk_new (W : World) (l : List Value) (t : TypeId) : Blk (W.alloc (.cells l.toArray t)) W.heap.size l t := (MapKept.heap_alloc W _).1
theorem blk_at (W : World) (l : List Value) (t : TypeId) {g : Nat} (h : W.heap.size = g) : Blk (W.alloc (.cells l.toArray t)) g l t := by subst h; exact blk_new W l t
theorem Blk.cell (h : Blk W b l t) (j : Nat) : W.cell? ⟨b, j, none⟩ = l[j]? := by
  unfold Blk at h
  simp [World.cell?, h]
theorem Blk.frozen (h : Blk W b l t) (j : Nat) : W.frozen? ⟨b, j, none⟩ = false := by
  unfold Blk at h
  simp [World.frozen?, h]
theorem Blk.set {o : Nat} (h : Blk W b l t) (v : Value) : Blk (W.setCell ⟨b, o, none⟩ v) b (l.set o v) t := by
  unfold Blk at h ⊢
  simp [World.setCell, Array.getElem?_modify, h]
end
theorem bal {w w1 : World} (h : Below w.heap.size w w1) (o : Obj) : Below w.heap.size w (w1.alloc o) := bmore h (al _ _)

section
variable {W : World} {b o : Nat} {l : List Value} {t : TypeId}
theorem Blk.range (h : Blk W b l t) {cs : List Value} (e : ∀ j v, cs[j]? = some v → l[o + j]? = some v) : W.rangeAt b o cs := fun j v hv => (h.cell (o + j)).trans (e j v hv)
theorem Blk.whole (h : Blk W b l t) : W.rangeAt b 0 l := h.range fun j v hv => by simpa using hv
end
theorem Blk.other {W : World} {b : Nat} {l : List Value} {t : TypeId} (h : Blk W b l t) {p : Addr} (hp : b ≠ p.block) (v : Value) : Blk (W.setCell p v) b l t := h.block (Below.heap_setCell _ _ _ _ hp)
theorem bset {B : Nat} {w w1 : World} (h : Below B w w1) {p : Addr} (hp : B ≤ p.block) (v : Value) : Below B w (w1.setCell p v) := h.trans ⟨rfl, rfl, rfl, by simp [World.setCell], fun k hk => Below.heap_setCell _ _ _ _ (by omega)⟩
theorem results_cell {fn : Func} {t : Tmp} {ty : TypeId} (h : fn.results = #[.cell t ty]) (tmps : Array Value) (P : Program) (w : World) (b : Nat) (l : List Value) (t' : TypeId) (hb : Blk w b l t') (ht : tmps.getD t undef = .pointer (some ⟨b, 0, none⟩)) (d : TypeDesc) (hu : P.underlying ty = some d) (hd : d.isRow = true) (hi : (P.info? ty).map (·.size) = some l.length) :
    (results fn tmps).run P w = .ok (.agg l.toArray) w := by
  have ht' : tmps[t]?.getD undef = .pointer (some ⟨b, 0, none⟩) := by simpa using ht
  simp [results, h, ht', asAddr, run_loadVar_mid w b 0 ty l d hb.whole hu hd hi]
theorem results_cell2 {fn : Func} {t u : Tmp} {ty : TypeId} (h : fn.results = #[.cell t ty, .tmp u]) (tmps : Array Value) (P : Program) (w : World) (b : Nat) (l : List Value) (t' : TypeId) (hb : Blk w b l t') (ht : tmps.getD t undef = .pointer (some ⟨b, 0, none⟩)) (d : TypeDesc) (hu : P.underlying ty = some d) (hd : d.isRow = true) (hi : (P.info? ty).map (·.size) = some l.length) :
    (results fn tmps).run P w = .ok (.tuple #[.agg l.toArray, tmps.getD u undef]) w := by
  have ht' : tmps[t]?.getD undef = .pointer (some ⟨b, 0, none⟩) := by simpa using ht
  simp [results, h, ht', asAddr, run_loadVar_mid w b 0 ty l d hb.whole hu hd hi]
end Go.Proofs.YtipnaphikbjhbaaDoor.T
/-! ### Lists behind slices, whatever the elements; appends. -/
namespace Go.Proofs.YtipnaphikbjhbaaDoor.T
open Go.RowKit
set_option maxRecDepth 100000
/-- A kind of elements. -/
structure Ety (α : Type) where
  m : Nat
  enc : α → List Value
  tE : TypeId
  tS : TypeId
  z : Value
  bytes : Nat
  len : ∀ x, (enc x).length = m
  one : ∀ x u, u ∈ enc x → u.oneCell' = true
  und : Tryd.prog.underlying tS = some (.slice tE)
  info : (Tryd.prog.info? tE).map (fun i => (i.zero, i.size, i.bytes)) = some (some z, m, bytes)
  zs : z.cells.size = m
  pos : 0 < m
  by32 : bytes ≤ 128
variable {α : Type} {E : Ety α} {w w' : World} {L L' : List α}
def Ety.cells (E : Ety α) (L : List α) : List Value := L.flatMap E.enc
theorem cells_len (E : Ety α) : ∀ L : List α, (E.cells L).length = L.length * E.m
  | [] => by simp [Ety.cells]
  | x :: L => by
    have := cells_len E L
    rw [show E.cells (x :: L) = E.enc x ++ E.cells L by simp [Ety.cells]]
    simp [this, E.len, Nat.add_mul]; omega
theorem cells_app (E : Ety α) (L M : List α) : E.cells (L ++ M) = E.cells L ++ E.cells M := by simp [Ety.cells]
theorem cells_one (E : Ety α) (L : List α) : ∀ u ∈ E.cells L, u.oneCell' = true := by
  intro u hu
  obtain ⟨x, _, h⟩ := List.mem_flatMap.1 hu
  exact E.one x u h
theorem cells_get (E : Ety α) {L : List α} {i : Nat} {x : α} (h : L[i]? = some x) {j : Nat} (hj : j < E.m) : (E.cells L)[i * E.m + j]? = (E.enc x)[j]? := by
  obtain ⟨hi, hx⟩ := List.getElem?_eq_some_iff.1 h
  have e : L = L.take i ++ (x :: L.drop (i + 1)) := by rw [← hx]; simp
  have hl : (E.cells (L.take i)).length = i * E.m := by rw [cells_len, List.length_take, Nat.min_eq_left (by omega)]
  rw [e, cells_app, List.getElem?_append_right (by omega), hl, show E.cells (x :: L.drop (i + 1)) = E.enc x ++ E.cells (L.drop (i + 1)) by simp [Ety.cells], List.getElem?_append_left (by rw [E.len]; omega)]
  simp
/-- A block with these cells, whatever of it may not be turned. -/
def Blw (W : World) (b : Nat) (l : List Value) (t : TypeId) : Prop := ∃ fr, W.heap[b]? = some (.cells l.toArray t fr)
theorem Blk.blw {W : World} {b : Nat} {l : List Value} {t : TypeId} (h : Blk W b l t) : Blw W b l t := ⟨_, h⟩
theorem Blw.lt {W : World} {b : Nat} {l : List Value} {t : TypeId} (h : Blw W b l t) : b < W.heap.size := by obtain ⟨fr, h⟩ := h; exact (Array.getElem?_eq_some_iff.1 h).1
theorem Blw.block {W W' : World} {b : Nat} {l : List Value} {t : TypeId} (h : Blw W b l t) (e : W'.heap[b]? = W.heap[b]?) : Blw W' b l t := by obtain ⟨fr, h⟩ := h; exact ⟨fr, e.trans h⟩
theorem Blw.below {W W' : World} {b : Nat} {l : List Value} {t : TypeId} (h : Blw W b l t) (e : Below W.heap.size W W') : Blw W' b l t := h.block (e.block b h.lt)
theorem Blw.cell {W : World} {b : Nat} {l : List Value} {t : TypeId} (h : Blw W b l t) (j : Nat) : W.cell? ⟨b, j, none⟩ = l[j]? := by
  obtain ⟨fr, h⟩ := h
  simp [World.cell?, h]
/-- A slice reads as a list, in a block that is known whole. -/
def LV (E : Ety α) (w : World) (v : Value) (L : List α) : Prop := ∃ a c, v = .slice a L.length c ∧ L.length ≤ c ∧ (0 < L.length → ∃ g o cs t, a = some ⟨g, o, none⟩ ∧ Blw w g cs t ∧ ∀ (j : Nat) (u : Value), (E.cells L)[j]? = some u → cs[o + j]? = some u)
theorem LV.form {v : Value} (h : LV E w v L) : ∃ a c, v = .slice a L.length c := by obtain ⟨a, c, h, _⟩ := h; exact ⟨a, c, h⟩
theorem LV.keep {v : Value} (h : LV E w v L) (hk : ∀ g l t, Blw w g l t → Blw w' g l t) : LV E w' v L := by
  obtain ⟨a, c, h1, hcap, h2⟩ := h
  refine ⟨a, c, h1, hcap, fun h0 => ?_⟩
  obtain ⟨g, o, cs, t, h3, h4, h5⟩ := h2 h0
  exact ⟨g, o, cs, t, h3, hk _ _ _ h4, h5⟩
theorem LV.below {v : Value} (h : LV E w v L) (k : Below w.heap.size w w') : LV E w' v L := h.keep fun _ _ _ q => q.below k
theorem LV.at {a : Option Addr} {n c : Nat} (h : LV E w (.slice a n c) L) {i : Nat} {x : α} (hx : L[i]? = some x) : ∃ g o, a = some ⟨g, o, none⟩ ∧ ∀ j, j < E.m → w.cell? ⟨g, o + i * E.m + j, none⟩ = (E.enc x)[j]? := by
  obtain ⟨a', c', h1, _, h2⟩ := h
  simp only [Value.slice.injEq] at h1
  obtain ⟨rfl, -, -⟩ := h1
  obtain ⟨g, o, cs, t, rfl, h4, h5⟩ := h2 (by have := (List.getElem?_eq_some_iff.1 hx).1; omega)
  refine ⟨g, o, rfl, fun j hj => ?_⟩
  rw [h4.cell]
  have e := cells_get E hx hj
  obtain ⟨u, hu⟩ : ∃ u, (E.enc x)[j]? = some u := ⟨_, List.getElem?_eq_getElem (by rw [E.len]; exact hj)⟩
  rw [hu] at e ⊢
  rw [Nat.add_assoc]
  exact h5 _ u e
theorem LV.nil (E : Ety α) (w : World) (a : Option Addr) (c : Nat) : LV E w (.slice a 0 c) [] := ⟨a, c, rfl, Nat.zero_le _, fun h => by simp at h⟩
/-- What an append onto an empty literal leaves: nothing, or a row of its own from the block B on. -/
def RU (E : Ety α) (B : Nat) (w : World) (u : Value) (L : List α) : Prop := (L = [] ∧ ∃ b : Addr, u = .slice (some b) 0 0 ∧ B ≤ b.block ∧ b.block < w.heap.size) ∨ (L ≠ [] ∧ w.ownsRow B E.tE E.m u L.length (E.cells L))
theorem RU.keep {B : Nat} {u : Value} (h : RU E B w u L) (hs : w.heap.size ≤ w'.heap.size) (hk : ∀ k, B ≤ k → k < w.heap.size → w'.heap[k]? = w.heap[k]?) : RU E B w' u L := by
  rcases h with ⟨h0, b, h1, h2, h3⟩ | ⟨h0, h1, h2⟩
  · exact .inl ⟨h0, b, h1, h2, Nat.lt_of_lt_of_le h3 hs⟩
  · refine .inr ⟨h0, h1, ?_⟩
    rcases h2 with h2 | ⟨g, cap, cur, rfl, h3, h4, h5⟩
    · exact .inl h2
    · exact .inr ⟨g, cap, cur, rfl, h3, (hk g h3 (Array.getElem?_eq_some_iff.1 h4).1).trans h4, h5⟩
theorem RU.below {B : Nat} {u : Value} (h : RU E B w u L) (k : Below w.heap.size w w') : RU E B w' u L := h.keep k.size fun b _ hb => k.block b hb
theorem RU.at {B k : Nat} {u : Value} (h : RU E B w u L) (hk : u.ownBlock = some k) : B ≤ k ∧ k < w.heap.size := by
  rcases h with ⟨_, b, rfl, h2, h3⟩ | ⟨_, _, h2⟩
  · cases hk; exact ⟨h2, h3⟩
  · rcases h2 with ⟨rfl, _⟩ | ⟨g, cap, cur, rfl, h3, h4, _⟩
    · cases hk
    · cases hk; exact ⟨h3, (Array.getElem?_eq_some_iff.1 h4).1⟩
theorem RU.read {B : Nat} {u : Value} (h : RU E B w u L) : LV E w u L := by
  rcases h with ⟨rfl, b, rfl, h2, h3⟩ | ⟨h0, h1, h2⟩
  · exact ⟨some b, 0, rfl, Nat.le_refl _, fun h => absurd h (by simp)⟩
  · rcases h2 with ⟨rfl, hn⟩ | ⟨g, cap, cur, rfl, _, h3, h4, h5, h6, h7⟩
    · exact absurd (List.length_pos_iff.2 h0) (by omega)
    · refine ⟨_, cap, rfl, h4, fun _ => ⟨g, 0, cur.toList, _, rfl, ⟨_, h3⟩, fun j u hu => ?_⟩⟩
      have hj := (List.getElem?_eq_some_iff.1 hu).1
      rw [cells_len] at hj
      rw [← h7, List.getElem?_take, if_pos (by omega)] at hu
      rw [Nat.zero_add]
      exact hu
theorem news_of {g o : Nat} {t : TypeId} {cs : List Value} (hb : Blw w g cs t) (h : ∀ (j : Nat) (u : Value), (E.cells L)[j]? = some u → cs[o + j]? = some u) : ∀ j u, (E.cells L)[j]? = some u → w.cell? ((⟨g, o, none⟩ : Addr).add j) = some u := fun j u hu => by
  rw [show (⟨g, o, none⟩ : Addr).add j = ⟨g, o + j, none⟩ by unfold Addr.add; split <;> simp_all, hb.cell]
  exact h j u hu
theorem run_app {B : Nat} {u lv : Value} (hU : RU E B w u L) (hV : LV E w lv L') (hfew : L.length + L'.length ≤ 100000) (hB : B ≤ w.heap.size) : ∃ u' w', (Builtin.append_ #[E.tS, E.tS] E.tS #[u, lv]).run Tryd.prog w = .ok u' w' ∧ RU E B w' u' (L ++ L') ∧ w.grownBy w' u.ownBlock := by
  obtain ⟨a, c, rfl, _, hat⟩ := hV
  obtain ⟨i, hi, hzz⟩ := Option.map_eq_some_iff.1 E.info
  simp only [Prod.mk.injEq] at hzz
  obtain ⟨hz, hs, hb⟩ := hzz
  have h32 := E.by32
  have hby : (L.length + L'.length) * E.bytes ≤ 140737488355328 := Nat.le_trans (Nat.mul_le_mul hfew h32) (by decide)
  by_cases h0 : L' = []
  · subst h0
    rw [List.append_nil]
    have hsrc : Src Tryd.prog i.size E.tS (.slice a 0 c) 0 [] w := by
      cases a with
      | none => exact Src.ofNil w E.und c
      | some a => exact Src.ofSlice w E.und a 0 c [] (by simp) (by simp) (by simp)
    have hform : ∃ b n k, u = .slice b n k ∧ n ≤ k := by
      rcases hU with ⟨_, b, rfl, _, _⟩ | ⟨_, _, h2⟩
      · exact ⟨_, _, _, rfl, Nat.le_refl _⟩
      · rcases h2 with ⟨rfl, hn⟩ | ⟨g, cap, cur, rfl, _, _, h4, _⟩
        · exact ⟨_, _, _, rfl, Nat.le_refl _⟩
        · exact ⟨_, _, _, rfl, h4⟩
    obtain ⟨b, n, k, rfl, hnk⟩ := hform
    exact ⟨_, w, run_append_nothing w E.tS E.tS E.tS E.tE i E.und hi b n k hnk _ hsrc, hU, ⟨rfl, rfl, rfl, Nat.le_refl _, fun _ _ _ => rfl⟩⟩
  · have hpos : 0 < L'.length := List.length_pos_iff.2 h0
    obtain ⟨g, o, cs, t, rfl, hbk, hta⟩ := hat hpos
    have hne : L ++ L' ≠ [] := by simp [h0]
    rcases hU with ⟨rfl, b, rfl, _, _⟩ | ⟨h1, hown⟩
    · obtain ⟨v', w', h1, h2, h3⟩ := run_append_arg_grows (P := Tryd.prog) w E.tS E.tS E.tE i E.z E.m E.bytes E.und hi hz hs hb E.zs E.pos b 0 0 [] (by simp) (by simp) ⟨g, o, none⟩ L'.length c (E.cells L') (cells_len E L') (news_of hbk hta) (by omega) (by unfold maxLen; omega) (by simpa using hby)
      refine ⟨v', w', h1, .inr ⟨hne, ?_⟩, ⟨h3.os, h3.tape, h3.output, h3.size, fun k hk _ => h3.block k hk (by simp)⟩⟩
      rw [Nat.zero_add, List.nil_append] at h2
      exact ⟨h2.1, h2.2.imp id fun ⟨g', cap, cur, q1, q2, q3⟩ => ⟨g', cap, cur, q1, Nat.le_trans hB q2, q3⟩⟩
    · obtain ⟨g', cap, w', q1, q2, q3, q4, q5⟩ := run_append_lies (P := Tryd.prog) w E.tS E.tS B E.tE i E.z E.m E.bytes E.und hi hz hs hb E.zs E.pos u L.length (E.cells L) hown ⟨g, o, none⟩ L'.length c (E.cells L') (cells_len E L') (news_of hbk hta) (cells_one E L') hpos (by unfold maxLen; omega) hby hB _ rfl
      refine ⟨_, w', q1, .inr ⟨hne, ?_⟩, q3⟩
      rw [List.length_append, cells_app]
      exact q2
theorem grown_below {B : Nat} {u : Value} (hU : RU E B w u L) (h : w.grownBy w' u.ownBlock) (hB : B ≤ w.heap.size) : Below B w w' :=
  ⟨h.os, h.tape, h.output, h.size, fun k hk => h.block k (by omega) fun e => by have := (hU.at e.symm).1; omega⟩
theorem LV.take {a : Option Addr} {n c : Nat} (h : LV E w (.slice a n c) L) {k : Nat} (hk : k ≤ L.length) (c' : Nat) (hc' : k ≤ c') : LV E w (.slice a k c') (L.take k) := by
  obtain ⟨a', c0, hv, _, hc⟩ := h
  simp only [Value.slice.injEq] at hv
  obtain ⟨rfl, -, rfl⟩ := hv
  have hl : (L.take k).length = k := by simp; omega
  refine ⟨a, c', by rw [hl], by rw [hl]; exact hc', fun h0 => ?_⟩
  obtain ⟨g, o, cs, t, rfl, hg, hcc⟩ := hc (by omega)
  refine ⟨g, o, cs, t, rfl, hg, fun j u hu => hcc j u ?_⟩
  have hj := (List.getElem?_eq_some_iff.1 hu).1
  rw [← List.take_append_drop k L, cells_app, List.getElem?_append_left hj]
  exact hu
theorem LV.drop {a : Option Addr} {n c : Nat} (h : LV E w (.slice a n c) L) {k : Nat} (hk : k < L.length) (c' : Nat) (hc' : L.length - k ≤ c') : ∃ g o, a = some ⟨g, o, none⟩ ∧ LV E w (.slice (some ⟨g, o + k * E.m, none⟩) (L.length - k) c') (L.drop k) := by
  obtain ⟨a', c0, hv, _, hc⟩ := h
  simp only [Value.slice.injEq] at hv
  obtain ⟨rfl, -, rfl⟩ := hv
  obtain ⟨g, o, cs, t, rfl, hg, hcc⟩ := hc (by omega)
  refine ⟨g, o, rfl, _, c', by rw [List.length_drop], by rw [List.length_drop]; exact hc', fun _ => ⟨g, o + k * E.m, cs, t, rfl, hg, fun j u hu => ?_⟩⟩
  rw [Nat.add_assoc]
  refine hcc _ u ?_
  have hl : (E.cells (L.take k)).length = k * E.m := by rw [cells_len, List.length_take, Nat.min_eq_left (by omega)]
  rw [← List.take_append_drop k L, cells_app, List.getElem?_append_right (by omega), hl]
  simpa using hu
theorem LV.cap {a : Option Addr} {n c : Nat} (h : LV E w (.slice a n c) L) : n = L.length ∧ L.length ≤ c := by
  obtain ⟨a', c0, hv, h1, _⟩ := h
  simp only [Value.slice.injEq] at hv
  obtain ⟨-, rfl, rfl⟩ := hv
  exact ⟨rfl, h1⟩
theorem LV.sliced {a : Option Addr} {n c : Nat} (h : LV E w (.slice a n c) L) {k : Nat} (hk : k ≤ n) : LV E w (.slice (if c = k then a else Option.map (fun x => x.add (k * E.m)) a) (n - k) (c - k)) (L.drop k) := by
  obtain ⟨rfl, hcap⟩ := h.cap
  by_cases hkn : k < L.length
  · obtain ⟨g, o, rfl, h2⟩ := h.drop hkn (c - k) (by omega)
    rw [if_neg (by omega), Option.map_some, Addr.add_mid]
    exact h2
  · refine ⟨_, _, by rw [List.length_drop], by rw [List.length_drop]; omega, fun h0 => ?_⟩
    rw [List.length_drop] at h0
    omega
theorem lv_blk (E : Ety α) {g : Nat} {t : TypeId} {L : List α} (h : Blk w g (E.cells L) t) (c : Nat) (hc : L.length ≤ c) : LV E w (.slice (some ⟨g, 0, none⟩) L.length c) L := ⟨_, c, rfl, hc, fun _ => ⟨g, 0, _, _, rfl, h.blw, fun j u hu => by rw [Nat.zero_add]; exact hu⟩⟩
theorem wpList_append_ex {P : Program} {ops : Array Oper} {rest : List Oper} {o : Oper} {a : Act} {w : World} {Q : Exit → Act → World → Prop} (hgd : o.guard = none) (s x : Operand) (t : TypeId)
    (ho : o.op = .call { callee := .builtin .append, args := #[s, x], argTypes := #[t, t] }) (v y : Value) (hs : a.eval s = v) (hx : a.eval x = y) {R : Value → World → Prop} (hrun : ∃ u w', (Builtin.append_ #[t, t] o.type #[v, y]).run P w = .ok u w' ∧ R u w')
    (h : ∀ u w', R u w' → wpList P ops Q rest (a.put o.dst u) w') : wpList P ops Q (o :: rest) a w := by
  refine wpList_plain hgd fun K hK => ?_
  obtain ⟨u, w', h1, h2⟩ := hrun
  unfold Oper.wp execOp
  simp only [ho, resolve, invoke, builtin, Sem.run_bind, Sem.run_pure, Result.andThen_ok, List.map_toArray, List.map_cons, List.map_nil, hs, hx, h1]
  exact hK _ _ (h u w' h2)
/-- A row of one's own, from the block B on. -/
def RW (E : Ety α) (B : Nat) (w : World) (u : Value) (L : List α) : Prop := w.ownsRow B E.tE E.m u L.length (E.cells L)
theorem RW.nil (E : Ety α) (B : Nat) (w : World) : RW E B w (.slice none 0 0) [] := ⟨by simp [Ety.cells], .inl ⟨rfl, rfl⟩⟩
theorem RW.form {B : Nat} {u : Value} (h : RW E B w u L) : ∃ a c, u = .slice a L.length c ∧ L.length ≤ c := by
  rcases h.2 with ⟨rfl, hn⟩ | ⟨g, cap, cur, rfl, _, _, h4, _⟩
  · exact ⟨none, 0, by rw [hn], by omega⟩
  · exact ⟨_, _, rfl, h4⟩
theorem RW.read {B : Nat} {u : Value} (h : RW E B w u L) : LV E w u L := by
  rcases h.2 with ⟨rfl, hn⟩ | ⟨g, cap, cur, rfl, _, h3, h4, h5, h6, h7⟩
  · exact ⟨none, 0, by rw [hn], by omega, fun h => by omega⟩
  · refine ⟨_, cap, rfl, h4, fun _ => ⟨g, 0, cur.toList, _, rfl, ⟨_, h3⟩, fun j u hu => ?_⟩⟩
    have hj := (List.getElem?_eq_some_iff.1 hu).1
    rw [cells_len] at hj
    rw [← h7, List.getElem?_take, if_pos (by omega)] at hu
    rw [Nat.zero_add]
    exact hu
theorem RW.at {B k : Nat} {u : Value} (h : RW E B w u L) (hk : u.ownBlock = some k) : B ≤ k ∧ k < w.heap.size := by
  rcases h.2 with ⟨rfl, _⟩ | ⟨g, cap, cur, rfl, h3, h4, _⟩
  · cases hk
  · cases hk; exact ⟨h3, (Array.getElem?_eq_some_iff.1 h4).1⟩
theorem rw_app {B : Nat} {u lv : Value} (hU : RW E B w u L) (hV : LV E w lv L') (hfew : L.length + L'.length ≤ 100000) (hB : B ≤ w.heap.size) : ∃ u' w', (Builtin.append_ #[E.tS, E.tS] E.tS #[u, lv]).run Tryd.prog w = .ok u' w' ∧ RW E B w' u' (L ++ L') ∧ Below B w w' := by
  obtain ⟨a, c, rfl, _, hat⟩ := hV
  obtain ⟨i, hi, hzz⟩ := Option.map_eq_some_iff.1 E.info
  simp only [Prod.mk.injEq] at hzz
  obtain ⟨hz, hs, hb⟩ := hzz
  have h32 := E.by32
  have hby : (L.length + L'.length) * E.bytes ≤ 140737488355328 := Nat.le_trans (Nat.mul_le_mul hfew h32) (by decide)
  by_cases h0 : L' = []
  · subst h0
    rw [List.append_nil]
    have hsrc : Src Tryd.prog i.size E.tS (.slice a 0 c) 0 [] w := by
      cases a with
      | none => exact Src.ofNil w E.und c
      | some a => exact Src.ofSlice w E.und a 0 c [] (by simp) (by simp) (by simp)
    obtain ⟨b, k, rfl, hnk⟩ := hU.form
    exact ⟨_, w, run_append_nothing w E.tS E.tS E.tS E.tE i E.und hi b _ k hnk _ hsrc, hU, Below.refl _ _⟩
  · have hpos : 0 < L'.length := List.length_pos_iff.2 h0
    obtain ⟨g, o, cs, t, rfl, hbk, hta⟩ := hat hpos
    obtain ⟨g', cap, w', q1, q2, q3, q4, q5⟩ := run_append_lies (P := Tryd.prog) w E.tS E.tS B E.tE i E.z E.m E.bytes E.und hi hz hs hb E.zs E.pos u L.length (E.cells L) hU ⟨g, o, none⟩ L'.length c (E.cells L') (cells_len E L') (news_of hbk hta) (cells_one E L') hpos (by unfold maxLen; omega) hby hB _ rfl
    refine ⟨_, w', q1, ?_, ⟨q3.os, q3.tape, q3.output, q3.size, fun k hk => q3.block k (by omega) fun e => by have := (hU.at e.symm).1; omega⟩⟩
    unfold RW
    rw [List.length_append, cells_app]
    exact q2
attribute [local go_sem] Oper.semAt_some
theorem wpListIn_append_ex {F : Fence} {n : Nat} {P : Program} {ops : Array Oper} {rest : List Oper} {o : Oper} {a : Act} {w : World} {Q : Exit → Act → World → Prop} (hgd : o.guard = none) (s x : Operand) (t : TypeId)
    (ho : o.op = .call { callee := .builtin .append, args := #[s, x], argTypes := #[t, t] }) (v y : Value) (hs : a.eval s = v) (hx : a.eval x = y) {R : Value → World → Prop} (hrun : ∃ u w', (Builtin.append_ #[t, t] o.type #[v, y]).run P w = .ok u w' ∧ R u w')
    (h : ∀ u w', R u w' → wpListIn F n P ops Q rest (a.put o.dst u) w') : wpListIn F n P ops Q (o :: rest) a w := by
  refine wpListIn_plain hgd fun K hK' => ?_
  obtain ⟨u, w', h1, h2⟩ := hrun
  unfold Oper.wpIn
  refine ⟨?_, ?_⟩
  · simp [Oper.about, ho, resolve, Target.leads, Sem.run_pure]
  · rw [Oper.semAt_plain F _ _ (by rw [ho]; intro c hc'; cases hc')]
    simp only [execOp, ho, resolve, invoke, builtin, Sem.run_bind, Sem.run_pure, Result.andThen_ok, List.map_toArray, List.map_cons, List.map_nil, hs, hx, h1]
    exact hK' _ _ (h u w' h2)
theorem step_append_run {P : Program} {ops : Array Oper} {o : Oper} {a : Act} {w : World} {K : Act → World → Prop} {Q : Exit → Act → World → Prop} {E : Prop} (hgd : o.guard = none) (s x : Operand) (t : TypeId)
    (ho : o.op = .call { callee := .builtin .append, args := #[s, x], argTypes := #[t, t] }) (v y : Value) (hs : a.eval s = v) (hx : a.eval x = y) (u : Value) (w' : World) (hrun : (Builtin.append_ #[t, t] o.type #[v, y]).run P w = .ok u w')
    (h : K (a.put o.dst u) w') : if Region.wanted o (yielded ops a.tmps) = true then Oper.wp P o a w K Q else E := by
  have hw : Region.wanted o (yielded ops a.tmps) = true := by simp [Region.wanted, hgd]
  rw [if_pos hw]
  unfold Oper.wp execOp
  simp only [ho, resolve, invoke, builtin, Sem.run_bind, Sem.run_pure, Result.andThen_ok, List.map_toArray, List.map_cons, List.map_nil, hs, hx, hrun]
  exact h
theorem laid_over : ∀ (l : List Value) (k : Nat) (arr : Array Value), k + l.length ≤ arr.size → (List.foldl (fun cs (x : Value × Nat) => cs.setIfInBounds x.2 x.1) arr (l.zipIdx k)).toList = arr.toList.take k ++ l ++ arr.toList.drop (k + l.length)
  | [], k, arr, h => by simp
  | v :: l, k, arr, h => by
    simp only [List.zipIdx_cons, List.foldl_cons]
    rw [laid_over l (k + 1) _ (by simp at h ⊢; omega)]
    have hk : k < arr.toList.length := by simp at h ⊢; omega
    rw [Array.toList_setIfInBounds, List.take_set, List.take_succ_eq_append_getElem hk, List.set_append_right _ _ (by rw [List.length_take]; omega), List.drop_set_of_lt (by omega)]
    have e : k - (arr.toList.take k).length = 0 := by rw [List.length_take]; omega
    rw [e]
    simp [show k + 1 + l.length = k + (l.length + 1) by omega]
theorem run_buildSlice1 {P : Program} (w : World) (t e : TypeId) (cs : List Value) (z : Value) (hu : P.underlying t = some (.slice e)) (hi : (P.info? e).map (fun i => (i.zero, i.size)) = some (some z, cs.length)) (hz : z.cells.size = cs.length) (h24 : cs.length ≤ 1000) (hpos : 0 < cs.length) :
    (Instr.buildSlice t 1 #[(0, .agg cs.toArray)]).run P w = .ok (.slice (some ⟨w.heap.size, 0, none⟩) 1 1) (w.alloc (.cells cs.toArray e)) := by
  cases hq : P.info? e with
  | none => simp [hq] at hi
  | some i =>
    have h1 : i.zero = some z := by simp [hq] at hi; exact hi.1
    have h2 : i.size = cs.length := by simp [hq] at hi; exact hi.2
    have hfill : ∀ arr : Array Value, arr.size = cs.length → Instr.fill (fun i => some (i * cs.length, cs.length)) arr [(0, Value.agg cs.toArray)] = some cs.toArray := fun arr ha => by
      have h3 := laid_over cs 0 arr (by omega)
      simp only [List.take_zero, List.nil_append, Nat.zero_add] at h3
      rw [List.drop_eq_nil_of_le (by simp; omega), List.append_nil] at h3
      have h4 : List.foldl (fun c (x : Value × Nat) => c.setIfInBounds x.2 x.1) arr cs.zipIdx = cs.toArray := Array.toList_inj.1 (by simpa using h3)
      simp [Instr.fill, Value.cells, ha, h4]
    have hne : cs ≠ [] := fun h => by subst h; simp at hpos
    simp [Instr.buildSlice, Sem.run_bind, run_underlying hu, sizeOf, typeInfo, hq, h2, zeroValue, h1, hne, hfill, newRow, newObj]
    rw [if_neg (by omega)]
    rfl
theorem step_buildSlice1 {P : Program} {ops : Array Oper} {o : Oper} {a : Act} {w : World} {K : Act → World → Prop} {Q : Exit → Act → World → Prop} {E : Prop} (hgd : o.guard = none) (dst : Option Nat) (hd : o.dst = dst) (t e : TypeId) (x : Operand) (ho : o.op = .buildSlice t 1 #[(0, x)])
    (cs : List Value) (hx : a.eval x = .agg cs.toArray) (z : Value) (hu : P.underlying t = some (.slice e)) (hi : (P.info? e).map (fun i => (i.zero, i.size)) = some (some z, cs.length)) (hz : z.cells.size = cs.length) (h24 : cs.length ≤ 1000) (hpos : 0 < cs.length)
    (h : K (a.put dst (.slice (some ⟨w.heap.size, 0, none⟩) 1 1)) (w.alloc (.cells cs.toArray e))) : if Region.wanted o (yielded ops a.tmps) = true then Oper.wp P o a w K Q else E := by
  subst hd
  have hw : Region.wanted o (yielded ops a.tmps) = true := by simp [Region.wanted, hgd]
  rw [if_pos hw]
  unfold Oper.wp execOp
  simp only [ho, List.map_toArray, List.map_cons, List.map_nil, hx, Sem.run_bind, run_buildSlice1 w t e cs z hu hi hz h24 hpos, Result.andThen_ok, Sem.run_pure]
  exact h
theorem wpList_buildSlice1 {P : Program} {ops : Array Oper} {rest : List Oper} {o : Oper} {a : Act} {w : World} {Q : Exit → Act → World → Prop} (hgd : o.guard = none) (t e : TypeId) (x : Operand) (ho : o.op = .buildSlice t 1 #[(0, x)])
    (cs : List Value) (hx : a.eval x = .agg cs.toArray) (z : Value) (hu : P.underlying t = some (.slice e)) (hi : (P.info? e).map (fun i => (i.zero, i.size)) = some (some z, cs.length)) (hz : z.cells.size = cs.length) (h24 : cs.length ≤ 1000) (hpos : 0 < cs.length)
    (h : ∀ w', w' = w.alloc (.cells cs.toArray e) → wpList P ops Q rest (a.put o.dst (.slice (some ⟨w.heap.size, 0, none⟩) 1 1)) w') : wpList P ops Q (o :: rest) a w := by
  refine wpList_plain hgd fun K hK => ?_
  have := step_buildSlice1 (P := P) (ops := ops) (K := K) (Q := Q) (E := True) (w := w) (a := a) hgd o.dst rfl t e x ho cs hx z hu hi hz h24 hpos (hK _ _ (h _ rfl))
  rw [if_pos (by simp [Region.wanted, hgd])] at this
  exact this
theorem RW.keep {B : Nat} {u : Value} (h : RW E B w u L) (hk : ∀ k, u.ownBlock = some k → w'.heap[k]? = w.heap[k]?) : RW E B w' u L := by
  obtain ⟨h1, h2 | ⟨g, cap, cur, rfl, h3, h4, h5⟩⟩ := h
  · exact ⟨h1, .inl h2⟩
  · exact ⟨h1, .inr ⟨g, cap, cur, rfl, h3, (hk g rfl).trans h4, h5⟩⟩
theorem RW.below {B : Nat} {u : Value} (h : RW E B w u L) (k : Below w.heap.size w w') : RW E B w' u L := h.keep fun g hg => k.block g (h.at hg).2
theorem rw_app2 {B : Nat} {u lv : Value} (hU : RW E B w u L) (hV : LV E w lv L') (h0 : L' ≠ []) (hfew : L.length + L'.length ≤ 100000) (hB : B ≤ w.heap.size) : ∃ g' cap w', (Builtin.append_ #[E.tS, E.tS] E.tS #[u, lv]).run Tryd.prog w = .ok (.slice (some ⟨g', 0, none⟩) (L.length + L'.length) cap) w' ∧ RW E B w' (.slice (some ⟨g', 0, none⟩) (L.length + L'.length) cap) (L ++ L') ∧ w.grownBy w' u.ownBlock ∧ (u.ownBlock = some g' ∨ g' = w.heap.size) ∧ g' < w'.heap.size := by
  obtain ⟨a, c, rfl, _, hat⟩ := hV
  obtain ⟨i, hi, hzz⟩ := Option.map_eq_some_iff.1 E.info
  simp only [Prod.mk.injEq] at hzz
  obtain ⟨hz, hs, hb⟩ := hzz
  have h32 := E.by32
  have hby : (L.length + L'.length) * E.bytes ≤ 140737488355328 := Nat.le_trans (Nat.mul_le_mul hfew h32) (by decide)
  have hpos : 0 < L'.length := List.length_pos_iff.2 h0
  obtain ⟨g, o, cs, t, rfl, hbk, hta⟩ := hat hpos
  obtain ⟨g', cap, w', q1, q2, q3, q4, q5⟩ := run_append_lies (P := Tryd.prog) w E.tS E.tS B E.tE i E.z E.m E.bytes E.und hi hz hs hb E.zs E.pos u L.length (E.cells L) hU ⟨g, o, none⟩ L'.length c (E.cells L') (cells_len E L') (news_of hbk hta) (cells_one E L') hpos (by unfold maxLen; omega) hby hB _ rfl
  refine ⟨g', cap, w', q1, ?_, q3, q4, q5⟩
  unfold RW
  rw [List.length_append, cells_app]
  exact q2
end Go.Proofs.YtipnaphikbjhbaaDoor.T
