/- A range over a function that yields what it has just made. · What chain's function yields. · Open. · What Open's loop holds. -/
import Derived.Test.YtnganmekiloigaaGt
import Derived.RangeFuncNested
import Derived.RangeFuncBound
import Derived.RangeFuncCalls
import Derived.RangeFuncLeaves
import Derived.OwnWalkIn
import Derived.TacticsInMore
import Derived.LoopNIn
import Derived.LoopIn
import Derived.Test.YtnganmekiloigaaGu
/-! ### A range over a function that yields what it has just made. -/
namespace Go.Proofs.Ytnganmekiloigaa
open Go.RowKit
set_option maxRecDepth 100000
section
variable {F G : Nat → Prop} {a b c : World}
theorem Keep.put (h : Keep F a b) {l : Nat} (hl : a.heap.size ≤ l ∨ F l) (o : Obj) : Keep F a (b.putObj l o) :=
  ⟨h.os, h.tape, h.output, by simpa using h.size, fun k hk hf => by
    have hne : k ≠ l := fun e => hl.elim (fun h => by omega) (fun h => hf (e ▸ h))
    rw [World.putObj_heap_other hne]; exact h.block k hk hf⟩
theorem Keep.mono (h : Keep F a b) (hG : ∀ i, i < a.heap.size → F i → G i) : Keep G a b := ⟨h.os, h.tape, h.output, h.size, fun k hk hf => h.block k hk (fun x => hf (hG k hk x))⟩
end
/-- What is owned now was owned, or is new. -/
def Grew (O O' : Nat → Prop) (W : World) : Prop := ∀ b, O' b → O b ∨ W.heap.size ≤ b
theorem Grew.refl (O : Nat → Prop) (W : World) : Grew O O W := fun _ h => .inl h
theorem Grew.trans {O O' O'' : Nat → Prop} {W W' : World} (h : Grew O O' W) (k : Grew O' O'' W') (hs : W.heap.size ≤ W'.heap.size) : Grew O O'' W := fun b hb => (k b hb).elim (h b) (fun x => .inr (by omega))

/-- What is owned now was owned, or lies from the block n on. -/
def GrewN (n : Nat) (O O' : Nat → Prop) : Prop := ∀ b, O' b → O b ∨ n ≤ b
theorem GrewN.refl (n : Nat) (O : Nat → Prop) : GrewN n O O := fun _ h => .inl h
theorem GrewN.trans {n : Nat} {O O' O'' : Nat → Prop} (h : GrewN n O O') (k : GrewN n O' O'') : GrewN n O O'' := fun b hb => (k b hb).elim (h b) .inr
/-- What is said of owned blocks, and of those below B, abides what becomes of others. -/
def Abide {α : Type} (B : Nat) (J : (Nat → Prop) → List α → World → Prop) : Prop := ∀ O pre W W', J O pre W → Keep (fun b => ¬ O b ∧ B ≤ b) W W' → J O pre W'

/-- What a round answers. -/
def Rnd {α : Type} (n : Nat) (J Jx : (Nat → Prop) → List α → World → Prop) (O : Nat → Prop) (pre : List α) (W : World) (e : Ending) (W' : World) : Prop :=
  (e = .returned (.bool true) ∧ ∃ O', J O' pre W' ∧ GrewN n O O' ∧ Keep O W W') ∨ (e = .returned (.bool false) ∧ ∃ O', Jx O' pre W' ∧ GrewN n O O' ∧ Keep O W W')

/-- The function value g with lb, called with a yield in the world W, yields xs, one behind the other, or is stopped; it reads the blocks of G. -/
def Runs {α : Type} (P : Program) (g : Nat) (lb : Array Value) (Enc : α → Value → World → Prop) (xs : List α) (G : Nat → Prop) (W : World) : Prop :=
  ∀ (l : Nat) (O : Nat → Prop) (J Jx : (Nat → Prop) → List α → World → Prop), (∀ b, O b → ¬ G b ∧ b < W.heap.size) → (∀ O pre W, J O pre W → ∀ b, O b → b < W.heap.size) → Abide W.heap.size J → Abide W.heap.size Jx →
    (∀ O pre x v W1, J O pre W1 → Enc x v W1 → pre ++ [x] <+: xs → YieldAt Fence.wide 0 P l #[v] W1 (Rnd W.heap.size J Jx O (pre ++ [x]) W1)) → J O [] W →
    CallsIn Fence.wide 0 P g (#[.func (.yield l) #[] #[]] ++ lb) W fun e W' => (∃ v, e = .returned v) ∧
      ((∃ O', J O' xs W' ∧ GrewN W.heap.size O O' ∧ Keep O W W') ∨ (∃ pre O', pre <+: xs ∧ Jx O' pre W' ∧ GrewN W.heap.size O O' ∧ Keep O W W'))

/-- How the body of a round may be left. -/
def PostB {α : Type} (n : Nat) (I : (Nat → Prop) → List α → World → Prop) (Ix : Code → (Nat → Prop) → List α → World → Prop) (O : Nat → Prop) (pre : List α) (W : World) : Exit → Act → World → Prop
  | .normal, _, W' => ∃ O', I O' pre W' ∧ GrewN n O O' ∧ Keep O W W'
  | .ret, _, W' => ∃ O', Ix .ret O' pre W' ∧ GrewN n O O' ∧ Keep O W W'
  | .exit id, _, W' => ∃ O', Ix (.exit id) O' pre W' ∧ GrewN n O O' ∧ Keep O W W'
  | _, _, _ => False

set_option maxHeartbeats 1000000 in
/-- The statement: a loop over such a value, whose variable is laid in a block of its own in each round. -/
theorem wpIn_range {α : Type} {P : Program} {g : Operand} {ps : Array Tmp} {assign body : Code} {Q : Exit → Act → World → Prop} {a : Act} {w : World} {gf : Nat} {lb : Array Value}
    (hg : a.eval g = .func (.func gf) #[] lb) (eg : ∀ args w, (callFunc gf args).run P w = .ok (.enter gf args) w) (hps : ps.size = 1)
    {Enc : α → Value → World → Prop} (hEnc : ∀ x v W W', Enc x v W → Keep (fun b => ∃ r, W.heap[b]? = some (.loop r)) W W' → Enc x v W') {xs : List α} {G : Nat → Prop} (hseq : ∀ W1, Below w.heap.size w W1 → w.heap.size + 2 ≤ W1.heap.size → Runs P gf lb Enc xs G W1) (hG : ∀ b, G b → b < w.heap.size)
    (I : (Nat → Prop) → List α → World → Prop) (Ix : Code → (Nat → Prop) → List α → World → Prop) (hIs : ∀ O pre W, I O pre W → ∀ b, O b → b < W.heap.size) (hI : Abide w.heap.size I) (hIx : ∀ c, Abide w.heap.size (Ix c))
    (O : Nat → Prop) (hO : ∀ b, O b → ¬ G b ∧ b < w.heap.size) (h0 : I O [] w) (A : Value → Nat → Act) (cs : Value → List Value) (t : TypeId)
    (hassign : ∀ l x v W (K : Act → World → Prop), Enc x v W → (∀ Wa, Wa.heap[W.heap.size]? = some (.cells (cs v).toArray t (0, 0)) → Below W.heap.size W Wa → Wa.heap.size = W.heap.size + 1 → K (A v W.heap.size) Wa) → assign.wpIn (Fence.wide.inRound l) 0 P (Exit.then K (fun _ _ _ => False)) { tmps := (ps.zip #[v]).foldl (fun t (p, v) => t.setIfInBounds p v) a.tmps, defers := [] } W)
    (hbody : ∀ l O pre x v W b, I O pre W → Enc x v W → ¬ O b → w.heap.size ≤ b → w.heap.size + 2 ≤ W.heap.size → W.heap[b]? = some (.cells (cs v).toArray t (0, 0)) → pre ++ [x] <+: xs → body.wpIn (Fence.wide.inRound l) 0 P (PostB (w.heap.size + 2) I Ix O (pre ++ [x]) W) (A v b) W)
    (hdone : ∀ D O' W', w.heap.size ≤ D → ¬ O' D → I O' xs W' → Grew O O' w → Keep O w W' → W'.heap[D]? = some (.deferred (some [])) → Q .normal { a with defers := { target := .collected D, args := #[] } :: a.defers } W')
    (hstop : ∀ D c O' pre W', w.heap.size ≤ D → ¬ O' D → pre <+: xs → Ix c O' pre W' → Grew O O' w → Keep O w W' → W'.heap[D]? = some (.deferred (some [])) → c.wpIn Fence.wide 0 P Q { a with defers := { target := .collected D, args := #[] } :: a.defers } W') :
    (Code.rangeFunc g ps assign body).wpIn Fence.wide 0 P Q a w := by
  refine wpIn_rangeFunc fun fn hfn => ?_
  obtain ⟨rec, hrec⟩ : ∃ rec : LoopState → Option Code → Loop, rec = fun st pe => { state := st, pending := pe, fn, tmps := a.tmps, params := ps, assign, body, defers := w.heap.size } := ⟨_, rfl⟩
  obtain ⟨W1, hW1⟩ : ∃ W1, (w.alloc (.deferred (some []))).alloc (.loop (rec .ready none)) = W1 := ⟨_, rfl⟩
  have bW1 : Below w.heap.size w W1 := by rw [← hW1]; exact bmore (al _ _) (al _ _)
  have sW1 : W1.heap.size = w.heap.size + 2 := by rw [← hW1]; simp
  have hL1 : W1.heap[w.heap.size + 1]? = some (.loop (rec .ready none)) := by
    rw [← hW1]; have := World.alloc_heap_new (w.alloc (.deferred (some []))) (.loop (rec .ready none)); rwa [World.size_alloc] at this
  have hD1 : W1.heap[w.heap.size]? = some (.deferred (some [])) := by
    rw [← hW1]; exact (Below.heap_alloc _ _ _ (by simp)).trans (World.alloc_heap_new w _)
  generalize hl : w.heap.size + 1 = l at *
  generalize hD : w.heap.size = D at *
  have bW1' : Below w.heap.size w W1 := by rw [hD]; exact bW1
  have hps1 : ∀ x, (#[x] : Array Value).size = ps.size := fun x => by simp [hps]
  refine ⟨l, [{ target := .collected D, args := #[] }], W1, { target := .fn (.func gf) lb, args := #[.func (.yield l) #[] #[]] }, W1, gf, #[.func (.yield l) #[] #[]] ++ lb, W1, ?_, ?_, fun _ _ => trivial, ?_, (fun h => (by cases h)), ?_⟩
  · rw [← hW1, hrec, ← hl, ← hD]; exact run_enterLoop_outer _ _ _ _ _
  · simp only [resolve, hg]
    simp [go_sem]
  · simp [invoke, go_sem, eg]
  · refine (hseq W1 bW1 (by omega) l (fun b => O b ∨ b = l)
      (fun OO pre W => ∃ O1, (∀ b, OO b ↔ O1 b ∨ b = l) ∧ ¬ O1 l ∧ ¬ O1 D ∧ I O1 pre W ∧ W.heap[l]? = some (.loop (rec .ready none)) ∧ W.heap[D]? = some (.deferred (some [])) ∧ Grew O O1 w)
      (fun OO pre W => ∃ O1 c, (∀ b, OO b ↔ O1 b ∨ b = l) ∧ ¬ O1 l ∧ ¬ O1 D ∧ Ix c O1 pre W ∧ W.heap[l]? = some (.loop (rec .done (some c))) ∧ W.heap[D]? = some (.deferred (some [])) ∧ Grew O O1 w)
      ?_ ?_ ?_ ?_ ?_ ?_).mono ?_
    · rintro b (h | rfl)
      · exact ⟨(hO b h).1, by have := (hO b h).2; omega⟩
      · exact ⟨fun h => by have := hG _ h; omega, by omega⟩
    · rintro OO pre W ⟨O1, e1, n1, n2, hi, h1, h2, hgr⟩ b hb
      rcases (e1 b).1 hb with h | rfl
      · exact hIs _ _ _ hi b h
      · exact (Array.getElem?_eq_some_iff.1 h1).1
    · rintro OO pre W W' ⟨O1, e1, n1, n2, hi, h1, h2, hgr⟩ hk
      have lw := (Array.getElem?_eq_some_iff.1 h1).1
      refine ⟨O1, e1, n1, n2, hI _ _ _ _ hi (hk.mono fun b _ hb => ⟨fun h => hb.1 ((e1 b).2 (.inl h)), by omega⟩), (hk.block l lw (fun h => h.1 ((e1 l).2 (.inr rfl)))).trans h1, (hk.block D (by omega) (fun h => by omega)).trans h2, hgr⟩
    · rintro OO pre W W' ⟨O1, c, e1, n1, n2, hi, h1, h2, hgr⟩ hk
      have lw := (Array.getElem?_eq_some_iff.1 h1).1
      refine ⟨O1, c, e1, n1, n2, hIx c _ _ _ _ hi (hk.mono fun b _ hb => ⟨fun h => hb.1 ((e1 b).2 (.inl h)), by omega⟩), (hk.block l lw (fun h => h.1 ((e1 l).2 (.inr rfl)))).trans h1, (hk.block D (by omega) (fun h => by omega)).trans h2, hgr⟩
    · rintro OO pre x v W ⟨O1, e1, n1, n2, hi, h1, h2, hgr⟩ hE hpre
      have lw := (Array.getElem?_eq_some_iff.1 h1).1
      have hy := run_yield (P := P) (args := #[v]) h1 (by rw [hrec]; exact hps1 v)
      rw [hrec] at hy
      refine ⟨fn, _, assign, body, hy, roundIn_of_wpIn hfn (hassign l x v W _ hE ?_)⟩
      clear hy
      intro Wa hba hBa hsa
      have h1a : Wa.heap[l]? = some (.loop (rec .ready none)) := (hBa.block l lw).trans h1
      refine ⟨_, run_beginRound h1a (by rw [hrec]), ?_⟩
      obtain ⟨W2, hW2⟩ : ∃ W2, Wa.putObj l (.loop { rec .ready none with state := .busy }) = W2 := ⟨_, rfl⟩
      have k2 : Keep (fun b => b = l) W W2 := by rw [← hW2]; exact (Keep.of (F := fun b => b = l) hBa).put (.inr rfl) _
      have s2 : W2.heap.size = W.heap.size + 1 := by rw [← hW2]; simp [hsa]
      have l2 : W2.heap[l]? = some (.loop { rec .ready none with state := .busy }) := by rw [← hW2]; exact World.putObj_heap_same (by omega)
      have d2 : W2.heap[D]? = some (.deferred (some [])) := (k2.block D (by omega) (by omega)).trans h2
      have b2 : W2.heap[W.heap.size]? = some (.cells (cs v).toArray t (0, 0)) := by rw [← hW2, World.putObj_heap_other (by omega)]; exact hba
      have i2 := hI _ _ _ W2 hi (k2.mono fun b _ e => by subst e; exact ⟨n1, by omega⟩)
      have nb : ¬ O1 W.heap.size := fun h => by have := hIs _ _ _ hi _ h; omega
      have oo : ∀ b, O1 b → OO b := fun b h => (e1 b).2 (.inl h)
      rw [hW2]
      refine wpIn_mono (hbody l O1 pre x v W2 W.heap.size i2 (hEnc _ _ _ _ hE (k2.mono fun b _ e => by subst e; exact ⟨_, h1⟩)) nb (by omega) (by omega) b2 hpre) ?_
      have fin : ∀ (jump : Option Code) (O' : Nat → Prop) (W3 : World), GrewN (D + 2) O1 O' → Keep O1 W2 W3 →
          (Instr.endRound l jump).run P W3 = .ok (.bool jump.isNone) (W3.putObj l (.loop (rec (if jump.isNone then .ready else .done) jump))) ∧ ¬ O' l ∧ ¬ O' D ∧
          Keep (fun b => ¬ O' b ∧ D ≤ b) W3 (W3.putObj l (.loop (rec (if jump.isNone then .ready else .done) jump))) ∧
          (W3.putObj l (.loop (rec (if jump.isNone then .ready else .done) jump))).heap[l]? = some (.loop (rec (if jump.isNone then .ready else .done) jump)) ∧
          (W3.putObj l (.loop (rec (if jump.isNone then .ready else .done) jump))).heap[D]? = some (.deferred (some [])) ∧ Grew O O' w ∧
          GrewN W1.heap.size OO (fun b => O' b ∨ b = l) ∧ Keep OO W (W3.putObj l (.loop (rec (if jump.isNone then .ready else .done) jump))) := by
        intro jump O' W3 g3 k3
        have l3 : W3.heap[l]? = some (.loop { rec .ready none with state := .busy }) := (k3.block l (by omega) n1).trans l2
        have lw3 := (Array.getElem?_eq_some_iff.1 l3).1
        have r3 := run_endRound (P := P) jump l3
        rw [hrec] at r3
        have nl : ¬ O' l := fun h => (g3 l h).elim n1 (fun h => by omega)
        have nD : ¬ O' D := fun h => (g3 D h).elim n2 (fun h => by omega)
        refine ⟨by rw [hrec]; exact r3, nl, nD, (Keep.refl _ W3).put (.inr ⟨nl, by omega⟩) _, World.putObj_heap_same lw3, (World.putObj_heap_other (by omega)).trans ((k3.block D (by omega) n2).trans d2), ?_, ?_, ?_⟩
        · intro b hb
          rcases g3 b hb with h | h
          · exact hgr b h
          · exact .inr (by omega)
        · rintro b (hb | rfl)
          · rcases g3 b hb with h | h
            · exact .inl (oo b h)
            · exact .inr (by omega)
          · exact .inl ((e1 b).2 (.inr rfl))
        · exact Keep.put ((k2.mono (fun b _ e => (e1 b).2 (.inr e))).trans k3 (fun b _ h => oo b h)) (.inr ((e1 l).2 (.inr rfl))) _
      rintro e a3 W3 hp
      cases e with
      | normal =>
        obtain ⟨O', hi3, g3, k3⟩ := hp
        obtain ⟨hr, nl, nD, ka, hl4, hd4, gO, gg, kk⟩ := fin none O' W3 g3 k3
        exact ⟨_, _, hr, .inl ⟨rfl, _, ⟨O', fun b => Iff.rfl, nl, nD, hI _ _ _ _ hi3 ka, hl4, hd4, gO⟩, gg, kk⟩⟩
      | ret =>
        obtain ⟨O', hi3, g3, k3⟩ := hp
        obtain ⟨hr, nl, nD, ka, hl4, hd4, gO, gg, kk⟩ := fin (some .ret) O' W3 g3 k3
        exact ⟨_, _, hr, .inr ⟨rfl, _, ⟨O', .ret, fun b => Iff.rfl, nl, nD, hIx _ _ _ _ _ hi3 ka, hl4, hd4, gO⟩, gg, kk⟩⟩
      | exit id =>
        obtain ⟨O', hi3, g3, k3⟩ := hp
        obtain ⟨hr, nl, nD, ka, hl4, hd4, gO, gg, kk⟩ := fin (some (.exit id)) O' W3 g3 k3
        exact ⟨_, _, hr, .inr ⟨rfl, _, ⟨O', .exit id, fun b => Iff.rfl, nl, nD, hIx _ _ _ _ _ hi3 ka, hl4, hd4, gO⟩, gg, kk⟩⟩
      | goto t => exact hp.elim
      | panic ch => exact hp.elim
      | outgrown => exact hp.elim
    · exact ⟨O, fun b => Iff.rfl, fun h => by have := (hO _ h).2; omega, fun h => by have := (hO _ h).2; omega, hI _ _ _ _ h0 (Keep.of bW1'), hL1, hD1, Grew.refl _ _⟩
    · rintro e W2 ⟨⟨v, rfl⟩, (⟨OO, ⟨O1, e1, n1, n2, hi, h1, h2, hgr⟩, _, hk⟩ | ⟨pre, OO, hpre, ⟨O1, c, e1, n1, n2, hi, h1, h2, hgr⟩, _, hk⟩)⟩
      · have lw := (Array.getElem?_eq_some_iff.1 h1).1
        have kw : Keep O w W2 := (Keep.of (F := O) bW1').trans hk (fun b hb h => h.elim id (fun e => by omega))
        exact ⟨none, _, by have := run_endLoop (P := P) h1 (by rw [hrec]; simp); rw [hrec] at this; exact this, hdone D O1 _ (Nat.le_refl _) n2 (hI _ _ _ _ hi ((Keep.refl _ W2).put (.inr ⟨n1, by omega⟩) _)) hgr (kw.put (.inl (by omega)) _) ((World.putObj_heap_other (by omega)).trans h2)⟩
      · have lw := (Array.getElem?_eq_some_iff.1 h1).1
        have kw : Keep O w W2 := (Keep.of (F := O) bW1').trans hk (fun b hb h => h.elim id (fun e => by omega))
        exact ⟨some c, _, by have := run_endLoop (P := P) h1 (by rw [hrec]; simp); rw [hrec] at this; exact this, hstop D c O1 pre _ (Nat.le_refl _) n2 hpre (hIx c _ _ _ _ hi ((Keep.refl _ W2).put (.inr ⟨n1, by omega⟩) _)) hgr (kw.put (.inl (by omega)) _) ((World.putObj_heap_other (by omega)).trans h2)⟩
abbrev mark (D : Nat) : Deferred := { target := .collected D, args := #[] }
/-- A function's end, where loops have left blocks for deferred calls. -/
theorem leave_marks {fn : Func} {tmps : Array Value} {R : Ending → World → Prop} {v : Value} : ∀ (Ds : List Nat) (w : World), (∀ w', Keep (· ∈ Ds) w w' → (results fn tmps).run Try.prog w' = .ok v w' ∧ R (.returned v) w') → (∀ D ∈ Ds, w.heap[D]? = some (.deferred (some []))) → Ds.Nodup →
    LeavesInM Fence.wide 0 Try.prog fn tmps R (Ds.map mark) .returning w
  | [], w, hR, _, _ => ⟨v, (hR w (Keep.refl _ _)).1, (hR w (Keep.refl _ _)).2⟩
  | D :: Ds, w, hR, hD, hn => by
    refine ⟨by simp, .inl ⟨D, _, rfl, run_takeDeferred (hD D (by simp)), ?_⟩⟩
    have k : Keep (· ∈ D :: Ds) w (w.putObj D (.deferred none)) := (Keep.refl _ w).put (.inr (by simp)) _
    refine leave_marks Ds _ (fun w' k' => hR w' (k.trans k' (fun _ _ h => by simp [h]))) (fun D' h' => ?_) (List.nodup_cons.1 hn).2
    have hne : D' ≠ D := fun e => (List.nodup_cons.1 hn).1 (by rw [← e]; exact h')
    rw [World.putObj_heap_other hne]
    exact hD D' (by simp [h'])
end Go.Proofs.Ytnganmekiloigaa
/-! ### What chain's function yields. -/
namespace Go.Proofs.Ytnganmekiloigaa
open Go.RowKit
set_option maxRecDepth 100000
attribute [local go_sem] Oper.semAt_some
variable {w w' : World} {H L : List Pc}
/-- A later world that has the older one's blocks. -/
structure Ag (w0 W : World) : Prop where
  size : w0.heap.size ≤ W.heap.size
  block : ∀ k, k < w0.heap.size → W.heap[k]? = w0.heap[k]?
theorem Ag.keep {w0 W W' : World} {O : Nat → Prop} (h : Ag w0 W) (k : Keep O W W') (hO : ∀ j, j < w0.heap.size → ¬ O j) : Ag w0 W' := ⟨Nat.le_trans h.size k.size, fun j hj => (k.block j (by have := h.size; omega) (hO j hj)).trans (h.block j hj)⟩
theorem Ag.blk {w0 W : World} (h : Ag w0 W) {g : Nat} {l : List Value} {t : TypeId} (hb : Blk w0 g l t) : Blk W g l t := (h.block g hb.lt).trans hb
theorem Ag.lv {w0 W : World} (h : Ag w0 W) {α : Type} {E : Ety α} {v : Value} {L : List α} (hp : LV E w0 v L) : LV E W v L := hp.keep fun _ _ _ q => q.block (h.block _ q.lt)
theorem Blk.keep {O : Nat → Prop} {W W' : World} {b : Nat} {l : List Value} {t : TypeId} (h : Blk W b l t) (e : Keep O W W') (hn : ¬ O b) : Blk W' b l t := (e.block b h.lt hn).trans h
/-- A record as a value. -/
def EncR (N0 : Nat) (r : Rc) (v : Value) (W : World) : Prop := ∃ a n c, v = .agg #[.int .i64 (r.e : Int), .int .i64 (r.n : Int), .slice a n c] ∧ RW EB N0 W (.slice a n c) r.b
theorem EncR.keep {N0 : Nat} {r : Rc} {v : Value} {W W' : World} (h : EncR N0 r v W) (k : Keep (fun b => ∃ r, W.heap[b]? = some (.loop r)) W W') : EncR N0 r v W' := by
  obtain ⟨a, n, c, rfl, h⟩ := h
  refine ⟨a, n, c, rfl, ?_⟩
  obtain ⟨h1, h2 | ⟨g, cap, cur, hs, h3, h4, h5⟩⟩ := h
  · exact ⟨h1, .inl h2⟩
  · refine ⟨h1, .inr ⟨g, cap, cur, hs, h3, (k.block g (Array.getElem?_eq_some_iff.1 h4).1 ?_).trans h4, h5⟩⟩
    rintro ⟨r, hr⟩
    rw [h4] at hr
    cases hr
theorem EncR.below {N0 : Nat} {r : Rc} {v : Value} {W W' : World} (h : EncR N0 r v W) (k : Below W.heap.size W W') : EncR N0 r v W' := h.keep (Keep.of k)
def Gq (n b j : Nat) : Prop := j < n ∨ j = b
theorem eg101 : ∀ args w, (callFunc 101 args).run Try.prog w = .ok (.enter 101 args) w := enters_of Try.func101 (by kernel_rfl) rfl
theorem chain_step {H : List Pc} {g p e : Nat} {r : Rc} (hs : standP H p = some r) (he : ¬ r.e < e) : chainP H (g + 1) p e = r :: chainP H g (p + r.n) r.e := by rw [chainP, hs]; simp only; rw [if_neg he]
theorem chain_stop {H : List Pc} {g p e : Nat} (hs : standP H p = none) : chainP H (g + 1) p e = [] := by rw [chainP, hs]
theorem chain_stop2 {H : List Pc} {g p e : Nat} {r : Rc} (hs : standP H p = some r) (he : r.e < e) : chainP H (g + 1) p e = [] := by rw [chainP, hs]; simp only; rw [if_pos he]
set_option maxHeartbeats 2000000 in
theorem runs101 {N0 : Nat} {w0 W : World} {a : Option Addr} {n c b : Nat} (hl : LV EPc w0 (.slice a n c) H) (hH : H.length ≤ 64) (hok : ∀ x ∈ H, x.Ok) (hag : Ag w0 W) (hbq : Blk W b [.slice a n c] 106) (hN0 : N0 ≤ W.heap.size) :
    Runs Try.prog 101 #[.pointer (some ⟨b, 0, none⟩)] (EncR N0) (chainP H (H.length + 1) 0 0) (Gq w0.heap.size b) W := by
  intro l O J Jx hO hJs hJ hJx hY h0
  have nO : ∀ j, j < w0.heap.size → ¬ O j := fun j hj h => (hO j h).1 (.inl hj)
  have nb0 : ¬ O b := fun h => (hO b h).1 (.inr rfl)
  have HK : Hid (∀ W', Keep O W W' → W'.cell? ⟨b, 0, none⟩ = some (.slice a n c) ∧ ∀ p : Nat, Calls Try.prog 100 #[.slice a n c, .int .i64 (p : Int)] W' (SPost W' (standP H p))) := fun W' k => ⟨(hbq.keep k nb0).cell 0, fun p => standing100 ((hag.keep k nO).lv hl) hH hok p⟩
  have HP : Hid (∀ p r, standP H p = some r → 1 ≤ r.n ∧ p + r.n ≤ H.length ∧ r.e < 65536) := fun p r hs => by
    obtain ⟨f, h1, h2, h3, h4, h5, h6, h7, _⟩ := stand_some hs
    have := (hok f (List.mem_of_getElem? h1)).e
    exact ⟨h5, h7, by omega⟩
  have HJ : Hid _ := hJ
  have HY : Hid _ := hY
  have H0 : Hid _ := h0
  have HOs : Hid _ := hO
  have HJs : Hid _ := hJs
  clear hag hbq hO hJs hJ hJx hY h0 hl hok nO
  obtain ⟨xs, hxs⟩ : ∃ xs, chainP H (H.length + 1) 0 0 = xs := ⟨_, rfl⟩
  rw [hxs] at HY ⊢
  have HX : Hid (chainP H (H.length + 1) 0 0 = xs) := hxs
  clear hxs
  generalize H.length = M at *
  refine callsIn_of_wp Try.func101 rfl trivial ?_ rfl
  simp only [Try.ntmps101, List.size_toArray, List.length_cons, List.length_nil, Nat.reduceAdd, Nat.reduceSub, Array.replicate_succ, Array.replicate_zero, List.push_toArray, List.append_toArray, List.nil_append, List.cons_append]
  gi_wp2
  gi_loopw [3, 4] (fun q e wr => ∃ (p ep g : Nat) (pre : List Rc) (O' : Nat → Prop), q = .int .i64 (p : Int) ∧ e = .int .i64 (ep : Int) ∧ Hid (p ≤ M ∧ M - p < g ∧ ep < 65536) ∧ Hid (pre ++ chainP H g p ep = xs) ∧ Hid (J O' pre wr) ∧ Hid (GrewN W.heap.size O O') ∧ Hid (Keep O W wr)) (fun q _ _ => M + 1 - (intOf q).toNat)
  case atStart => exact ⟨0, 0, M + 1, [], O, rfl, rfl, ⟨Nat.zero_le _, by omega, by omega⟩, HX.out, H0.out, GrewN.refl _ _, Keep.refl _ _⟩
  case round =>
    obtain ⟨p, ep, g, pre, O', rfl, rfl, hb, hpre, hJ', hgr, hk⟩ := hrel
    obtain ⟨cb, k100⟩ := HK.out wr hk.out
    replace k100 := k100 p
    obtain ⟨hpM, hpg, hep⟩ := hb.out
    obtain ⟨g, rfl⟩ : ∃ g', g = g' + 1 := ⟨g - 1, by omega⟩
    cases hs : standP H p with
    | none =>
      rw [hs] at k100
      have hend := chain_stop (g := g) (e := ep) hs
      rw [hend, List.append_nil] at hpre
      gi_wp2
      refine ⟨trivial, rfl, ((callsIn_wide (n := 0)).2 k100).mono ?_⟩
      rintro e w1 ⟨hB1, rfl⟩
      simp only [noR]
      gi_wp2
      refine ⟨fun _ h => (by cases h), ?_⟩
      gi_wp2
      refine bodyPost_ret (results_none rfl _ _ _) rfl ?_
      exact ⟨⟨_, rfl⟩, .inl ⟨O', hpre.out ▸ HJ.out _ _ _ _ hJ'.out (Keep.of (bmore hB1 (al _ _))), hgr.out, hk.out.trans (Keep.of (bmore hB1 (al _ _))) (fun _ _ h => h)⟩⟩
    | some r =>
      rw [hs] at k100
      obtain ⟨hn1, hnM, he1⟩ := HP.out p r hs
      by_cases hre : r.e < ep
      · have hend := chain_stop2 (g := g) (e := ep) hs hre
        rw [hend, List.append_nil] at hpre
        have hre' : (r.e : Int) < (ep : Int) := by omega
        gi_wp2
        refine ⟨trivial, rfl, ((callsIn_wide (n := 0)).2 k100).mono ?_⟩
        rintro e w1 ⟨hB1, u, rfl, hu⟩
        obtain ⟨ua, uc, rfl, -⟩ := hu.form
        generalize r.b.length = un at *
        gi_wp2
        refine ⟨fun _ h => (by cases h), ?_⟩
        gi_wp2
        refine bodyPost_ret (results_none rfl _ _ _) rfl ?_
        exact ⟨⟨_, rfl⟩, .inl ⟨O', hpre.out ▸ HJ.out _ _ _ _ hJ'.out (Keep.of (bmore hB1 (al _ _))), hgr.out, hk.out.trans (Keep.of (bmore hB1 (al _ _))) (fun _ _ h => h)⟩⟩
      · have hend := chain_step (g := g) hs hre
        rw [hend] at hpre
        have hre' : ¬ (r.e : Int) < (ep : Int) := by omega
        gi_wp2
        refine ⟨trivial, rfl, ((callsIn_wide (n := 0)).2 k100).mono ?_⟩
        rintro e w1 ⟨hB1, u, rfl, hu⟩
        obtain ⟨ua, uc, rfl, -⟩ := hu.form
        obtain ⟨un, hun⟩ : ∃ un, r.b.length = un := ⟨_, rfl⟩
        have HE : Hid (∀ W', Below w1.heap.size w1 W' → EncR N0 r (.agg #[.int .i64 (r.e : Int), .int .i64 (r.n : Int), .slice ua un uc]) W') := fun W' k => by
          subst hun
          exact ⟨ua, _, uc, rfl, (hu.below k).lower (by have := hk.out.size; omega)⟩
        rw [hun]
        clear hu hun
        have hW1 := bmore hB1 (al w1 (.cells #[.int .i64 (r.e : Int), .int .i64 (r.n : Int), .slice ua un uc] 117))
        have KW : Hid (Keep O W (w1.alloc (.cells #[.int .i64 (r.e : Int), .int .i64 (r.n : Int), .slice ua un uc] 117))) := hk.out.trans (Keep.of hW1) (fun _ _ h => h)
        have HPre : Hid (pre ++ [r] <+: xs) := by show _ <+: _; rw [← hpre.out]; exact ⟨chainP H g (p + r.n) r.e, by simp⟩
        have hYd := HY.out O' pre r _ (w1.alloc (.cells #[.int .i64 (r.e : Int), .int .i64 (r.n : Int), .slice ua un uc] 117)) (HJ.out _ _ _ _ hJ'.out (Keep.of hW1)) (HE.out _ (al _ _)) HPre.out
        obtain ⟨fn, tmps, assign, body, hy, hRd⟩ := hYd
        have HRd : Hid _ := hRd
        have bR := blk_new w1 [.int .i64 (r.e : Int), .int .i64 (r.n : Int), .slice ua un uc] 117
        have HBR : Hid (¬ O' w1.heap.size) := fun h => by have := HJs.out _ _ _ hJ'.out _ h; have := hB1.size; omega
        clear hRd
        gi_wp2
        refine ⟨rfl, RoundIn.mono HRd.out ?_⟩
        rintro e W3 (⟨rfl, O3, hj3, hg3, hk3⟩ | ⟨rfl, O3, hj3, hg3, hk3⟩)
        · have b3 : Blk W3 w1.heap.size [.int .i64 (r.e : Int), .int .i64 (r.n : Int), .slice ua un uc] 117 := bR.keep hk3 HBR.out
          have d0 : W3.cell? ⟨w1.heap.size, 0, none⟩ = some (.int .i64 (r.e : Int)) := b3.cell 0
          have d1 : W3.cell? ⟨w1.heap.size, 1, none⟩ = some (.int .i64 (r.n : Int)) := b3.cell 1
          have HG3 : Hid (GrewN W.heap.size O O3) := hgr.out.trans hg3
          have HK3 : Hid (Keep O W W3) := KW.out.trans hk3 (fun q hq h => (hgr.out q h).elim id (fun h => by omega))
          have HJ3 : Hid _ := hj3
          clear hj3 hg3 hk3 hy
          have e0 : W3.drew.cell? ⟨w1.heap.size, 0, none⟩ = some (.int .i64 (r.e : Int)) := d0
          have e1 : W3.drew.cell? ⟨w1.heap.size, 1, none⟩ = some (.int .i64 (r.n : Int)) := d1
          gi_wp2
          gi_region
          all_goals (try gi_wp2)
          exact ⟨⟨p + r.n, r.e, g, pre ++ [r], O3, by simp, rfl, ⟨hnM, by omega, he1⟩, by show _ = _; rw [← hpre.out]; simp, HJ.out _ _ _ _ HJ3.out (Keep.of (Below.refl _ _).drew), HG3.out, HK3.out.drew⟩, by simp only [intOf]; omega⟩
        · have HG3 : Hid (GrewN W.heap.size O O3) := hgr.out.trans hg3
          have HK3 : Hid (Keep O W W3) := KW.out.trans hk3 (fun q hq h => (hgr.out q h).elim id (fun h => by omega))
          have HJ3 : Hid _ := hj3
          clear hj3 hg3 hk3 hy
          gi_wp2
          refine bodyPost_ret (results_none rfl _ _ _) rfl ?_
          exact ⟨⟨_, rfl⟩, .inr ⟨_, O3, HPre.out, HJ3.out, HG3.out, HK3.out⟩⟩
end Go.Proofs.Ytnganmekiloigaa
/-! ### Open. -/
namespace Go.Proofs.Ytnganmekiloigaa
open Go.RowKit
set_option maxRecDepth 100000
variable {w w' : World} {B d s : Nat} {D : Dk}
theorem cf68 (caps : Array Value) : ∀ W, Sem.run Try.prog (callFunc 68 caps) W = .ok (.enter 68 caps) W := fun W => enters_of Try.func68 (by kernel_rfl) rfl caps W
set_option maxHeartbeats 1000000 in
theorem read68 {b1 b5 : Nat} {v5 : Value} (h : Alone B w d s D []) (hoff : D.off = false) (hw : D.wait.length ≤ 100000) (hn : D.secs.length ≤ 128) (h1 : Blk w b1 [.pointer (some ⟨d, 0, none⟩)] 23) (h5 : Blk w b5 [v5] 106) :
    Calls Try.prog 68 #[.pointer (some ⟨b1, 0, none⟩), .pointer (some ⟨b5, 0, none⟩)] w fun e w' => e = .returned (.tuple #[]) ∧ ∃ u, Blk w' b5 [u] 106 ∧ RW EPc w.heap.size w' u (pcs (rdS D)) ∧ Keep (fun k => k = b5) w w' := by
  have k69 := readAll69 h hoff hw hn
  have c1 := h1.cell 0
  have hb5 := h5.lt
  simp only [List.getElem?_cons_zero] at c1
  go_enter Try.func68, Try.ntmps68
  go_wp2_with (go_at_call 69; (refine k69.mono ?_; rintro e w1 ⟨u, rfl, hU, hB⟩; obtain ⟨ua, uc, rfl, -⟩ := hU.form; have z1 := (h5.below hB).frozen 0; have z0 := (h5.below hB).got (j := 0) (by simp)))
  go_end0
  refine ⟨rfl, _, (h5.below hB).set (o := 0) _, hU.keep fun k hk => Below.heap_setCell _ _ _ _ (by have := (hU.at hk).1; show k ≠ b5; omega), (Keep.of (F := fun k => k = b5) hB).set (.inr rfl) _⟩

/-- Behind region 12 of Open: the log, and the variable that holds it. -/
structure F12 (w2 W : World) (x y : Nat) (l : List Value) : Prop where
  bx : Blk W x l 111
  bv : Blk W y [.pointer (some ⟨x, 0, none⟩)] 57
  B : Below w2.heap.size w2 W
  lx : w2.heap.size ≤ x
  ly : w2.heap.size ≤ y
  ne : x ≠ y
theorem f12a {w2 w3 : World} {l : List Value} (hB : Below (w2.alloc (.cells #[.pointer none] 57)).drew.heap.size (w2.alloc (.cells #[.pointer none] 57)).drew w3) :
    F12 w2 ((w3.setCell ⟨w2.heap.size, 0, none⟩ (.pointer (some ⟨w3.heap.size, 0, none⟩))).alloc (.cells l.toArray 111)) w3.heap.size w2.heap.size l := by
  have h0 : Blk (w2.alloc (.cells #[.pointer none] 57)).drew w2.heap.size [.pointer none] 57 := blk_new w2 [.pointer none] 57
  have hs := hB.size
  simp at hs
  have h1 := blk_new (w3.setCell ⟨w2.heap.size, 0, none⟩ (.pointer (some ⟨w3.heap.size, 0, none⟩))) l 111
  have e1 : (w3.setCell ⟨w2.heap.size, 0, none⟩ (.pointer (some ⟨w3.heap.size, 0, none⟩))).heap.size = w3.heap.size := by simp [World.setCell]
  rw [e1] at h1
  exact ⟨h1, ((h0.below hB).set (o := 0) _).below (al _ _), bmore (bset (bmore (bmore (al _ _) (Below.refl _ _).drew) hB) (Nat.le_refl _) _) (al _ _), by omega, Nat.le_refl _, by omega⟩
theorem f12b {w2 w3 : World} {l : List Value} (hB : Below w2.drew.heap.size w2.drew w3) :
    F12 w2 ((w3.alloc (.cells #[.pointer (some ⟨w3.heap.size + 1, 0, none⟩)] 57)).alloc (.cells l.toArray 111)) (w3.heap.size + 1) w3.heap.size l := by
  have hs := hB.size
  simp at hs
  have h1 := blk_new (w3.alloc (.cells #[.pointer (some ⟨w3.heap.size + 1, 0, none⟩)] 57)) l 111
  simp only [World.size_alloc] at h1
  exact ⟨h1, (blk_new w3 [.pointer (some ⟨w3.heap.size + 1, 0, none⟩)] 57).below (al _ _), bmore (bmore (Below.refl _ _).drew hB) (bmore (al _ _) (al _ _)), by omega, hs, by omega⟩
theorem f12c {w2 w3 : World} {l : List Value} (hB : Below w2.drew.heap.size w2.drew w3) :
    F12 w2 ((w3.alloc (.cells l.toArray 111)).alloc (.cells #[.pointer (some ⟨w3.heap.size, 0, none⟩)] 57)) w3.heap.size (w3.heap.size + 1) l := by
  have hs := hB.size
  simp at hs
  have h1 := blk_new (w3.alloc (.cells l.toArray 111)) [.pointer (some ⟨w3.heap.size, 0, none⟩)] 57
  simp only [World.size_alloc] at h1
  exact ⟨(blk_new w3 l 111).below (al _ _), h1, bmore (bmore (Below.refl _ _).drew hB) (bmore (al _ _) (al _ _)), hs, by omega, by omega⟩
/-- Slices, one behind the other. -/
abbrev Sl := Option Addr × Nat × Nat
def slV (x : Sl) : Value := .slice x.1 x.2.1 x.2.2
def EV : Ety Sl := ⟨1, fun x => [slV x], 33, 62, .slice none 0 0, 24, fun _ => rfl, fun x u hu => by simp at hu; subst hu; rfl, Try.underlying62, by kernel_rfl, rfl, by decide, by decide⟩
/-- A log in memory. -/
structure Wl where
  half : Nat
  e : Nat
  cnt : Nat
  en : Nat
  br : Bool
def wlC (d : Nat) (W : Wl) : List Value := [.pointer (some ⟨d, 0, none⟩), .int .i64 (W.half : Int), .int .i64 (W.e : Int), .int .i64 (W.cnt : Int), .int .i64 (W.en : Int), .bool W.br]
theorem rdS_ok (h : D.Ok) : ∀ x ∈ rdS D, x.length = 64 := fun x hx => by
  simp only [rdS, List.mem_map, List.mem_range] at hx
  obtain ⟨i, hi, rfl⟩ := hx
  exact latest_length h i hi
theorem Alone.ok {G : List Nat} (h : Alone B w d s D G) : D.Ok := by obtain ⟨wv, h1, _⟩ := h; exact h1.ok
theorem pcs_ok {S : List Bs} (h : ∀ x ∈ S, x.length = 64) : ∀ x ∈ pcs S, x.Ok := fun x hx => by
  simp only [pcs, List.mem_map] at hx
  obtain ⟨s, hs, rfl⟩ := hx
  exact pcOf_ok (h s hs)
end Go.Proofs.Ytnganmekiloigaa
/-! ### What Open's loop holds. -/
namespace Go.Proofs.Ytnganmekiloigaa
open Go.RowKit
set_option maxRecDepth 100000
variable {α : Type} {E : Ety α} {w w' : World} {L L' : List α}
theorem rw_app2 {B : Nat} {u lv : Value} (hU : RW E B w u L) (hV : LV E w lv L') (h0 : L' ≠ []) (hfew : L.length + L'.length ≤ 100000) (hB : B ≤ w.heap.size) : ∃ g' cap w', (Builtin.append_ #[E.tS, E.tS] E.tS #[u, lv]).run Try.prog w = .ok (.slice (some ⟨g', 0, none⟩) (L.length + L'.length) cap) w' ∧ RW E B w' (.slice (some ⟨g', 0, none⟩) (L.length + L'.length) cap) (L ++ L') ∧ w.grownBy w' u.ownBlock ∧ (u.ownBlock = some g' ∨ g' = w.heap.size) ∧ g' < w'.heap.size := by
  obtain ⟨a, c, rfl, _, hat⟩ := hV
  obtain ⟨i, hi, hzz⟩ := Option.map_eq_some_iff.1 E.info
  simp only [Prod.mk.injEq] at hzz
  obtain ⟨hz, hs, hb⟩ := hzz
  have h32 := E.by32
  have hby : (L.length + L'.length) * E.bytes ≤ 140737488355328 := Nat.le_trans (Nat.mul_le_mul hfew h32) (by decide)
  have hpos : 0 < L'.length := List.length_pos_iff.2 h0
  obtain ⟨g, o, cs, t, rfl, hbk, hta⟩ := hat hpos
  obtain ⟨g', cap, w', q1, q2, q3, q4, q5⟩ := run_append_lies (P := Try.prog) w E.tS E.tS B E.tE i E.z E.m E.bytes E.und hi hz hs hb E.zs E.pos u L.length (E.cells L) hU ⟨g, o, none⟩ L'.length c (E.cells L') (cells_len E L') (news_of hbk hta) (cells_one E L') hpos (by unfold maxLen; omega) hby hB _ rfl
  refine ⟨g', cap, w', q1, ?_, q3, q4, q5⟩
  unfold RW
  rw [List.length_append, cells_app]
  exact q2
theorem RW.ne {B b : Nat} {l : List Value} {t : TypeId} {u : Value} (hb : Blk w b l t) (ht : t ≠ E.tE) (h : RW E B w u L) : u.ownBlock ≠ some b := fun e => by
  obtain ⟨_, ⟨rfl, _⟩ | ⟨g, cap, cur, rfl, h3, h4, h5⟩⟩ := h
  · cases e
  · cases e
    unfold Blk at hb
    rw [h4] at hb
    simp only [Option.some.injEq, Obj.cells.injEq] at hb
    exact ht hb.2.1.symm
theorem RW.raise {B B' : Nat} {u : Value} (h : RW E B w u L) (hB : ∀ b, u.ownBlock = some b → B' ≤ b) : RW E B' w u L := by
  obtain ⟨h1, h2 | ⟨g, cap, cur, rfl, h3, h4⟩⟩ := h
  · exact ⟨h1, .inl h2⟩
  · exact ⟨h1, .inr ⟨g, cap, cur, rfl, hB g rfl, h4⟩⟩
/-- The records that are told so far lie in vs. -/
structure Vs (W : World) (N0 : Nat) (vs : List Sl) (pre : List Rc) : Prop where
  len : vs.length = pre.length
  at' : ∀ (i : Nat) (v : Sl) (r : Rc), vs[i]? = some v → pre[i]? = some r → RW EB N0 W (slV v) r.b
theorem Vs.keep {W W' : World} {N0 : Nat} {vs : List Sl} {pre : List Rc} (h : Vs W N0 vs pre) (hk : ∀ (i : Nat) (v : Sl) (k : Nat), vs[i]? = some v → (slV v).ownBlock = some k → W'.heap[k]? = W.heap[k]?) : Vs W' N0 vs pre :=
  ⟨h.len, fun i v r hv hr => (h.at' i v r hv hr).keep fun k hk' => hk i v k hv hk'⟩
structure Iv (w2 : World) (N0 d hf e x y T : Nat) (O : Nat → Prop) (pre : List Rc) (W : World) (u : Value) (vs : List Sl) : Prop where
  own : ∀ b, O b ↔ (b = x ∨ b = T ∨ u.ownBlock = some b ∨ ∃ (i : Nat) (v : Sl), vs[i]? = some v ∧ (slV v).ownBlock = some b)
  wal : Blk W x (wlC d ⟨hf, e, pre.length, (pre.map Rc.n).sum, false⟩) 111
  told : Blk W T [u] 62
  row : RW EV 0 W u vs
  bs : Vs W N0 vs pre
  var : Blk W y [.pointer (some ⟨x, 0, none⟩)] 57
  below : Below w2.heap.size w2 W
section
variable {w2 W W' : World} {N0 d hf e x y T : Nat} {O : Nat → Prop} {pre : List Rc} {u : Value} {vs : List Sl}
theorem Vs.pair {W : World} {N0 : Nat} {vs : List Sl} {pre : List Rc} (h : Vs W N0 vs pre) {i : Nat} {v : Sl} (hv : vs[i]? = some v) : ∃ r, pre[i]? = some r ∧ RW EB N0 W (slV v) r.b := by
  have hi := (List.getElem?_eq_some_iff.1 hv).1
  rw [h.len] at hi
  exact ⟨_, List.getElem?_eq_getElem hi, h.at' i v _ hv (List.getElem?_eq_getElem hi)⟩
theorem Iv.lt (h : Iv w2 N0 d hf e x y T O pre W u vs) : ∀ b, O b → b < W.heap.size := fun b hb => by
  rcases (h.own b).1 hb with rfl | rfl | hu | ⟨i, v, hv, hk⟩
  · exact h.wal.lt
  · exact h.told.lt
  · exact (h.row.at hu).2
  · obtain ⟨r, _, hr⟩ := h.bs.pair hv
    exact (hr.at hk).2
theorem Iv.keep {B : Nat} (h : Iv w2 N0 d hf e x y T O pre W u vs) (hy : y < B) (hw : w2.heap.size ≤ B) (k : Keep (fun b => ¬ O b ∧ B ≤ b) W W') : Iv w2 N0 d hf e x y T O pre W' u vs := by
  have hO : ∀ b, O b → W'.heap[b]? = W.heap[b]? := fun b hb => k.block b (h.lt b hb) (fun hq => hq.1 hb)
  refine ⟨h.own, h.wal.block (hO _ ((h.own _).2 (.inl rfl))), h.told.block (hO _ ((h.own _).2 (.inr (.inl rfl)))), h.row.keep fun g hg => hO g ((h.own _).2 (.inr (.inr (.inl hg)))), h.bs.keep fun i v g hv hg => hO g ((h.own _).2 (.inr (.inr (.inr ⟨i, v, hv, hg⟩)))), h.var.block (k.block _ h.var.lt (fun hq => by omega)), ?_⟩
  exact h.below.trans (k.below h.below.size (fun i hi => by have := hi.2; omega))
theorem vs_snoc {r : Rc} {v : Sl} (h : Vs W N0 vs pre) (hr : RW EB N0 W (slV v) r.b) : Vs W N0 (vs ++ [v]) (pre ++ [r]) := by
  refine ⟨by simp [h.len], fun i v' r' hv' hr' => ?_⟩
  by_cases hi : i < vs.length
  · rw [List.getElem?_append_left hi] at hv'
    rw [List.getElem?_append_left (by rw [← h.len]; exact hi)] at hr'
    exact h.at' i v' r' hv' hr'
  · rw [List.getElem?_append_right (by omega)] at hv'
    rw [List.getElem?_append_right (by rw [← h.len]; omega), ← h.len] at hr'
    have h0 : i - vs.length = 0 := by
      have := (List.getElem?_eq_some_iff.1 hv').1
      simp at this
      omega
    rw [h0] at hv' hr'
    simp at hv' hr'
    subst hv' hr'
    exact hr
theorem Iv.next {r : Rc} {v : Sl} {g' k cap : Nat} {o : Obj} {w7 : World} (h : Iv w2 N0 d hf e x y T O pre W u vs) (hr : RW EB N0 W (slV v) r.b) (hN : N0 ≤ W.heap.size) (hw : w2.heap.size ≤ x) (hw' : w2.heap.size ≤ T) (hu : ∀ b, u.ownBlock = some b → w2.heap.size ≤ b) (hN2 : w2.heap.size ≤ N0)
    (hrow : RW EV 0 w7 (.slice (some ⟨g', 0, none⟩) k cap) (vs ++ [v])) (hgr : (W.alloc o).grownBy w7 u.ownBlock) (hloc : u.ownBlock = some g' ∨ g' = (W.alloc o).heap.size) :
    ∃ O2, Iv w2 N0 d hf e x y T O2 (pre ++ [r]) (((w7.setCell ⟨T, 0, none⟩ (.slice (some ⟨g', 0, none⟩) k cap)).setCell ⟨x, 3, none⟩ (.int .i64 ((pre.length : Int) + 1))).setCell ⟨x, 4, none⟩ (.int .i64 ((((pre.map Rc.n).sum : Nat) : Int) + (r.n : Int)))) (.slice (some ⟨g', 0, none⟩) k cap) (vs ++ [v]) ∧ GrewN N0 O O2 ∧ Keep O W (((w7.setCell ⟨T, 0, none⟩ (.slice (some ⟨g', 0, none⟩) k cap)).setCell ⟨x, 3, none⟩ (.int .i64 ((pre.length : Int) + 1))).setCell ⟨x, 4, none⟩ (.int .i64 ((((pre.map Rc.n).sum : Nat) : Int) + (r.n : Int)))) ∧ w2.heap.size ≤ g' := by
  have xT : x ≠ T := fun e => by
    have h1 := h.wal
    have h2 := h.told
    unfold Blk at h1 h2
    rw [e, h2] at h1
    simp at h1
  have xy : y ≠ x := fun e => by
    have h1 := h.wal
    have h2 := h.var
    unfold Blk at h1 h2
    rw [← e, h2] at h1
    simp at h1
  have yT : y ≠ T := fun e => by
    have h1 := h.told
    have h2 := h.var
    unfold Blk at h1 h2
    rw [← e, h2] at h1
    simp at h1
  have hx7 : u.ownBlock ≠ some x := RW.ne h.wal (by decide) h.row
  have hT7 : u.ownBlock ≠ some T := RW.ne h.told (by decide) h.row
  have hy7 : u.ownBlock ≠ some y := RW.ne h.var (by decide) h.row
  have k7 : ∀ b, b < W.heap.size → u.ownBlock ≠ some b → w7.heap[b]? = W.heap[b]? := fun b hb hn => (hgr.block b (by simp; omega) (fun e => hn e.symm)).trans (Below.heap_alloc _ _ _ hb)
  have kk : Keep O W w7 := (Keep.of (F := O) (al W o)).trans (Keep.grown (F := O) (Keep.refl _ _) hgr (fun b hb => .inr ((h.own b).2 (.inr (.inr (.inl hb)))))) (fun _ _ h => h)
  have ox : O x := (h.own x).2 (.inl rfl)
  have oT : O T := (h.own T).2 (.inr (.inl rfl))
  have b7x := h.wal.block (k7 x h.wal.lt hx7)
  have b7T := h.told.block (k7 T h.told.lt hT7)
  have b7y := h.var.block (k7 y h.var.lt hy7)
  have gx : g' ≠ x := fun e => RW.ne b7x (by decide) hrow (by rw [← e]; rfl)
  have gT : g' ≠ T := fun e => RW.ne b7T (by decide) hrow (by rw [← e]; rfl)
  have hg2 : w2.heap.size ≤ g' := by
    rcases hloc with e | e
    · exact hu g' e
    · have := h.below.size; simp at e; omega
  have v7 : Vs w7 N0 (vs ++ [v]) (pre ++ [r]) := by
    refine vs_snoc (h.bs.keep fun i v' g hv' hg => ?_) (hr.keep fun g hg => ?_)
    · obtain ⟨r', _, hr'⟩ := h.bs.pair hv'
      refine k7 g (hr'.at hg).2 (fun e => ?_)
      obtain ⟨_, ⟨hz, _⟩ | ⟨q, c1, c2, hz, _, h4, _⟩⟩ := h.row
      · rw [hz] at e; cases e
      · rw [hz] at e
        cases e
        exact RW.ne (b := q) (l := c2.toList) (t := 33) (by unfold Blk; rw [h4]; rfl) (by decide) hr' hg
    · refine k7 g (hr.at hg).2 (fun e => ?_)
      obtain ⟨_, ⟨hz, _⟩ | ⟨q, c1, c2, hz, _, h4, _⟩⟩ := h.row
      · rw [hz] at e; cases e
      · rw [hz] at e
        cases e
        exact RW.ne (b := q) (l := c2.toList) (t := 33) (by unfold Blk; rw [h4]; rfl) (by decide) hr hg
  have far : ∀ b, b ≠ T → b ≠ x → (((w7.setCell ⟨T, 0, none⟩ (.slice (some ⟨g', 0, none⟩) k cap)).setCell ⟨x, 3, none⟩ (.int .i64 ((pre.length : Int) + 1))).setCell ⟨x, 4, none⟩ (.int .i64 ((((pre.map Rc.n).sum : Nat) : Int) + (r.n : Int)))).heap[b]? = w7.heap[b]? := fun b h1 h2 => by
    rw [Below.heap_setCell _ _ _ _ h2, Below.heap_setCell _ _ _ _ h2, Below.heap_setCell _ _ _ _ h1]
  refine ⟨fun b => b = x ∨ b = T ∨ (Value.slice (some ⟨g', 0, none⟩) k cap).ownBlock = some b ∨ ∃ (i : Nat) (v' : Sl), (vs ++ [v])[i]? = some v' ∧ (slV v').ownBlock = some b, ⟨fun b => Iff.rfl, ?_, ?_, ?_, ?_, ?_, ?_⟩, ?_, ((kk.set (.inr oT) _).set (.inr ox) _).set (.inr ox) _, hg2⟩
  · have := ((b7x.other (p := ⟨T, 0, none⟩) xT (.slice (some ⟨g', 0, none⟩) k cap)).set (o := 3) (.int .i64 ((pre.length : Int) + 1))).set (o := 4) (.int .i64 ((((pre.map Rc.n).sum : Nat) : Int) + (r.n : Int)))
    simp only [wlC, List.set_cons_succ, List.set_cons_zero] at this ⊢
    simpa using this
  · exact ((b7T.set (o := 0) (.slice (some ⟨g', 0, none⟩) k cap)).other (p := ⟨x, 3, none⟩) (Ne.symm xT) _).other (p := ⟨x, 4, none⟩) (Ne.symm xT) _
  · exact hrow.keep fun g hg => far g (fun e => by cases hg; exact gT e) (fun e => by cases hg; exact gx e)
  · refine v7.keep fun i v' g hv' hg => ?_
    obtain ⟨r', _, hr'⟩ := v7.pair hv'
    exact far g (fun e => RW.ne b7T (by decide) hr' (by rw [hg, e])) (fun e => RW.ne b7x (by decide) hr' (by rw [hg, e]))
  · exact b7y.block (far y yT xy)
  · have k3 : Keep O W (((w7.setCell ⟨T, 0, none⟩ (.slice (some ⟨g', 0, none⟩) k cap)).setCell ⟨x, 3, none⟩ (.int .i64 ((pre.length : Int) + 1))).setCell ⟨x, 4, none⟩ (.int .i64 ((((pre.map Rc.n).sum : Nat) : Int) + (r.n : Int)))) := ((kk.set (.inr oT) _).set (.inr ox) _).set (.inr ox) _
    refine h.below.trans (k3.below h.below.size (fun b hb => ?_))
    rcases (h.own b).1 hb with rfl | rfl | e | ⟨i, v', hv', hg⟩
    · exact hw
    · exact hw'
    · exact hu b e
    · obtain ⟨r', _, hr'⟩ := h.bs.pair hv'
      exact Nat.le_trans hN2 (hr'.at hg).1
  · rintro b (rfl | rfl | e | ⟨i, v', hv', hg⟩)
    · exact .inl ox
    · exact .inl oT
    · have e1 : g' = b := by simpa [Value.ownBlock] using e
      subst e1
      rcases hloc with e2 | e2
      · exact .inl ((h.own _).2 (.inr (.inr (.inl e2))))
      · refine .inr ?_
        have e3 : (W.alloc o).heap.size = W.heap.size + 1 := by simp
        omega
    · obtain ⟨r', _, hr'⟩ := v7.pair hv'
      exact .inr (hr'.at hg).1
theorem Vs.lower {W : World} {N0 N1 : Nat} {vs : List Sl} {pre : List Rc} (h : Vs W N0 vs pre) (hN : N1 ≤ N0) : Vs W N1 vs pre := ⟨h.len, fun i v r hv hr => (h.at' i v r hv hr).lower hN⟩
/-- What Open answers. -/
def OPost (w : World) (d : Nat) (S : List Bs) (e : Ending) (w' : World) : Prop := ∃ x u vs, e = .returned (.tuple #[.pointer (some ⟨x, 0, none⟩), u, .int .i64 0]) ∧ Blk w' x (wlC d ⟨forceP S, great (pcs S) + 1, (toldP S).length, ((toldP S).map Rc.n).sum, false⟩) 111 ∧ RW EV w.heap.size w' u vs ∧ Vs w' w.heap.size vs (toldP S) ∧ Below w.heap.size w w' ∧ w.heap.size ≤ x
end
end Go.Proofs.Ytnganmekiloigaa
