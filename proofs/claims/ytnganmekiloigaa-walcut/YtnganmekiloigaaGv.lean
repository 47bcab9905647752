/- A range over a function that yields what it has just made. -/
import Derived.Test.YtnganmekiloigaaGt
import Derived.RangeFuncNested
import Derived.RangeFuncBound
import Derived.RangeFuncCalls
import Derived.RangeFuncLeaves
import Derived.OwnWalkIn
import Derived.TacticsInMore
import Derived.LoopNIn
import Derived.LoopIn
namespace Go.Proofs.Ytnganmekiloigaa
open Go.RowKit
set_option maxRecDepth 100000
section
variable {F G : Nat → Prop} {a b c : World}
theorem Keep.put (h : Keep F a b) {l : Nat} (hl : a.heap.size ≤ l ∨ F l) (o : Obj) : Keep F a (b.putObj l o) :=
  ⟨h.os, h.tape, h.output, by simpa using h.size, fun k hk hf => by
    have hne : k ≠ l := fun e => hl.elim (fun h => by omega) (fun h => hf (e ▸ h))
    rw [World.putObj_heap_other hne]; exact h.block k hk hf⟩
theorem Keep.mono (h : Keep F a b) (hG : ∀ i, i < a.heap.size → F i → G i) : Keep G a b := ⟨h.os, h.tape, h.output, h.size, fun k hk hf => h.block k hk (fun x => hf (hG k hk x))⟩
end
/-- What is owned now was owned, or is new. -/
def Grew (O O' : Nat → Prop) (W : World) : Prop := ∀ b, O' b → O b ∨ W.heap.size ≤ b
theorem Grew.refl (O : Nat → Prop) (W : World) : Grew O O W := fun _ h => .inl h
theorem Grew.trans {O O' O'' : Nat → Prop} {W W' : World} (h : Grew O O' W) (k : Grew O' O'' W') (hs : W.heap.size ≤ W'.heap.size) : Grew O O'' W := fun b hb => (k b hb).elim (h b) (fun x => .inr (by omega))

/-- What is owned now was owned, or lies from the block n on. -/
def GrewN (n : Nat) (O O' : Nat → Prop) : Prop := ∀ b, O' b → O b ∨ n ≤ b
theorem GrewN.refl (n : Nat) (O : Nat → Prop) : GrewN n O O := fun _ h => .inl h
theorem GrewN.trans {n : Nat} {O O' O'' : Nat → Prop} (h : GrewN n O O') (k : GrewN n O' O'') : GrewN n O O'' := fun b hb => (k b hb).elim (h b) .inr
/-- What is said of owned blocks, and of those below B, abides what becomes of others. -/
def Abide {α : Type} (B : Nat) (J : (Nat → Prop) → List α → World → Prop) : Prop := ∀ O pre W W', J O pre W → Keep (fun b => ¬ O b ∧ B ≤ b) W W' → J O pre W'

/-- What a round answers. -/
def Rnd {α : Type} (n : Nat) (J Jx : (Nat → Prop) → List α → World → Prop) (O : Nat → Prop) (pre : List α) (W : World) (e : Ending) (W' : World) : Prop :=
  (e = .returned (.bool true) ∧ ∃ O', J O' pre W' ∧ GrewN n O O' ∧ Keep O W W') ∨ (e = .returned (.bool false) ∧ ∃ O', Jx O' pre W' ∧ GrewN n O O' ∧ Keep O W W')

/-- The function value g with lb, called with a yield in the world W, yields xs, one behind the other, or is stopped; it reads the blocks of G. -/
def Runs {α : Type} (P : Program) (g : Nat) (lb : Array Value) (Enc : α → Value → World → Prop) (xs : List α) (G : Nat → Prop) (W : World) : Prop :=
  ∀ (l : Nat) (O : Nat → Prop) (J Jx : (Nat → Prop) → List α → World → Prop), (∀ b, O b → ¬ G b ∧ b < W.heap.size) → (∀ O pre W, J O pre W → ∀ b, O b → b < W.heap.size) → Abide W.heap.size J → Abide W.heap.size Jx →
    (∀ O pre x v W1, J O pre W1 → Enc x v W1 → pre ++ [x] <+: xs → YieldAt Fence.wide 0 P l #[v] W1 (Rnd W.heap.size J Jx O (pre ++ [x]) W1)) → J O [] W →
    CallsIn Fence.wide 0 P g (#[.func (.yield l) #[] #[]] ++ lb) W fun e W' => (∃ v, e = .returned v) ∧
      ((∃ O', J O' xs W' ∧ GrewN W.heap.size O O' ∧ Keep O W W') ∨ (∃ pre O', pre <+: xs ∧ Jx O' pre W' ∧ GrewN W.heap.size O O' ∧ Keep O W W'))

/-- How the body of a round may be left. -/
def PostB {α : Type} (n : Nat) (I : (Nat → Prop) → List α → World → Prop) (Ix : Code → (Nat → Prop) → List α → World → Prop) (O : Nat → Prop) (pre : List α) (W : World) : Exit → Act → World → Prop
  | .normal, _, W' => ∃ O', I O' pre W' ∧ GrewN n O O' ∧ Keep O W W'
  | .ret, _, W' => ∃ O', Ix .ret O' pre W' ∧ GrewN n O O' ∧ Keep O W W'
  | .exit id, _, W' => ∃ O', Ix (.exit id) O' pre W' ∧ GrewN n O O' ∧ Keep O W W'
  | _, _, _ => False

set_option maxHeartbeats 1000000 in
/-- The statement: a loop over such a value, whose variable is laid in a block of its own in each round. -/
theorem wpIn_range {α : Type} {P : Program} {g : Operand} {ps : Array Tmp} {assign body : Code} {Q : Exit → Act → World → Prop} {a : Act} {w : World} {gf : Nat} {lb : Array Value}
    (hg : a.eval g = .func (.func gf) #[] lb) (eg : ∀ args w, (callFunc gf args).run P w = .ok (.enter gf args) w) (hps : ps.size = 1)
    {Enc : α → Value → World → Prop} (hEnc : ∀ x v W W', Enc x v W → Keep (fun b => ∃ r, W.heap[b]? = some (.loop r)) W W' → Enc x v W') {xs : List α} {G : Nat → Prop} (hseq : ∀ W1, Below w.heap.size w W1 → w.heap.size + 2 ≤ W1.heap.size → Runs P gf lb Enc xs G W1) (hG : ∀ b, G b → b < w.heap.size)
    (I : (Nat → Prop) → List α → World → Prop) (Ix : Code → (Nat → Prop) → List α → World → Prop) (hIs : ∀ O pre W, I O pre W → ∀ b, O b → b < W.heap.size) (hI : Abide w.heap.size I) (hIx : ∀ c, Abide w.heap.size (Ix c))
    (O : Nat → Prop) (hO : ∀ b, O b → ¬ G b ∧ b < w.heap.size) (h0 : I O [] w) (A : Value → Nat → Act) (cs : Value → List Value) (t : TypeId)
    (hassign : ∀ l x v W (K : Act → World → Prop), Enc x v W → (∀ Wa, Wa.heap[W.heap.size]? = some (.cells (cs v).toArray t (0, 0)) → Below W.heap.size W Wa → Wa.heap.size = W.heap.size + 1 → K (A v W.heap.size) Wa) → assign.wpIn (Fence.wide.inRound l) 0 P (Exit.then K (fun _ _ _ => False)) { tmps := (ps.zip #[v]).foldl (fun t (p, v) => t.setIfInBounds p v) a.tmps, defers := [] } W)
    (hbody : ∀ l O pre x v W b, I O pre W → Enc x v W → ¬ O b → w.heap.size ≤ b → w.heap.size + 2 ≤ W.heap.size → W.heap[b]? = some (.cells (cs v).toArray t (0, 0)) → pre ++ [x] <+: xs → body.wpIn (Fence.wide.inRound l) 0 P (PostB (w.heap.size + 2) I Ix O (pre ++ [x]) W) (A v b) W)
    (hdone : ∀ D O' W', w.heap.size ≤ D → ¬ O' D → I O' xs W' → Grew O O' w → Keep O w W' → W'.heap[D]? = some (.deferred (some [])) → Q .normal { a with defers := { target := .collected D, args := #[] } :: a.defers } W')
    (hstop : ∀ D c O' pre W', w.heap.size ≤ D → ¬ O' D → pre <+: xs → Ix c O' pre W' → Grew O O' w → Keep O w W' → W'.heap[D]? = some (.deferred (some [])) → c.wpIn Fence.wide 0 P Q { a with defers := { target := .collected D, args := #[] } :: a.defers } W') :
    (Code.rangeFunc g ps assign body).wpIn Fence.wide 0 P Q a w := by
  refine wpIn_rangeFunc fun fn hfn => ?_
  obtain ⟨rec, hrec⟩ : ∃ rec : LoopState → Option Code → Loop, rec = fun st pe => { state := st, pending := pe, fn, tmps := a.tmps, params := ps, assign, body, defers := w.heap.size } := ⟨_, rfl⟩
  obtain ⟨W1, hW1⟩ : ∃ W1, (w.alloc (.deferred (some []))).alloc (.loop (rec .ready none)) = W1 := ⟨_, rfl⟩
  have bW1 : Below w.heap.size w W1 := by rw [← hW1]; exact bmore (al _ _) (al _ _)
  have sW1 : W1.heap.size = w.heap.size + 2 := by rw [← hW1]; simp
  have hL1 : W1.heap[w.heap.size + 1]? = some (.loop (rec .ready none)) := by
    rw [← hW1]; have := World.alloc_heap_new (w.alloc (.deferred (some []))) (.loop (rec .ready none)); rwa [World.size_alloc] at this
  have hD1 : W1.heap[w.heap.size]? = some (.deferred (some [])) := by
    rw [← hW1]; exact (Below.heap_alloc _ _ _ (by simp)).trans (World.alloc_heap_new w _)
  generalize hl : w.heap.size + 1 = l at *
  generalize hD : w.heap.size = D at *
  have bW1' : Below w.heap.size w W1 := by rw [hD]; exact bW1
  have hps1 : ∀ x, (#[x] : Array Value).size = ps.size := fun x => by simp [hps]
  refine ⟨l, [{ target := .collected D, args := #[] }], W1, { target := .fn (.func gf) lb, args := #[.func (.yield l) #[] #[]] }, W1, gf, #[.func (.yield l) #[] #[]] ++ lb, W1, ?_, ?_, fun _ _ => trivial, ?_, (fun h => (by cases h)), ?_⟩
  · rw [← hW1, hrec, ← hl, ← hD]; exact run_enterLoop_outer _ _ _ _ _
  · simp only [resolve, hg]
    simp [go_sem]
  · simp [invoke, go_sem, eg]
  · refine (hseq W1 bW1 (by omega) l (fun b => O b ∨ b = l)
      (fun OO pre W => ∃ O1, (∀ b, OO b ↔ O1 b ∨ b = l) ∧ ¬ O1 l ∧ ¬ O1 D ∧ I O1 pre W ∧ W.heap[l]? = some (.loop (rec .ready none)) ∧ W.heap[D]? = some (.deferred (some [])) ∧ Grew O O1 w)
      (fun OO pre W => ∃ O1 c, (∀ b, OO b ↔ O1 b ∨ b = l) ∧ ¬ O1 l ∧ ¬ O1 D ∧ Ix c O1 pre W ∧ W.heap[l]? = some (.loop (rec .done (some c))) ∧ W.heap[D]? = some (.deferred (some [])) ∧ Grew O O1 w)
      ?_ ?_ ?_ ?_ ?_ ?_).mono ?_
    · rintro b (h | rfl)
      · exact ⟨(hO b h).1, by have := (hO b h).2; omega⟩
      · exact ⟨fun h => by have := hG _ h; omega, by omega⟩
    · rintro OO pre W ⟨O1, e1, n1, n2, hi, h1, h2, hgr⟩ b hb
      rcases (e1 b).1 hb with h | rfl
      · exact hIs _ _ _ hi b h
      · exact (Array.getElem?_eq_some_iff.1 h1).1
    · rintro OO pre W W' ⟨O1, e1, n1, n2, hi, h1, h2, hgr⟩ hk
      have lw := (Array.getElem?_eq_some_iff.1 h1).1
      refine ⟨O1, e1, n1, n2, hI _ _ _ _ hi (hk.mono fun b _ hb => ⟨fun h => hb.1 ((e1 b).2 (.inl h)), by omega⟩), (hk.block l lw (fun h => h.1 ((e1 l).2 (.inr rfl)))).trans h1, (hk.block D (by omega) (fun h => by omega)).trans h2, hgr⟩
    · rintro OO pre W W' ⟨O1, c, e1, n1, n2, hi, h1, h2, hgr⟩ hk
      have lw := (Array.getElem?_eq_some_iff.1 h1).1
      refine ⟨O1, c, e1, n1, n2, hIx c _ _ _ _ hi (hk.mono fun b _ hb => ⟨fun h => hb.1 ((e1 b).2 (.inl h)), by omega⟩), (hk.block l lw (fun h => h.1 ((e1 l).2 (.inr rfl)))).trans h1, (hk.block D (by omega) (fun h => by omega)).trans h2, hgr⟩
    · rintro OO pre x v W ⟨O1, e1, n1, n2, hi, h1, h2, hgr⟩ hE hpre
      have lw := (Array.getElem?_eq_some_iff.1 h1).1
      have hy := run_yield (P := P) (args := #[v]) h1 (by rw [hrec]; exact hps1 v)
      rw [hrec] at hy
      refine ⟨fn, _, assign, body, hy, roundIn_of_wpIn hfn (hassign l x v W _ hE ?_)⟩
      clear hy
      intro Wa hba hBa hsa
      have h1a : Wa.heap[l]? = some (.loop (rec .ready none)) := (hBa.block l lw).trans h1
      refine ⟨_, run_beginRound h1a (by rw [hrec]), ?_⟩
      obtain ⟨W2, hW2⟩ : ∃ W2, Wa.putObj l (.loop { rec .ready none with state := .busy }) = W2 := ⟨_, rfl⟩
      have k2 : Keep (fun b => b = l) W W2 := by rw [← hW2]; exact (Keep.of (F := fun b => b = l) hBa).put (.inr rfl) _
      have s2 : W2.heap.size = W.heap.size + 1 := by rw [← hW2]; simp [hsa]
      have l2 : W2.heap[l]? = some (.loop { rec .ready none with state := .busy }) := by rw [← hW2]; exact World.putObj_heap_same (by omega)
      have d2 : W2.heap[D]? = some (.deferred (some [])) := (k2.block D (by omega) (by omega)).trans h2
      have b2 : W2.heap[W.heap.size]? = some (.cells (cs v).toArray t (0, 0)) := by rw [← hW2, World.putObj_heap_other (by omega)]; exact hba
      have i2 := hI _ _ _ W2 hi (k2.mono fun b _ e => by subst e; exact ⟨n1, by omega⟩)
      have nb : ¬ O1 W.heap.size := fun h => by have := hIs _ _ _ hi _ h; omega
      have oo : ∀ b, O1 b → OO b := fun b h => (e1 b).2 (.inl h)
      rw [hW2]
      refine wpIn_mono (hbody l O1 pre x v W2 W.heap.size i2 (hEnc _ _ _ _ hE (k2.mono fun b _ e => by subst e; exact ⟨_, h1⟩)) nb (by omega) (by omega) b2 hpre) ?_
      have fin : ∀ (jump : Option Code) (O' : Nat → Prop) (W3 : World), GrewN (D + 2) O1 O' → Keep O1 W2 W3 →
          (Instr.endRound l jump).run P W3 = .ok (.bool jump.isNone) (W3.putObj l (.loop (rec (if jump.isNone then .ready else .done) jump))) ∧ ¬ O' l ∧ ¬ O' D ∧
          Keep (fun b => ¬ O' b ∧ D ≤ b) W3 (W3.putObj l (.loop (rec (if jump.isNone then .ready else .done) jump))) ∧
          (W3.putObj l (.loop (rec (if jump.isNone then .ready else .done) jump))).heap[l]? = some (.loop (rec (if jump.isNone then .ready else .done) jump)) ∧
          (W3.putObj l (.loop (rec (if jump.isNone then .ready else .done) jump))).heap[D]? = some (.deferred (some [])) ∧ Grew O O' w ∧
          GrewN W1.heap.size OO (fun b => O' b ∨ b = l) ∧ Keep OO W (W3.putObj l (.loop (rec (if jump.isNone then .ready else .done) jump))) := by
        intro jump O' W3 g3 k3
        have l3 : W3.heap[l]? = some (.loop { rec .ready none with state := .busy }) := (k3.block l (by omega) n1).trans l2
        have lw3 := (Array.getElem?_eq_some_iff.1 l3).1
        have r3 := run_endRound (P := P) jump l3
        rw [hrec] at r3
        have nl : ¬ O' l := fun h => (g3 l h).elim n1 (fun h => by omega)
        have nD : ¬ O' D := fun h => (g3 D h).elim n2 (fun h => by omega)
        refine ⟨by rw [hrec]; exact r3, nl, nD, (Keep.refl _ W3).put (.inr ⟨nl, by omega⟩) _, World.putObj_heap_same lw3, (World.putObj_heap_other (by omega)).trans ((k3.block D (by omega) n2).trans d2), ?_, ?_, ?_⟩
        · intro b hb
          rcases g3 b hb with h | h
          · exact hgr b h
          · exact .inr (by omega)
        · rintro b (hb | rfl)
          · rcases g3 b hb with h | h
            · exact .inl (oo b h)
            · exact .inr (by omega)
          · exact .inl ((e1 b).2 (.inr rfl))
        · exact Keep.put ((k2.mono (fun b _ e => (e1 b).2 (.inr e))).trans k3 (fun b _ h => oo b h)) (.inr ((e1 l).2 (.inr rfl))) _
      rintro e a3 W3 hp
      cases e with
      | normal =>
        obtain ⟨O', hi3, g3, k3⟩ := hp
        obtain ⟨hr, nl, nD, ka, hl4, hd4, gO, gg, kk⟩ := fin none O' W3 g3 k3
        exact ⟨_, _, hr, .inl ⟨rfl, _, ⟨O', fun b => Iff.rfl, nl, nD, hI _ _ _ _ hi3 ka, hl4, hd4, gO⟩, gg, kk⟩⟩
      | ret =>
        obtain ⟨O', hi3, g3, k3⟩ := hp
        obtain ⟨hr, nl, nD, ka, hl4, hd4, gO, gg, kk⟩ := fin (some .ret) O' W3 g3 k3
        exact ⟨_, _, hr, .inr ⟨rfl, _, ⟨O', .ret, fun b => Iff.rfl, nl, nD, hIx _ _ _ _ _ hi3 ka, hl4, hd4, gO⟩, gg, kk⟩⟩
      | exit id =>
        obtain ⟨O', hi3, g3, k3⟩ := hp
        obtain ⟨hr, nl, nD, ka, hl4, hd4, gO, gg, kk⟩ := fin (some (.exit id)) O' W3 g3 k3
        exact ⟨_, _, hr, .inr ⟨rfl, _, ⟨O', .exit id, fun b => Iff.rfl, nl, nD, hIx _ _ _ _ _ hi3 ka, hl4, hd4, gO⟩, gg, kk⟩⟩
      | goto t => exact hp.elim
      | panic ch => exact hp.elim
      | outgrown => exact hp.elim
    · exact ⟨O, fun b => Iff.rfl, fun h => by have := (hO _ h).2; omega, fun h => by have := (hO _ h).2; omega, hI _ _ _ _ h0 (Keep.of bW1'), hL1, hD1, Grew.refl _ _⟩
    · rintro e W2 ⟨⟨v, rfl⟩, (⟨OO, ⟨O1, e1, n1, n2, hi, h1, h2, hgr⟩, _, hk⟩ | ⟨pre, OO, hpre, ⟨O1, c, e1, n1, n2, hi, h1, h2, hgr⟩, _, hk⟩)⟩
      · have lw := (Array.getElem?_eq_some_iff.1 h1).1
        have kw : Keep O w W2 := (Keep.of (F := O) bW1').trans hk (fun b hb h => h.elim id (fun e => by omega))
        exact ⟨none, _, by have := run_endLoop (P := P) h1 (by rw [hrec]; simp); rw [hrec] at this; exact this, hdone D O1 _ (Nat.le_refl _) n2 (hI _ _ _ _ hi ((Keep.refl _ W2).put (.inr ⟨n1, by omega⟩) _)) hgr (kw.put (.inl (by omega)) _) ((World.putObj_heap_other (by omega)).trans h2)⟩
      · have lw := (Array.getElem?_eq_some_iff.1 h1).1
        have kw : Keep O w W2 := (Keep.of (F := O) bW1').trans hk (fun b hb h => h.elim id (fun e => by omega))
        exact ⟨some c, _, by have := run_endLoop (P := P) h1 (by rw [hrec]; simp); rw [hrec] at this; exact this, hstop D c O1 pre _ (Nat.le_refl _) n2 hpre (hIx c _ _ _ _ hi ((Keep.refl _ W2).put (.inr ⟨n1, by omega⟩) _)) hgr (kw.put (.inl (by omega)) _) ((World.putObj_heap_other (by omega)).trans h2)⟩
abbrev mark (D : Nat) : Deferred := { target := .collected D, args := #[] }
/-- A function's end, where loops have left blocks for deferred calls. -/
theorem leave_marks {fn : Func} {tmps : Array Value} {R : Ending → World → Prop} {v : Value} : ∀ (Ds : List Nat) (w : World), (∀ w', Keep (· ∈ Ds) w w' → (results fn tmps).run Try.prog w' = .ok v w' ∧ R (.returned v) w') → (∀ D ∈ Ds, w.heap[D]? = some (.deferred (some []))) → Ds.Nodup →
    LeavesInM Fence.wide 0 Try.prog fn tmps R (Ds.map mark) .returning w
  | [], w, hR, _, _ => ⟨v, (hR w (Keep.refl _ _)).1, (hR w (Keep.refl _ _)).2⟩
  | D :: Ds, w, hR, hD, hn => by
    refine ⟨by simp, .inl ⟨D, _, rfl, run_takeDeferred (hD D (by simp)), ?_⟩⟩
    have k : Keep (· ∈ D :: Ds) w (w.putObj D (.deferred none)) := (Keep.refl _ w).put (.inr (by simp)) _
    refine leave_marks Ds _ (fun w' k' => hR w' (k.trans k' (fun _ _ h => by simp [h]))) (fun D' h' => ?_) (List.nodup_cons.1 hn).2
    have hne : D' ≠ D := fun e => (List.nodup_cons.1 hn).1 (by rw [← e]; exact h')
    rw [World.putObj_heap_other hne]
    exact hD D' (by simp [h'])
end Go.Proofs.Ytnganmekiloigaa
