/- meeting, and what it yields. -/
import Derived.Test.YtgglhicpfjihlaaTn
namespace Go.Proofs.Ytgglhicpfjihlaa
open Go.RowKit Go.Shelf
set_option maxRecDepth 100000
attribute [local go_sem] Oper.semAt_some

/-- Those that are told from first on, up to last. -/
def T.meets : T → Int → Int → List St
  | .nil, _, _ => []
  | .node l s r, a, b => if (T.node l s r).rc ≤ a then [] else l.meets a b ++ (if s.f > b then [] else (if s.t > a then [s] else []) ++ r.meets a b)

theorem endS {W : World} {p : Option Addr} {t : T} {n : Nat} (h : PT n W p t) (hn : n ≤ W.heap.size) : Calls Try.prog 53 #[.pointer p] W fun e w' => e = .returned (.int .i64 t.rc) ∧ w' = W := end53 (h.mono hn)

set_option maxHeartbeats 400000 in
theorem meeting50 (p : Option Addr) (a b : Int) (W : World) : Calls Try.prog 50 #[.pointer p, .int .i64 a, .int .i64 b] W fun e w' =>
    e = .returned (.func (.func 56) #[] #[.pointer (some ⟨W.heap.size, 0, none⟩), .pointer (some ⟨W.heap.size + 1, 0, none⟩), .pointer (some ⟨W.heap.size + 1 + 1, 0, none⟩)]) ∧ w' = ((W.alloc (.cells #[.pointer p] 56)).alloc (.cells #[.int .i64 a] 3)).alloc (.cells #[.int .i64 b] 3) := by
  go_enter Try.func50, Try.ntmps50
  go_wp2
  go_ret
  exact ⟨rfl, rfl⟩

/-- The boxes that a value of meeting has taken in. -/
structure Bx (W : World) (b : Nat) (p : Option Addr) (f l : Int) : Prop where
  b0 : Blk W b [.pointer p] 56
  b1 : Blk W (b + 1) [.int .i64 f] 3
  b2 : Blk W (b + 1 + 1) [.int .i64 l] 3
theorem Bx.keep {O : Nat → Prop} {W W' : World} {b : Nat} {p : Option Addr} {f l : Int} (h : Bx W b p f l) (k : Keep O W W') (h0 : ¬ O b) (h1 : ¬ O (b + 1)) (h2 : ¬ O (b + 1 + 1)) : Bx W' b p f l := ⟨h.b0.keep k h0, h.b1.keep k h1, h.b2.keep k h2⟩
theorem bx_new (p : Option Addr) (a b : Int) (W : World) : Bx (((W.alloc (.cells #[.pointer p] 56)).alloc (.cells #[.int .i64 a] 3)).alloc (.cells #[.int .i64 b] 3)) W.heap.size p a b :=
  ⟨((blk_new W [.pointer p] 56).below (al _ _)).below (al _ _), (blk_at (W.alloc (.cells #[.pointer p] 56)) [.int .i64 a] 3 (by simp)).below (al _ _), blk_at ((W.alloc (.cells #[.pointer p] 56)).alloc (.cells #[.int .i64 a] 3)) [.int .i64 b] 3 (by simp)⟩

def Gm (n b : Nat) (k : Nat) : Prop := k < n ∨ k = b ∨ k = b + 1 ∨ k = b + 1 + 1

abbrev mark (D : Nat) : Deferred := { target := .collected D, args := #[] }
/-- A function's end, where loops have left blocks for deferred calls. -/
theorem leave_marks {fn : Func} {tmps : Array Value} {R : Ending → World → Prop} {v : Value} : ∀ (Ds : List Nat) (w : World), (∀ w', Keep (· ∈ Ds) w w' → (results fn tmps).run Try.prog w' = .ok v w' ∧ R (.returned v) w') → (∀ D ∈ Ds, w.heap[D]? = some (.deferred (some []))) → Ds.Nodup →
    LeavesInM Fence.wide 0 Try.prog fn tmps R (Ds.map mark) .returning w
  | [], w, hR, _, _ => ⟨v, (hR w (Keep.refl _ _)).1, (hR w (Keep.refl _ _)).2⟩
  | D :: Ds, w, hR, hD, hn => by
    refine ⟨by simp, .inl ⟨D, _, rfl, run_takeDeferred (hD D (by simp)), ?_⟩⟩
    have k : Keep (· ∈ D :: Ds) w (w.putObj D (.deferred none)) := (Keep.refl _ w).put (.inr (by simp)) _
    refine leave_marks Ds _ (fun w' k' => hR w' (k.trans k' (fun _ _ h => by simp [h]))) (fun D' h' => ?_) (List.nodup_cons.1 hn).2
    have hne : D' ≠ D := fun e => (List.nodup_cons.1 hn).1 (by rw [← e]; exact h')
    rw [World.putObj_heap_other hne]
    exact hD D' (by simp [h'])

/-- What a call of the iterator's answers. -/
def Ans {α : Type} (J Jx : (Nat → Prop) → List α → World → Prop) (O : Nat → Prop) (xs : List α) (W : World) (e : Ending) (W' : World) : Prop :=
  (∃ v, e = .returned v) ∧ ((∃ O', J O' xs W' ∧ Grew O O' W ∧ Keep O W W') ∨ (∃ pre O', pre <+: xs ∧ Jx O' pre W' ∧ Grew O O' W ∧ Keep O W W'))

set_option maxHeartbeats 1000000 in
theorem end_at {W : World} {p : Option Addr} {t : T} {n : Nat} (h : PT n W p t) (hn : n ≤ W.heap.size) : ∀ W', Below W.heap.size W W' → Calls Try.prog 53 #[.pointer p] W' fun e w' => e = .returned (.int .i64 t.rc) ∧ W' = w' := fun W' k => (endS (h.keep (O := fun _ => False) (Keep.of k) (fun _ _ => id)) (by have := k.size; omega)).mono (by rintro e w' ⟨h1, h2⟩; exact ⟨h1, h2.symm⟩)

set_option maxHeartbeats 1000000 in
/-- Nothing is there from first on. -/
theorem runs56_none {f l : Int} {t : T} {W : World} {p : Option Addr} {n b : Nat} (ht : PT n W p t) (hn : n ≤ W.heap.size) (hbx : Bx W b p f l) (hrc : t.rc ≤ f) (ll : Nat) (O : Nat → Prop) (J Jx : (Nat → Prop) → List St → World → Prop) (hJ : Abide W.heap.size J) (h0 : J O [] W) :
    CallsIn Fence.wide 0 Try.prog 56 #[.func (.yield ll) #[] #[], .pointer (some ⟨b, 0, none⟩), .pointer (some ⟨b + 1, 0, none⟩), .pointer (some ⟨b + 1 + 1, 0, none⟩)] W (Ans J Jx O [] W) := by
  have HK : Hid (∀ W', Below W.heap.size W W' → W'.cell? ⟨b, 0, none⟩ = some (.pointer p) ∧ W'.cell? ⟨b + 1, 0, none⟩ = some (.int .i64 f)) := fun W' k => ⟨(hbx.b0.below k).cell 0, (hbx.b1.below k).cell 0⟩
  have K0 : Below W.heap.size W (W.alloc (.cells #[.func (.yield ll) #[] #[]] 71)).drew := (al _ _).drew
  have hS0 := HK.out _ K0
  have k53 := end_at ht hn _ K0
  generalize t.rc = z at *
  have H0 : Hid _ := h0
  have HJ : Hid _ := hJ
  clear h0 hJ ht
  refine callsIn_of_wp_marks Try.func56 rfl trivial (wpIn_wide.2 ?_) rfl
  simp only [Try.ntmps56, List.size_toArray, List.length_cons, List.length_nil, Nat.reduceAdd, Nat.reduceSub, Array.replicate_succ, Array.replicate_zero, List.push_toArray, List.append_toArray, List.nil_append, List.cons_append]
  go_wp2_with fail
  go_region_held3 (fun W' => W'.cell? ⟨b, 0, none⟩ = some (.pointer p) ∧ W'.cell? ⟨b + 1, 0, none⟩ = some (.int .i64 f)) (exact hS0) (first
    | (go_at_call 53; (with_reducible refine k53.mono ?_); rintro e w1 ⟨rfl, rfl⟩))
  all_goals (
    go_wp2
    exact leave_marks [] _ (fun w' k => ⟨results_none rfl _ _ _, ⟨_, rfl⟩, .inl ⟨O, HJ.out _ _ _ _ H0.out ((Keep.of K0).trans k (fun _ _ h => by cases h)), Grew.refl _ _, (Keep.of K0).trans k (fun _ _ h => by cases h)⟩⟩) (fun _ h => by cases h) List.nodup_nil)
end Go.Proofs.Ytgglhicpfjihlaa
