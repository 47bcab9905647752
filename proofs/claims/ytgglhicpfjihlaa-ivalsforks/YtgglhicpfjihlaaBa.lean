/- balanced. -/
import Derived.Test.YtgglhicpfjihlaaTn
namespace Go.Proofs.Ytgglhicpfjihlaa
open Go.RowKit Go.Shelf
set_option maxRecDepth 100000

theorem leanS {W : World} {p : Option Addr} {t : T} (h : TS W p t) (hn : t ≠ .nil) (hs : t.size ≤ 1000) : Calls Try.prog 48 #[.pointer p] W fun e w' => e = .returned (.int .i64 t.lean) ∧ Below W.heap.size W w' := lean48 h.tr hn hs
set_option maxHeartbeats 1000000 in
theorem bal51_A {W : World} {p : Option Addr} {a b c d : T} {x y z : St} {X Y : Int} (h : TS W p (T.node (T.node a x (T.node b y c)) z d)) (hs : (T.node (T.node a x (T.node b y c)) z d).size ≤ 1000) (eX : Hid ((T.node (T.node a x (T.node b y c)) z d).lean = X)) (eY : Hid ((T.node (T.node a x (T.node b y c)) z d).left.lean = Y)) (hx : X > 1) (hy : Y < 0) :
    Calls Try.prog 51 #[.pointer p] W fun e w' => ∃ q, e = .returned (.pointer q) ∧ TS w' q (T.node (T.node a x b) y (T.node c z d)) ∧ Below W.heap.size W w' := by
  obtain ⟨g, pl, pr, rfl, _, h0, hl, hr⟩ := h.tr
  have HT : Hid (∀ W', Below W.heap.size W W' → TS W' (some ⟨g, 0, none⟩) (T.node (T.node a x (T.node b y c)) z d)) := fun W' k => h.below k
  have k1 := eX.out ▸ leanS h (by simp) hs
  have HC : Hid (∀ W', Below W.heap.size W W' → W'.cell? ⟨g, 3, none⟩ = some (.pointer pl)) := fun W' k => (h0.below k).cell 3
  have HK : Hid (∀ W', Below W.heap.size W W' → Calls Try.prog 48 #[.pointer pl] W' fun e w' => e = .returned (.int .i64 Y) ∧ Below W'.heap.size W' w') := fun W' k => eY.out ▸ leanS (TS.below k ⟨hl⟩) (by simp [T.left]) (by simp only [T.size, T.left] at hs ⊢; omega)
  have HR : Hid (∀ W', Below W.heap.size W W' → Calls Try.prog 58 #[.pointer (some ⟨g, 0, none⟩)] W' fun e w' => ∃ q, e = .returned (.pointer (some ⟨q, 0, none⟩)) ∧ TS w' (some ⟨q, 0, none⟩) (T.node (T.node a x b) y (T.node c z d)) ∧ Below W'.heap.size W' w') := fun W' k => turnRR58 (HT.out W' k) (by simp only [T.size] at hs ⊢; omega)
  clear hl hr h0 h hs
  go_enter Try.func51, Try.ntmps51
  go_wp2_with (first
    | (go_at_call 48; (with_reducible refine k1.mono ?_); clear k1; rintro e w1 ⟨rfl, B1⟩; have c1 := HC.out _ B1)
    | (go_at_call 48; (with_reducible refine (HK.out _ B1).mono ?_); rintro e w2 ⟨rfl, B2⟩; have K2 := bmore B1 B2)
    | (go_at_call 58; (with_reducible refine (HR.out _ K2).mono ?_); rintro e w3 ⟨q3, rfl, t3, B3⟩; have K3 := bmore K2 B3))
  go_ret
  exact ⟨_, rfl, t3, K3⟩
set_option maxHeartbeats 1000000 in
theorem bal51_B {W : World} {p : Option Addr} {a b c : T} {x y : St} {X Y : Int} (h : TS W p (T.node (T.node a x b) y c)) (hs : (T.node (T.node a x b) y c).size ≤ 1000) (eX : Hid ((T.node (T.node a x b) y c).lean = X)) (eY : Hid ((T.node (T.node a x b) y c).left.lean = Y)) (hx : X > 1) (hy : ¬ Y < 0) :
    Calls Try.prog 51 #[.pointer p] W fun e w' => ∃ q, e = .returned (.pointer q) ∧ TS w' q (T.node a x (T.node b y c)) ∧ Below W.heap.size W w' := by
  obtain ⟨g, pl, pr, rfl, _, h0, hl, hr⟩ := h.tr
  have HT : Hid (∀ W', Below W.heap.size W W' → TS W' (some ⟨g, 0, none⟩) (T.node (T.node a x b) y c)) := fun W' k => h.below k
  have k1 := eX.out ▸ leanS h (by simp) hs
  have HC : Hid (∀ W', Below W.heap.size W W' → W'.cell? ⟨g, 3, none⟩ = some (.pointer pl)) := fun W' k => (h0.below k).cell 3
  have HK : Hid (∀ W', Below W.heap.size W W' → Calls Try.prog 48 #[.pointer pl] W' fun e w' => e = .returned (.int .i64 Y) ∧ Below W'.heap.size W' w') := fun W' k => eY.out ▸ leanS (TS.below k ⟨hl⟩) (by simp [T.left]) (by simp only [T.size, T.left] at hs ⊢; omega)
  have HR : Hid (∀ W', Below W.heap.size W W' → Calls Try.prog 59 #[.pointer (some ⟨g, 0, none⟩)] W' fun e w' => ∃ q, e = .returned (.pointer (some ⟨q, 0, none⟩)) ∧ TS w' (some ⟨q, 0, none⟩) (T.node a x (T.node b y c)) ∧ Below W'.heap.size W' w') := fun W' k => turnR59 (HT.out W' k) (by simp only [T.size] at hs ⊢; omega)
  clear hl hr h0 h hs
  go_enter Try.func51, Try.ntmps51
  go_wp2_with (first
    | (go_at_call 48; (with_reducible refine k1.mono ?_); clear k1; rintro e w1 ⟨rfl, B1⟩; have c1 := HC.out _ B1)
    | (go_at_call 48; (with_reducible refine (HK.out _ B1).mono ?_); rintro e w2 ⟨rfl, B2⟩; have K2 := bmore B1 B2)
    | (go_at_call 59; (with_reducible refine (HR.out _ K2).mono ?_); rintro e w3 ⟨q3, rfl, t3, B3⟩; have K3 := bmore K2 B3))
  go_ret
  exact ⟨_, rfl, t3, K3⟩
set_option maxHeartbeats 1000000 in
theorem bal51_C {W : World} {p : Option Addr} {a b c d : T} {x y z : St} {X Y : Int} (h : TS W p (T.node a x (T.node (T.node b y c) z d))) (hs : (T.node a x (T.node (T.node b y c) z d)).size ≤ 1000) (eX : Hid ((T.node a x (T.node (T.node b y c) z d)).lean = X)) (eY : Hid ((T.node a x (T.node (T.node b y c) z d)).right.lean = Y)) (hx : X < -1) (hy : Y > 0) :
    Calls Try.prog 51 #[.pointer p] W fun e w' => ∃ q, e = .returned (.pointer q) ∧ TS w' q (T.node (T.node a x b) y (T.node c z d)) ∧ Below W.heap.size W w' := by
  obtain ⟨g, pl, pr, rfl, _, h0, hl, hr⟩ := h.tr
  have HT : Hid (∀ W', Below W.heap.size W W' → TS W' (some ⟨g, 0, none⟩) (T.node a x (T.node (T.node b y c) z d))) := fun W' k => h.below k
  have k1 := eX.out ▸ leanS h (by simp) hs
  have HC : Hid (∀ W', Below W.heap.size W W' → W'.cell? ⟨g, 4, none⟩ = some (.pointer pr)) := fun W' k => (h0.below k).cell 4
  have HK : Hid (∀ W', Below W.heap.size W W' → Calls Try.prog 48 #[.pointer pr] W' fun e w' => e = .returned (.int .i64 Y) ∧ Below W'.heap.size W' w') := fun W' k => eY.out ▸ leanS (TS.below k ⟨hr⟩) (by simp [T.right]) (by simp only [T.size, T.right] at hs ⊢; omega)
  have HR : Hid (∀ W', Below W.heap.size W W' → Calls Try.prog 60 #[.pointer (some ⟨g, 0, none⟩)] W' fun e w' => ∃ q, e = .returned (.pointer (some ⟨q, 0, none⟩)) ∧ TS w' (some ⟨q, 0, none⟩) (T.node (T.node a x b) y (T.node c z d)) ∧ Below W'.heap.size W' w') := fun W' k => turnLL60 (HT.out W' k) (by simp only [T.size] at hs ⊢; omega)
  have hx2 : ¬ (X > 1) := by omega
  clear hl hr h0 h hs
  go_enter Try.func51, Try.ntmps51
  go_wp2_with (first
    | (go_at_call 48; (with_reducible refine k1.mono ?_); clear k1; rintro e w1 ⟨rfl, B1⟩; have c1 := HC.out _ B1)
    | (go_at_call 48; (with_reducible refine (HK.out _ B1).mono ?_); rintro e w2 ⟨rfl, B2⟩; have K2 := bmore B1 B2)
    | (go_at_call 60; (with_reducible refine (HR.out _ K2).mono ?_); rintro e w3 ⟨q3, rfl, t3, B3⟩; have K3 := bmore K2 B3))
  go_ret
  exact ⟨_, rfl, t3, K3⟩
set_option maxHeartbeats 1000000 in
theorem bal51_D {W : World} {p : Option Addr} {a b c : T} {x y : St} {X Y : Int} (h : TS W p (T.node a x (T.node b y c))) (hs : (T.node a x (T.node b y c)).size ≤ 1000) (eX : Hid ((T.node a x (T.node b y c)).lean = X)) (eY : Hid ((T.node a x (T.node b y c)).right.lean = Y)) (hx : X < -1) (hy : ¬ Y > 0) :
    Calls Try.prog 51 #[.pointer p] W fun e w' => ∃ q, e = .returned (.pointer q) ∧ TS w' q (T.node (T.node a x b) y c) ∧ Below W.heap.size W w' := by
  obtain ⟨g, pl, pr, rfl, _, h0, hl, hr⟩ := h.tr
  have HT : Hid (∀ W', Below W.heap.size W W' → TS W' (some ⟨g, 0, none⟩) (T.node a x (T.node b y c))) := fun W' k => h.below k
  have k1 := eX.out ▸ leanS h (by simp) hs
  have HC : Hid (∀ W', Below W.heap.size W W' → W'.cell? ⟨g, 4, none⟩ = some (.pointer pr)) := fun W' k => (h0.below k).cell 4
  have HK : Hid (∀ W', Below W.heap.size W W' → Calls Try.prog 48 #[.pointer pr] W' fun e w' => e = .returned (.int .i64 Y) ∧ Below W'.heap.size W' w') := fun W' k => eY.out ▸ leanS (TS.below k ⟨hr⟩) (by simp [T.right]) (by simp only [T.size, T.right] at hs ⊢; omega)
  have HR : Hid (∀ W', Below W.heap.size W W' → Calls Try.prog 61 #[.pointer (some ⟨g, 0, none⟩)] W' fun e w' => ∃ q, e = .returned (.pointer (some ⟨q, 0, none⟩)) ∧ TS w' (some ⟨q, 0, none⟩) (T.node (T.node a x b) y c) ∧ Below W'.heap.size W' w') := fun W' k => turnL61 (HT.out W' k) (by simp only [T.size] at hs ⊢; omega)
  have hx2 : ¬ (X > 1) := by omega
  clear hl hr h0 h hs
  go_enter Try.func51, Try.ntmps51
  go_wp2_with (first
    | (go_at_call 48; (with_reducible refine k1.mono ?_); clear k1; rintro e w1 ⟨rfl, B1⟩; have c1 := HC.out _ B1)
    | (go_at_call 48; (with_reducible refine (HK.out _ B1).mono ?_); rintro e w2 ⟨rfl, B2⟩; have K2 := bmore B1 B2)
    | (go_at_call 61; (with_reducible refine (HR.out _ K2).mono ?_); rintro e w3 ⟨q3, rfl, t3, B3⟩; have K3 := bmore K2 B3))
  go_ret
  exact ⟨_, rfl, t3, K3⟩
set_option maxHeartbeats 1000000 in
theorem bal51_E {W : World} {p : Option Addr} {a b : T} {x : St} {X : Int} (h : TS W p (T.node a x b)) (hs : (T.node a x b).size ≤ 1000) (eX : Hid ((T.node a x b).lean = X)) (hx : ¬ X > 1) (hy : ¬ X < -1) :
    Calls Try.prog 51 #[.pointer p] W fun e w' => ∃ q, e = .returned (.pointer q) ∧ TS w' q (T.node a x b) ∧ Below W.heap.size W w' := by
  obtain ⟨g, pl, pr, rfl, _, h0, hl, hr⟩ := h.tr
  have HT : Hid (∀ W', Below W.heap.size W W' → TS W' (some ⟨g, 0, none⟩) (T.node a x b)) := fun W' k => h.below k
  have k1 := eX.out ▸ leanS h (by simp) hs
  clear hl hr h0 h hs
  go_enter Try.func51, Try.ntmps51
  go_wp2_with (first
    | (go_at_call 48; (with_reducible refine k1.mono ?_); clear k1; rintro e w1 ⟨rfl, B1⟩)
    | (go_at_call 57; (with_reducible refine (stay57 _ _).mono ?_); rintro e w2 ⟨rfl, rfl⟩))
  go_ret
  exact ⟨_, rfl, HT.out _ B1, B1⟩

theorem bal51 {W : World} {p : Option Addr} {l r : T} {s : St} (h : TS W p (T.node l s r)) (hs : (T.node l s r).size ≤ 1000) :
    Calls Try.prog 51 #[.pointer p] W fun e w' => ∃ q, e = .returned (.pointer q) ∧ TS w' q (T.bal (T.node l s r)) ∧ Below W.heap.size W w' := by
  unfold T.bal
  by_cases h1 : (T.node l s r).lean > 1
  · cases l with
    | nil => simp [T.lean, T.ht] at h1; omega
    | node a x b =>
      by_cases h2 : (T.node (T.node a x b) s r).left.lean < 0
      · rw [if_pos ⟨h1, h2⟩]
        cases b with
        | nil => simp [T.lean, T.left, T.ht] at h2; omega
        | node b y c => exact bal51_A (y := y) h hs rfl rfl h1 h2
      · rw [if_neg (fun h => h2 h.2), if_pos h1]
        exact bal51_B h hs rfl rfl h1 h2
  · rw [if_neg (fun h => h1 h.1), if_neg h1]
    by_cases h3 : (T.node l s r).lean < -1
    · cases r with
      | nil => simp [T.lean, T.ht] at h3; omega
      | node b y c =>
        by_cases h2 : (T.node l s (T.node b y c)).right.lean > 0
        · rw [if_pos ⟨h3, h2⟩]
          cases b with
          | nil => simp [T.lean, T.right, T.ht] at h2; omega
          | node b z d => exact bal51_C h hs rfl rfl h3 h2
        · rw [if_neg (fun h => h2 h.2), if_pos h3]
          exact bal51_D h hs rfl rfl h3 h2
    · rw [if_neg (fun h => h3 h.1), if_neg h3]
      exact bal51_E h hs rfl h1 h3
end Go.Proofs.Ytgglhicpfjihlaa
