/- SpanTells: the law's walk: it answers true, and turns no old memory. -/
import Derived.Test.YtgkkknjkgpdcjaaLive
namespace Go.Proofs.Ytgkkknjkgpdcjaa
open Go.RowKit

theorem bc {B : Nat} {w w' : World} (h : Below B w w') (g k : Nat) (hg : g < B) : w'.cell? ⟨g, k, none⟩ = w.cell? ⟨g, k, none⟩ := h.cell (p := ⟨g, k, none⟩) hg

/-- four boxes of two numbers, still there; old memory as it was -/
def S8 (w : World) (s t : Nat) (a b c d x y : Int) (W : World) : Prop :=
  (W.cell? ⟨w.heap.size, 0, none⟩ = some (.int .i64 a) ∧ W.cell? ⟨w.heap.size, 1, none⟩ = some (.int .i64 b) ∧ W.cell? ⟨w.heap.size + 1, 0, none⟩ = some (.int .i64 c) ∧ W.cell? ⟨w.heap.size + 1, 1, none⟩ = some (.int .i64 d) ∧
    W.cell? ⟨s, 0, none⟩ = some (.int .i64 x) ∧ W.cell? ⟨s, 1, none⟩ = some (.int .i64 y) ∧ W.cell? ⟨t, 0, none⟩ = some (.int .i64 x) ∧ W.cell? ⟨t, 1, none⟩ = some (.int .i64 y)) ∧
  (w.heap.size + 1 < W.heap.size ∧ s < W.heap.size ∧ t < W.heap.size ∧ Below w.heap.size w W)

theorem S8.step {w W W' : World} {s t : Nat} {a b c d x y : Int} (h : S8 w s t a b c d x y W) (hb : Below W.heap.size W W') : S8 w s t a b c d x y W' := by
  obtain ⟨⟨h1, h2, h3, h4, h5, h6, h7, h8⟩, h9, h10, h11, h12⟩ := h
  have hc := bc hb
  have hs := hb.size
  exact ⟨⟨(hc _ _ (by omega)).trans h1, (hc _ _ (by omega)).trans h2, (hc _ _ (by omega)).trans h3, (hc _ _ (by omega)).trans h4, (hc _ _ h10).trans h5, (hc _ _ h10).trans h6, (hc _ _ h11).trans h7, (hc _ _ h11).trans h8⟩,
    by omega, by omega, by omega, h12.trans (hb.mono h12.size)⟩

section
variable {w : World} {s t : Nat} {a b c d x y : Int}
theorem k11 (W : World) (h : S8 w s t a b c d x y W) : Calls Try.prog 11 #[] W fun e w' => e = .returned (.bool true) ∧ S8 w s t a b c d x y w' :=
  (live11 W).mono fun _ _ ⟨he, hb⟩ => ⟨he, h.step hb⟩
theorem k12 (p q : Int) (W : World) (h : S8 w s t a b c d x y W) : Calls Try.prog 12 #[.agg #[.int .i64 p, .int .i64 q]] W fun e w' => e = .returned (.bool (rightB p q)) ∧ S8 w s t a b c d x y w' :=
  (right12 p q W).mono fun _ _ ⟨he, hb⟩ => ⟨he, h.step (by rw [hb]; exact below1 _ _)⟩
theorem k13 (p q : Int) (W : World) (h : S8 w s t a b c d x y W) : Calls Try.prog 13 #[.agg #[.int .i64 p, .int .i64 q]] W fun e w' => e = .returned (.bool (rightB p q)) ∧ S8 w s t a b c d x y w' :=
  (right13 p q W).mono fun _ _ ⟨he, hb⟩ => ⟨he, h.step (by rw [hb]; exact below1 _ _)⟩
theorem k14 (p q r : Int) (W : World) (h : S8 w s t a b c d x y W) : Calls Try.prog 14 #[.agg #[.int .i64 p, .int .i64 q], .int .i64 r] W fun e w' => e = .returned (.bool (hasB p q r)) ∧ S8 w s t a b c d x y w' :=
  (has14 p q r W).mono fun _ _ ⟨he, hb⟩ => ⟨he, h.step hb⟩
theorem k15 (p q r : Int) (W : World) (h : S8 w s t a b c d x y W) : Calls Try.prog 15 #[.agg #[.int .i64 p, .int .i64 q], .int .i64 r] W fun e w' => e = .returned (.bool (hasB p q r)) ∧ S8 w s t a b c d x y w' :=
  (has15 p q r W).mono fun _ _ ⟨he, hb⟩ => ⟨he, h.step hb⟩
theorem k16 (p q r u : Int) (W : World) (h : S8 w s t a b c d x y W) : Calls Try.prog 16 #[.agg #[.int .i64 p, .int .i64 q], .agg #[.int .i64 r, .int .i64 u]] W fun e w' => e = .returned (.bool (bothB p q r u)) ∧ S8 w s t a b c d x y w' :=
  (over16 p q r u W).mono fun _ _ ⟨he, hb⟩ => ⟨he, h.step hb⟩
theorem k17 (p q r u : Int) (W : World) (h : S8 w s t a b c d x y W) : Calls Try.prog 17 #[.agg #[.int .i64 p, .int .i64 q], .agg #[.int .i64 r, .int .i64 u]] W fun e w' => e = .returned (.bool (bothB p q r u)) ∧ S8 w s t a b c d x y w' :=
  (over17 p q r u W).mono fun _ _ ⟨he, hb⟩ => ⟨he, h.step hb⟩
theorem k18 (p q r u : Int) (W : World) (h : S8 w s t a b c d x y W) : Calls Try.prog 18 #[.agg #[.int .i64 p, .int .i64 q], .agg #[.int .i64 r, .int .i64 u]] W fun e w' => e = .returned (.bool (meetB p q r u)) ∧ S8 w s t a b c d x y w' :=
  (meet18 p q r u W).mono fun _ _ ⟨he, hb⟩ => ⟨he, h.step hb⟩
theorem k19 (p q r u : Int) (W : World) (h : S8 w s t a b c d x y W) : Calls Try.prog 19 #[.agg #[.int .i64 p, .int .i64 q], .agg #[.int .i64 r, .int .i64 u]] W fun e w' => e = .returned (.bool (meetB p q r u)) ∧ S8 w s t a b c d x y w' :=
  (meet19 p q r u W).mono fun _ _ ⟨he, hb⟩ => ⟨he, h.step hb⟩
end

theorem box2 (w : World) (a b c d : Int) (W : World) (hW : W = (w.alloc (.cells #[.int .i64 a, .int .i64 b] 23)).alloc (.cells #[.int .i64 c, .int .i64 d] 23)) :
    W.heap.size = w.heap.size + 1 + 1 ∧ W.cell? ⟨w.heap.size, 0, none⟩ = some (.int .i64 a) ∧ W.cell? ⟨w.heap.size, 1, none⟩ = some (.int .i64 b) ∧ W.cell? ⟨w.heap.size + 1, 0, none⟩ = some (.int .i64 c) ∧ W.cell? ⟨w.heap.size + 1, 1, none⟩ = some (.int .i64 d) ∧ Below w.heap.size w W := by
  subst hW
  have h1 := fun k => (below1 (w.alloc (.cells #[.int .i64 a, .int .i64 b] 23)) (.cells #[.int .i64 c, .int .i64 d] 23)).cell (p := ⟨w.heap.size, k, none⟩) (by simp)
  have h2 := box1 (w.alloc (.cells #[.int .i64 a, .int .i64 b] 23)) c d
  simp only [World.size_alloc] at h2
  exact ⟨by simp, (h1 0).trans (box1 _ _ _).1, (h1 1).trans (box1 _ _ _).2, h2.1, h2.2, below_alloc (below1 _ _) _⟩

set_option maxHeartbeats 2000000 in
theorem spanTells3 (a b c d p : Int) (w : World) :
    Calls Try.prog 3 #[.agg #[.int .i64 a, .int .i64 b], .agg #[.int .i64 c, .int .i64 d], .int .i64 p] w fun e w' => e = .returned (.bool true) ∧ Below w.heap.size w w' := by
  have hb9 := fun W => both9 a b c d W
  have hb10 := fun W => both10 a b c d W
  generalize bothF a b c d = x at hb9 hb10
  generalize bothT a b c d = y at hb9 hb10
  generalize bothB a b c d = ok at hb9 hb10
  go_enter Try.func3, Try.ntmps3
  go_wp2_with fail
  obtain ⟨W0, hW0⟩ : ∃ W, (w.alloc (.cells #[.int .i64 a, .int .i64 b] 23)).alloc (.cells #[.int .i64 c, .int .i64 d] 23) = W := ⟨_, rfl⟩
  rw [hW0]
  obtain ⟨z0, e1, e2, e3, e4, hbw⟩ := box2 w a b c d W0 hW0.symm
  clear hW0
  refine (hb9 _).mono ?_
  rintro e w1 ⟨rfl, hb1⟩
  have hz1 := hb1.size
  have f1 := (bc hb1 (w.heap.size) 0 (by omega)).trans e1
  have f2 := (bc hb1 (w.heap.size) 1 (by omega)).trans e2
  have f3 := (bc hb1 (w.heap.size + 1) 0 (by omega)).trans e3
  have f4 := (bc hb1 (w.heap.size + 1) 1 (by omega)).trans e4
  have hbw1 := hbw.trans (hb1.mono hbw.size)
  have hz2 : w.heap.size + 1 < w1.heap.size := by omega
  have hz3 : w.heap.size < w1.heap.size := by omega
  clear e1 e2 e3 e4 hb1 hbw z0 hz1 hb9
  go_wp2_with fail
  refine (hb10 _).mono ?_
  rintro e w2 ⟨rfl, hb2⟩
  have hW1 : w1.heap.size < (w1.alloc (.cells #[.int .i64 x, .int .i64 y] 23)).heap.size := by simp
  have hz4 : w1.heap.size < w2.heap.size := Nat.lt_of_lt_of_le hW1 hb2.size
  have hz5 : w.heap.size + 1 < w2.heap.size := by omega
  have hk : S8 w w1.heap.size w2.heap.size a b c d x y (w2.alloc (.cells #[.int .i64 x, .int .i64 y] 23)) := by
    have q1 := fun g k (hg : g < w1.heap.size) => (bc (below1 w2 (.cells #[.int .i64 x, .int .i64 y] 23)) g k (by omega)).trans ((bc hb2 g k (by omega)).trans (bc (below1 w1 (.cells #[.int .i64 x, .int .i64 y] 23)) g k hg))
    have q2 := fun k => (bc (below1 w2 (.cells #[.int .i64 x, .int .i64 y] 23)) w1.heap.size k hz4).trans (bc hb2 w1.heap.size k hW1)
    exact ⟨⟨(q1 _ _ hz3).trans f1, (q1 _ _ hz3).trans f2, (q1 _ _ hz2).trans f3, (q1 _ _ hz2).trans f4, (q2 0).trans (box1 _ _ _).1, (q2 1).trans (box1 _ _ _).2, (box1 _ _ _).1, (box1 _ _ _).2⟩,
      by simp; omega, by simp; omega, by simp, below_alloc ((below_alloc hbw1 _).trans (hb2.mono (Nat.le_trans hbw1.size (Nat.le_of_lt hW1)))) _⟩
  clear hb2 f1 f2 f3 f4 hbw1 hz2 hz3 hW1 hb10 hz5
  go_wp2_with fail
  generalize w2.alloc (.cells #[.int .i64 x, .int .i64 y] 23) = W at hk ⊢
  replace hk : S8 w w1.heap.size w2.heap.size a b c d x y W.drew := hk.step (Below.refl _ _).drew
  generalize w1.heap.size = s at *
  generalize w2.heap.size = t at *
  go_region_held3 (fun w' => w'.cell? ⟨w.heap.size, 0, none⟩ = some (.int .i64 a) ∧ w'.cell? ⟨w.heap.size, 1, none⟩ = some (.int .i64 b) ∧ w'.cell? ⟨w.heap.size + 1, 0, none⟩ = some (.int .i64 c) ∧ w'.cell? ⟨w.heap.size + 1, 1, none⟩ = some (.int .i64 d) ∧
    w'.cell? ⟨s, 0, none⟩ = some (.int .i64 x) ∧ w'.cell? ⟨s, 1, none⟩ = some (.int .i64 y) ∧ w'.cell? ⟨t, 0, none⟩ = some (.int .i64 x) ∧ w'.cell? ⟨t, 1, none⟩ = some (.int .i64 y)) (exact hk.1)
    (first
    | (go_at_call 11; refine (k11 _ hk).mono ?_; rintro e wk ⟨rfl, hk⟩)
    | (go_at_call 12; refine (k12 _ _ _ hk).mono ?_; rintro e wk ⟨rfl, hk⟩)
    | (go_at_call 13; refine (k13 _ _ _ hk).mono ?_; rintro e wk ⟨rfl, hk⟩)
    | (go_at_call 14; refine (k14 _ _ _ _ hk).mono ?_; rintro e wk ⟨rfl, hk⟩)
    | (go_at_call 15; refine (k15 _ _ _ _ hk).mono ?_; rintro e wk ⟨rfl, hk⟩)
    | (go_at_call 16; refine (k16 _ _ _ _ _ hk).mono ?_; rintro e wk ⟨rfl, hk⟩)
    | (go_at_call 17; refine (k17 _ _ _ _ _ hk).mono ?_; rintro e wk ⟨rfl, hk⟩)
    | (go_at_call 18; refine (k18 _ _ _ _ _ hk).mono ?_; rintro e wk ⟨rfl, hk⟩)
    | (go_at_call 19; refine (k19 _ _ _ _ _ hk).mono ?_; rintro e wk ⟨rfl, hk⟩))
  go_wp2
  go_ret
  exact ⟨rfl, hk.2.2.2.2⟩

end Go.Proofs.Ytgkkknjkgpdcjaa
