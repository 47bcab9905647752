/- SpanLists: the law's walk: it answers true, and turns no old memory. -/
import Derived.Test.YtgkkknjkgpdcjaaListsK
namespace Go.Proofs.Ytgkkknjkgpdcjaa
open Go.RowKit

/-- two boxes, the list, and what has been made so far -/
def SL (w : World) (v : Value) (ts : List (Int × Int)) (a b c d : Int) (L : List (Value × (Int → Prop))) (W : World) : Prop :=
  (W.cell? ⟨w.heap.size, 0, none⟩ = some (.int .i64 a) ∧ W.cell? ⟨w.heap.size, 1, none⟩ = some (.int .i64 b) ∧ W.cell? ⟨w.heap.size + 1, 0, none⟩ = some (.int .i64 c) ∧ W.cell? ⟨w.heap.size + 1, 1, none⟩ = some (.int .i64 d)) ∧
  SRow W v ts ∧ (∀ x, x ∈ L → CRow W x.1 x.2) ∧ w.heap.size + 1 < W.heap.size ∧ Below w.heap.size w W
theorem SL.step {w W W' : World} {v : Value} {ts : List (Int × Int)} {a b c d : Int} {L : List (Value × (Int → Prop))} (h : SL w v ts a b c d L W) (hb : Below W.heap.size W W') : SL w v ts a b c d L W' := by
  obtain ⟨⟨h1, h2, h3, h4⟩, h5, h6, h7, h8⟩ := h
  have hs := hb.size
  exact ⟨⟨(bc hb _ _ (by omega)).trans h1, (bc hb _ _ (by omega)).trans h2, (bc hb _ _ (by omega)).trans h3, (bc hb _ _ (by omega)).trans h4⟩, h5.below hb h5.lt, fun x hx => (h6 x hx).step hb, by omega, h8.trans (hb.mono h8.size)⟩
theorem SL.add {w W : World} {v : Value} {ts : List (Int × Int)} {a b c d : Int} {L : List (Value × (Int → Prop))} (h : SL w v ts a b c d L W) {u : Value} {P : Int → Prop} (hu : CRow W u P) : SL w v ts a b c d ((u, P) :: L) W := by
  obtain ⟨h1, h5, h6, h7⟩ := h
  exact ⟨h1, h5, fun x hx => by
    rcases List.mem_cons.1 hx with rfl | hx
    · exact hu
    · exact h6 x hx, h7⟩

section
variable {w : World} {v : Value} {ts : List (Int × Int)} {a b c d : Int} {L : List (Value × (Int → Prop))}
theorem q11 (W : World) (h : SL w v ts a b c d L W) : Calls Try.prog 11 #[] W fun e w' => e = .returned (.bool true) ∧ SL w v ts a b c d L w' :=
  (live11 W).mono fun _ _ ⟨he, hb⟩ => ⟨he, h.step hb⟩
theorem q22 (W : World) (h : SL w v ts a b c d L W) : Calls Try.prog 22 #[.agg #[.int .i64 a, .int .i64 b], .agg #[.int .i64 c, .int .i64 d]] W fun e w' => ∃ u, e = .returned u ∧ SL w v ts a b c d ((u, fun p => hasB a b p = true ∧ ¬ Has [(c, d)] p) :: L) w' :=
  (minus22 a b c d W).mono fun _ _ ⟨u, he, ho, hb⟩ => ⟨u, he, (h.step hb).add ⟨_, (minus_canon a b c d).1, by have := (minus_canon a b c d).2.1; omega, (minus_canon a b c d).2.2, ho.srow⟩⟩
theorem q23 (W : World) (h : SL w v ts a b c d L W) : Calls Try.prog 23 #[.agg #[.int .i64 a, .int .i64 b], .agg #[.int .i64 c, .int .i64 d]] W fun e w' => ∃ u, e = .returned u ∧ SL w v ts a b c d ((u, fun p => hasB a b p = true ∧ ¬ Has [(c, d)] p) :: L) w' :=
  (minus23 a b c d W).mono fun _ _ ⟨u, ys, he, hc, hp, hl, ho, hb⟩ => ⟨u, he, (h.step hb).add ⟨ys, hc, by omega, hp, ho.srow⟩⟩
theorem q21 (W : World) (u1 u2 : Value) (P : Int → Prop) (h : SL w v ts a b c d ((u2, P) :: (u1, P) :: L) W) : Calls Try.prog 21 #[u1, u2] W fun e w' => e = .returned (.bool true) ∧ SL w v ts a b c d L w' := by
  obtain ⟨y2, c2, l2, p2, s2⟩ := h.2.2.1 (u2, P) (by simp)
  obtain ⟨y1, c1, l1, p1, s1⟩ := h.2.2.1 (u1, P) (by simp)
  have e : y1 = y2 := canon_unique _ _ c1 c2 fun p => by rw [p1, p2]
  subst e
  refine (same21 u1 u2 y1 W l1 s1 s2).mono fun _ w' ⟨he, q, hq⟩ => ⟨he, ?_⟩
  have h2 := h.step (W' := w') (by rw [hq]; exact below_drewN (Below.refl _ _) q)
  exact ⟨h2.1, h2.2.1, fun x hx => h2.2.2.1 x (by simp [hx]), h2.2.2.2⟩
theorem q24 (hl : ts.length ≤ 30) (W : World) (h : SL w v ts a b c d L W) : Calls Try.prog 24 #[v] W fun e w' => ∃ u, e = .returned u ∧ SL w v ts a b c d ((u, Has ts) :: L) w' :=
  (join24 v ts W (by omega) h.2.1).mono fun _ _ ⟨u, ys, he, hc, hp, hlen, ho, hb⟩ => ⟨u, he, (h.step hb).add ⟨ys, hc, by omega, hp, ho.srow⟩⟩
theorem q25 (hl : ts.length ≤ 30) (W : World) (h : SL w v ts a b c d L W) : Calls Try.prog 25 #[v] W fun e w' => ∃ u, e = .returned u ∧ SL w v ts a b c d ((u, Has ts) :: L) w' :=
  (join25 v ts W (by omega) h.2.1).mono fun _ _ ⟨u, ys, he, hc, hp, hlen, ho, hb⟩ => ⟨u, he, (h.step hb).add ⟨ys, hc, by omega, hp, ho.srow⟩⟩
theorem q26 (hl : ts.length ≤ 30) (W : World) (h : SL w v ts a b c d L W) : Calls Try.prog 26 #[v, .agg #[.int .i64 a, .int .i64 b]] W fun e w' => ∃ u, e = .returned u ∧ SL w v ts a b c d ((u, fun p => hasB a b p = true ∧ ¬ Has ts p) :: L) w' :=
  (gaps26 v ts a b W (by omega) h.2.1).mono fun _ _ ⟨u, ys, he, hc, hp, hlen, ho, hb⟩ => ⟨u, he, (h.step hb).add ⟨ys, hc, by omega, hp, ho.srow⟩⟩
theorem q27 (hl : ts.length ≤ 30) (W : World) (h : SL w v ts a b c d L W) : Calls Try.prog 27 #[v, .agg #[.int .i64 a, .int .i64 b]] W fun e w' => ∃ u, e = .returned u ∧ SL w v ts a b c d ((u, fun p => hasB a b p = true ∧ ¬ Has ts p) :: L) w' :=
  (gaps27 v ts a b W (by omega) h.2.1).mono fun _ _ ⟨u, ys, he, hc, hp, hlen, ho, hb⟩ => ⟨u, he, (h.step hb).add ⟨ys, hc, by omega, hp, ho.srow⟩⟩
theorem q28 (hl : ts.length ≤ 30) {r : Bool} (hr : r = true ↔ rightB a b = true ∧ ∀ p, a ≤ p → p < b → Has ts p) (W : World) (h : SL w v ts a b c d L W) : Calls Try.prog 28 #[v, .agg #[.int .i64 a, .int .i64 b]] W fun e w' => e = .returned (.bool r) ∧ SL w v ts a b c d L w' :=
  (covers28 v ts a b W (by omega) h.2.1).mono fun _ _ ⟨r', he, hr', hb⟩ => ⟨by rw [he, show r' = r from Bool.eq_iff_iff.2 (hr'.trans hr.symm)], h.step hb⟩
theorem q29 (hl : ts.length ≤ 30) {r : Bool} (hr : r = true ↔ rightB a b = true ∧ ∀ p, a ≤ p → p < b → Has ts p) (W : World) (h : SL w v ts a b c d L W) : Calls Try.prog 29 #[v, .agg #[.int .i64 a, .int .i64 b]] W fun e w' => e = .returned (.bool r) ∧ SL w v ts a b c d L w' :=
  (covers29 v ts a b W (by omega) h.2.1).mono fun _ _ ⟨r', he, hr', hb⟩ => ⟨by rw [he, show r' = r from Bool.eq_iff_iff.2 (hr'.trans hr.symm)], h.step hb⟩
theorem q30 (hl : ts.length ≤ 30) {n : Int} (hn : cnt (ptB (rights ts)) 2000 = n) (W : World) (h : SL w v ts a b c d L W) : Calls Try.prog 30 #[v] W fun e w' => e = .returned (.int .i64 n) ∧ SL w v ts a b c d L w' :=
  (count30 v ts W (by omega) h.2.1).mono fun _ _ ⟨ys, he, hc, hp, hb⟩ => ⟨by rw [he, lenL_cnt ys hc, ← hn, cnt_congr (f := ptB ys) (g := ptB (rights ts)) 2000 (fun p => Bool.eq_iff_iff.2 (by rw [ptB_iff, ptB_iff]; exact hp p))], h.step hb⟩
theorem q31 (hl : ts.length ≤ 30) {n : Int} (hn : cnt (ptB (rights ts)) 2000 = n) (W : World) (h : SL w v ts a b c d L W) : Calls Try.prog 31 #[v] W fun e w' => e = .returned (.int .i64 n) ∧ SL w v ts a b c d L w' :=
  (count31 v ts W (by omega) h.2.1).mono fun _ _ ⟨he, hb⟩ => ⟨by rw [he, hn], h.step hb⟩
theorem q32 (hl : ts.length ≤ 30) {r : Bool} (hr : r = true ↔ Apart ts) (W : World) (h : SL w v ts a b c d L W) : Calls Try.prog 32 #[v] W fun e w' => e = .returned (.bool r) ∧ SL w v ts a b c d L w' :=
  (apart32 v ts W (by omega) h.2.1).mono fun _ _ ⟨r', he, hr', hb⟩ => ⟨by rw [he, show r' = r from Bool.eq_iff_iff.2 (hr'.trans hr.symm)], h.step hb⟩
theorem q33 (hl : ts.length ≤ 30) {r : Bool} (hr : r = true ↔ Apart ts) (W : World) (h : SL w v ts a b c d L W) : Calls Try.prog 33 #[v] W fun e w' => e = .returned (.bool r) ∧ SL w v ts a b c d L w' :=
  (apart33 v ts W (by omega) h.2.1).mono fun _ _ ⟨r', he, hr', hb⟩ => ⟨by rw [he, show r' = r from Bool.eq_iff_iff.2 (hr'.trans hr.symm)], h.step hb⟩
theorem q32c (W : World) (u : Value) (P : Int → Prop) (h : SL w v ts a b c d ((u, P) :: L) W) : Calls Try.prog 32 #[u] W fun e w' => e = .returned (.bool true) ∧ SL w v ts a b c d ((u, P) :: L) w' := by
  obtain ⟨ys, hc, hl, hp, hs⟩ := h.2.2.1 (u, P) (by simp)
  exact (apart32 u ys W hl hs).mono fun _ _ ⟨r, he, hr, hb⟩ => ⟨by rw [he, hr.2 (canon_apart hc)], h.step hb⟩
end

theorem box2' (w : World) (a b c d : Int) (W : World) (hW : W = (w.alloc (.cells #[.int .i64 a, .int .i64 b] 23)).alloc (.cells #[.int .i64 c, .int .i64 d] 23)) :
    W.heap.size = w.heap.size + 1 + 1 ∧ W.cell? ⟨w.heap.size, 0, none⟩ = some (.int .i64 a) ∧ W.cell? ⟨w.heap.size, 1, none⟩ = some (.int .i64 b) ∧ W.cell? ⟨w.heap.size + 1, 0, none⟩ = some (.int .i64 c) ∧ W.cell? ⟨w.heap.size + 1, 1, none⟩ = some (.int .i64 d) ∧ Below w.heap.size w W := by
  subst hW
  have h1 := fun k => (below1 (w.alloc (.cells #[.int .i64 a, .int .i64 b] 23)) (.cells #[.int .i64 c, .int .i64 d] 23)).cell (p := ⟨w.heap.size, k, none⟩) (by simp)
  have h2 := box1 (w.alloc (.cells #[.int .i64 a, .int .i64 b] 23)) c d
  simp only [World.size_alloc] at h2
  exact ⟨by simp, (h1 0).trans (box1 _ _ _).1, (h1 1).trans (box1 _ _ _).2, h2.1, h2.2, below_alloc (below1 _ _) _⟩

set_option maxHeartbeats 4000000 in
theorem spanLists4 (v : Value) (xs : List (Int × Int)) (a b c d : Int) (w : World) (h : SRow w v xs) (hm : xs.length ≤ maxLen) :
    Calls Try.prog 4 #[.agg #[.int .i64 a, .int .i64 b], .agg #[.int .i64 c, .int .i64 d], v] w fun e w' => e = .returned (.bool true) ∧ Below w.heap.size w w' := by
  have hB : SRow (w.alloc (.cells #[.int .i64 a, .int .i64 b] 23)) v xs := h.below (below1 w _) h.lt
  have hB2 : SRow ((w.alloc (.cells #[.int .i64 a, .int .i64 b] 23)).alloc (.cells #[.int .i64 c, .int .i64 d] 23)) v xs := hB.below (below1 _ _) hB.lt
  have hfew := few20_form v xs _ hB2 hm
  clear h hB hB2 hm
  go_enter Try.func4, Try.ntmps4
  go_wp2_with fail
  refine hfew.mono ?_
  rintro e W ⟨p, cap, m, ts, rfl, hm30, HT, hW⟩
  obtain ⟨hz, f1, f2, f3, f4, hbw⟩ := box2' w a b c d W hW
  clear hfew
  obtain ⟨hmt, hs⟩ := HT.out
  rw [← hW] at hs
  clear HT hW
  have hl : ts.length ≤ 30 := by omega
  have hk : SL w (.slice p m cap) ts a b c d [] W.drew := ⟨⟨f1, f2, f3, f4⟩, hs.same rfl, by simp, by change _ < W.heap.size; omega, hbw.drew⟩
  clear hmt hs f1 f2 f3 f4 hbw hz
  obtain ⟨r1, hr1⟩ : ∃ r : Bool, r = true ↔ rightB a b = true ∧ ∀ p, a ≤ p → p < b → Has ts p := by
    by_cases hx : rightB a b = true ∧ ∀ p, a ≤ p → p < b → Has ts p
    · exact ⟨true, by simp only [true_iff]; exact hx⟩
    · exact ⟨false, by simp only [Bool.false_eq_true, false_iff]; exact hx⟩
  obtain ⟨r2, hr2⟩ : ∃ r : Bool, r = true ↔ Apart ts := by
    by_cases hx : Apart ts
    · exact ⟨true, by simp only [true_iff]; exact hx⟩
    · exact ⟨false, by simp only [Bool.false_eq_true, false_iff]; exact hx⟩
  obtain ⟨nn, hn⟩ : ∃ n, cnt (ptB (rights ts)) 2000 = n := ⟨_, rfl⟩
  have HL := hidA hl
  have HR1 := hidA hr1
  have HR2 := hidA hr2
  have HNN := hidA hn
  clear hl hr1 hr2 hn
  go_wp2_with fail
  go_region_held3 (fun w' => w'.cell? ⟨w.heap.size, 0, none⟩ = some (.int .i64 a) ∧ w'.cell? ⟨w.heap.size, 1, none⟩ = some (.int .i64 b) ∧ w'.cell? ⟨w.heap.size + 1, 0, none⟩ = some (.int .i64 c) ∧ w'.cell? ⟨w.heap.size + 1, 1, none⟩ = some (.int .i64 d)) (exact hk.1)
    (first
    | (go_at_call 11; refine (q11 _ hk).mono ?_; rintro e wk ⟨rfl, hk⟩)
    | (go_at_call 22; refine (q22 _ hk).mono ?_; rintro e wk ⟨u1, rfl, hk⟩)
    | (go_at_call 23; refine (q23 _ hk).mono ?_; rintro e wk ⟨u2, rfl, hk⟩)
    | (go_at_call 21; refine (q21 _ _ _ _ hk).mono ?_; rintro e wk ⟨rfl, hk⟩)
    | (go_at_call 24; refine (q24 HL.out _ hk).mono ?_; rintro e wk ⟨u1, rfl, hk⟩)
    | (go_at_call 25; refine (q25 HL.out _ hk).mono ?_; rintro e wk ⟨u2, rfl, hk⟩)
    | (go_at_call 26; refine (q26 HL.out _ hk).mono ?_; rintro e wk ⟨u1, rfl, hk⟩)
    | (go_at_call 27; refine (q27 HL.out _ hk).mono ?_; rintro e wk ⟨u2, rfl, hk⟩)
    | (go_at_call 28; refine (q28 HL.out HR1.out _ hk).mono ?_; rintro e wk ⟨rfl, hk⟩)
    | (go_at_call 29; refine (q29 HL.out HR1.out _ hk).mono ?_; rintro e wk ⟨rfl, hk⟩)
    | (go_at_call 30; refine (q30 HL.out HNN.out _ hk).mono ?_; rintro e wk ⟨rfl, hk⟩)
    | (go_at_call 31; refine (q31 HL.out HNN.out _ hk).mono ?_; rintro e wk ⟨rfl, hk⟩)
    | (go_at_call 33; refine (q33 HL.out HR2.out _ hk).mono ?_; rintro e wk ⟨rfl, hk⟩)
    | (go_at_call 32; refine (q32c _ _ _ hk).mono ?_; rintro e wk ⟨rfl, hk⟩)
    | (go_at_call 32; refine (q32 HL.out HR2.out _ hk).mono ?_; rintro e wk ⟨rfl, hk⟩))
  go_wp2
  go_ret
  exact ⟨rfl, hk.2.2.2.2⟩

end Go.Proofs.Ytgkkknjkgpdcjaa
