/- Items. -/
import Derived.Test.YtgglhicpfjihlaaQc
import Derived.Test.YtgglhicpfjihlaaTo
namespace Go.Proofs.Ytgglhicpfjihlaa
open Go.RowKit Go.Shelf
set_option maxRecDepth 100000
attribute [local go_sem] Oper.semAt_some
theorem wpListIn_append_ex {F : Fence} {n : Nat} {ops : Array Oper} {rest : List Oper} {o : Oper} {a : Act} {Q : Exit → Act → World → Prop} {w : World} (hg : o.guard = none) (s x : Operand) (t : TypeId)
    (hop : o.op = Op.call { callee := Callee.builtin Builtin.append, args := #[s, x], argTypes := #[t, t] }) (v y : Value) (hs : a.eval s = v) (hx : a.eval x = y) {R : Value → World → Prop} (hrun : ∃ u w', (Builtin.append_ #[t, t] o.type #[v, y]).run Try.prog w = .ok u w' ∧ R u w')
    (hK : ∀ u w', R u w' → wpListIn F n Try.prog ops Q rest (a.put o.dst u) w') : wpListIn F n Try.prog ops Q (o :: rest) a w := by
  refine wpListIn_plain hg fun K hK' => ?_
  obtain ⟨v', w', hrun, r1⟩ := hrun
  unfold Oper.wpIn
  refine ⟨?_, ?_⟩
  · simp [Oper.about, hop, resolve, Target.leads, Sem.run_pure]
  · rw [Oper.semAt_plain F _ _ (by rw [hop]; intro c hc'; cases hc')]
    simp [execOp, hop, resolve, invoke, builtin, hs, hx, Result.andThen]
    rw [hrun]
    exact hK' _ _ (hK v' w' r1)
theorem not_row' {W : World} {tb : Nat} {l : List Value} {t : TypeId} (hb : Blk W tb l t) {base e m : Nat} {v : Value} {n : Nat} {xs : List Value} (h : W.ownsRow base e m v n xs) (hne : t ≠ e) : v.ownBlock ≠ some tb := by
  intro q
  obtain ⟨_, ⟨rfl, _⟩ | ⟨g, cap, cur, rfl, _, hg, _⟩⟩ := h
  · cases q
  · obtain rfl : g = tb := by simpa [Value.ownBlock] using q
    unfold Blk at hb
    rw [hb] at hg
    simp at hg
    exact hne hg.2
theorem slice_of {W : World} {base e m : Nat} {v : Value} {n : Nat} {xs : List Value} (h : W.ownsRow base e m v (n + 1) xs) : ∃ g cap, v = .slice (some ⟨g, 0, none⟩) (n + 1) cap := by
  obtain ⟨_, ⟨rfl, h0⟩ | ⟨g, cap, cur, rfl, _⟩⟩ := h
  · omega
  · exact ⟨g, cap, rfl⟩
structure AppA (W wr w' : World) (fa fb v' : Value) (L : List St) (y : St) : Prop where
  a : w'.ownsRow W.heap.size 24 2 v' (L.length + 1) (cells2 (L ++ [y]))
  b : w'.ownsRow W.heap.size 3 1 fb L.length (ids L)
  k : Below W.heap.size W w'
  kp : Keep (fun b => fa.ownBlock = some b) wr w'
  nw : ∀ k, v'.ownBlock = some k → fa.ownBlock = some k ∨ wr.heap.size ≤ k
theorem keep_grown {wr w1 : World} {o : Obj} {ob : Option Nat} (g1 : (wr.alloc o).grownBy w1 ob) : Keep (fun b => ob = some b) wr w1 :=
  (Keep.of (F := fun b => ob = some b) (al wr o)).trans (⟨g1.os, g1.tape, g1.output, g1.size, fun k hk hn => g1.block k hk (fun e => hn e.symm)⟩ : Keep (fun b => ob = some b) _ w1) (fun _ _ h => h)
theorem Gr.appA' {W wr : World} {fa fb : Value} {L : List St} (h : Gr W wr fa fb L) (hl : L.length ≤ 1000) (y : St) (ty : TypeId) (c : Nat) : ∃ v' w', (Builtin.append_ #[45, 45] ty #[fa, .slice (some ⟨wr.heap.size, 0, none⟩) 1 c]).run Try.prog (wr.alloc (.cells #[.int .i64 y.f, .int .i64 y.t] 24)) = .ok v' w' ∧ AppA W wr w' fa fb v' L y := by
  have hal := al wr (.cells #[.int .i64 y.f, .int .i64 y.t] 24)
  have oA := owns_keep' h.a (fun j hj => hal.block j (h.a.lt j hj).2)
  have oB := owns_keep' h.b (fun j hj => hal.block j (h.b.lt j hj).2)
  obtain ⟨v', w', hr, o1, g1, n1⟩ := append_span oA (by omega) (Nat.le_trans h.k.size hal.size) ty (c := c) (cell_two0 wr _ _ 24) (cell_two1 wr _ _ 24)
  exact ⟨v', w', hr, by rw [cells2_app]; exact o1, owns_keep' oB (fun j hj => g1.block j (oB.lt j hj).2 (fun e => owns_apart oA oB e.symm hj)), (bmore h.k hal).grown g1 (Nat.le_trans h.k.size hal.size) (fun j e => (oA.lt j e).1), keep_grown g1, fun k hk => (n1 k hk).imp id (fun h => Nat.le_trans hal.size h)⟩
structure AppB (W wr w' : World) (fa fb v' : Value) (n : Nat) (xs : List Value) (L : List St) (y : St) : Prop where
  b : w'.ownsRow W.heap.size 3 1 v' (L.length + 1) (ids (L ++ [y]))
  a : w'.ownsRow W.heap.size 24 2 fa n xs
  k : Below W.heap.size W w'
  kp : Keep (fun b => fb.ownBlock = some b) wr w'
  nw : ∀ k, v'.ownBlock = some k → fb.ownBlock = some k ∨ wr.heap.size ≤ k
theorem Gr.appB' {W wr : World} {fa fb : Value} {L : List St} {n : Nat} {xs : List Value} (ha : wr.ownsRow W.heap.size 24 2 fa n xs) (hb : wr.ownsRow W.heap.size 3 1 fb L.length (ids L)) (hk : Below W.heap.size W wr) (hl : L.length ≤ 1000) (y : St) (ty : TypeId) (c : Nat) {H : Nat} (hH : wr.heap.size = H) : ∃ v' w', (Builtin.append_ #[41, 41] ty #[fb, .slice (some ⟨H, 0, none⟩) 1 c]).run Try.prog (wr.alloc (.cells #[.int .i64 y.i] 3)) = .ok v' w' ∧ AppB W wr w' fa fb v' n xs L y := by
  subst hH
  have hal := al wr (.cells #[.int .i64 y.i] 3)
  have oA := owns_keep' ha (fun j hj => hal.block j (ha.lt j hj).2)
  have oB := owns_keep' hb (fun j hj => hal.block j (hb.lt j hj).2)
  obtain ⟨v', w', hr, o1, g1, n1⟩ := append_int oB (by omega) (Nat.le_trans hk.size hal.size) ty (c := c) (cell_one wr _ 3) rfl
  exact ⟨v', w', hr, by rw [show ids (L ++ [y]) = ids L ++ [.int .i64 y.i] by simp [ids]]; exact o1, owns_keep' oA (fun j hj => g1.block j (oA.lt j hj).2 (fun e => owns_apart oA oB hj e.symm)), (bmore hk hal).grown g1 (Nat.le_trans hk.size hal.size) (fun j e => (oB.lt j e).1), keep_grown g1, fun k hk => (n1 k hk).imp id (fun h => Nat.le_trans hal.size h)⟩
/-- Both slices, and who owns them. -/
def Ii (W : World) (O' : Nat → Prop) (q : List St) (W' : World) : Prop :=
  ∃ va vb, (∀ b, O' b ↔ b = W.heap.size ∨ b = W.heap.size + 1 ∨ va.ownBlock = some b ∨ vb.ownBlock = some b) ∧ Blk W' W.heap.size [va] 45 ∧ Blk W' (W.heap.size + 1) [vb] 41 ∧ Gr W W' va vb q
theorem Ii.lt {W W' : World} {O' : Nat → Prop} {q : List St} (h : Ii W O' q W') : ∀ b, O' b → b < W'.heap.size := by
  obtain ⟨va, vb, h1, h2, h3, h4⟩ := h
  intro b hb
  rcases (h1 b).1 hb with rfl | rfl | hb | hb
  · exact h2.lt
  · exact h3.lt
  · exact (h4.a.lt b hb).2
  · exact (h4.b.lt b hb).2
theorem Ii.abide {W : World} {B : Nat} (hB : W.heap.size ≤ B) : Abide B (Ii W) := by
  rintro O' q W1 W2 ⟨va, vb, h1, h2, h3, h4⟩ k
  refine ⟨va, vb, h1, h2.keep k (fun h => h.1 ((h1 _).2 (.inl rfl))), h3.keep k (fun h => h.1 ((h1 _).2 (.inr (.inl rfl)))), ?_, ?_, ?_⟩
  · exact owns_keep' h4.a (fun j hj => k.block j (h4.a.lt j hj).2 (fun h => h.1 ((h1 j).2 (.inr (.inr (.inl hj))))))
  · exact owns_keep' h4.b (fun j hj => k.block j (h4.b.lt j hj).2 (fun h => h.1 ((h1 j).2 (.inr (.inr (.inr hj))))))
  · exact h4.k.trans (k.below (by have := h4.k.size; omega) (fun i hi h => by omega))
set_option maxHeartbeats 2000000 in
theorem items23 {W : World} {x : Nat} {p : Option Addr} {t : T} (h : IV W x p t) (hi : Inv t) : Calls Try.prog 23 #[.pointer (some ⟨x, 0, none⟩)] W (IPost W t.inord) := by
  have k2 : Below W.heap.size W ((W.alloc (.cells #[.slice none 0 0] 45)).alloc (.cells #[.slice none 0 0] 41)) := bmore (al _ _) (al _ _)
  have k5 : Below ((W.alloc (.cells #[.slice none 0 0] 45)).alloc (.cells #[.slice none 0 0] 41)).heap.size ((W.alloc (.cells #[.slice none 0 0] 45)).alloc (.cells #[.slice none 0 0] 41)) (((((W.alloc (.cells #[.slice none 0 0] 45)).alloc (.cells #[.slice none 0 0] 41)).alloc (.cells #[.pointer p] 56)).alloc (.cells #[.int .i64 (-9223372036854775808)] 3)).alloc (.cells #[.int .i64 9223372036854775807] 3)) := bmore (bmore (al _ _) (al _ _)) (al _ _)
  have r0 : Blk ((W.alloc (.cells #[.slice none 0 0] 45)).alloc (.cells #[.slice none 0 0] 41)) W.heap.size [.slice none 0 0] 45 := (blk_new W [.slice none 0 0] 45).below (al _ _)
  have r1 : Blk ((W.alloc (.cells #[.slice none 0 0] 45)).alloc (.cells #[.slice none 0 0] 41)) (W.heap.size + 1) [.slice none 0 0] 41 := blk_at (W.alloc (.cells #[.slice none 0 0] 45)) [.slice none 0 0] 41 (by simp)
  have s2 : ((W.alloc (.cells #[.slice none 0 0] 45)).alloc (.cells #[.slice none 0 0] 41)).heap.size = W.heap.size + 1 + 1 := by simp
  have s5 : (((((W.alloc (.cells #[.slice none 0 0] 45)).alloc (.cells #[.slice none 0 0] 41)).alloc (.cells #[.pointer p] 56)).alloc (.cells #[.int .i64 (-9223372036854775808)] 3)).alloc (.cells #[.int .i64 9223372036854775807] 3)).heap.size = W.heap.size + 5 := by simp
  have hbx := bx_new p (-9223372036854775808) 9223372036854775807 ((W.alloc (.cells #[.slice none 0 0] 45)).alloc (.cells #[.slice none 0 0] 41))
  rw [s2] at hbx
  have k37 := root37 (h.blk.below k2)
  have HT : Hid (PT W.heap.size (((((W.alloc (.cells #[.slice none 0 0] 45)).alloc (.cells #[.slice none 0 0] 41)).alloc (.cells #[.pointer p] 56)).alloc (.cells #[.int .i64 (-9223372036854775808)] 3)).alloc (.cells #[.int .i64 9223372036854775807] 3)) p t) := PT.keep (O := fun _ => False) (Keep.of (bmore k2 k5)) (fun _ _ => id) h.ts.tr
  have I0 : Hid (Ii W (fun b => b = W.heap.size ∨ b = W.heap.size + 1) [] (((((W.alloc (.cells #[.slice none 0 0] 45)).alloc (.cells #[.slice none 0 0] 41)).alloc (.cells #[.pointer p] 56)).alloc (.cells #[.int .i64 (-9223372036854775808)] 3)).alloc (.cells #[.int .i64 9223372036854775807] 3))) := ⟨.slice none 0 0, .slice none 0 0, fun b => by simp [Value.ownBlock], r0.below k5, r1.below k5, World.ownsRow_nil _ _ _ _, World.ownsRow_nil _ _ _ _, bmore k2 k5⟩
  have HS : Hid _ := s5
  have HK : Hid _ := bmore k2 k5
  have HBX : Hid _ := hbx
  have HL : Hid (t.meets least most = t.inord ∧ t.inord.length ≤ 1000) := ⟨hi.all, by have := hi.sz; rw [T.inord_length]; omega⟩
  clear k2 k5 r0 r1 s5 hbx h hi
  refine (callsIn_wide (n := 0)).1 (callsIn_of_wp_marks Try.func23 rfl trivial (wpIn_wide.2 ?_) rfl)
  simp only [Try.ntmps23, List.size_toArray, List.length_cons, List.length_nil, Nat.reduceAdd, Nat.reduceSub, Array.replicate_succ, Array.replicate_zero, List.push_toArray, List.append_toArray, List.nil_append, List.cons_append]
  go_wp2_with (first
    | (go_at_call 37; (with_reducible refine k37.mono ?_); rintro e w1 ⟨rfl, rfl⟩)
    | (go_at_call 40; (with_reducible refine (all40 _ _).mono ?_); rintro e w1 ⟨rfl, rfl⟩))
  clear s2 k37
  obtain ⟨B, hB⟩ : ∃ B, W.heap.size + 1 + 1 = B := ⟨_, rfl⟩
  have HB : Hid _ := hB
  rw [hB] at HBX ⊢
  clear hB
  generalize (((((W.alloc (.cells #[.slice none 0 0] 45)).alloc (.cells #[.slice none 0 0] 41)).alloc (.cells #[.pointer p] 56)).alloc (.cells #[.int .i64 (-9223372036854775808)] 3)).alloc (.cells #[.int .i64 9223372036854775807] 3)) = W9 at *
  refine wpIn_wide.1 (wpIn_range (a := { tmps := #[.pointer (some ⟨x, 0, none⟩), undef, .slice none 0 0, .slice none 0 0, .pointer (some ⟨W.heap.size, 0, none⟩), .pointer (some ⟨W.heap.size + 1, 0, none⟩), undef, .pointer (some ⟨x, 0, none⟩), .pointer p, .func (.func 56) #[] #[.pointer (some ⟨B, 0, none⟩), .pointer (some ⟨B + 1, 0, none⟩), .pointer (some ⟨B + 1 + 1, 0, none⟩)], undef, undef, undef, undef, undef, undef, undef, undef, undef, undef, undef, undef, undef], defers := [] }) (gf := 56) (lb := #[.pointer (some ⟨B, 0, none⟩), .pointer (some ⟨B + 1, 0, none⟩), .pointer (some ⟨B + 1 + 1, 0, none⟩)]) rfl eg56 rfl (enc := SV) (xs := t.meets least most) (G := Gm W.heap.size B)
    (fun W' k => all56 least most (Int.le_refl _) t W' p W.heap.size B (PT.keep (O := fun _ => False) (Keep.of k) (fun _ _ => id) HT.out) (by have := HB.out; omega) (Bx.keep (O := fun _ => False) HBX.out (Keep.of k) id id id)) (fun k h => by have := HB.out; have := HS.out; unfold Gm at h; omega)
    (Ii W) (fun _ _ _ _ => False) (fun O' q W' h => h.lt) (Ii.abide HK.out.size) (fun c => fun O' q W1 W2 h k => h)
    (fun b => b = W.heap.size ∨ b = W.heap.size + 1) (fun k h => by have := HB.out; have := HS.out; unfold Gm; omega) I0.out (fun y blk => { tmps := #[.pointer (some ⟨x, 0, none⟩), undef, .slice none 0 0, .slice none 0 0, .pointer (some ⟨W.heap.size, 0, none⟩), .pointer (some ⟨W.heap.size + 1, 0, none⟩), .pointer (some ⟨blk, 0, none⟩), .pointer (some ⟨x, 0, none⟩), .pointer p, .func (.func 56) #[] #[.pointer (some ⟨B, 0, none⟩), .pointer (some ⟨B + 1, 0, none⟩), .pointer (some ⟨B + 1 + 1, 0, none⟩)], SV y, undef, undef, undef, undef, undef, undef, undef, undef, undef, undef, undef, undef], defers := [] }) csS 68 ?assign ?body ?done ?stop)
  case assign =>
    intro l' x' W' K hK
    gi_wp2
    exact hK
  case stop =>
    rintro D c O' pre W' _ _ _ h
    exact h.elim
  case body =>
    intro l' O' pre y W' blk hI hnb hle hsz hblk hpre
    obtain ⟨va, vb, h1, h2, h3, hG⟩ := hI
    have hbl : Blk W' blk (csS y) 68 := hblk
    have z0 := hbl.cell 0
    have z1 := hbl.cell 1
    have z2 := hbl.cell 2
    have zt := h2.cell 0
    have zf := h2.frozen 0
    simp only [csS, List.getElem?_cons_zero, List.getElem?_cons_succ] at z0 z1 z2 zt
    have hpl : pre.length ≤ 1000 := by have := hpre.length_le; have := HL.out.1; have := HL.out.2; simp at *; rw [HL.out.1] at *; omega
    have hb1 : blk ≠ W.heap.size := fun e => hnb ((h1 _).2 (.inl e))
    have hb2 : blk ≠ W.heap.size + 1 := fun e => hnb ((h1 _).2 (.inr (.inl e)))
    have H1 : Hid _ := h1
    have H2 : Hid _ := h2
    have H3 : Hid _ := h3
    have HG : Hid _ := hG
    have HP : Hid _ := hpl
    have HBL : Hid _ := hbl
    have Hbb : Hid (blk ≠ W.heap.size ∧ blk ≠ W.heap.size + 1) := ⟨hb1, hb2⟩
    clear h1 h2 h3 hG hbl hblk hpre hpl hnb hle hsz hb1 hb2
    gi_wp2_with (first
      | (gi_at_builtin; refine wpListIn_append_ex rfl (.tmp 11) (.tmp 14) 45 rfl _ _ rfl rfl (HG.out.appA' HP.out y _ _) ?_; intro v1 w1 A1; obtain ⟨g1, cap1, rfl⟩ := slice_of A1.a; have hq1 : Blk w1 W.heap.size [va] 45 := Blk.keep H2.out A1.kp (not_row' H2.out HG.out.a (by decide)); have hc1 := hq1.cell 0; have hf1 := hq1.frozen 0; have hq2 : Blk w1 (W.heap.size + 1) [vb] 41 := Blk.keep H3.out A1.kp (not_row' H3.out HG.out.a (by decide)); have hc2 := hq2.cell 0; have hz2 := (Blk.keep HBL.out A1.kp (not_row' HBL.out HG.out.a (by decide))).cell 2; simp only [csS, List.getElem?_cons_zero, List.getElem?_cons_succ] at hc1 hc2 hz2; have HA1 : Hid _ := A1; have HQ1 : Hid _ := hq1; have HQ2 : Hid _ := hq2; have HSa : Hid ((w1.setCell ⟨W.heap.size, 0, none⟩ (.slice (some ⟨g1, 0, none⟩) (pre.length + 1) cap1)).ownsRow W.heap.size 24 2 (.slice (some ⟨g1, 0, none⟩) (pre.length + 1) cap1) (pre.length + 1) (cells2 (pre ++ [y]))) := owns_keep' A1.a (fun j hj => Below.heap_setCell _ _ _ _ (fun e => not_row' hq1 A1.a (by decide) (by rw [hj]; simp only [Option.some.injEq]; exact e))); have HSb : Hid ((w1.setCell ⟨W.heap.size, 0, none⟩ (.slice (some ⟨g1, 0, none⟩) (pre.length + 1) cap1)).ownsRow W.heap.size 3 1 vb pre.length (ids pre)) := owns_keep' A1.b (fun j hj => Below.heap_setCell _ _ _ _ (fun e => not_row' hq1 A1.b (by decide) (by rw [hj]; simp only [Option.some.injEq]; exact e))); have HSk : Hid (Below W.heap.size W (w1.setCell ⟨W.heap.size, 0, none⟩ (.slice (some ⟨g1, 0, none⟩) (pre.length + 1) cap1))) := A1.k.setCell (p := ⟨W.heap.size, 0, none⟩) (Nat.le_refl _) _; clear A1 hq1 hq2)
      | (gi_at_builtin; refine wpListIn_append_ex rfl (.tmp 16) (.tmp 19) 41 rfl _ _ rfl rfl (Gr.appB' HSa.out HSb.out HSk.out HP.out y 41 1 (H := w1.heap.size) (by simp)) ?_; intro v2 w2 A2; obtain ⟨g2, cap2, rfl⟩ := slice_of A2.b; have hq3 : Blk w2 (W.heap.size + 1) [vb] 41 := Blk.keep (Blk.keep HQ2.out (Keep.set (F := fun k => k = W.heap.size) (Keep.refl _ w1) (p := ⟨W.heap.size, 0, none⟩) (.inr rfl) (.slice (some ⟨g1, 0, none⟩) (pre.length + 1) cap1)) (by omega)) A2.kp (not_row' (Blk.keep HQ2.out (Keep.set (F := fun k => k = W.heap.size) (Keep.refl _ w1) (p := ⟨W.heap.size, 0, none⟩) (.inr rfl) (.slice (some ⟨g1, 0, none⟩) (pre.length + 1) cap1)) (by omega)) HSb.out (by decide)); have hc3 := hq3.cell 0; have hf3 := hq3.frozen 0; simp only [List.getElem?_cons_zero] at hc3; have HA2 : Hid _ := A2; have HQ3 : Hid _ := hq3; clear A2 hq3))
    have A1 := HA1.out
    have A2 := HA2.out
    have hq1 := Blk.set (o := 0) HQ1.out (.slice (some ⟨g1, 0, none⟩) (pre.length + 1) cap1)
    have hq2 : Blk w2 W.heap.size [(.slice (some ⟨g1, 0, none⟩) (pre.length + 1) cap1)] 45 := Blk.keep hq1 A2.kp (not_row' hq1 HSb.out (by decide))
    have hne : W.heap.size ≠ W.heap.size + 1 := by omega
    refine ⟨fun b => b = W.heap.size ∨ b = W.heap.size + 1 ∨ Value.ownBlock (.slice (some ⟨g1, 0, none⟩) (pre.length + 1) cap1) = some b ∨ Value.ownBlock (.slice (some ⟨g2, 0, none⟩) (pre.length + 1) cap2) = some b, ⟨(.slice (some ⟨g1, 0, none⟩) (pre.length + 1) cap1), (.slice (some ⟨g2, 0, none⟩) (pre.length + 1) cap2), fun b => Iff.rfl, Blk.keep hq2 (Keep.set (F := fun k => k = W.heap.size + 1) (Keep.refl _ w2) (p := ⟨W.heap.size + 1, 0, none⟩) (.inr rfl) (.slice (some ⟨g2, 0, none⟩) (pre.length + 1) cap2)) hne, Blk.set (o := 0) HQ3.out (.slice (some ⟨g2, 0, none⟩) (pre.length + 1) cap2), ?_, ?_, ?_⟩, ?_, ?_⟩
    · rw [List.length_append]
      exact owns_keep' A2.a (fun j hj => Below.heap_setCell _ _ _ _ (fun e => not_row' HQ3.out A2.a (by decide) (by rw [hj]; simp only [Option.some.injEq]; exact e)))
    · rw [List.length_append]
      exact owns_keep' A2.b (fun j hj => Below.heap_setCell _ _ _ _ (fun e => not_row' HQ3.out A2.b (by decide) (by rw [hj]; simp only [Option.some.injEq]; exact e)))
    · exact A2.k.setCell (p := ⟨W.heap.size + 1, 0, none⟩) (by simp) _
    · rintro b (rfl | rfl | h | h)
      · exact .inl ((H1.out _).2 (.inl rfl))
      · exact .inl ((H1.out _).2 (.inr (.inl rfl)))
      · exact (A1.nw b h).elim (fun h => .inl ((H1.out _).2 (.inr (.inr (.inl h))))) .inr
      · refine (A2.nw b h).elim (fun h => .inl ((H1.out _).2 (.inr (.inr (.inr h))))) (fun h => .inr ?_)
        have := A1.kp.size
        simp at h
        omega
    · have q1 : Keep O' W' w1 := A1.kp.mono (fun b _ h => (H1.out b).2 (.inr (.inr (.inl h))))
      have q2 : Keep O' W' (w1.setCell ⟨W.heap.size, 0, none⟩ (.slice (some ⟨g1, 0, none⟩) (pre.length + 1) cap1)) := q1.set (.inr ((H1.out _).2 (.inl rfl))) _
      have q3 : Keep O' W' w2 := q2.trans (A2.kp.mono (G := O') (fun b _ h => (H1.out b).2 (.inr (.inr (.inr h))))) (fun _ _ h => h)
      exact q3.set (.inr ((H1.out _).2 (.inr (.inl rfl)))) _
  case done =>
    rintro D O' W' hD nD ⟨va, vb, h1, h2, h3, hG⟩ hgr hk hd
    have z0 := h2.cell 0
    have z1 := h3.cell 0
    simp only [List.getElem?_cons_zero] at z0 z1
    have HG : Hid _ := hG
    rw [HL.out.1] at HG
    have hnA : ∀ k, va.ownBlock = some k → k ≠ D := fun k hk e => nD ((h1 D).2 (.inr (.inr (.inl (e ▸ hk)))))
    have hnB : ∀ k, vb.ownBlock = some k → k ≠ D := fun k hk e => nD ((h1 D).2 (.inr (.inr (.inr (e ▸ hk)))))
    have HD : Hid _ := hD
    have Hd : Hid _ := hd
    clear h1 h2 h3 hG hgr hk hd hD
    go_wp2_with fail
    go_big_quiet (fail)
    go_wp2_with fail
    have G := HG.out
    have GK : Below W.heap.size W (W'.drewN nq) := bmore G.k ⟨rfl, rfl, rfl, Nat.le_refl _, fun _ _ => rfl⟩
    refine leave_marks [D] _ (fun w' k => ⟨results_tmp2 rfl _ _ _, va, vb, rfl, SP.of_owns (owns_keep' G.a (fun j hj => k.block j (G.a.lt j hj).2 (by simpa using hnA j hj))), IR.of_owns (owns_keep' G.b (fun j hj => k.block j (G.b.lt j hj).2 (by simpa using hnB j hj))), GK.trans (k.below GK.size (fun i hi h => by have := HD.out; have := HS.out; simp at h; omega))⟩) (fun D' h => by simp at h; subst h; exact Hd.out) (by simp)
end Go.Proofs.Ytgglhicpfjihlaa
