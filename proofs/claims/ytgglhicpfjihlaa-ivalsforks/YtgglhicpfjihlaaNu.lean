/- numbers: the numbers of those that are met. -/
import Derived.Test.YtgglhicpfjihlaaMf
import Derived.Test.YtgglhicpfjihlaaAp
namespace Go.Proofs.Ytgglhicpfjihlaa
open Go.RowKit Go.Shelf
set_option maxRecDepth 100000
attribute [local go_sem] Oper.semAt_some

theorem root37 {W : World} {x : Nat} {p : Option Addr} {n : Int} (h : Blk W x [.pointer p, .int .i64 n] 58) : Calls Try.prog 37 #[.pointer (some ⟨x, 0, none⟩)] W fun e w' => e = .returned (.pointer p) ∧ W = w' := by
  have c0 := h.cell 0
  simp only [List.getElem?_cons_zero] at c0
  clear h
  go_enter Try.func37, Try.ntmps37
  go_wp2
  go_ret
  exact ⟨rfl, rfl⟩

theorem cell_one (W : World) (v : Value) (t : TypeId) : (W.alloc (.cells #[v] t)).cell? ⟨W.heap.size, 0, none⟩ = some v := (blk_new W [v] t).cell 0
abbrev ids (l : List St) : List Value := l.map fun s => .int .i64 s.i
theorem not_row {W : World} {tb : Nat} {l : List Value} (hb : Blk W tb l 41) {base : Nat} {v : Value} {n : Nat} {xs : List Value} (h : W.ownsRow base 3 1 v n xs) : some tb ≠ v.ownBlock := by
  intro e
  obtain ⟨_, ⟨rfl, _⟩ | ⟨g, cap, cur, rfl, _, hg, _⟩⟩ := h
  · cases e
  · obtain rfl : tb = g := by simpa [Value.ownBlock] using e
    unfold Blk at hb
    rw [hb] at hg
    simp at hg
/-- The slice that grows, and who owns it. -/
def Iw (W : World) (tb : Nat) (O' : Nat → Prop) (q : List St) (W' : World) : Prop :=
  ∃ v, (∀ b, O' b ↔ b = tb ∨ v.ownBlock = some b) ∧ Blk W' tb [v] 41 ∧ W'.ownsRow W.heap.size 3 1 v q.length (ids q) ∧ Below W.heap.size W W'
theorem Iw.lt {W W' : World} {tb : Nat} {O' : Nat → Prop} {q : List St} (h : Iw W tb O' q W') : ∀ b, O' b → b < W'.heap.size := by
  obtain ⟨v, h1, h2, h3, _⟩ := h
  intro b hb
  rcases (h1 b).1 hb with rfl | hb
  · exact h2.lt
  · exact (h3.lt b hb).2
theorem Iw.abide {W : World} {tb B : Nat} (hB : W.heap.size ≤ B) : Abide B (Iw W tb) := by
  rintro O' q W1 W2 ⟨v, h1, h2, h3, h4⟩ k
  exact ⟨v, h1, h2.keep k (fun h => h.1 ((h1 tb).2 (.inl rfl))), owns_keep h3 (fun j hj => k.block j (h3.lt j hj).2 (fun h => h.1 ((h1 j).2 (.inr hj)))), h4.trans (k.below (by have := h4.size; omega) (fun i hi h => by omega))⟩

set_option maxHeartbeats 1000000 in
theorem numbers39 {W : World} {x : Nat} {p : Option Addr} {n f l : Int} {t : T} (hx : Blk W x [.pointer p, .int .i64 n] 58) (ht : TS W p t) (hf : least ≤ f) (hlen : (t.meets f l).length ≤ 100000) :
    Calls Try.prog 39 #[.pointer (some ⟨x, 0, none⟩), .int .i64 f, .int .i64 l] W fun e w' => ∃ v, e = .returned v ∧ w'.ownsRow W.heap.size 3 1 v (t.meets f l).length (ids (t.meets f l)) ∧ Below W.heap.size W w' := by
  have b0 := blk_new W [.slice none 0 0] 41
  have kA : Below W.heap.size W (W.alloc (.cells #[.slice none 0 0] 41)) := al _ _
  have k37 := root37 (hx.below kA)
  refine (callsIn_wide (n := 0)).1 (callsIn_of_wp_marks Try.func39 rfl trivial (wpIn_wide.2 ?_) rfl)
  simp only [Try.ntmps39, List.size_toArray, List.length_cons, List.length_nil, Nat.reduceAdd, Nat.reduceSub, Array.replicate_succ, Array.replicate_zero, List.push_toArray, List.append_toArray, List.nil_append, List.cons_append]
  change Blk (W.alloc (.cells #[.slice none 0 0] 41)) _ _ _ at b0
  have s1 : (W.alloc (.cells #[.slice none 0 0] 41)).heap.size = W.heap.size + 1 := by simp
  have HL : Hid _ := hlen
  have HT0 : Hid (PT W.heap.size W p t) := ht.tr
  clear hlen hx ht
  go_wp2_with (first
    | (go_at_call 37; (with_reducible refine k37.mono ?_); rintro e w1 ⟨rfl, rfl⟩)
    | (go_at_call 50; (with_reducible refine (meeting50 _ _ _ _).mono ?_); rintro e w1 ⟨rfl, rfl⟩))
  have hbx := bx_new p f l (W.alloc (.cells #[.slice none 0 0] 41))
  have kB : Below (W.alloc (.cells #[.slice none 0 0] 41)).heap.size (W.alloc (.cells #[.slice none 0 0] 41)) ((((W.alloc (.cells #[.slice none 0 0] 41)).alloc (.cells #[.pointer p] 56)).alloc (.cells #[.int .i64 f] 3)).alloc (.cells #[.int .i64 l] 3)) := bmore (bmore (al _ _) (al _ _)) (al _ _)
  have s2 : ((((W.alloc (.cells #[.slice none 0 0] 41)).alloc (.cells #[.pointer p] 56)).alloc (.cells #[.int .i64 f] 3)).alloc (.cells #[.int .i64 l] 3)).heap.size = W.heap.size + 4 := by simp
  rw [s1] at hbx
  obtain ⟨B, hB⟩ : ∃ B, W.heap.size + 1 = B := ⟨_, rfl⟩
  have HB : Hid _ := hB
  rw [hB] at hbx ⊢
  have b1 := b0.below kB
  have ht2 := PT.keep (O := fun _ => False) (Keep.of (bmore kA kB)) (fun _ _ => id) HT0.out
  have kW := bmore kA kB
  generalize (((W.alloc (.cells #[.slice none 0 0] 41)).alloc (.cells #[.pointer p] 56)).alloc (.cells #[.int .i64 f] 3)).alloc (.cells #[.int .i64 l] 3) = W3 at *
  have HBX : Hid _ := hbx
  have HT : Hid _ := ht2
  have HS : Hid _ := s2
  have HK : Hid _ := kW
  have Hb1 : Hid _ := b1
  clear hB s1 s2 b0 kA kB k37 ht2 hbx kW b1
  refine wpIn_wide.1 (wpIn_range (a := { tmps := #[.pointer (some ⟨x, 0, none⟩), .int .i64 f, .int .i64 l, undef, undef, undef, .slice none 0 0, .pointer (some ⟨W.heap.size, 0, none⟩), undef, .pointer (some ⟨x, 0, none⟩), .pointer p, .int .i64 f, .int .i64 l, .func (.func 56) #[] #[.pointer (some ⟨B, 0, none⟩), .pointer (some ⟨B + 1, 0, none⟩), .pointer (some ⟨B + 1 + 1, 0, none⟩)], undef, undef, undef, undef, undef, undef, undef], defers := [] }) (gf := 56) (lb := #[.pointer (some ⟨B, 0, none⟩), .pointer (some ⟨B + 1, 0, none⟩), .pointer (some ⟨B + 1 + 1, 0, none⟩)]) rfl eg56 rfl (enc := SV) (xs := t.meets f l) (G := Gm W.heap.size B)
    (fun W' k => all56 f l hf t W' p W.heap.size B (PT.keep (O := fun _ => False) (Keep.of k) (fun _ _ => id) HT.out) (by have := HB.out; omega) (Bx.keep (O := fun _ => False) HBX.out (Keep.of k) id id id)) (fun k h => by have := HB.out; have := HS.out; unfold Gm at h; omega)
    (Iw W W.heap.size) (fun _ _ _ _ => False) (fun O' q W' h => h.lt) (Iw.abide HK.out.size) (fun c => fun O' q W1 W2 h k => h)
    (fun b => b = W.heap.size) (fun k h => by have := HB.out; have := HS.out; unfold Gm; omega) ⟨.slice none 0 0, fun b => by simp [Value.ownBlock], Hb1.out, World.ownsRow_nil _ _ _ _, HK.out⟩ (fun y blk => { tmps := #[.pointer (some ⟨x, 0, none⟩), .int .i64 f, .int .i64 l, undef, undef, undef, .slice none 0 0, .pointer (some ⟨W.heap.size, 0, none⟩), .pointer (some ⟨blk, 0, none⟩), .pointer (some ⟨x, 0, none⟩), .pointer p, .int .i64 f, .int .i64 l, .func (.func 56) #[] #[.pointer (some ⟨B, 0, none⟩), .pointer (some ⟨B + 1, 0, none⟩), .pointer (some ⟨B + 1 + 1, 0, none⟩)], SV y, undef, undef, undef, undef, undef, undef], defers := [] }) csS 68 ?assign ?body ?done ?stop)
  case assign =>
    intro l' x' W' K hK
    gi_wp2
    exact hK
  case body =>
    intro l' O' pre y W' blk hI hnb hle hsz hblk hpre
    obtain ⟨v, h1, h2, h3, h4⟩ := hI
    have hbl : Blk W' blk (csS y) 68 := hblk
    have z2 := hbl.cell 2
    have zt := h2.cell 0
    have zf := h2.frozen 0
    simp only [csS, List.getElem?_cons_zero, List.getElem?_cons_succ] at z2 zt
    have hpl : pre.length ≤ 100000 := by have := hpre.length_le; have := HL.out; simp at *; omega
    have H1 : Hid _ := h1
    have H2 : Hid _ := h2
    have H3 : Hid (W'.ownsRow W.heap.size 3 1 v pre.length (ids pre)) := h3
    have H4 : Hid _ := h4
    have HP : Hid _ := hpl
    have HZ : Hid (W.heap.size ≤ W'.heap.size) := h4.size
    clear h1 h2 h3 h4 hbl hblk hpre hpl hnb hle hsz
    gi_wp2_with (gi_at_builtin; refine wpListIn_append_int rfl _ _ rfl rfl (owns_keep (W' := W'.alloc (.cells #[.int .i64 y.i] 3)) H3.out (fun k hk => Below.heap_alloc _ _ _ (World.ownsRow.lt H3.out k hk).2)) HP.out (by have := HZ.out; simp; omega) rfl (cell_one _ _ _) rfl ?_; intro v' w1 hown' hgrow hnew; obtain ⟨g', cap', rfl⟩ := ownsRow_succ hown'; have hb1 : Blk w1 W.heap.size [v] 41 := Blk.block (Blk.below H2.out (al _ (.cells #[.int .i64 y.i] 3))) (hgrow.block _ (Blk.below H2.out (al _ (.cells #[.int .i64 y.i] 3))).lt (not_row H2.out H3.out)); have hc1 := hb1.cell 0; have hf1 := hb1.frozen 0; simp only [List.getElem?_cons_zero] at hc1)
    have hbs := hb1.set (o := 0) (.slice (some ⟨g', 0, none⟩) (pre.length + 1) cap')
    have hlt := World.ownsRow.lt hown' g' rfl
    have hne : g' ≠ W.heap.size := fun e => not_row hb1 hown' (by simp [Value.ownBlock, e])
    refine ⟨fun b => b = W.heap.size ∨ b = g', ⟨.slice (some ⟨g', 0, none⟩) (pre.length + 1) cap', fun b => by simp [Value.ownBlock, eq_comm], hbs, ?_, ?_⟩, ?_, ?_⟩
    · have : W.heap.size ≤ g' := hlt.1
      rw [show (pre ++ [y]).length = pre.length + 1 by simp, show ids (pre ++ [y]) = ids pre ++ [.int .i64 y.i] by simp [ids]]
      exact owns_keep hown' (fun k hk => Below.heap_setCell _ _ _ _ (by simp [Value.ownBlock] at hk; subst hk; exact hne))
    · exact ((H4.out.alloc H4.out.size (.cells #[.int .i64 y.i] 3)).grown hgrow (by have := HZ.out; simp; omega) (fun k e => (World.ownsRow.lt H3.out k e).1)).setCell (p := ⟨W.heap.size, 0, none⟩) (Nat.le_refl _) _
    · rintro b (rfl | rfl)
      · exact .inl ((H1.out _).2 (.inl rfl))
      · exact (hnew b rfl).elim (fun h => .inl ((H1.out _).2 (.inr h))) (fun h => .inr (by simp at h; omega))
    · refine Keep.set ?_ (.inr ((H1.out _).2 (.inl rfl))) _
      have kg : Keep O' (W'.alloc (.cells #[.int .i64 y.i] 3)) w1 := ⟨hgrow.os, hgrow.tape, hgrow.output, hgrow.size, fun k hk hn => hgrow.block k hk (fun e => hn ((H1.out _).2 (.inr e.symm)))⟩
      exact (Keep.of (F := O') (al _ _)).trans kg (fun _ _ h => h)
  case stop =>
    rintro D c O' pre W' _ _ _ h
    exact h.elim
  case done =>
    rintro D O' W' hD nD ⟨v, h1, h2, h3, h4⟩ hgr hk hd
    have zt := h2.cell 0
    simp only [List.getElem?_cons_zero] at zt
    have H1 : Hid _ := h1
    have H3 : Hid (W'.ownsRow W.heap.size 3 1 v (t.meets f l).length (ids (t.meets f l))) := h3
    have H4 : Hid _ := h4
    have hnD : ∀ k, v.ownBlock = some k → k ≠ D := fun k hk e => nD ((h1 D).2 (.inr (e ▸ hk)))
    have HD : Hid _ := hD
    have Hd : Hid _ := hd
    clear h1 h2 h3 h4 hgr hk hd hD
    go_wp2
    refine leave_marks [D] _ (fun w' k => ⟨results_tmp rfl _ _ _, v, rfl, owns_keep H3.out (fun j hj => k.block j (World.ownsRow.lt H3.out j hj).2 (by simpa using hnD j hj)), H4.out.trans (k.below (by have := H4.out.size; omega) (fun i hi h => by have := HD.out; have := HS.out; simp at h; omega))⟩) (fun D' h => by simp at h; subst h; exact Hd.out) (by simp)
end Go.Proofs.Ytgglhicpfjihlaa
