/- The law IvalsForks. -/
import Derived.Test.YtgglhicpfjihlaaQf
namespace Go.Proofs.Ytgglhicpfjihlaa
open Go.RowKit Go.Shelf
set_option maxRecDepth 100000
attribute [local go_sem] Oper.semAt_some
theorem root37_nil (W : World) : Calls Try.prog 37 #[.pointer none] W fun e w' => e = .returned (.pointer none) ∧ W = w' := by
  go_enter Try.func37, Try.ntmps37
  go_wp2
  go_ret
  exact ⟨rfl, rfl⟩
set_option maxHeartbeats 1000000 in
theorem numbers_nil {W : World} {f l : Int} (hf : least ≤ f) :
    Calls Try.prog 39 #[.pointer none, .int .i64 f, .int .i64 l] W fun e w' => ∃ v, e = .returned v ∧ w'.ownsRow W.heap.size 3 1 v (T.meets .nil f l).length (ids (T.meets .nil f l)) ∧ Below W.heap.size W w' := by
  have b0 := blk_new W [.slice none 0 0] 41
  have kA : Below W.heap.size W (W.alloc (.cells #[.slice none 0 0] 41)) := al _ _
  have k37 := root37_nil (W.alloc (.cells #[.slice none 0 0] 41))
  have hlen : (T.meets .nil f l).length ≤ 100000 := by simp [T.meets]
  have ht : TS W none .nil := ⟨rfl⟩
  refine (callsIn_wide (n := 0)).1 (callsIn_of_wp_marks Try.func39 rfl trivial (wpIn_wide.2 ?_) rfl)
  simp only [Try.ntmps39, List.size_toArray, List.length_cons, List.length_nil, Nat.reduceAdd, Nat.reduceSub, Array.replicate_succ, Array.replicate_zero, List.push_toArray, List.append_toArray, List.nil_append, List.cons_append]
  change Blk (W.alloc (.cells #[.slice none 0 0] 41)) _ _ _ at b0
  have s1 : (W.alloc (.cells #[.slice none 0 0] 41)).heap.size = W.heap.size + 1 := by simp
  have HL : Hid _ := hlen
  have HT0 : Hid (PT W.heap.size W none .nil) := ht.tr
  clear hlen ht
  go_wp2_with (first
    | (go_at_call 37; (with_reducible refine k37.mono ?_); rintro e w1 ⟨rfl, rfl⟩)
    | (go_at_call 50; (with_reducible refine (meeting50 _ _ _ _).mono ?_); rintro e w1 ⟨rfl, rfl⟩))
  have hbx := bx_new none f l (W.alloc (.cells #[.slice none 0 0] 41))
  have kB : Below (W.alloc (.cells #[.slice none 0 0] 41)).heap.size (W.alloc (.cells #[.slice none 0 0] 41)) ((((W.alloc (.cells #[.slice none 0 0] 41)).alloc (.cells #[.pointer none] 56)).alloc (.cells #[.int .i64 f] 3)).alloc (.cells #[.int .i64 l] 3)) := bmore (bmore (al _ _) (al _ _)) (al _ _)
  have s2 : ((((W.alloc (.cells #[.slice none 0 0] 41)).alloc (.cells #[.pointer none] 56)).alloc (.cells #[.int .i64 f] 3)).alloc (.cells #[.int .i64 l] 3)).heap.size = W.heap.size + 4 := by simp
  rw [s1] at hbx
  obtain ⟨B, hB⟩ : ∃ B, W.heap.size + 1 = B := ⟨_, rfl⟩
  have HB : Hid _ := hB
  rw [hB] at hbx ⊢
  have b1 := b0.below kB
  have ht2 := PT.keep (O := fun _ => False) (Keep.of (bmore kA kB)) (fun _ _ => id) HT0.out
  have kW := bmore kA kB
  generalize (((W.alloc (.cells #[.slice none 0 0] 41)).alloc (.cells #[.pointer none] 56)).alloc (.cells #[.int .i64 f] 3)).alloc (.cells #[.int .i64 l] 3) = W3 at *
  have HBX : Hid _ := hbx
  have HT : Hid _ := ht2
  have HS : Hid _ := s2
  have HK : Hid _ := kW
  have Hb1 : Hid _ := b1
  clear hB s1 s2 b0 kA kB k37 ht2 hbx kW b1
  refine wpIn_wide.1 (wpIn_range (a := { tmps := #[.pointer none, .int .i64 f, .int .i64 l, undef, undef, undef, .slice none 0 0, .pointer (some ⟨W.heap.size, 0, none⟩), undef, .pointer none, .pointer none, .int .i64 f, .int .i64 l, .func (.func 56) #[] #[.pointer (some ⟨B, 0, none⟩), .pointer (some ⟨B + 1, 0, none⟩), .pointer (some ⟨B + 1 + 1, 0, none⟩)], undef, undef, undef, undef, undef, undef, undef], defers := [] }) (gf := 56) (lb := #[.pointer (some ⟨B, 0, none⟩), .pointer (some ⟨B + 1, 0, none⟩), .pointer (some ⟨B + 1 + 1, 0, none⟩)]) rfl eg56 rfl (enc := SV) (xs := T.meets .nil f l) (G := Gm W.heap.size B)
    (fun W' k => all56 f l hf .nil W' none W.heap.size B (PT.keep (O := fun _ => False) (Keep.of k) (fun _ _ => id) HT.out) (by have := HB.out; omega) (Bx.keep (O := fun _ => False) HBX.out (Keep.of k) id id id)) (fun k h => by have := HB.out; have := HS.out; unfold Gm at h; omega)
    (Iw W W.heap.size) (fun _ _ _ _ => False) (fun O' q W' h => h.lt) (Iw.abide HK.out.size) (fun c => fun O' q W1 W2 h k => h)
    (fun b => b = W.heap.size) (fun k h => by have := HB.out; have := HS.out; unfold Gm; omega) ⟨.slice none 0 0, fun b => by simp [Value.ownBlock], Hb1.out, World.ownsRow_nil _ _ _ _, HK.out⟩ (fun y blk => { tmps := #[.pointer none, .int .i64 f, .int .i64 l, undef, undef, undef, .slice none 0 0, .pointer (some ⟨W.heap.size, 0, none⟩), .pointer (some ⟨blk, 0, none⟩), .pointer none, .pointer none, .int .i64 f, .int .i64 l, .func (.func 56) #[] #[.pointer (some ⟨B, 0, none⟩), .pointer (some ⟨B + 1, 0, none⟩), .pointer (some ⟨B + 1 + 1, 0, none⟩)], SV y, undef, undef, undef, undef, undef, undef], defers := [] }) csS 68 ?assign ?body ?done ?stop)
  case assign =>
    intro l' x' W' K hK
    gi_wp2
    exact hK
  case body =>
    intro l' O' pre y W' blk hI hnb hle hsz hblk hpre
    obtain ⟨v, h1, h2, h3, h4⟩ := hI
    have hbl : Blk W' blk (csS y) 68 := hblk
    have z2 := hbl.cell 2
    have zt := h2.cell 0
    have zf := h2.frozen 0
    simp only [csS, List.getElem?_cons_zero, List.getElem?_cons_succ] at z2 zt
    have hpl : pre.length ≤ 100000 := by have := hpre.length_le; have := HL.out; simp at *; omega
    have H1 : Hid _ := h1
    have H2 : Hid _ := h2
    have H3 : Hid (W'.ownsRow W.heap.size 3 1 v pre.length (ids pre)) := h3
    have H4 : Hid _ := h4
    have HP : Hid _ := hpl
    have HZ : Hid (W.heap.size ≤ W'.heap.size) := h4.size
    clear h1 h2 h3 h4 hbl hblk hpre hpl hnb hle hsz
    gi_wp2_with (gi_at_builtin; refine wpListIn_append_int rfl _ _ rfl rfl (owns_keep (W' := W'.alloc (.cells #[.int .i64 y.i] 3)) H3.out (fun k hk => Below.heap_alloc _ _ _ (World.ownsRow.lt H3.out k hk).2)) HP.out (by have := HZ.out; simp; omega) rfl (cell_one _ _ _) rfl ?_; intro v' w1 hown' hgrow hnew; obtain ⟨g', cap', rfl⟩ := ownsRow_succ hown'; have hb1 : Blk w1 W.heap.size [v] 41 := Blk.block (Blk.below H2.out (al _ (.cells #[.int .i64 y.i] 3))) (hgrow.block _ (Blk.below H2.out (al _ (.cells #[.int .i64 y.i] 3))).lt (not_row H2.out H3.out)); have hc1 := hb1.cell 0; have hf1 := hb1.frozen 0; simp only [List.getElem?_cons_zero] at hc1)
    have hbs := hb1.set (o := 0) (.slice (some ⟨g', 0, none⟩) (pre.length + 1) cap')
    have hlt := World.ownsRow.lt hown' g' rfl
    have hne : g' ≠ W.heap.size := fun e => not_row hb1 hown' (by simp [Value.ownBlock, e])
    refine ⟨fun b => b = W.heap.size ∨ b = g', ⟨.slice (some ⟨g', 0, none⟩) (pre.length + 1) cap', fun b => by simp [Value.ownBlock, eq_comm], hbs, ?_, ?_⟩, ?_, ?_⟩
    · have : W.heap.size ≤ g' := hlt.1
      rw [show (pre ++ [y]).length = pre.length + 1 by simp, show ids (pre ++ [y]) = ids pre ++ [.int .i64 y.i] by simp [ids]]
      exact owns_keep hown' (fun k hk => Below.heap_setCell _ _ _ _ (by simp [Value.ownBlock] at hk; subst hk; exact hne))
    · exact ((H4.out.alloc H4.out.size (.cells #[.int .i64 y.i] 3)).grown hgrow (by have := HZ.out; simp; omega) (fun k e => (World.ownsRow.lt H3.out k e).1)).setCell (p := ⟨W.heap.size, 0, none⟩) (Nat.le_refl _) _
    · rintro b (rfl | rfl)
      · exact .inl ((H1.out _).2 (.inl rfl))
      · exact (hnew b rfl).elim (fun h => .inl ((H1.out _).2 (.inr h))) (fun h => .inr (by simp at h; omega))
    · refine Keep.set ?_ (.inr ((H1.out _).2 (.inl rfl))) _
      have kg : Keep O' (W'.alloc (.cells #[.int .i64 y.i] 3)) w1 := ⟨hgrow.os, hgrow.tape, hgrow.output, hgrow.size, fun k hk hn => hgrow.block k hk (fun e => hn ((H1.out _).2 (.inr e.symm)))⟩
      exact (Keep.of (F := O') (al _ _)).trans kg (fun _ _ h => h)
  case stop =>
    rintro D c O' pre W' _ _ _ h
    exact h.elim
  case done =>
    rintro D O' W' hD nD ⟨v, h1, h2, h3, h4⟩ hgr hk hd
    have zt := h2.cell 0
    simp only [List.getElem?_cons_zero] at zt
    have H1 : Hid _ := h1
    have H3 : Hid (W'.ownsRow W.heap.size 3 1 v (T.meets .nil f l).length (ids (T.meets .nil f l))) := h3
    have H4 : Hid _ := h4
    have hnD : ∀ k, v.ownBlock = some k → k ≠ D := fun k hk e => nD ((h1 D).2 (.inr (e ▸ hk)))
    have HD : Hid _ := hD
    have Hd : Hid _ := hd
    clear h1 h2 h3 h4 hgr hk hd hD
    go_wp2
    refine leave_marks [D] _ (fun w' k => ⟨results_tmp rfl _ _ _, v, rfl, owns_keep H3.out (fun j hj => k.block j (World.ownsRow.lt H3.out j hj).2 (by simpa using hnD j hj)), H4.out.trans (k.below (by have := H4.out.size; omega) (fun i hi h => by have := HD.out; have := HS.out; simp at h; omega))⟩) (fun D' h => by simp at h; subst h; exact Hd.out) (by simp)
set_option maxHeartbeats 2000000 in
theorem items_nil {W : World} : Calls Try.prog 23 #[.pointer none] W (IPost W []) := by
  have k2 : Below W.heap.size W ((W.alloc (.cells #[.slice none 0 0] 45)).alloc (.cells #[.slice none 0 0] 41)) := bmore (al _ _) (al _ _)
  have k5 : Below ((W.alloc (.cells #[.slice none 0 0] 45)).alloc (.cells #[.slice none 0 0] 41)).heap.size ((W.alloc (.cells #[.slice none 0 0] 45)).alloc (.cells #[.slice none 0 0] 41)) (((((W.alloc (.cells #[.slice none 0 0] 45)).alloc (.cells #[.slice none 0 0] 41)).alloc (.cells #[.pointer none] 56)).alloc (.cells #[.int .i64 (-9223372036854775808)] 3)).alloc (.cells #[.int .i64 9223372036854775807] 3)) := bmore (bmore (al _ _) (al _ _)) (al _ _)
  have r0 : Blk ((W.alloc (.cells #[.slice none 0 0] 45)).alloc (.cells #[.slice none 0 0] 41)) W.heap.size [.slice none 0 0] 45 := (blk_new W [.slice none 0 0] 45).below (al _ _)
  have r1 : Blk ((W.alloc (.cells #[.slice none 0 0] 45)).alloc (.cells #[.slice none 0 0] 41)) (W.heap.size + 1) [.slice none 0 0] 41 := blk_at (W.alloc (.cells #[.slice none 0 0] 45)) [.slice none 0 0] 41 (by simp)
  have s2 : ((W.alloc (.cells #[.slice none 0 0] 45)).alloc (.cells #[.slice none 0 0] 41)).heap.size = W.heap.size + 1 + 1 := by simp
  have s5 : (((((W.alloc (.cells #[.slice none 0 0] 45)).alloc (.cells #[.slice none 0 0] 41)).alloc (.cells #[.pointer none] 56)).alloc (.cells #[.int .i64 (-9223372036854775808)] 3)).alloc (.cells #[.int .i64 9223372036854775807] 3)).heap.size = W.heap.size + 5 := by simp
  have hbx := bx_new none (-9223372036854775808) 9223372036854775807 ((W.alloc (.cells #[.slice none 0 0] 45)).alloc (.cells #[.slice none 0 0] 41))
  rw [s2] at hbx
  have k37 := root37_nil ((W.alloc (.cells #[.slice none 0 0] 45)).alloc (.cells #[.slice none 0 0] 41))
  have HT : Hid (PT W.heap.size (((((W.alloc (.cells #[.slice none 0 0] 45)).alloc (.cells #[.slice none 0 0] 41)).alloc (.cells #[.pointer none] 56)).alloc (.cells #[.int .i64 (-9223372036854775808)] 3)).alloc (.cells #[.int .i64 9223372036854775807] 3)) none .nil) := PT.keep (O := fun _ => False) (Keep.of (bmore k2 k5)) (fun _ _ => id) (show PT W.heap.size W none .nil from rfl)
  have I0 : Hid (Ii W (fun b => b = W.heap.size ∨ b = W.heap.size + 1) [] (((((W.alloc (.cells #[.slice none 0 0] 45)).alloc (.cells #[.slice none 0 0] 41)).alloc (.cells #[.pointer none] 56)).alloc (.cells #[.int .i64 (-9223372036854775808)] 3)).alloc (.cells #[.int .i64 9223372036854775807] 3))) := ⟨.slice none 0 0, .slice none 0 0, fun b => by simp [Value.ownBlock], r0.below k5, r1.below k5, World.ownsRow_nil _ _ _ _, World.ownsRow_nil _ _ _ _, bmore k2 k5⟩
  have HS : Hid _ := s5
  have HK : Hid _ := bmore k2 k5
  have HBX : Hid _ := hbx
  have HL : Hid (T.meets .nil least most = [] ∧ ([] : List St).length ≤ 1000) := ⟨rfl, by simp⟩
  clear k2 k5 r0 r1 s5 hbx
  refine (callsIn_wide (n := 0)).1 (callsIn_of_wp_marks Try.func23 rfl trivial (wpIn_wide.2 ?_) rfl)
  simp only [Try.ntmps23, List.size_toArray, List.length_cons, List.length_nil, Nat.reduceAdd, Nat.reduceSub, Array.replicate_succ, Array.replicate_zero, List.push_toArray, List.append_toArray, List.nil_append, List.cons_append]
  go_wp2_with (first
    | (go_at_call 37; (with_reducible refine k37.mono ?_); rintro e w1 ⟨rfl, rfl⟩)
    | (go_at_call 40; (with_reducible refine (all40 _ _).mono ?_); rintro e w1 ⟨rfl, rfl⟩))
  clear s2 k37
  obtain ⟨B, hB⟩ : ∃ B, W.heap.size + 1 + 1 = B := ⟨_, rfl⟩
  have HB : Hid _ := hB
  rw [hB] at HBX ⊢
  clear hB
  generalize (((((W.alloc (.cells #[.slice none 0 0] 45)).alloc (.cells #[.slice none 0 0] 41)).alloc (.cells #[.pointer none] 56)).alloc (.cells #[.int .i64 (-9223372036854775808)] 3)).alloc (.cells #[.int .i64 9223372036854775807] 3)) = W9 at *
  refine wpIn_wide.1 (wpIn_range (a := { tmps := #[.pointer none, undef, .slice none 0 0, .slice none 0 0, .pointer (some ⟨W.heap.size, 0, none⟩), .pointer (some ⟨W.heap.size + 1, 0, none⟩), undef, .pointer none, .pointer none, .func (.func 56) #[] #[.pointer (some ⟨B, 0, none⟩), .pointer (some ⟨B + 1, 0, none⟩), .pointer (some ⟨B + 1 + 1, 0, none⟩)], undef, undef, undef, undef, undef, undef, undef, undef, undef, undef, undef, undef, undef], defers := [] }) (gf := 56) (lb := #[.pointer (some ⟨B, 0, none⟩), .pointer (some ⟨B + 1, 0, none⟩), .pointer (some ⟨B + 1 + 1, 0, none⟩)]) rfl eg56 rfl (enc := SV) (xs := T.meets .nil least most) (G := Gm W.heap.size B)
    (fun W' k => all56 least most (Int.le_refl _) .nil W' none W.heap.size B (PT.keep (O := fun _ => False) (Keep.of k) (fun _ _ => id) HT.out) (by have := HB.out; omega) (Bx.keep (O := fun _ => False) HBX.out (Keep.of k) id id id)) (fun k h => by have := HB.out; have := HS.out; unfold Gm at h; omega)
    (Ii W) (fun _ _ _ _ => False) (fun O' q W' h => h.lt) (Ii.abide HK.out.size) (fun c => fun O' q W1 W2 h k => h)
    (fun b => b = W.heap.size ∨ b = W.heap.size + 1) (fun k h => by have := HB.out; have := HS.out; unfold Gm; omega) I0.out (fun y blk => { tmps := #[.pointer none, undef, .slice none 0 0, .slice none 0 0, .pointer (some ⟨W.heap.size, 0, none⟩), .pointer (some ⟨W.heap.size + 1, 0, none⟩), .pointer (some ⟨blk, 0, none⟩), .pointer none, .pointer none, .func (.func 56) #[] #[.pointer (some ⟨B, 0, none⟩), .pointer (some ⟨B + 1, 0, none⟩), .pointer (some ⟨B + 1 + 1, 0, none⟩)], SV y, undef, undef, undef, undef, undef, undef, undef, undef, undef, undef, undef, undef], defers := [] }) csS 68 ?assign ?body ?done ?stop)
  case assign =>
    intro l' x' W' K hK
    gi_wp2
    exact hK
  case stop =>
    rintro D c O' pre W' _ _ _ h
    exact h.elim
  case body =>
    intro l' O' pre y W' blk hI hnb hle hsz hblk hpre
    obtain ⟨va, vb, h1, h2, h3, hG⟩ := hI
    have hbl : Blk W' blk (csS y) 68 := hblk
    have z0 := hbl.cell 0
    have z1 := hbl.cell 1
    have z2 := hbl.cell 2
    have zt := h2.cell 0
    have zf := h2.frozen 0
    simp only [csS, List.getElem?_cons_zero, List.getElem?_cons_succ] at z0 z1 z2 zt
    have hpl : pre.length ≤ 1000 := by have h := hpre.length_le; simp [T.meets] at h
    have hb1 : blk ≠ W.heap.size := fun e => hnb ((h1 _).2 (.inl e))
    have hb2 : blk ≠ W.heap.size + 1 := fun e => hnb ((h1 _).2 (.inr (.inl e)))
    have H1 : Hid _ := h1
    have H2 : Hid _ := h2
    have H3 : Hid _ := h3
    have HG : Hid _ := hG
    have HP : Hid _ := hpl
    have HBL : Hid _ := hbl
    have Hbb : Hid (blk ≠ W.heap.size ∧ blk ≠ W.heap.size + 1) := ⟨hb1, hb2⟩
    clear h1 h2 h3 hG hbl hblk hpre hpl hnb hle hsz hb1 hb2
    gi_wp2_with (first
      | (gi_at_builtin; refine wpListIn_append_ex rfl (.tmp 11) (.tmp 14) 45 rfl _ _ rfl rfl (HG.out.appA' HP.out y _ _) ?_; intro v1 w1 A1; obtain ⟨g1, cap1, rfl⟩ := slice_of A1.a; have hq1 : Blk w1 W.heap.size [va] 45 := Blk.keep H2.out A1.kp (not_row' H2.out HG.out.a (by decide)); have hc1 := hq1.cell 0; have hf1 := hq1.frozen 0; have hq2 : Blk w1 (W.heap.size + 1) [vb] 41 := Blk.keep H3.out A1.kp (not_row' H3.out HG.out.a (by decide)); have hc2 := hq2.cell 0; have hz2 := (Blk.keep HBL.out A1.kp (not_row' HBL.out HG.out.a (by decide))).cell 2; simp only [csS, List.getElem?_cons_zero, List.getElem?_cons_succ] at hc1 hc2 hz2; have HA1 : Hid _ := A1; have HQ1 : Hid _ := hq1; have HQ2 : Hid _ := hq2; have HSa : Hid ((w1.setCell ⟨W.heap.size, 0, none⟩ (.slice (some ⟨g1, 0, none⟩) (pre.length + 1) cap1)).ownsRow W.heap.size 24 2 (.slice (some ⟨g1, 0, none⟩) (pre.length + 1) cap1) (pre.length + 1) (cells2 (pre ++ [y]))) := owns_keep' A1.a (fun j hj => Below.heap_setCell _ _ _ _ (fun e => not_row' hq1 A1.a (by decide) (by rw [hj]; simp only [Option.some.injEq]; exact e))); have HSb : Hid ((w1.setCell ⟨W.heap.size, 0, none⟩ (.slice (some ⟨g1, 0, none⟩) (pre.length + 1) cap1)).ownsRow W.heap.size 3 1 vb pre.length (ids pre)) := owns_keep' A1.b (fun j hj => Below.heap_setCell _ _ _ _ (fun e => not_row' hq1 A1.b (by decide) (by rw [hj]; simp only [Option.some.injEq]; exact e))); have HSk : Hid (Below W.heap.size W (w1.setCell ⟨W.heap.size, 0, none⟩ (.slice (some ⟨g1, 0, none⟩) (pre.length + 1) cap1))) := A1.k.setCell (p := ⟨W.heap.size, 0, none⟩) (Nat.le_refl _) _; clear A1 hq1 hq2)
      | (gi_at_builtin; refine wpListIn_append_ex rfl (.tmp 16) (.tmp 19) 41 rfl _ _ rfl rfl (Gr.appB' HSa.out HSb.out HSk.out HP.out y 41 1 (H := w1.heap.size) (by simp)) ?_; intro v2 w2 A2; obtain ⟨g2, cap2, rfl⟩ := slice_of A2.b; have hq3 : Blk w2 (W.heap.size + 1) [vb] 41 := Blk.keep (Blk.keep HQ2.out (Keep.set (F := fun k => k = W.heap.size) (Keep.refl _ w1) (p := ⟨W.heap.size, 0, none⟩) (.inr rfl) (.slice (some ⟨g1, 0, none⟩) (pre.length + 1) cap1)) (by omega)) A2.kp (not_row' (Blk.keep HQ2.out (Keep.set (F := fun k => k = W.heap.size) (Keep.refl _ w1) (p := ⟨W.heap.size, 0, none⟩) (.inr rfl) (.slice (some ⟨g1, 0, none⟩) (pre.length + 1) cap1)) (by omega)) HSb.out (by decide)); have hc3 := hq3.cell 0; have hf3 := hq3.frozen 0; simp only [List.getElem?_cons_zero] at hc3; have HA2 : Hid _ := A2; have HQ3 : Hid _ := hq3; clear A2 hq3))
    have A1 := HA1.out
    have A2 := HA2.out
    have hq1 := Blk.set (o := 0) HQ1.out (.slice (some ⟨g1, 0, none⟩) (pre.length + 1) cap1)
    have hq2 : Blk w2 W.heap.size [(.slice (some ⟨g1, 0, none⟩) (pre.length + 1) cap1)] 45 := Blk.keep hq1 A2.kp (not_row' hq1 HSb.out (by decide))
    have hne : W.heap.size ≠ W.heap.size + 1 := by omega
    refine ⟨fun b => b = W.heap.size ∨ b = W.heap.size + 1 ∨ Value.ownBlock (.slice (some ⟨g1, 0, none⟩) (pre.length + 1) cap1) = some b ∨ Value.ownBlock (.slice (some ⟨g2, 0, none⟩) (pre.length + 1) cap2) = some b, ⟨(.slice (some ⟨g1, 0, none⟩) (pre.length + 1) cap1), (.slice (some ⟨g2, 0, none⟩) (pre.length + 1) cap2), fun b => Iff.rfl, Blk.keep hq2 (Keep.set (F := fun k => k = W.heap.size + 1) (Keep.refl _ w2) (p := ⟨W.heap.size + 1, 0, none⟩) (.inr rfl) (.slice (some ⟨g2, 0, none⟩) (pre.length + 1) cap2)) hne, Blk.set (o := 0) HQ3.out (.slice (some ⟨g2, 0, none⟩) (pre.length + 1) cap2), ?_, ?_, ?_⟩, ?_, ?_⟩
    · rw [List.length_append]
      exact owns_keep' A2.a (fun j hj => Below.heap_setCell _ _ _ _ (fun e => not_row' HQ3.out A2.a (by decide) (by rw [hj]; simp only [Option.some.injEq]; exact e)))
    · rw [List.length_append]
      exact owns_keep' A2.b (fun j hj => Below.heap_setCell _ _ _ _ (fun e => not_row' HQ3.out A2.b (by decide) (by rw [hj]; simp only [Option.some.injEq]; exact e)))
    · exact A2.k.setCell (p := ⟨W.heap.size + 1, 0, none⟩) (by simp) _
    · rintro b (rfl | rfl | h | h)
      · exact .inl ((H1.out _).2 (.inl rfl))
      · exact .inl ((H1.out _).2 (.inr (.inl rfl)))
      · exact (A1.nw b h).elim (fun h => .inl ((H1.out _).2 (.inr (.inr (.inl h))))) .inr
      · refine (A2.nw b h).elim (fun h => .inl ((H1.out _).2 (.inr (.inr (.inr h))))) (fun h => .inr ?_)
        have := A1.kp.size
        simp at h
        omega
    · have q1 : Keep O' W' w1 := A1.kp.mono (fun b _ h => (H1.out b).2 (.inr (.inr (.inl h))))
      have q2 : Keep O' W' (w1.setCell ⟨W.heap.size, 0, none⟩ (.slice (some ⟨g1, 0, none⟩) (pre.length + 1) cap1)) := q1.set (.inr ((H1.out _).2 (.inl rfl))) _
      have q3 : Keep O' W' w2 := q2.trans (A2.kp.mono (G := O') (fun b _ h => (H1.out b).2 (.inr (.inr (.inr h))))) (fun _ _ h => h)
      exact q3.set (.inr ((H1.out _).2 (.inr (.inl rfl)))) _
  case done =>
    rintro D O' W' hD nD ⟨va, vb, h1, h2, h3, hG⟩ hgr hk hd
    have z0 := h2.cell 0
    have z1 := h3.cell 0
    simp only [List.getElem?_cons_zero] at z0 z1
    have HG : Hid _ := hG
    rw [HL.out.1] at HG
    have hnA : ∀ k, va.ownBlock = some k → k ≠ D := fun k hk e => nD ((h1 D).2 (.inr (.inr (.inl (e ▸ hk)))))
    have hnB : ∀ k, vb.ownBlock = some k → k ≠ D := fun k hk e => nD ((h1 D).2 (.inr (.inr (.inr (e ▸ hk)))))
    have HD : Hid _ := hD
    have Hd : Hid _ := hd
    clear h1 h2 h3 hG hgr hk hd hD
    go_wp2_with fail
    go_big_quiet (fail)
    go_wp2_with fail
    have G := HG.out
    have GK : Below W.heap.size W (W'.drewN nq) := bmore G.k ⟨rfl, rfl, rfl, Nat.le_refl _, fun _ _ => rfl⟩
    refine leave_marks [D] _ (fun w' k => ⟨results_tmp2 rfl _ _ _, va, vb, rfl, SP.of_owns (owns_keep' G.a (fun j hj => k.block j (G.a.lt j hj).2 (by simpa using hnA j hj))), IR.of_owns (owns_keep' G.b (fun j hj => k.block j (G.b.lt j hj).2 (by simpa using hnB j hj))), GK.trans (k.below GK.size (fun i hi h => by have := HD.out; have := HS.out; simp at h; omega))⟩) (fun D' h => by simp at h; subst h; exact Hd.out) (by simp)
theorem nearest_nil {W : World} : Calls Try.prog 24 #[.pointer none, .int .i64 0] W fun e w' => e = .returned (.tuple #[.agg #[.int .i64 0, .int .i64 0], .bool false]) ∧ Below W.heap.size W w' := by
  have hA := al W (.cells #[.int .i64 0, .int .i64 0] 24)
  have b0 := blk_new W [.int .i64 0, .int .i64 0] 24
  change Blk (W.alloc (.cells #[.int .i64 0, .int .i64 0] 24)) _ _ _ at b0
  have e0 := b0.cell 0
  have e1 := b0.cell 1
  have f0 := b0.frozen 0
  have f1 := b0.frozen 1
  simp only [List.getElem?_cons_zero, List.getElem?_cons_succ] at e0 e1
  have HA : Hid _ := hA
  have Hb0 : Hid _ := b0
  clear hA b0
  go_enter Try.func24, Try.ntmps24
  go_wp2_with (go_at_call 37; (with_reducible refine (root37_nil _).mono ?_); rintro e w1 ⟨rfl, rfl⟩)
  generalize W.alloc (.cells #[.int .i64 0, .int .i64 0] 24) = W0 at *
  go_loopw [6, 7] (fun fn fp wr => fn = .pointer none ∧ fp = .pointer none ∧ Hid (wr = W0)) (fun _ _ _ => 0)
  case atStart => exact ⟨rfl, rfl, rfl⟩
  case round =>
    obtain ⟨rfl, rfl, hw⟩ := hrel
    obtain rfl := hw.out
    go_wp2
    refine bodyPost_ret (results_span (b := W.heap.size) rfl rfl rfl (set_two Hb0.out)) rfl ?_
    exact ⟨rfl, below_two HA.out (Nat.le_refl _) _ _⟩
theorem stab_nil {W : World} : Calls Try.prog 19 #[.pointer none, .int .i64 0] W fun e w' => ∃ a c, e = .returned (.slice a 0 c) ∧ Below W.heap.size W w' := by
  have k1 := numbers_nil (W := W) (f := 0) (l := 0) (by decide)
  go_enter Try.func19, Try.ntmps19
  go_wp2_with (go_at_call 39; (with_reducible refine k1.mono ?_); rintro e w1 ⟨v, rfl, hv, B1⟩)
  go_ret
  obtain ⟨a, c, rfl, _⟩ := IR.of_owns (L := []) hv
  exact ⟨a, c, rfl, B1⟩
theorem over_nil {W : World} {f to : Int} (hf : least ≤ f) (hto : to ≤ most) : Calls Try.prog 20 #[.pointer none, .agg #[.int .i64 f, .int .i64 to]] W fun e w' => ∃ a c, e = .returned (.slice a 0 c) ∧ Below W.heap.size W w' := by
  have hA := al W (.cells #[.int .i64 f, .int .i64 to] 24)
  have b0 := blk_new W [.int .i64 f, .int .i64 to] 24
  change Blk (W.alloc (.cells #[.int .i64 f, .int .i64 to] 24)) _ _ _ at b0
  have c0 := b0.cell 0
  have c1 := b0.cell 1
  simp only [List.getElem?_cons_zero, List.getElem?_cons_succ] at c0 c1
  have HA : Hid _ := hA
  by_cases hft : f < to
  · have hw : wrap64 (to - 1) = to - 1 := IntWalk.wrap64_in _ (by unfold least most at *; omega)
    have hge : ¬ f ≥ to := by omega
    have k1 := numbers_nil (W := W.alloc (.cells #[.int .i64 f, .int .i64 to] 24)) (f := f) (l := to - 1) hf
    clear b0 hA
    go_enter Try.func20, Try.ntmps20
    go_wp2_with (go_at_call 39; (with_reducible refine k1.mono ?_); rintro e w1 ⟨v, rfl, hv, B1⟩)
    go_ret
    obtain ⟨a, c, rfl, _⟩ := IR.of_owns (L := []) hv
    exact ⟨a, c, rfl, bmore HA.out B1⟩
  · have hge : f ≥ to := by omega
    clear b0 hA
    go_enter Try.func20, Try.ntmps20
    go_wp2
    go_ret
    exact ⟨⟨none, 0, rfl⟩, HA.out⟩
theorem add_nil {W : World} (f t i : Int) : Calls Try.prog 25 #[.pointer none, .agg #[.int .i64 f, .int .i64 t], .int .i64 i] W fun e w' => e = .returned (.int .i64 1) ∧ Below W.heap.size W w' := by
  go_enter Try.func25, Try.ntmps25
  go_wp2
  go_ret
  exact ⟨rfl, al _ _⟩
set_option maxHeartbeats 1000000 in
theorem rem_nil' {W : World} (s : St) : Calls Try.prog 26 #[.pointer none, .agg #[.int .i64 s.f, .int .i64 s.t], .int .i64 s.i] W fun e w' => e = .returned (.bool false) ∧ Below W.heap.size W w' := by
  have k2 : Below W.heap.size W ((W.alloc (.cells #[.int .i64 s.f, .int .i64 s.t] 24)).alloc (.cells #[.int .i64 s.f, .int .i64 s.t, .int .i64 s.i] 68)) := bmore (al _ _) (al _ _)
  have b2 := blk_at (W.alloc (.cells #[.int .i64 s.f, .int .i64 s.t] 24)) [.int .i64 s.f, .int .i64 s.t, .int .i64 s.i] 68 (g := W.heap.size + 1) (by simp)
  change Blk ((W.alloc (.cells #[.int .i64 s.f, .int .i64 s.t] 24)).alloc (.cells #[.int .i64 s.f, .int .i64 s.t, .int .i64 s.i] 68)) _ _ _ at b2
  go_enter Try.func26, Try.ntmps26
  go_wp2_with fail
  generalize (W.alloc (.cells #[.int .i64 s.f, .int .i64 s.t] 24)).alloc (.cells #[.int .i64 s.f, .int .i64 s.t, .int .i64 s.i] 68) = W2 at *
  have K0 : Below W2.heap.size W2 W2.drew := (Below.refl _ _).drew
  have k37 := root37_nil W2.drew
  have k41 := has41 (W := W2.drew) (p := none) (t := .nil) s ⟨rfl⟩
  rw [show T.has .nil s = false from rfl] at k41
  have HB : Hid _ := b2
  have HK : Hid _ := k2
  have HF : Hid (∀ W', Below W2.heap.size W2 W' → W'.cell? ⟨W.heap.size + 1, 0, none⟩ = some (.int .i64 s.f) ∧ W'.cell? ⟨W.heap.size + 1, 1, none⟩ = some (.int .i64 s.t) ∧ W'.cell? ⟨W.heap.size + 1, 2, none⟩ = some (.int .i64 s.i)) := fun W' k => ⟨(b2.below k).cell 0, (b2.below k).cell 1, (b2.below k).cell 2⟩
  have hS0 := HF.out _ K0
  clear b2 k2
  go_region_held3 (fun W' => W'.cell? ⟨W.heap.size + 1, 0, none⟩ = some (.int .i64 s.f) ∧ W'.cell? ⟨W.heap.size + 1, 1, none⟩ = some (.int .i64 s.t) ∧ W'.cell? ⟨W.heap.size + 1, 2, none⟩ = some (.int .i64 s.i)) (first | exact hS0 | exact HF.out _ K1) (first
    | (go_at_call 37; (with_reducible refine k37.mono ?_); rintro e w0 ⟨rfl, rfl⟩)
    | (go_at_call 41; (with_reducible refine k41.mono ?_); rintro e w1 ⟨rfl, B1⟩; have K1 := bmore K0 B1))
  all_goals (
    clear hS0
    go_wp2_with fail
    go_ret
    exact ⟨rfl, bmore HK.out K1⟩)

theorem rem_nil {W : World} (f t i : Int) : Calls Try.prog 26 #[.pointer none, .agg #[.int .i64 f, .int .i64 t], .int .i64 i] W fun e w' => e = .returned (.bool false) ∧ Below W.heap.size W w' := rem_nil' ⟨f, t, i⟩
theorem len_nil {W : World} : Calls Try.prog 16 #[.pointer none] W fun e w' => e = .returned (.int .i64 0) ∧ W = w' := by
  go_enter Try.func16, Try.ntmps16
  go_wp2
  go_ret
  exact ⟨rfl, rfl⟩
theorem tall_nil {W : World} : Calls Try.prog 38 #[.pointer none] W fun e w' => e = .returned (.int .i64 0) ∧ W = w' := by
  go_enter Try.func38, Try.ntmps38
  go_wp2
  go_ret
  exact ⟨rfl, rfl⟩
theorem height_nil {W : World} : Calls Try.prog 15 #[.pointer none] W fun e w' => e = .returned (.int .i64 0) ∧ W = w' := by
  go_enter Try.func15, Try.ntmps15
  go_wp2_with (first
    | (go_at_call 37; (with_reducible refine (root37_nil _).mono ?_); rintro e w1 ⟨rfl, rfl⟩)
    | (go_at_call 38; (with_reducible refine tall_nil.mono ?_); rintro e w1 ⟨rfl, rfl⟩))
  go_ret
  exact ⟨rfl, rfl⟩
theorem sound_nil {W : World} : Calls Try.prog 14 #[.pointer none] W fun e w' => e = .returned (.bool false) ∧ W = w' := by
  go_enter Try.func14, Try.ntmps14
  go_wp2
  go_ret
  exact ⟨rfl, rfl⟩
theorem fork_nil {W : World} : Calls Try.prog 21 #[.pointer none] W fun e w' => e = .returned (.pointer none) ∧ W = w' := by
  go_enter Try.func21, Try.ntmps21
  go_wp2
  go_ret
  exact ⟨rfl, rfl⟩
/-- Another pair does not touch this one. -/
theorem Two.keep {W W' : World} {B B' x r x' r' : Nat} {t t' : T} (h : Two W B x r t) (h' : Two W B' x' r' t') (hx : x ≠ x') (hr : r ≠ r') (k : Keep (fun k => k = x' ∨ k = r') W W') : Two W' B x r t := by
  obtain ⟨q', iq'⟩ := h'.iv
  obtain ⟨a', c', ir'⟩ := h'.ri
  have hb1 := iq'.blk
  have hb2 := ir'.blk
  have ne1 : ∀ {b : Nat} {l : List Value} {ty : TypeId}, Blk W b l ty → ty ≠ 58 → ty ≠ 61 → ¬ (b = x' ∨ b = r') := fun hb n1 n2 e => by
    rcases e with rfl | rfl
    · unfold Blk at hb hb1; rw [hb] at hb1; simp at hb1; exact n1 hb1.2
    · unfold Blk at hb hb2; rw [hb] at hb2; simp at hb2; exact n2 hb2.2
  have pk : ∀ {n : Nat} {u : T} {p : Option Addr}, PT n W p u → PT n W' p u := fun {n u p} hu => by
    induction u generalizing p with
    | nil => exact hu
    | node l s r ihl ihr =>
      obtain ⟨b, pl, pr, hp, hb, h0, hl, hr⟩ := hu
      exact ⟨b, pl, pr, hp, hb, h0.keep k (ne1 h0 (by decide) (by decide)), ihl hl, ihr hr⟩
  obtain ⟨q, iq⟩ := h.iv
  obtain ⟨a, c, ir⟩ := h.ri
  refine ⟨⟨q, iq.blk.keep k (fun e => ?_), ⟨(pk iq.ts.tr).mono k.size⟩⟩, ⟨a, c, ir.blk.keep k (fun e => ?_), ?_, ir.cap⟩, h.inv, h.bx, h.br⟩
  · rcases e with e | e
    · exact hx e
    · have := iq.blk; rw [e] at this; unfold Blk at this hb2; rw [this] at hb2; simp at hb2
  · rcases e with e | e
    · have := ir.blk; rw [e] at this; unfold Blk at this hb1; rw [this] at hb1; simp at hb1
    · exact hr e
  · obtain ⟨a2, c2, hv, hc⟩ := ir.lv
    refine ⟨a2, c2, hv, fun h0 => ?_⟩
    obtain ⟨g, o, rfl, hg, hce⟩ := hc h0
    have hne : ¬ (g = x' ∨ g = r') := by
      obtain ⟨s, hs⟩ : ∃ s, t.inord[0]? = some s := ⟨_, List.getElem?_eq_getElem h0⟩
      have h2 := (hce 0 s hs).2.2
      rintro (rfl | rfl)
      · rw [hb1.cell, Nat.zero_mul, Nat.add_zero, List.getElem?_eq_none (by simp)] at h2; cases h2
      · rw [hb2.cell, Nat.zero_mul, Nat.add_zero, List.getElem?_eq_none (by simp)] at h2; cases h2
    exact ⟨g, o, rfl, Nat.lt_of_lt_of_le hg k.size, fun i s hs => ⟨(k.cell hg hne).trans (hce i s hs).1, (k.cell hg hne).trans (hce i s hs).2.1, (k.cell hg hne).trans (hce i s hs).2.2⟩⟩
set_option maxHeartbeats 4000000 in
theorem forks6 {W : World} {v v' : Value} {xs ys : List (Int × St)} {f to : Int} (hv : DRow W v xs) (hb : LoB xs) (hv' : DRow W v' ys) (hb' : LoB ys) (hf : least ≤ f ∧ f ≤ most) (ht : least ≤ to ∧ to ≤ most) : Calls Try.prog 6 #[v, v', .agg #[.int .i64 f, .int .i64 to]] W fun e w' => e = .returned (.bool true) ∧ Below W.heap.size W w' := by
  have hA := al W (.cells #[.int .i64 f, .int .i64 to] 24)
  have b0 := blk_new W [.int .i64 f, .int .i64 to] 24
  change Blk (W.alloc (.cells #[.int .i64 f, .int .i64 to] 24)) _ _ _ at b0
  obtain ⟨a, c, rfl⟩ := hv'.form
  obtain ⟨N, hN⟩ : ∃ N, ys.length = N := ⟨_, rfl⟩
  have HN : Hid (ys.length = N) := hN
  have k8 := play8 (hv.below hA) hb
  have HV : Hid (∀ w', Below (W.alloc (.cells #[.int .i64 f, .int .i64 to] 24)).heap.size (W.alloc (.cells #[.int .i64 f, .int .i64 to] 24)) w' → DRow w' (.slice a ys.length c) ys) := fun w' k => hv'.below (bmore hA k)
  have HC : Hid (∀ w', Below (W.alloc (.cells #[.int .i64 f, .int .i64 to] 24)).heap.size (W.alloc (.cells #[.int .i64 f, .int .i64 to] 24)) w' → w'.cell? ⟨W.heap.size, 0, none⟩ = some (.int .i64 f) ∧ w'.cell? ⟨W.heap.size, 1, none⟩ = some (.int .i64 to)) := fun w' k => ⟨(b0.below k).cell 0, (b0.below k).cell 1⟩
  have HA : Hid _ := hA
  have HB : Hid _ := hb'
  have HF : Hid _ := hf
  have HTo : Hid _ := ht
  rw [hN]
  clear hv hb hv' hb' b0 hA hf ht hN
  go_enter Try.func6, Try.ntmps6
  go_wp2_with fail
  generalize W.alloc (.cells #[.int .i64 f, .int .i64 to] 24) = W1 at *
  go_wp2_with (first
    | (go_at_call 8; (with_reducible refine k8.mono ?_); rintro e w1 ⟨x, r, t, rfl, HT, HZ, B1⟩)
    | (go_at_call 9; (with_reducible refine (live9 _).mono ?_); rintro e w2 ⟨rfl, B2⟩; obtain ⟨q, iq⟩ := (Two.below HT.out B2).iv; obtain ⟨a1, c1, ir⟩ := (Two.below HT.out B2).ri; have Hiq : Hid (IV w2 x q t) := iq; have Hir : Hid (RI w2 r a1 c1 t.inord) := ir; have HLen : Hid (t.inord.length ≤ 1000) := (by have := HT.out.inv.sz; show _ ≤ _; rw [T.inord_length]; omega); clear iq ir)
    | (go_at_call 21; (with_reducible refine (fork21 Hiq.out).mono ?_); rintro e w3 ⟨x', rfl, hx', hI', B3⟩; have HI' : Hid (IV w3 x' q t) := hI'; have HX' : Hid (w2.heap.size ≤ x') := hx'; clear hI' hx')
    | (go_at_call 22; (with_reducible refine (rfork22 (RI.below Hir.out B3) HLen.out).mono ?_); rintro e w4 ⟨r', a4, c4, rfl, hr', HR', B4⟩; have HRr : Hid (w3.heap.size ≤ r') := hr'; clear hr'))
  have HT4 : Hid (Two w4 W1.heap.size x r t) := Two.below HT.out (bmore B2 (bmore B3 B4))
  have HxLt : Hid (x < w2.heap.size ∧ r < w2.heap.size) := ⟨Hiq.out.blk.lt, Hir.out.blk.lt⟩
  have hW1 : W1.heap.size ≤ w2.heap.size := (bmore B1 B2).size
  have HT4' : Hid (Two w4 w2.heap.size x' r' t) := ⟨⟨q, HI'.out.below B4⟩, ⟨a4, c4, HR'.out⟩, HT.out.inv, HX'.out, by have := HRr.out; have := B3.size; omega⟩
  have HK4 : Hid (Below w2.heap.size w2 w4) := bmore B3 B4
  have HK14 : Hid (Below W1.heap.size W1 w4) := bmore (bmore B1 B2) (bmore B3 B4)
  have HZ2 : Hid (t.size ≤ 100) := HZ.out
  clear HT Hiq Hir HI' HR' B3 B4 k8 HLen HZ
  go_loopw [12] (fun fi wr => ∃ (k : Nat) (t' : T), fi = .int .i64 (k : Int) ∧ Hid (k ≤ N ∧ k ≤ 20) ∧ Hid (Two wr W1.heap.size x r t) ∧ Hid (Two wr w2.heap.size x' r' t' ∧ t'.size ≤ 100 + k) ∧ Hid (Below W1.heap.size W1 wr)) (fun fi _ => (20 - intOf fi).toNat)
  case atStart => exact ⟨0, t, rfl, ⟨Nat.zero_le _, by omega⟩, HT4.out, ⟨HT4'.out, by have := HZ2.out; omega⟩, HK14.out⟩
  case round =>
    obtain ⟨k, t', rfl, hk, hT, hT', hB⟩ := hrel
    by_cases hcont : k < N ∧ k < 20
    · obtain ⟨hkN, hk20⟩ := hcont
      have hkNi : (k : Int) < (N : Int) := by omega
      have hki : (k : Int) < 20 := by omega
      have hk0 : (0 : Int) ≤ (k : Int) := by omega
      obtain ⟨y, hy⟩ : ∃ y, ys[k]? = some y := ⟨_, List.getElem?_eq_getElem (by rw [HN.out]; exact hkN)⟩
      have hlo := HB.out y (List.mem_of_getElem? hy)
      obtain ⟨b, off, rfl, d0, d1, d2, d3⟩ := (HV.out _ hB.out).at hy
      have k13 := do13 hT'.out.1 (by have := hT'.out.2; omega) y.1 y.2 hlo
      have HNe : Hid (x ≠ x' ∧ r ≠ r') := ⟨by have := HxLt.out; have := hT'.out.1.bx; omega, by have := HxLt.out; have := hT'.out.1.br; omega⟩
      clear hlo hy
      go_wp2_with (go_at_call 13; (with_reducible refine k13.mono ?_); rintro e w5 ⟨rfl, ⟨t2, hT2, hz2⟩, hK2⟩; have HT2 : Hid (Two w5 w2.heap.size x' r' t2) := hT2; have HZ3 : Hid (t2.size ≤ t'.size + 1) := hz2; have HK2 : Hid (Keep (fun k => k = x' ∨ k = r') wr w5) := hK2; clear hT2 hz2 hK2)
      go_roundw
      case rel => exact ⟨k + 1, t2, by simp, ⟨by omega, by omega⟩, hT.out.keep hT'.out.1 HNe.out.1 HNe.out.2 HK2.out, ⟨HT2.out, by have := HZ3.out; have := hT'.out.2; omega⟩, hB.out.trans (Keep.below HK2.out hB.out.size (fun i hi e => by have := hT'.out.1.bx; have := hT'.out.1.br; rcases e with e | e <;> omega))⟩
      case measure => simp only [intOf]; omega
    · have HTT : Hid (∀ w', Below wr.heap.size wr w' → Two w' W1.heap.size x r t ∧ Two w' w2.heap.size x' r' t' ∧ w'.cell? ⟨W.heap.size, 0, none⟩ = some (.int .i64 f) ∧ w'.cell? ⟨W.heap.size, 1, none⟩ = some (.int .i64 to)) := fun w' kk => ⟨hT.out.below kk, hT'.out.1.below kk, HC.out _ (bmore hB.out kk)⟩
      obtain ⟨q', iq'⟩ := hT'.out.1.iv
      have HIQ : Hid (∀ w', Below wr.heap.size wr w' → IV w' x' q' t') := fun w' kk => iq'.below kk
      have HInv' : Hid (Inv t') := hT'.out.1.inv
      have HWr : Hid (Below W.heap.size W wr) := bmore HA.out hB.out
      have hex : (¬ (k : Int) < (N : Int)) ∨ ((k : Int) < (N : Int) ∧ ¬ (k : Int) < 20) := by omega
      clear hT hT' hB HT4 HT4' HK4 HK14 iq' hcont HC HV hk
      rcases hex with hex | ⟨hex, hex2⟩
      all_goals (
        go_wp2_with (first
          | (go_at_call 23; (with_reducible refine items_nil.mono ?_); rintro e w5 ⟨va, vb, rfl, ⟨ea, eca, rfl, _⟩, ⟨eb, ecb, rfl, _⟩, B5⟩)
          | (go_at_call 24; (with_reducible refine nearest_nil.mono ?_); rintro e w6 ⟨rfl, B6⟩; have L6 := bmore (bmore B5 B6) (al w6 (.cells #[.int .i64 0, .int .i64 0] 24)); obtain ⟨HT6, _, s0, s1⟩ := HTT.out _ L6)
          | (go_at_call 10; (with_reducible refine (same10 HT6 HF.out HTo.out).mono ?_); rintro e w7 ⟨rfl, B7⟩; have L7 := bmore L6 B7; clear s0 s1; obtain ⟨_, HT7, s0, s1⟩ := HTT.out _ L7)
          | (go_at_call 10; (with_reducible refine (same10 HT7 HF.out HTo.out).mono ?_); rintro e w8 ⟨rfl, B8⟩; have L8 := bmore L7 B8)
          | (go_at_call 14; (with_reducible refine (sound14 (HIQ.out _ L8) HInv'.out).mono ?_); rintro e w9 ⟨rfl, B9⟩; have L9 := bmore L8 B9; clear s0 s1; obtain ⟨_, _, s0, s1⟩ := HTT.out _ L9)
          | (go_at_call 25; (with_reducible refine (add_nil _ _ _).mono ?_); rintro e w10 ⟨rfl, B10⟩; have L10 := bmore L9 B10; clear s0 s1; obtain ⟨_, _, s0, s1⟩ := HTT.out _ L10)
          | (go_at_call 26; (with_reducible refine (rem_nil _ _ _).mono ?_); rintro e w11 ⟨rfl, B11⟩; have L11 := bmore L10 B11)
          | (go_at_call 19; (with_reducible refine stab_nil.mono ?_); rintro e w12 ⟨e12, f12, rfl, B12⟩; have L12 := bmore L11 B12; clear s0 s1; obtain ⟨_, _, s0, s1⟩ := HTT.out _ L12)
          | (go_at_call 20; (with_reducible refine (over_nil HF.out.1 HTo.out.2).mono ?_); rintro e w13 ⟨e13, f13, rfl, B13⟩; have L13 := bmore L12 B13)
          | (go_at_call 16; (with_reducible refine len_nil.mono ?_); rintro e w14 ⟨rfl, rfl⟩)
          | (go_at_call 15; (with_reducible refine height_nil.mono ?_); rintro e w14 ⟨rfl, rfl⟩)
          | (go_at_call 14; (with_reducible refine sound_nil.mono ?_); rintro e w14 ⟨rfl, rfl⟩)
          | (go_at_call 21; (with_reducible refine fork_nil.mono ?_); rintro e w14 ⟨rfl, rfl⟩))
        go_ret
        exact ⟨rfl, bmore HWr.out L13⟩)
end Go.Proofs.Ytgglhicpfjihlaa
