/- Fork of the document's disk. -/
import Derived.Test.YtffkpomnbanaoaaFk
namespace Go.Proofs.Ytffkpomnbanaoaa
open Go.RowKit
set_option maxRecDepth 100000
variable {W : World} {B0 d s r : Nat} {wv lv xv : Value} {D : Dk}

set_option maxHeartbeats 4000000 in
theorem rfork26 (h : RD W r lv xv D) (hsl : D.secs.length ≤ 1000) (hw : D.wait.length ≤ 1000) :
    Calls Try.prog 26 #[.pointer (some ⟨r, 0, none⟩)] W fun e w' => ∃ r' lv' xv', e = .returned (.pointer (some ⟨r', 0, none⟩)) ∧ (∀ c, RD w' r' lv' xv' { D with cap := c }) ∧ (∀ k, rfoot r' lv' xv' k → W.heap.size ≤ k) ∧ Below W.heap.size W w' := by
  obtain ⟨L, hx, hL⟩ := h.dx
  have hrg := hx.range
  have hrl := h.rlt
  have x0 := hx.c0
  have x1 := hx.c1
  obtain ⟨lg, lc, hlv, hlS, hlg, hlr⟩ := h.secs
  obtain ⟨xa, xc, hxe⟩ : ∃ a c, xv = .slice a D.wait.length c := by
    rcases h.wait with ⟨rfl, e⟩ | ⟨g, c, rfl, _⟩
    · exact ⟨none, 0, by rw [e]; rfl⟩
    · exact ⟨_, c, rfl⟩
  have HL : Hid (∀ w, Below W.heap.size W w → SrcOf 64 w lv D.secs.length (cellsS D.secs)) := fun w hB => by rw [hlv]; exact src_s (hlS.block (hB.block lg hlg)) h.ok.secs
  have HX : Hid (∀ w, Below W.heap.size W w → SrcOf 65 w xv D.wait.length (cellsW D.wait)) := fun w hB => src_x h.wait (fun x hx => (h.ok.wait x hx).1) hB
  have HS : Hid (∀ (w : World) B g cap, w.ownsRow B 90 64 (.slice (some ⟨g, 0, none⟩) D.secs.length cap) D.secs.length (cellsS D.secs) → Secs w g D.secs) := fun w B g cap ho => secs_own' h.ok.secs ho
  have HR : Hid (∀ (w : World) B g cap, w.ownsRow B 105 65 (.slice (some ⟨g, 0, none⟩) D.wait.length cap) D.wait.length (cellsW D.wait) → w.rangeAt g 0 (cellsW D.wait)) := fun w B g cap ho j v hv => by
    have := World.ownsRow.cells ho (g := g) rfl j v hv
    rw [Addr.add_mid] at this
    exact this
  have HE : Hid (∀ (w : World) (r' g g' cap cap' : Nat), Dx w r' (.slice (some ⟨g, 0, none⟩) D.secs.length cap) (.slice (some ⟨g', 0, none⟩) D.wait.length cap') (.bool D.cut) (.int .i64 L) (.bool D.off) → Secs w g D.secs → g < w.heap.size → g ≠ r' → w.rangeAt g' 0 (cellsW D.wait) → g' < w.heap.size → g' ≠ r' → ∀ c, RD w r' (.slice (some ⟨g, 0, none⟩) D.secs.length cap) (.slice (some ⟨g', 0, none⟩) D.wait.length cap') { D with cap := c }) := fun w r' g g' cap cap' h1 h2 h3 h4 h5 h6 h7 c => ⟨⟨L, h1, hL⟩, ⟨g, cap, rfl, h2, h3, h4⟩, .inr ⟨g', cap', rfl, Nat.zero_le _, h5, h6, h7⟩, ⟨h.ok.secs, h.ok.wait, h.ok.left⟩⟩
  have hm1 : 0 + D.secs.length ≤ maxLen := by unfold maxLen; omega
  have hm2 : (0 + D.secs.length) * 64 ≤ 140737488355328 := by omega
  have hn1 : 0 + D.wait.length ≤ maxLen := by unfold maxLen; omega
  have hn2 : (0 + D.wait.length) * 72 ≤ 140737488355328 := by omega
  obtain ⟨i0, hi0, hz3, hz4, hz5⟩ := info_parts info90z
  obtain ⟨j0, hj0, hy3, hy4, hy5⟩ := info_parts info105z
  have hz6 : (Value.agg (cellsB Z64).toArray).cells.size = 64 := by kernel_rfl
  have hy6 : (Value.agg Try.zeroCells105).cells.size = 65 := by kernel_rfl
  generalize (Value.agg (cellsB Z64).toArray) = zz at *
  generalize (Value.agg Try.zeroCells105) = yy at *
  have hone : ∀ v ∈ [lv, xv, .bool D.cut, .int .i64 L, .bool D.off], v.oneCell' = true := by
    rw [hlv, hxe]
    simp [Value.oneCell']
  clear h hx hlS hL
  generalize cellsS D.secs = cS at *
  generalize cellsW D.wait = cW at *
  generalize D.secs.length = S at *
  generalize D.wait.length = N at *
  generalize D.cut = bc at *
  generalize D.off = bo at *
  subst hlv hxe
  go_enter Try.func26, Try.ntmps26
  go_wp2_with (first
    | (refine wpList_load_mid rfl 101 (.tmp 7) rfl r 0 rfl [.slice (some ⟨lg, 0, none⟩) S lc, .slice xa N xc, .bool bc, .int .i64 L, .bool bo] _ hrg Try.underlying101 rfl info101s ?_)
    | (refine wpList_alloc_row rfl 101 rfl [.slice none 0 0, .slice none 0 0, .bool false, .int .i64 0, .bool false] info101z ?_; intro w3 hb3 hB3 hs3)
    | (refine wpList_store_whole rfl 101 (.tmp 3) (.tmp 8) rfl W.heap.size [.slice (some ⟨lg, 0, none⟩) S lc, .slice xa N xc, .bool bc, .int .i64 L, .bool bo] rfl rfl _ 101 hb3 rfl info101s hone ?_; intro w4 hb4 hk4 hs4; have hB4 : Below W.heap.size W w4 := hB3.trans (hk4.below (by omega) (fun i e => by omega)); have y0 := ((hB4.alloc hB4.size (.cells #[] 90)).cell (p := ⟨r, 0, none⟩) hrl).trans x0; have yr : r < w4.heap.size := Nat.lt_of_lt_of_le hrl hB4.size; clear hs3 hs4; have hsrc4 := HL.out (w4.alloc (.cells #[] 90)) (hB4.alloc hB4.size _); have hown4 : (w4.alloc (.cells #[] 90)).ownsRow w4.heap.size 90 64 (.slice (some ⟨w4.heap.size, 0, none⟩) 0 0) 0 [] := World.ownsRow_lit w4 #[] 0 (Nat.le_refl _) (by simp [maxLen]) (by simp); have hm4 : w4.heap.size ≤ (w4.alloc (.cells #[] 90)).heap.size := by simp)
    | (skip; (refine wpList_append_src (w4.alloc (.cells #[] 90)) (by rfl) (.tmp 9) (.tmp 13) 98 (by rfl) w4.heap.size 90 i0 zz 64 64 Try.underlying98 hi0 hz3 hz4 hz5 hz6 (by decide) (.slice (some ⟨w4.heap.size, 0, none⟩) 0 0) 0 [] (by rfl) hown4 (by simp [Value.ownBlock]) (.slice (some ⟨lg, 0, none⟩) S lc) S cS (by rfl) hsrc4 hm1 hm2 hm4 ?_; intro g cap w5 hown5 hgr5 _ hlt5; simp only [Nat.zero_add, List.nil_append] at hown5; have B5 : Below w4.heap.size w4 w5 := below_grown (al w4 _) hgr5 (Nat.le_refl _); clear hgr5 hsrc4 hown4 hm4; have hb5 := hb4.below B5; have c0 : w5.cell? ⟨W.heap.size, 0, none⟩ = some (.slice (some ⟨lg, 0, none⟩) S lc) := hb5.cell 0; have f0 := hb5.frozen 0; have F5 := hB4.trans (B5.mono hB4.size); have K6 := kr w5 W.heap.size 0 (.slice (some ⟨g, 0, none⟩) S cap); have F6 := F5.trans (K6.below F5.size (fun i e => by omega)); have y1 := (F6.cell (p := ⟨r, 1, none⟩) hrl).trans x1; have hb6 := hb5.set (o := 0) (.slice (some ⟨g, 0, none⟩) S cap); have e6 : (w5.setCell ⟨W.heap.size, 0, none⟩ (.slice (some ⟨g, 0, none⟩) S cap)).heap.size = w5.heap.size := (by simp [World.setCell]); have y1' := ((F6.alloc F6.size (.cells #[] 105)).cell (p := ⟨r, 1, none⟩) hrl).trans x1; have hsrc6 := HX.out ((w5.setCell ⟨W.heap.size, 0, none⟩ (.slice (some ⟨g, 0, none⟩) S cap)).alloc (.cells #[] 105)) (F6.alloc F6.size _); have hown6 := World.ownsRow_lit (w5.setCell ⟨W.heap.size, 0, none⟩ (.slice (some ⟨g, 0, none⟩) S cap)) (e := 105) (size := 65) #[] 0 (Nat.le_refl _) (by simp [maxLen]) (by simp); rw [e6] at hown6; have hm6 : w5.heap.size ≤ ((w5.setCell ⟨W.heap.size, 0, none⟩ (.slice (some ⟨g, 0, none⟩) S cap)).alloc (.cells #[] 105)).heap.size := by simp [World.setCell]))
    | (skip; (refine wpList_append_src ((w5.setCell ⟨W.heap.size, 0, none⟩ (.slice (some ⟨g, 0, none⟩) S cap)).alloc (.cells #[] 105)) (by rfl) (.tmp 16) (.tmp 20) 99 (by rfl) w5.heap.size 105 j0 yy 65 72 Try.underlying99 hj0 hy3 hy4 hy5 hy6 (by decide) (.slice (some ⟨w5.heap.size, 0, none⟩) 0 0) 0 [] (by rfl) hown6 (by simp [Value.ownBlock]) (.slice xa N xc) N cW (by rfl) hsrc6 hn1 hn2 hm6 ?_; intro g' cap' w7 hown7 hgr7 hgg7 hlt7; simp only [Nat.zero_add, List.nil_append] at hown7; have B7 : Below (w5.setCell ⟨W.heap.size, 0, none⟩ (.slice (some ⟨g, 0, none⟩) S cap)).heap.size (w5.setCell ⟨W.heap.size, 0, none⟩ (.slice (some ⟨g, 0, none⟩) S cap)) w7 := below_grown (al _ _) hgr7 (Nat.le_of_eq e6); clear hgr7 hsrc6 hown6 hm6; have hb7 := hb6.below B7; have c1 : w7.cell? ⟨W.heap.size, 1, none⟩ = some (.slice xa N xc) := hb7.cell 1; have f1 := hb7.frozen 1)))
  go_ret
  have hz5 := (World.ownsRow.lt hown5 g rfl).1
  have hz7 := (World.ownsRow.lt hown7 g' rfl).1
  have hz4 := hb4.lt
  have hs5 := B5.size
  have F7 := F6.trans (B7.mono F6.size)
  have K8 := kr w7 W.heap.size 1 (.slice (some ⟨g', 0, none⟩) N cap')
  have hb8 := hb7.set (o := 1) (.slice (some ⟨g', 0, none⟩) N cap')
  have hs7 := B7.size
  rw [e6] at hs7
  refine ⟨W.heap.size, _, _, rfl, HE.out _ _ g g' cap cap' (blk_dx hb8) ((HS.out _ _ _ _ hown5).block ?_) (Nat.lt_of_lt_of_le hlt5 (Nat.le_trans hs7 K8.size)) (by omega) (fun j v hv => (World.cell?_of_block (a := ⟨g', 0 + j, none⟩) (K8.block g' hlt7 (by omega))).trans (HR.out _ _ _ _ hown7 j v hv)) (Nat.lt_of_lt_of_le hlt7 K8.size) (by omega), fun k hk => ?_, F7.trans (K8.below F7.size (fun i e => by omega))⟩
  · rw [K8.block g (by omega) (by omega), B7.block g (by rw [e6]; exact hlt5), K6.block g hlt5 (by omega)]
  · rcases hk with rfl | hk | hk
    · exact Nat.le_refl _
    · simp only [Value.ownBlock, Option.some.injEq] at hk; omega
    · simp only [Value.ownBlock, Option.some.injEq] at hk; omega
end Go.Proofs.Ytffkpomnbanaoaa
