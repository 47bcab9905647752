/- Fork of the program's disk. -/
import Derived.Test.YtffkpomnbanaoaaFk
namespace Go.Proofs.Ytffkpomnbanaoaa
open Go.RowKit
set_option maxRecDepth 100000
variable {W : World} {B0 d s r : Nat} {wv lv xv : Value} {D : Dk}

set_option maxHeartbeats 1000000 in
theorem fork25 (h : PD W d s wv D) (hsl : D.secs.length ≤ 1000) (hw : D.wait.length ≤ 1000) :
    Calls Try.prog 25 #[.pointer (some ⟨d, 0, none⟩)] W fun e w' => ∃ d' s' wv' c, e = .returned (.pointer (some ⟨d', 0, none⟩)) ∧ PD w' d' s' wv' { D with cap := c } ∧ (∀ k, foot d' s' wv' k → W.heap.size ≤ k) ∧ Below W.heap.size W w' := by
  have hrg := h.dx.range
  have hdl := h.dlt
  have H57 : Hid (∀ w, Below W.heap.size W w → Calls Try.prog 57 #[.slice (some ⟨s, 0, none⟩) D.secs.length D.cap] w fun e w' => ∃ g cap, e = .returned (.slice (some ⟨g, 0, none⟩) D.secs.length cap) ∧ Secs w' g D.secs ∧ w.heap.size ≤ g ∧ g < w'.heap.size ∧ Below w.heap.size w w') := fun w hB => clone57 (h.below hB).secs (h.below hB).slt h.ok.secs hsl
  have H58 : Hid (∀ w B1, Below W.heap.size W w → B1 + 1 ≤ w.heap.size → Calls Try.prog 58 #[wv] w fun e w' => ∃ a n c, e = .returned (.slice a n c) ∧ WRow 93 B1 (.slice a n c) D.wait w' ∧ (∀ k, (Value.slice a n c).ownBlock = some k → w.heap.size ≤ k) ∧ Below w.heap.size w w') := fun w B1 hB hB1 => clone58 (h.below hB).wait hB1 (fun x hx => (h.ok.wait x hx).1) hw
  have HOK : Hid (∀ c, ({ D with cap := c } : Dk).Ok) := fun c => ⟨h.ok.secs, h.ok.wait, h.ok.left⟩
  have HE : Hid (∀ (w : World) (d' s' : Nat) (v' : Value) (c : Nat), Dx w d' (.slice (some ⟨s', 0, none⟩) D.secs.length c) v' (.bool D.cut) (.int .i64 D.left) (.bool D.off) → Secs w s' D.secs → WRow 93 d' v' D.wait w → s' ≠ d' → v'.ownBlock ≠ some s' → s' < w.heap.size → PD w d' s' v' { D with cap := c }) := fun w d' s' v' c h1 h2 h3 h4 h5 h6 => ⟨h1, h2, h3, HOK.out c, h4, h5, h6⟩
  have x0 := h.dx.c0
  have x1 := h.dx.c1
  obtain ⟨wa, wn, wc, hwv⟩ : ∃ a n c, wv = .slice a n c := by
    obtain ⟨a, c, e⟩ := h.wform
    exact ⟨a, _, c, e⟩
  clear h HOK
  generalize D.secs.length = S at *
  generalize D.cap = cp at *
  generalize D.cut = bc at *
  generalize D.left = lf at *
  generalize D.off = bo at *
  have hone : ∀ v ∈ [Value.slice (some ⟨s, 0, none⟩) S cp, wv, .bool bc, .int .i64 lf, .bool bo], v.oneCell' = true := by
    subst hwv
    simp [Value.oneCell']
  subst hwv
  go_enter Try.func25, Try.ntmps25
  go_wp2_with (first
    | (refine wpList_load_mid rfl 89 (.tmp 7) rfl d 0 rfl [.slice (some ⟨s, 0, none⟩) S cp, .slice wa wn wc, .bool bc, .int .i64 lf, .bool bo] _ hrg Try.underlying89 rfl info89s ?_)
    | (refine wpList_alloc_row rfl 89 rfl [.slice none 0 0, .slice none 0 0, .bool false, .int .i64 0, .bool false] info89z ?_; intro w3 hb3 hB3 hs3)
    | (refine wpList_store_whole rfl 89 (.tmp 3) (.tmp 8) rfl W.heap.size [.slice (some ⟨s, 0, none⟩) S cp, .slice wa wn wc, .bool bc, .int .i64 lf, .bool bo] rfl rfl _ 89 hb3 rfl info89s hone ?_; intro w4 hb4 hk4 hs4; have hB4 : Below W.heap.size W w4 := hB3.trans (hk4.below (by omega) (fun i e => by omega)); have y0 := (hB4.cell (p := ⟨d, 0, none⟩) hdl).trans x0)
    | (go_at_call 57; (refine (H57.out w4 hB4).mono ?_; rintro e w5 ⟨g, cap, rfl, hS5, hg1, hg2, B5⟩; have hb5 := hb4.below B5; have c0 : w5.cell? ⟨W.heap.size, 0, none⟩ = some (.slice (some ⟨s, 0, none⟩) S cp) := hb5.cell 0; have f0 := hb5.frozen 0; have F5 := hB4.trans (B5.mono hB4.size); have K6 := kr w5 W.heap.size 0 (.slice (some ⟨g, 0, none⟩) S cap); have F6 := F5.trans (K6.below F5.size (fun i e => by omega)); have y1 := (F6.cell (p := ⟨d, 1, none⟩) hdl).trans x1; have hb6 := hb5.set (o := 0) (.slice (some ⟨g, 0, none⟩) S cap); have hz6 : W.heap.size + 1 ≤ (w5.setCell ⟨W.heap.size, 0, none⟩ (.slice (some ⟨g, 0, none⟩) S cap)).heap.size := hb6.lt))
    | (go_at_call 58; (refine (H58.out _ W.heap.size F6 hz6).mono ?_; rintro e w7 ⟨va, vn, vc, rfl, hW7, hg7, B7⟩; have hb7 := hb6.below B7; have c1 : w7.cell? ⟨W.heap.size, 1, none⟩ = some (.slice wa wn wc) := hb7.cell 1; have f1 := hb7.frozen 1)))
  go_ret
  have hs6 : (w5.setCell ⟨W.heap.size, 0, none⟩ (.slice (some ⟨g, 0, none⟩) S cap)).heap.size = w5.heap.size := by simp [World.setCell]
  have hz7 := B7.size
  have F7 := F6.trans (B7.mono F6.size)
  have K8 := kr w7 W.heap.size 1 (.slice va vn vc)
  have hb8 := hb7.set (o := 1) (.slice va vn vc)
  have hz4 := hb4.lt
  refine ⟨W.heap.size, g, .slice va vn vc, cap, rfl, HE.out _ _ _ _ _ (blk_dx hb8) (hS5.block ?_) (own_block hW7 (fun k e => K8.block k ?_ ?_)) (by omega) (fun e => ?_) ?_, fun k hk => ?_, F7.trans (K8.below F7.size (fun i e => by omega))⟩
  · rw [K8.block g (by omega) (by omega), B7.block g (by omega), K6.block g hg2 (by omega)]
  · exact (World.ownsRow.lt hW7 k e).2
  · have := (World.ownsRow.lt hW7 k e).1
    omega
  · have := hg7 g e
    omega
  · exact Nat.lt_of_lt_of_le (by omega) K8.size
  · rcases hk with rfl | rfl | hk
    · exact Nat.le_refl _
    · omega
    · have := hg7 k hk
      omega

end Go.Proofs.Ytffkpomnbanaoaa
