/- Flush. -/
import Derived.Test.YtnganmekiloigaaHb
import Derived.Test.YtnganmekiloigaaJg
namespace Go.Proofs.Ytnganmekiloigaa
open Go.RowKit
set_option maxRecDepth 100000
variable {w w' : World} {B d s x : Nat} {D : Dk} {W : Wl} {G : List Nat}
set_option maxHeartbeats 1000000 in
/-- attempt of a method's value. -/
theorem attempt_m {f : Nat} {p : Value} {Q : World → Prop} (hf : ∀ W, Sem.run Try.prog (callFunc f #[p]) W = .ok (.enter f #[p]) W) (hc : Calls Try.prog f #[p] (w.alloc (.cells #[.int .i64 0] 34)) fun e w' => e = .returned (.tuple #[]) ∧ Blk w' w.heap.size [.int .i64 0] 34 ∧ Q w') :
    Calls Try.prog 67 #[.func (.func f) #[p] #[]] w fun e w' => e = .returned (.int .i64 0) ∧ ∃ w2, Q w2 ∧ Keep (fun k => k = w.heap.size) w2 w' := by
  have hmf : ∀ (fn : Fn) (first cap : Array Value) (w : World), (Instr.makeFunc fn first cap).run Try.prog w = .ok (.func fn first cap) w := fun _ _ _ _ => rfl
  go_enter_defers Try.func67, Try.ntmps67
  go_wp2_with ((refine hc.mono ?_; rintro e w1 ⟨rfl, hb1, hq1⟩; have y0 := hb1.cell 0; have y1 := hb1.frozen 0))
  refine leaves_cons (f := 97) (args := #[.pointer (some ⟨w.heap.size, 0, none⟩)]) (by simp) (by simp [go_sem]) ?_
  refine (catch97 _ _).mono ?_
  rintro e u' w'' ⟨rfl, rfl, rfl⟩
  have y2 := (hb1.set (o := 0) (.int .i64 0)).cell 0
  exact ⟨.int .i64 0, by simp [results, Try.results67, go_sem, y2], rfl, w1, hq1, (Keep.refl (fun k => k = w.heap.size) w1).set (.inr rfl) _⟩
theorem cf77 (p : Value) : ∀ W, Sem.run Try.prog (callFunc 77 #[p]) W = .ok (.enter 77 #[p]) W := fun W => enters_of Try.func77 (by kernel_rfl) rfl #[p] W
/-- settle, where the disk does it. -/
theorem settle77 (h : Alone B w d s D G) (hx : Blk w x (wlC d W) 111) (hf : D.flush.1 = 0) (hw : D.wait.length ≤ 100000) : Calls Try.prog 77 #[.pointer (some ⟨x, 0, none⟩)] w fun e w' => e = .returned (.tuple #[]) ∧ Alone B w' d s D.flush.2 G ∧ Kept G w w' ∧ Below B w w' := by
  have k24 := alone24 h hw
  rw [hf] at k24
  have y0 : w.cell? ⟨x, 0, none⟩ = some (.pointer (some ⟨d, 0, none⟩)) := hx.cell 0
  clear hx h
  go_enter Try.func77, Try.ntmps77
  go_wp2_with (first
    | (go_at_call 24; (refine k24.mono ?_; rintro e w1 ⟨rfl, A1, K1, B1⟩; have k98 := accept98 w1))
    | (go_at_call 98; (refine k98.mono ?_; rintro e w2 ⟨rfl, rfl⟩)))
  go_end0
  exact ⟨rfl, A1, K1, B1⟩
set_option maxHeartbeats 1000000 in
/-- change of a thing that is done. -/
theorem change76 {F : Value} {Q : World → Prop} (k67 : Calls Try.prog 67 #[F] w fun e w' => e = .returned (.int .i64 0) ∧ Q w' ∧ Blk w' x (wlC d W) 111) (hF : ∃ f a c, F = .func f a c) :
    Calls Try.prog 76 #[.pointer (some ⟨x, 0, none⟩), F] w fun e w' => e = .returned (.int .i64 0) ∧ ∃ w2, Q w2 ∧ Blk w2 x (wlC d W) 111 ∧ w' = w2.setCell ⟨x, 5, none⟩ (.bool false) := by
  obtain ⟨f, a, c, rfl⟩ := hF
  go_enter Try.func76, Try.ntmps76
  go_wp2_with (go_at_call 67; (refine k67.mono ?_; rintro e w1 ⟨rfl, hq, hb⟩; have y5 : w1.cell? ⟨x, 5, none⟩ = some (.bool W.br) := hb.cell 5; have f5 := hb.frozen 5))
  go_ret
  exact ⟨rfl, w1, hq, hb, rfl⟩
/-- A log on a disk, in memory; none of the blocks of G is theirs. -/
structure LG (B : Nat) (w : World) (d s : Nat) (D : Dk) (x : Nat) (W : Wl) (G : List Nat) : Prop where
  disk : Alone B w d s D (x :: G)
  wal : Blk w x (wlC d W) 111
  nx : x ∉ G
  bx : B ≤ x
theorem Alone.keepOne {g : Nat} (h : Alone B w d s D (g :: G)) (k : Keep (fun b => b = g) w w') : Alone B w' d s D (g :: G) := by
  obtain ⟨wv, h1, h2, h3, h4⟩ := h
  exact ⟨wv, h1.keep k (fun b hb e => (h2 g (by simp)).1 (e ▸ hb)), fun b hb => ⟨(h2 b hb).1, Nat.lt_of_lt_of_le (h2 b hb).2 k.size⟩, h3, Nat.le_trans h4 k.size⟩
set_option maxHeartbeats 1000000 in
theorem flush39 (h : LG B w d s D x W G) (hbr : W.br = false) (hf : D.flush.1 = 0) (hw : D.wait.length ≤ 100000) (hG : ∀ g ∈ G, g < w.heap.size) :
    Calls Try.prog 39 #[.pointer (some ⟨x, 0, none⟩)] w fun e w' => e = .returned (.int .i64 0) ∧ LG B w' d s D.flush.2 x W G ∧ Kept G w w' ∧ Below B w w' := by
  have k75 := whole75 h.wal
  rw [hbr] at k75
  simp only [Bool.false_eq_true, if_false] at k75
  have hmf : ∀ (fn : Fn) (first cap : Array Value) (w : World), (Instr.makeFunc fn first cap).run Try.prog w = .ok (.func fn first cap) w := fun _ _ _ _ => rfl
  have hxl := h.wal.lt
  have hBx := h.bx
  have hz : B ≤ w.heap.size := by obtain ⟨_, _, _, _, hz⟩ := h.disk; exact hz
  have hA := h.disk.new (.cells #[.int .i64 0] 34)
  have k77 := settle77 hA (h.wal.below (al w _)) hf hw
  have k67 := attempt_m (w := w) (Q := fun w2 => Alone B w2 d s D.flush.2 (w.heap.size :: x :: G) ∧ Blk w2 x (wlC d W) 111 ∧ Kept G w w2 ∧ Below B w w2) (cf77 (.pointer (some ⟨x, 0, none⟩))) (k77.mono (by
    rintro e w1 ⟨rfl, A1, K1, B1⟩
    refine ⟨rfl, (blk_new w [.int .i64 0] 34).block (K1 _ (by simp)), A1, (h.wal.below (al w _)).block (K1 _ (by simp)), fun g hg => (K1 g (by simp [hg])).trans (Below.heap_alloc _ _ _ (hG g hg)), ((al w _).mono hz).trans B1⟩))
  have k67' : Calls Try.prog 67 #[.func (.func 77) #[.pointer (some ⟨x, 0, none⟩)] #[]] w fun e w' => e = .returned (.int .i64 0) ∧ (Alone B w' d s D.flush.2 (x :: G) ∧ Kept G w w' ∧ Below B w w') ∧ Blk w' x (wlC d W) 111 := k67.mono (by
    rintro e w1 ⟨rfl, w2, ⟨A2, b2, K2, B2⟩, k⟩
    have hne : ∀ g ∈ x :: G, g ≠ w.heap.size := fun g hg => by
      rcases List.mem_cons.1 hg with rfl | hg
      · omega
      · have := hG g hg; omega
    refine ⟨rfl, ⟨(A2.keepOne k).less (by simp +contextual), fun g hg => (k.block g (by have := hG g hg; have := B2.size; omega) (hne g (by simp [hg]))).trans (K2 g hg), B2.trans (k.below (Nat.le_trans hz B2.size) (fun i e => by omega))⟩, b2.block (k.block x b2.lt (hne x (by simp)))⟩)
  have k76 := change76 k67' ⟨_, _, _, rfl⟩
  have HF : Hid (∀ w2, (Alone B w2 d s D.flush.2 (x :: G) ∧ Kept G w w2 ∧ Below B w w2) → Blk w2 x (wlC d W) 111 → LG B (w2.setCell ⟨x, 5, none⟩ (.bool false)) d s D.flush.2 x W G ∧ Kept G w (w2.setCell ⟨x, 5, none⟩ (.bool false)) ∧ Below B w (w2.setCell ⟨x, 5, none⟩ (.bool false))) := fun w2 ⟨A2, K2, B2⟩ b2 => by
    have kk : Keep (fun b => b = x) w2 (w2.setCell ⟨x, 5, none⟩ (.bool false)) := (Keep.refl (fun b => b = x) w2).set (.inr rfl) _
    refine ⟨⟨A2.keepOne kk, ?_, h.nx, hBx⟩, fun g hg => (Below.heap_setCell _ _ _ _ (fun e => h.nx (by rw [← show g = x from e]; exact hg))).trans (K2 g hg), bset B2 hBx _⟩
    have := b2.set (o := 5) (.bool false)
    rw [show (wlC d W).set 5 (.bool false) = wlC d W by simp [wlC, hbr]] at this
    exact this
  clear k77 k67 k67' hA hf hw
  go_enter Try.func39, Try.ntmps39
  go_wp2_with (first
    | (go_at_call 75; (refine k75.mono ?_; rintro e w1 ⟨rfl, rfl⟩))
    | (go_at_call 76; (refine k76.mono ?_; rintro e w2 ⟨rfl, w3, hq, hb, rfl⟩; have HQ := HF.out _ hq hb)))
  go_ret
  exact ⟨rfl, HQ⟩
end Go.Proofs.Ytnganmekiloigaa
