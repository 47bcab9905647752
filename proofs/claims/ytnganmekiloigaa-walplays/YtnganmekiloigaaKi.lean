/- attempt, of a deed that the disk refuses. · settle and change, of a deed that the disk refuses. · Append, Switch and Flush, on a disk that may go off. -/
import Derived.Test.YtnganmekiloigaaJa
import Derived.Test.YtnganmekiloigaaJh
import Derived.Test.YtnganmekiloigaaKp
/-! ### attempt, of a deed that the disk refuses. -/
namespace Go.Proofs.Ytnganmekiloigaa
open Go.RowKit
set_option maxRecDepth 100000
variable {w w' : World}
theorem info134a : (Try.prog.info? 134).map (fun i => (i.zero, i.size, i.bytes)) = some (some (.agg #[.int .i64 0]), 1, 8) := by kernel_rfl
theorem info134s : (Try.prog.info? 134).map (·.size) = some 1 := by kernel_rfl
set_option maxHeartbeats 400000 in
theorem catch97_no (b : Nat) (n : Int) (y : Value) (w : World) (hc : w.cell? ⟨b, 0, none⟩ = some y) (hz : w.frozen? ⟨b, 0, none⟩ = false) :
    CallsD Try.prog 97 #[.pointer (some ⟨b, 0, none⟩)] (.panicking (GU n)) w fun e u' w' => e = .returned (.tuple #[]) ∧ u' = .panicking [{ v := .iface 134 (.agg #[.int .i64 n]), recovered := true }] ∧ w'.cell? ⟨b, 0, none⟩ = some (.int .i64 n) ∧ Keep (fun k => k = b) w w' := by
  have hb : b < w.heap.size := World.block_lt_of_cell? _ _ hc
  have hbn : ¬ w.heap.size = b := by omega
  have hbn2 : ¬ b = w.heap.size := by omega
  have hta : ∀ w, (Instr.typeAssert (.iface 134 (.agg #[.int .i64 n])) 20 134 true).run Try.prog w = .ok (.tuple #[.agg #[.int .i64 n], .bool true]) w := fun _ => by kernel_rfl
  refine callsD_of_wpS Try.func97 rfl fun c₀ cs hu => ?_
  apply wpS_seq
  apply wpS_region
  simp [wpOpsS, go_sem, recoverD, hu, Try.ntmps97, Exit.thenS, GU]
  refine wpS_of_wp ?_
  simp only [Array.replicate_succ, Array.replicate_zero, List.push_toArray, List.nil_append, List.cons_append, List.setIfInBounds_toArray, List.set_cons_succ, List.set_cons_zero, List.append_toArray]
  go_wp2_with (first
    | (refine wpList_alloc_row rfl 134 rfl [.int .i64 0] info134a ?_; intro w3 b3 B3 s3)
    | (refine wpList_store_whole rfl 134 (.tmp 2) (.tmp 10) rfl w.heap.size [.int .i64 n] rfl rfl _ 134 b3 rfl (by exact info134s) (by simp [Value.oneCell']) ?_; intro w4 b4 k4 s4; have y4 := b4.cell 0; simp only [List.getElem?_cons_zero] at y4; have hbw : w4.heap[b]? = w.heap[b]? := (k4.block b (by omega) hbn2).trans (B3.block b hb); have zc := (World.cell?_of_block (a := ⟨b, 0, none⟩) hbw).trans hc; have zf := (World.frozen?_of_block (a := ⟨b, 0, none⟩) hbw).trans hz; have HB4 : Hid (Below w.heap.size w w4) := kbel B3 k4 (Nat.le_refl _) (Nat.le_refl _)))
  have q := World.cell?_setCell_same _ _ (.int .i64 n) zc
  have kq : Keep (fun k => k = b) w (w4.setCell ⟨b, 0, none⟩ (.int .i64 n)) := Keep.set (F := fun k => k = b) (p := ⟨b, 0, none⟩) (Keep.of HB4.out) (.inr rfl) _
  cases c₀
  simp_all [bodyPostS, results, Try.results97]
set_option maxHeartbeats 1000000 in
/-- A deed that goes up: attempt answers what the disk said. -/
theorem attempt_no {f : Nat} {caps : Array Value} {n : Int} {Q : World → Prop} (hf : ∀ W, Sem.run Try.prog (callFunc f caps) W = .ok (.enter f caps) W) (hc : Calls Try.prog f caps (w.alloc (.cells #[.int .i64 0] 34)) fun e w' => e = .panicked (GU n) ∧ Blk w' w.heap.size [.int .i64 0] 34 ∧ Q w') :
    Calls Try.prog 67 #[.func (.func f) #[] caps] w fun e w' => e = .returned (.int .i64 n) ∧ ∃ w2, Q w2 ∧ Keep (fun k => k = w.heap.size) w2 w' := by
  have hmf : ∀ (fn : Fn) (first cap : Array Value) (w : World), (Instr.makeFunc fn first cap).run Try.prog w = .ok (.func fn first cap) w := fun _ _ _ _ => rfl
  go_enter_defers Try.func67, Try.ntmps67
  go_wp2_with ((refine hc.mono ?_; rintro e w1 ⟨rfl, hb1, hq1⟩; have y0 := hb1.cell 0; have y1 := hb1.frozen 0))
  refine leaves_cons (f := 97) (args := #[.pointer (some ⟨w.heap.size, 0, none⟩)]) (by simp) (by simp [go_sem]) ?_
  refine (catch97_no _ n _ _ y0 y1).mono ?_
  rintro e u' w'' ⟨rfl, rfl, y2, k2⟩
  exact ⟨.int .i64 n, by simp [results, Try.results67, go_sem, y2], rfl, w1, hq1, k2⟩
end Go.Proofs.Ytnganmekiloigaa
/-! ### settle and change, of a deed that the disk refuses. -/
namespace Go.Proofs.Ytnganmekiloigaa
open Go.RowKit
set_option maxRecDepth 100000
variable {w w' : World} {B d s x : Nat} {D : Dk} {G : List Nat} {W : Wl}
theorem settle77_no (h : Alone B w d s D G) (hx : Blk w x (wlC d W) 111) (hf : D.flush.1 ≠ 0) (hw : D.wait.length ≤ 100000) : Calls Try.prog 77 #[.pointer (some ⟨x, 0, none⟩)] w fun e w' => e = .panicked (GU D.flush.1) ∧ Alone B w' d s D.flush.2 G ∧ Kept G w w' ∧ Below B w w' := by
  have k24 := alone24 h hw
  have y0 : w.cell? ⟨x, 0, none⟩ = some (.pointer (some ⟨d, 0, none⟩)) := hx.cell 0
  clear hx h
  go_enter Try.func77, Try.ntmps77
  go_wp2_with (first
    | (go_at_call 24; (refine k24.mono ?_; rintro e w1 ⟨rfl, A1, K1, B1⟩; have k98 := accept98_no _ hf w1))
    | (go_at_call 98; (refine k98.mono ?_; rintro e w2 ⟨rfl, rfl⟩)))
  exact ⟨rfl, rfl, A1, K1, B1⟩
theorem change76_no {F : Value} {n : Int} (hn : n ≠ 0) {Q : World → Prop} (k67 : Calls Try.prog 67 #[F] w fun e w' => e = .returned (.int .i64 n) ∧ Q w' ∧ Blk w' x (wlC d W) 111) (hF : ∃ f a c, F = .func f a c) :
    Calls Try.prog 76 #[.pointer (some ⟨x, 0, none⟩), F] w fun e w' => e = .returned (.int .i64 n) ∧ ∃ w2, Q w2 ∧ Blk w2 x (wlC d W) 111 ∧ w' = w2.setCell ⟨x, 5, none⟩ (.bool true) := by
  obtain ⟨f, a, c, rfl⟩ := hF
  have hn1 : (n != 0) = true := by simpa using hn
  have hn2 : (n == 0) = false := by simpa using hn
  go_enter Try.func76, Try.ntmps76
  go_wp2_with (go_at_call 67; (refine k67.mono ?_; rintro e w1 ⟨rfl, hq, hb⟩; have y5 : w1.cell? ⟨x, 5, none⟩ = some (.bool W.br) := hb.cell 5; have f5 := hb.frozen 5))
  go_ret
  refine ⟨rfl, w1, hq, hb, ?_⟩
  first | rfl | (rw [hn1]) | (rw [hn2]; rfl) | (trace_state; sorry)
end Go.Proofs.Ytnganmekiloigaa
/-! ### Append, Switch and Flush, on a disk that may go off. -/
namespace Go.Proofs.Ytnganmekiloigaa
open Go.RowKit
set_option maxRecDepth 100000
variable {w w' : World} {B d s x : Nat} {D D' : Dk} {W : Wl} {G : List Nat}
/-- The disk that went off in the midst of writing. -/
def Dk.stuck (D : Dk) (b : Nat) (X : List Bs) : Dk := { D.put b (X.take D.left.toNat) with off := true }
/-- The disk with the sectors written, and flushed; the answer. -/
def Dk.sunk (D : Dk) (b : Nat) (X : List Bs) : Dk := (D.put b X).flush.2
def Dk.says (D : Dk) (b : Nat) (X : List Bs) : Int := (D.put b X).flush.1
theorem write82_yes {R h p n c : Nat} {a : Option Addr} {l : Bs} (hA : LG B w d s D x W G) (hleft : D.cut = true → 0 ≤ D.left) (hoff : D.off = false) (hw : D.wait.length ≤ 50000) (hS : D.secs.length = 2 * R) (hR : R ≤ 64) (hh : h = 0 ∨ h = 1) (he : W.e < 65536) (hlv : LV EB w (.slice a n c) l) (hl0 : 0 < l.length) (hl : l.length ≤ 3648) (hag : ∀ g o, a = some ⟨g, o, none⟩ → g ∈ G) (hG : ∀ g ∈ G, g < w.heap.size) (hfit : p + np l ≤ R) (hcan : D.can (np l)) :
    Calls Try.prog 82 #[.pointer (some ⟨x, 0, none⟩), .int .i64 (h : Int), .int .i64 (p : Int), .slice a n c] w fun e w' => e = .returned (.tuple #[]) ∧ LG B w' d s (D.put (h * R + p) (layP W.e p l)) x W G ∧ Kept G w w' ∧ Below B w w' :=
  (write82P hA hleft hoff hw hS hR hh he hlv hl0 hl hag hG hfit).mono (by
    rintro e w1 (⟨rfl, -, h1⟩ | ⟨k, h1, h2, h3, -⟩)
    · exact ⟨rfl, h1⟩
    · exfalso
      rcases hcan with hc | hc
      · rw [hc] at h2; cases h2
      · omega)
theorem write82_no {R h p n c : Nat} {a : Option Addr} {l : Bs} (hA : LG B w d s D x W G) (hleft : D.cut = true → 0 ≤ D.left) (hoff : D.off = false) (hw : D.wait.length ≤ 50000) (hS : D.secs.length = 2 * R) (hR : R ≤ 64) (hh : h = 0 ∨ h = 1) (he : W.e < 65536) (hlv : LV EB w (.slice a n c) l) (hl0 : 0 < l.length) (hl : l.length ≤ 3648) (hag : ∀ g o, a = some ⟨g, o, none⟩ → g ∈ G) (hG : ∀ g ∈ G, g < w.heap.size) (hfit : p + np l ≤ R) (hcan : ¬ D.can (np l)) :
    Calls Try.prog 82 #[.pointer (some ⟨x, 0, none⟩), .int .i64 (h : Int), .int .i64 (p : Int), .slice a n c] w fun e w' => e = .panicked (GU 7) ∧ LG B w' d s (D.stuck (h * R + p) (layP W.e p l)) x W G ∧ Kept G w w' ∧ Below B w w' :=
  (write82P hA hleft hoff hw hS hR hh he hlv hl0 hl hag hG hfit).mono (by
    rintro e w1 (⟨rfl, h1, -⟩ | ⟨k, h1, h2, h3, rfl, h4⟩)
    · exact absurd h1 hcan
    · have e : D.left.toNat = k := by omega
      unfold Dk.stuck
      rw [e]
      exact ⟨rfl, h4⟩)
theorem append83_yes {R n c q0 q1 : Nat} {a : Option Addr} {l : Bs} (hA : LG B w d s D x W G) (hq0 : Blk w q0 [.pointer (some ⟨x, 0, none⟩)] 57) (hq1 : Blk w q1 [.slice a n c] 33) (h0 : q0 ∈ G) (h1 : q1 ∈ G) (hleft : D.cut = true → 0 ≤ D.left) (hcan : D.can (np l)) (hoff : D.off = false) (hw : D.wait.length ≤ 50000) (hS : D.secs.length = 2 * R) (hR : R ≤ 64) (hh : W.half = 0 ∨ W.half = 1) (he : W.e < 65536) (hlv : LV EB w (.slice a n c) l) (hl0 : 0 < l.length) (hl : l.length ≤ 3648) (hag : ∀ g o, a = some ⟨g, o, none⟩ → g ∈ G) (hfit : W.en + np l ≤ R) :
    Calls Try.prog 83 #[.pointer (some ⟨q0, 0, none⟩), .pointer (some ⟨q1, 0, none⟩)] w fun e w' => e = .returned (.tuple #[]) ∧ LG B w' d s (D.put (W.half * R + W.en) (layP W.e W.en l)) x W G ∧ Kept G w w' ∧ Below B w w' := by
  have kd := (Below.refl w.heap.size w).drew
  have k82 := write82_yes (hA.below kd) hleft hoff hw hS hR hh he (hlv.below kd) hl0 hl hag (fun g hg => by simpa using hA.glt g hg) hfit hcan
  have HK : Hid (∀ W2, Kept G w.drew W2 → Blk W2 x (wlC d W) 111 → W2.cell? ⟨q0, 0, none⟩ = some (.pointer (some ⟨x, 0, none⟩)) ∧ W2.cell? ⟨q1, 0, none⟩ = some (.slice a n c) ∧ W2.cell? ⟨x, 1, none⟩ = some (.int .i64 (W.half : Int)) ∧ W2.cell? ⟨x, 4, none⟩ = some (.int .i64 (W.en : Int))) := fun W2 k hb => ⟨((hq0.below kd).block (k q0 h0)).cell 0, ((hq1.below kd).block (k q1 h1)).cell 0, hb.cell 1, hb.cell 4⟩
  have hs0 := HK.out w.drew (fun _ _ => rfl) (hA.wal.below kd)
  clear hq0 hq1 hlv hA hh
  go_enter Try.func83, Try.ntmps83
  go_region_held3 (fun W2 => W2.cell? ⟨q0, 0, none⟩ = some (.pointer (some ⟨x, 0, none⟩)) ∧ W2.cell? ⟨q1, 0, none⟩ = some (.slice a n c) ∧ W2.cell? ⟨x, 1, none⟩ = some (.int .i64 (W.half : Int)) ∧ W2.cell? ⟨x, 4, none⟩ = some (.int .i64 (W.en : Int))) (first | exact hs0 | exact hs1) ((go_at_call 82; refine k82.mono ?_; rintro e w1 ⟨rfl, A1, K1, B1⟩; have hs1 := HK.out w1 K1 A1.wal))
  go_end0
  exact ⟨rfl, A1, K1, ((Below.refl B w).drew).trans B1⟩
theorem append83_no {R n c q0 q1 : Nat} {a : Option Addr} {l : Bs} (hA : LG B w d s D x W G) (hq0 : Blk w q0 [.pointer (some ⟨x, 0, none⟩)] 57) (hq1 : Blk w q1 [.slice a n c] 33) (h0 : q0 ∈ G) (h1 : q1 ∈ G) (hleft : D.cut = true → 0 ≤ D.left) (hcan : ¬ D.can (np l)) (hoff : D.off = false) (hw : D.wait.length ≤ 50000) (hS : D.secs.length = 2 * R) (hR : R ≤ 64) (hh : W.half = 0 ∨ W.half = 1) (he : W.e < 65536) (hlv : LV EB w (.slice a n c) l) (hl0 : 0 < l.length) (hl : l.length ≤ 3648) (hag : ∀ g o, a = some ⟨g, o, none⟩ → g ∈ G) (hfit : W.en + np l ≤ R) :
    Calls Try.prog 83 #[.pointer (some ⟨q0, 0, none⟩), .pointer (some ⟨q1, 0, none⟩)] w fun e w' => e = .panicked (GU 7) ∧ LG B w' d s (D.stuck (W.half * R + W.en) (layP W.e W.en l)) x W G ∧ Kept G w w' ∧ Below B w w' := by
  have kd := (Below.refl w.heap.size w).drew
  have k82 := write82_no (hA.below kd) hleft hoff hw hS hR hh he (hlv.below kd) hl0 hl hag (fun g hg => by simpa using hA.glt g hg) hfit hcan
  have HK : Hid (∀ W2, Kept G w.drew W2 → Blk W2 x (wlC d W) 111 → W2.cell? ⟨q0, 0, none⟩ = some (.pointer (some ⟨x, 0, none⟩)) ∧ W2.cell? ⟨q1, 0, none⟩ = some (.slice a n c) ∧ W2.cell? ⟨x, 1, none⟩ = some (.int .i64 (W.half : Int)) ∧ W2.cell? ⟨x, 4, none⟩ = some (.int .i64 (W.en : Int))) := fun W2 k hb => ⟨((hq0.below kd).block (k q0 h0)).cell 0, ((hq1.below kd).block (k q1 h1)).cell 0, hb.cell 1, hb.cell 4⟩
  have hs0 := HK.out w.drew (fun _ _ => rfl) (hA.wal.below kd)
  clear hq0 hq1 hlv hA hh
  go_enter Try.func83, Try.ntmps83
  refine wp_region_held_drew (S := fun W2 => W2.cell? ⟨q0, 0, none⟩ = some (.pointer (some ⟨x, 0, none⟩)) ∧ W2.cell? ⟨q1, 0, none⟩ = some (.slice a n c) ∧ W2.cell? ⟨x, 1, none⟩ = some (.int .i64 (W.half : Int)) ∧ W2.cell? ⟨x, 4, none⟩ = some (.int .i64 (W.en : Int))) (by kernel_rfl) hs0 (fun hS => ?_)
  refine wpAnyH_take' 0 (some 2) (.pointer (some ⟨x, 0, none⟩)) rfl rfl (by kernel_rfl) (by kernel_rfl) (by kernel_rfl) (fun _ _ _ h => h) (Or.inl ⟨by rfl, fun w' hS => by obtain ⟨s0, s1, s2, s3⟩ := hS; go_simp⟩) hS ?_
  simp only [Act.put, List.setIfInBounds_toArray, List.set_cons_zero, List.set_cons_succ]
  refine wpAnyH_take' 1 (some 3) (.pointer (some ⟨x, 0, none⟩)) rfl rfl (by kernel_rfl) (by kernel_rfl) (by kernel_rfl) (fun _ _ _ h => h) (Or.inl ⟨by rfl, fun w' hS => by obtain ⟨s0, s1, s2, s3⟩ := hS; go_simp⟩) hS ?_
  simp only [Act.put, List.setIfInBounds_toArray, List.set_cons_zero, List.set_cons_succ]
  refine wpAnyH_take' 2 (some 4) (.pointer (some ⟨x, 0, none⟩)) rfl rfl (by kernel_rfl) (by kernel_rfl) (by kernel_rfl) (fun _ _ _ h => h) (Or.inl ⟨by rfl, fun w' hS => by obtain ⟨s0, s1, s2, s3⟩ := hS; go_simp⟩) hS ?_
  simp only [Act.put, List.setIfInBounds_toArray, List.set_cons_zero, List.set_cons_succ]
  refine wpAnyH_take' 3 (some 5) (.pointer (some ⟨x, 1, none⟩)) rfl rfl (by kernel_rfl) (by kernel_rfl) (by kernel_rfl) (fun _ _ _ h => h) (Or.inl ⟨by rfl, fun w' hS => by obtain ⟨s0, s1, s2, s3⟩ := hS; go_simp⟩) hS ?_
  simp only [Act.put, List.setIfInBounds_toArray, List.set_cons_zero, List.set_cons_succ]
  refine wpAnyH_take' 4 (some 6) (.int .i64 (W.half : Int)) rfl rfl (by kernel_rfl) (by kernel_rfl) (by kernel_rfl) (fun _ _ _ h => h) (Or.inl ⟨by rfl, fun w' hS => by obtain ⟨s0, s1, s2, s3⟩ := hS; go_simp⟩) hS ?_
  simp only [Act.put, List.setIfInBounds_toArray, List.set_cons_zero, List.set_cons_succ]
  refine wpAnyH_take' 5 (some 7) (.pointer (some ⟨x, 0, none⟩)) rfl rfl (by kernel_rfl) (by kernel_rfl) (by kernel_rfl) (fun _ _ _ h => h) (Or.inl ⟨by rfl, fun w' hS => by obtain ⟨s0, s1, s2, s3⟩ := hS; go_simp⟩) hS ?_
  simp only [Act.put, List.setIfInBounds_toArray, List.set_cons_zero, List.set_cons_succ]
  refine wpAnyH_take' 6 (some 8) (.pointer (some ⟨x, 0, none⟩)) rfl rfl (by kernel_rfl) (by kernel_rfl) (by kernel_rfl) (fun _ _ _ h => h) (Or.inl ⟨by rfl, fun w' hS => by obtain ⟨s0, s1, s2, s3⟩ := hS; go_simp⟩) hS ?_
  simp only [Act.put, List.setIfInBounds_toArray, List.set_cons_zero, List.set_cons_succ]
  refine wpAnyH_take' 7 (some 9) (.pointer (some ⟨x, 4, none⟩)) rfl rfl (by kernel_rfl) (by kernel_rfl) (by kernel_rfl) (fun _ _ _ h => h) (Or.inl ⟨by rfl, fun w' hS => by obtain ⟨s0, s1, s2, s3⟩ := hS; go_simp⟩) hS ?_
  simp only [Act.put, List.setIfInBounds_toArray, List.set_cons_zero, List.set_cons_succ]
  refine wpAnyH_take' 8 (some 10) (.int .i64 (W.en : Int)) rfl rfl (by kernel_rfl) (by kernel_rfl) (by kernel_rfl) (fun _ _ _ h => h) (Or.inl ⟨by rfl, fun w' hS => by obtain ⟨s0, s1, s2, s3⟩ := hS; go_simp⟩) hS ?_
  simp only [Act.put, List.setIfInBounds_toArray, List.set_cons_zero, List.set_cons_succ]
  refine wpAnyH_take' 9 (some 11) (.slice a n c) rfl rfl (by kernel_rfl) (by kernel_rfl) (by kernel_rfl) (fun _ _ _ h => h) (Or.inl ⟨by rfl, fun w' hS => by obtain ⟨s0, s1, s2, s3⟩ := hS; go_simp⟩) hS ?_
  simp only [Act.put, List.setIfInBounds_toArray, List.set_cons_zero, List.set_cons_succ]
  refine wpAnyH_ready (rs := [10]) (by kernel_rfl) (by simp) (AllReadyH.cons rfl (fun K2 hK2 => ?_) AllReadyH.nil)
  go_simp
  refine k82.mono ?_
  rintro e' w1 ⟨rfl, A1, K1, B1⟩
  exact ⟨rfl, rfl, A1, K1, ((Below.refl B w).drew).trans B1⟩
/-- change of what goes up. -/
theorem change_no {f : Nat} {n : Int} {caps : Array Value} (hn : n ≠ 0) (hf : ∀ W, Sem.run Try.prog (callFunc f caps) W = .ok (.enter f caps) W) (hA : LG B w d s D x W G)
    (hc : ∀ r, r = w.heap.size → Calls Try.prog f caps (w.alloc (.cells #[.int .i64 0] 34)) fun e w' => e = .panicked (GU n) ∧ LG B w' d s D' x W (r :: G) ∧ Kept (r :: G) (w.alloc (.cells #[.int .i64 0] 34)) w' ∧ Below B (w.alloc (.cells #[.int .i64 0] 34)) w') :
    Calls Try.prog 76 #[.pointer (some ⟨x, 0, none⟩), .func (.func f) #[] caps] w fun e w' => e = .returned (.int .i64 n) ∧ LG B w' d s D' x ⟨W.half, W.e, W.cnt, W.en, true⟩ G ∧ Kept G w w' ∧ Below B w w' := by
  have hsz := hA.size
  have hgl := hA.glt
  have k67 := attempt_no (w := w) (n := n) (Q := fun w2 => LG B w2 d s D' x W (w.heap.size :: G) ∧ Kept G w w2 ∧ Below B w w2) hf ((hc _ rfl).mono (by
    rintro e w1 ⟨rfl, A1, K1, B1⟩
    exact ⟨rfl, (blk_new w [.int .i64 0] 34).block (K1 _ List.mem_cons_self), A1, fun g hg => (K1 g (List.mem_cons_of_mem _ hg)).trans (Below.heap_alloc _ _ _ (hgl g hg)), ((al w _).mono hsz).trans B1⟩))
  have k67' : Calls Try.prog 67 #[.func (.func f) #[] caps] w fun e w' => e = .returned (.int .i64 n) ∧ (LG B w' d s D' x W G ∧ Kept G w w' ∧ Below B w w') ∧ Blk w' x (wlC d W) 111 := k67.mono (by
    rintro e w1 ⟨rfl, w2, ⟨A2, K2, B2⟩, k⟩
    have hnG : w.heap.size ∉ G := fun hm => Nat.lt_irrefl _ (hgl _ hm)
    rcases A2.keepBlk k hsz with ⟨A3, K3⟩ | hm
    · exact ⟨rfl, ⟨A3, fun g hg => (K3 g hg).trans (K2 g hg), B2.trans (k.below (Nat.le_trans hsz B2.size) (fun i e => by omega))⟩, A3.wal⟩
    · exact absurd hm hnG)
  refine (change76_no hn k67' ⟨_, _, _, rfl⟩).mono ?_
  rintro e w1 ⟨rfl, w2, ⟨A2, K2, B2⟩, hb, rfl⟩
  obtain ⟨A3, K3, B3⟩ := A2.turn (o := 5) (v := .bool true) (W2 := ⟨W.half, W.e, W.cnt, W.en, true⟩) (by simp [wlC])
  exact ⟨rfl, A3, fun g hg => (K3 g hg).trans (K2 g hg), B2.trans B3⟩
set_option maxHeartbeats 1000000 in
theorem append42_yes {R n c : Nat} {a : Option Addr} {l : Bs} (hA : LG B w d s D x W G) (hbr : W.br = false) (hleft : D.cut = true → 0 ≤ D.left) (hcan : D.can (np l)) (hoff : D.off = false) (hw : D.wait.length ≤ 50000) (hS : D.secs.length = 2 * R) (hR : R ≤ 64) (hh : W.half = 0 ∨ W.half = 1) (he : W.e < 65536) (hcn : W.cnt < 100000) (hlv : LV EB w (.slice a n c) l) (hl0 : 0 < l.length) (hl : l.length ≤ 3648) (hag : ∀ g o, a = some ⟨g, o, none⟩ → g ∈ G) (hfit : W.en + np l ≤ R) :
    Calls Try.prog 42 #[.pointer (some ⟨x, 0, none⟩), .slice a n c] w fun e w' => e = .returned (.tuple #[.int .i64 (W.cnt : Int), .int .i64 0]) ∧ LG B w' d s (D.put (W.half * R + W.en) (layP W.e W.en l)) x ⟨W.half, W.e, W.cnt + 1, W.en + np l, false⟩ G ∧ Kept G w w' ∧ Below B w w' := by
  obtain ⟨_, _, hv0⟩ := hlv.form
  have hnl : n = l.length := by simp only [Value.slice.injEq] at hv0; exact hv0.2.1
  clear hv0
  have hnp : (n + 56) / 57 = np l := by rw [hnl]; rfl
  have k78 : ∀ W2, Below w.heap.size w W2 → Calls Try.prog 78 #[.pointer (some ⟨x, 0, none⟩), .slice a n c] W2 fun e w' => e = .returned (.int .i64 0) ∧ w' = W2 := fun W2 k => by
    have := takes78 (hA.wal.below k) a n c
    unfold takesP at this
    rw [hbr, if_neg (by simp), if_neg (by omega)] at this
    exact this
  have k79 := pieces79 a n c (by omega)
  rw [hnp] at k79
  have b0 := blk_new w [.pointer (some ⟨x, 0, none⟩)] 57
  have b1 := blk_new (w.alloc (.cells #[.pointer (some ⟨x, 0, none⟩)] 57)) [.slice a n c] 33
  have A2 := ((hA.new (.cells #[.pointer (some ⟨x, 0, none⟩)] 57)).new (.cells #[.slice a n c] 33)).below (Below.refl _ _).drew.drew
  have kd : Below w.heap.size w ((w.alloc (.cells #[.pointer (some ⟨x, 0, none⟩)] 57)).alloc (.cells #[.slice a n c] 33)).drew.drew := bmore (bmore (al _ _) (al _ _)) (Below.refl _ _).drew.drew
  have kd1 : Below w.heap.size w ((w.alloc (.cells #[.pointer (some ⟨x, 0, none⟩)] 57)).alloc (.cells #[.slice a n c] 33)).drew := bmore (bmore (al _ _) (al _ _)) (Below.refl _ _).drew
  have c0 := (b0.below (al _ (.cells #[.slice a n c] 33))).below (Below.refl _ _).drew.drew
  have c1 := b1.below (Below.refl _ _).drew.drew
  have e0 := c0.cell 0
  have e1 := c1.cell 0
  simp only [World.size_alloc, List.getElem?_cons_zero] at e0 e1 c1 A2
  have k47 := left47 (hA.below kd1).disk (hA.wal.below kd1) hS hR (by omega)
  have hlv2 := hlv.below kd
  have hbz := hA.size
  have HKG : Hid (∀ g ∈ G, g < w.heap.size) := hA.glt
  have hxl := hA.wal.lt
  clear b0 b1 hA hlv hnp
  obtain ⟨V, hV⟩ : ∃ V, ((w.alloc (.cells #[.pointer (some ⟨x, 0, none⟩)] 57)).alloc (.cells #[.slice a n c] 33)).drew.drew = V := ⟨_, rfl⟩
  have k76 := change_lit (f := 83) (caps := #[.pointer (some ⟨w.heap.size, 0, none⟩), .pointer (some ⟨w.heap.size + 1, 0, none⟩)]) (D' := D.put (W.half * R + W.en) (layP W.e W.en l)) (cf83 _) A2 hbr (fun r hr => by
    subst hr
    exact append83_yes (R := R) (A2.new _) (c0.below (al _ _)) (c1.below (al _ _)) (by simp) (by simp) hleft hcan hoff hw hS hR hh he (hlv2.below (al _ _)) hl0 hl (fun g o hg => by simp [hag g o hg]) hfit)
  have hle : ¬ ((R - W.en : Nat) : Int) < ((np l : Nat) : Int) := by omega
  have hle2 : ¬ R - W.en < np l := by omega
  have hmf : ∀ (fn : Fn) (first cap : Array Value) (w : World), (Instr.makeFunc fn first cap).run Try.prog w = .ok (.func fn first cap) w := fun _ _ _ _ => rfl
  have HFIN : Hid (∀ w3, LG B w3 d s (D.put (W.half * R + W.en) (layP W.e W.en l)) x W ((w.heap.size + 1) :: w.heap.size :: G) → Kept ((w.heap.size + 1) :: w.heap.size :: G) V w3 → Below B V w3 → ∀ i j : Int, i = ((W.cnt + 1 : Nat) : Int) → j = ((W.en + np l : Nat) : Int) →
      LG B ((w3.setCell ⟨x, 3, none⟩ (.int .i64 i)).setCell ⟨x, 4, none⟩ (.int .i64 j)) d s (D.put (W.half * R + W.en) (layP W.e W.en l)) x ⟨W.half, W.e, W.cnt + 1, W.en + np l, false⟩ G ∧ Kept G w ((w3.setCell ⟨x, 3, none⟩ (.int .i64 i)).setCell ⟨x, 4, none⟩ (.int .i64 j)) ∧ Below B w ((w3.setCell ⟨x, 3, none⟩ (.int .i64 i)).setCell ⟨x, 4, none⟩ (.int .i64 j))) := by
    rintro w3 A3 K3 B3 i j rfl rfl
    obtain ⟨A4, K4, B4⟩ := A3.turn (o := 3) (v := .int .i64 ((W.cnt + 1 : Nat) : Int)) (W2 := ⟨W.half, W.e, W.cnt + 1, W.en, false⟩) (by simp [wlC, hbr])
    obtain ⟨A5, K5, B5⟩ := A4.turn (o := 4) (v := .int .i64 ((W.en + np l : Nat) : Int)) (W2 := ⟨W.half, W.e, W.cnt + 1, W.en + np l, false⟩) (by simp [wlC])
    refine ⟨A5.less (fun g hg => by simp [hg]), fun g hg => ?_, ?_⟩
    · have h1 : g ∈ (w.heap.size + 1) :: w.heap.size :: G := by simp [hg]
      exact (((K5 g h1).trans (K4 g h1)).trans (K3 g h1)).trans (by rw [← hV]; exact kd.block g (HKG.out g hg))
    · exact (((kd.mono hbz).trans (by rw [hV]; exact B3)).trans B4).trans B5
  have hwc : IntKind.i64.wrap ((W.cnt : Int) + 1) = ((W.cnt + 1 : Nat) : Int) := by rw [wrap_small _ (by omega) (by omega)]; omega
  have hnp64 : np l ≤ 64 := by unfold np; omega
  have hwe : IntKind.i64.wrap ((W.en : Int) + ((np l : Nat) : Int)) = ((W.en + np l : Nat) : Int) := by
    rw [wrap_small _ (by omega) (by omega)]; omega
  clear hnp64
  have hwd : IntKind.i64.wrap (((W.cnt + 1 : Nat) : Int) - 1) = (W.cnt : Int) := by rw [wrap_small _ (by omega) (by omega)]; omega
  have HC : Hid (∀ w3, Kept ((w.heap.size + 1) :: w.heap.size :: G) V w3 → Blk w3 w.heap.size [.pointer (some ⟨x, 0, none⟩)] 57 ∧ Blk w3 (w.heap.size + 1) [.slice a n c] 33) := fun w3 K3 => by
    rw [hV] at c0 c1
    exact ⟨c0.block (K3 _ (by simp)), c1.block (K3 _ (by simp))⟩
  have hn1 : ¬ x = w.heap.size := by omega
  have hn2 : ¬ x = w.heap.size + 1 := by omega
  have hn3 : ¬ w.heap.size = x := by omega
  have hn4 : ¬ w.heap.size + 1 = x := by omega
  have HV : Hid ((((w.alloc (.cells #[.pointer (some ⟨x, 0, none⟩)] 57)).alloc (.cells #[.slice a n c] 33)).drew.drew) = V) := hV
  have HW0 : Hid (wrap64 (W.cnt : Int) = (W.cnt : Int)) := by show _ = _; unfold wrap64; omega
  clear c0 c1 A2 kd kd1 hlv2 hn1 hn2 hV hbr hleft hcan hoff hw hS hR hh he hcn hl0 hl hag hfit hnl hxl hbz
  generalize np l = m at *
  generalize R - W.en = lf at *
  go_enter Try.func42, Try.ntmps42
  go_wp2_with (go_at_call 78; (refine (k78 _ (bmore (al _ _) (al _ _))).mono ?_; rintro e w1 ⟨rfl, rfl⟩))
  go_region_held3 (fun W2 => W2.cell? ⟨w.heap.size, 0, none⟩ = some (.pointer (some ⟨x, 0, none⟩)) ∧ W2.cell? ⟨w.heap.size + 1, 0, none⟩ = some (.slice a n c)) (exact ⟨e0, e1⟩) (first
    | (go_at_call 79; (refine (k79 _).mono ?_; rintro e w1 ⟨rfl, rfl⟩))
    | (go_at_call 47; (refine k47.mono ?_; rintro e w1 ⟨rfl, rfl⟩)))
  go_wp2_with (go_at_call 76; (refine k76.mono ?_; rintro e w3 ⟨rfl, A3, K3, B3⟩; obtain ⟨d0, d1⟩ := HC.out w3 (by rw [← HV.out]; exact K3); have f0 := d0.cell 0; have f1 := d1.cell 0; have x3 := A3.wal.cell 3; have x4 := A3.wal.cell 4; have z3 := A3.wal.frozen 3; have z4 := A3.wal.frozen 4; simp only [wlC, List.getElem?_cons_zero, List.getElem?_cons_succ] at f0 f1 x3 x4))
  have HF := HFIN.out w3 A3 (by rw [← HV.out]; exact K3) (by rw [← HV.out]; exact B3) ((W.cnt : Int) + 1) ((W.en : Int) + (m : Int)) (by omega) (by omega)
  have g0 := (d0.other (p := ⟨x, 3, none⟩) (by simpa using hn3) (.int .i64 ((W.cnt : Int) + 1))).cell 0
  have g1 := (d1.other (p := ⟨x, 3, none⟩) (by simpa using hn4) (.int .i64 ((W.cnt : Int) + 1))).cell 0
  have g3 := (A3.wal.set (o := 3) (.int .i64 ((W.cnt : Int) + 1)))
  have g4 := g3.cell 4
  have g5 := g3.frozen 4
  have g6 := (g3.set (o := 4) (.int .i64 ((W.en : Int) + (m : Int)))).cell 3
  have g7 := ((d0.other (p := ⟨x, 3, none⟩) (by simpa using hn3) (.int .i64 ((W.cnt : Int) + 1))).other (p := ⟨x, 4, none⟩) (by simpa using hn3) (.int .i64 ((W.en : Int) + (m : Int)))).cell 0
  simp only [wlC, List.set_cons_succ, List.set_cons_zero, List.getElem?_cons_zero, List.getElem?_cons_succ] at g0 g1 g4 g6 g7
  clear g3 d0 d1 A3 K3 B3 f0 f1 x3 x4 z3 z4
  generalize w3.setCell ⟨x, 3, none⟩ (.int .i64 ((W.cnt : Int) + 1)) = w4 at *
  go_region_law (first
    | (go_simp; (with_reducible refine Calls.mono (k79 _) ?_); rintro e w5 ⟨rfl, rfl⟩))
  all_goals go_wp2
  all_goals exact bodyPost_ret (v := .tuple #[.int .i64 (W.cnt : Int), .int .i64 0]) (by simp [results, Try.results42]; try exact HW0.out) rfl ⟨rfl, HF.1.below (Below.refl _ _).drew, fun g hg => HF.2.1 g hg, HF.2.2.trans (Below.refl _ _).drew⟩
set_option maxHeartbeats 1000000 in
theorem append42_no {R n c : Nat} {a : Option Addr} {l : Bs} (hA : LG B w d s D x W G) (hbr : W.br = false) (hleft : D.cut = true → 0 ≤ D.left) (hcan : ¬ D.can (np l)) (hoff : D.off = false) (hw : D.wait.length ≤ 50000) (hS : D.secs.length = 2 * R) (hR : R ≤ 64) (hh : W.half = 0 ∨ W.half = 1) (he : W.e < 65536) (hlv : LV EB w (.slice a n c) l) (hl0 : 0 < l.length) (hl : l.length ≤ 3648) (hag : ∀ g o, a = some ⟨g, o, none⟩ → g ∈ G) (hfit : W.en + np l ≤ R) :
    Calls Try.prog 42 #[.pointer (some ⟨x, 0, none⟩), .slice a n c] w fun e w' => e = .returned (.tuple #[.int .i64 0, .int .i64 7]) ∧ LG B w' d s (D.stuck (W.half * R + W.en) (layP W.e W.en l)) x ⟨W.half, W.e, W.cnt, W.en, true⟩ G ∧ Kept G w w' ∧ Below B w w' := by
  obtain ⟨_, _, hv0⟩ := hlv.form
  have hnl : n = l.length := by simp only [Value.slice.injEq] at hv0; exact hv0.2.1
  clear hv0
  have hnp : (n + 56) / 57 = np l := by rw [hnl]; rfl
  have k78 : ∀ W2, Below w.heap.size w W2 → Calls Try.prog 78 #[.pointer (some ⟨x, 0, none⟩), .slice a n c] W2 fun e w' => e = .returned (.int .i64 0) ∧ w' = W2 := fun W2 k => by
    have := takes78 (hA.wal.below k) a n c
    unfold takesP at this
    rw [hbr, if_neg (by simp), if_neg (by omega)] at this
    exact this
  have k79 := pieces79 a n c (by omega)
  rw [hnp] at k79
  have b0 := blk_new w [.pointer (some ⟨x, 0, none⟩)] 57
  have b1 := blk_new (w.alloc (.cells #[.pointer (some ⟨x, 0, none⟩)] 57)) [.slice a n c] 33
  have A2 := ((hA.new (.cells #[.pointer (some ⟨x, 0, none⟩)] 57)).new (.cells #[.slice a n c] 33)).below (Below.refl _ _).drew.drew
  have kd : Below w.heap.size w ((w.alloc (.cells #[.pointer (some ⟨x, 0, none⟩)] 57)).alloc (.cells #[.slice a n c] 33)).drew.drew := bmore (bmore (al _ _) (al _ _)) (Below.refl _ _).drew.drew
  have kd1 : Below w.heap.size w ((w.alloc (.cells #[.pointer (some ⟨x, 0, none⟩)] 57)).alloc (.cells #[.slice a n c] 33)).drew := bmore (bmore (al _ _) (al _ _)) (Below.refl _ _).drew
  have c0 := (b0.below (al _ (.cells #[.slice a n c] 33))).below (Below.refl _ _).drew.drew
  have c1 := b1.below (Below.refl _ _).drew.drew
  have e0 := c0.cell 0
  have e1 := c1.cell 0
  simp only [World.size_alloc, List.getElem?_cons_zero] at e0 e1 c1 A2
  have k47 := left47 (hA.below kd1).disk (hA.wal.below kd1) hS hR (by omega)
  have hlv2 := hlv.below kd
  have hbz := hA.size
  have HKG : Hid (∀ g ∈ G, g < w.heap.size) := hA.glt
  have hxl := hA.wal.lt
  clear b0 b1 hA hlv hnp
  obtain ⟨V, hV⟩ : ∃ V, ((w.alloc (.cells #[.pointer (some ⟨x, 0, none⟩)] 57)).alloc (.cells #[.slice a n c] 33)).drew.drew = V := ⟨_, rfl⟩
  have k76 := change_no (f := 83) (n := 7) (caps := #[.pointer (some ⟨w.heap.size, 0, none⟩), .pointer (some ⟨w.heap.size + 1, 0, none⟩)]) (D' := D.stuck (W.half * R + W.en) (layP W.e W.en l)) (by decide) (cf83 _) A2 (fun r hr => by
    subst hr
    exact append83_no (R := R) (A2.new _) (c0.below (al _ _)) (c1.below (al _ _)) (by simp) (by simp) hleft hcan hoff hw hS hR hh he (hlv2.below (al _ _)) hl0 hl (fun g o hg => by simp [hag g o hg]) hfit)
  have hle : ¬ ((R - W.en : Nat) : Int) < ((np l : Nat) : Int) := by omega
  have hle2 : ¬ R - W.en < np l := by omega
  have hmf : ∀ (fn : Fn) (first cap : Array Value) (w : World), (Instr.makeFunc fn first cap).run Try.prog w = .ok (.func fn first cap) w := fun _ _ _ _ => rfl
  have HFIN : Hid (∀ w3, LG B w3 d s (D.stuck (W.half * R + W.en) (layP W.e W.en l)) x ⟨W.half, W.e, W.cnt, W.en, true⟩ ((w.heap.size + 1) :: w.heap.size :: G) → Kept ((w.heap.size + 1) :: w.heap.size :: G) V w3 → Below B V w3 → LG B w3 d s (D.stuck (W.half * R + W.en) (layP W.e W.en l)) x ⟨W.half, W.e, W.cnt, W.en, true⟩ G ∧ Kept G w w3 ∧ Below B w w3) := by
    rintro w3 A3 K3 B3
    refine ⟨A3.less (fun g hg => by simp [hg]), fun g hg => ?_, ?_⟩
    · exact (K3 g (by simp [hg])).trans (by rw [← hV]; exact kd.block g (HKG.out g hg))
    · exact (kd.mono hbz).trans (by rw [hV]; exact B3)
  have HV : Hid ((((w.alloc (.cells #[.pointer (some ⟨x, 0, none⟩)] 57)).alloc (.cells #[.slice a n c] 33)).drew.drew) = V) := hV
  clear c0 c1 A2 kd kd1 hlv2 hV hbr hleft hcan hoff hw hS hR hh he hl0 hl hag hfit hnl hxl hbz
  generalize np l = m at *
  generalize R - W.en = lf at *
  go_enter Try.func42, Try.ntmps42
  go_wp2_with (go_at_call 78; (refine (k78 _ (bmore (al _ _) (al _ _))).mono ?_; rintro e w1 ⟨rfl, rfl⟩))
  go_region_held3 (fun W2 => W2.cell? ⟨w.heap.size, 0, none⟩ = some (.pointer (some ⟨x, 0, none⟩)) ∧ W2.cell? ⟨w.heap.size + 1, 0, none⟩ = some (.slice a n c)) (exact ⟨e0, e1⟩) (first
    | (go_at_call 79; (refine (k79 _).mono ?_; rintro e w1 ⟨rfl, rfl⟩))
    | (go_at_call 47; (refine k47.mono ?_; rintro e w1 ⟨rfl, rfl⟩)))
  go_wp2_with (go_at_call 76; (refine k76.mono ?_; rintro e w3 ⟨rfl, A3, K3, B3⟩))
  refine bodyPost_ret (v := .tuple #[.int .i64 0, .int .i64 7]) (by simp [results, Try.results42]) rfl ⟨rfl, HFIN.out w3 A3 (by rw [← HV.out]; exact K3) (by rw [← HV.out]; exact B3)⟩
theorem switch81_yes {R n c q0 q1 q2 o : Nat} {a : Option Addr} {l : Bs} (hA : LG B w d s D x W G) (hq0 : Blk w q0 [.pointer (some ⟨x, 0, none⟩)] 57) (hq1 : Blk w q1 [.int .i64 (o : Int)] 3) (hq2 : Blk w q2 [.slice a n c] 33) (h0 : q0 ∈ G) (hleft : D.cut = true → 0 ≤ D.left) (hcan : D.can (np l)) (hoff : D.off = false) (hw : D.wait.length ≤ 50000) (hS : D.secs.length = 2 * R) (hR : R ≤ 64) (ho : o = 0 ∨ o = 1) (he : W.e < 65536) (hlv : LV EB w (.slice a n c) l) (hl0 : 0 < l.length) (hl : l.length ≤ 3648) (hag : ∀ g o, a = some ⟨g, o, none⟩ → g ∈ G) (hfit : np l ≤ R) (hfl : D.says (o * R + 0) (layP W.e 0 l) = 0) :
    Calls Try.prog 81 #[.pointer (some ⟨q0, 0, none⟩), .pointer (some ⟨q1, 0, none⟩), .pointer (some ⟨q2, 0, none⟩)] w fun e w' => e = .returned (.tuple #[]) ∧ LG B w' d s (D.sunk (o * R + 0) (layP W.e 0 l)) x W G ∧ Kept G w w' ∧ Below B w w' := by
  have k82 := write82_yes (p := 0) hA hleft hoff hw hS hR ho he hlv hl0 hl hag hA.glt (by omega) hcan
  have y0 := hq0.cell 0
  have y1 := hq1.cell 0
  have y2 := hq2.cell 0
  simp only [List.getElem?_cons_zero] at y0 y1 y2
  have HF : Hid (∀ w1, LG B w1 d s (D.put (o * R + 0) (layP W.e 0 l)) x W G → Kept G w w1 → Below B w w1 → w1.cell? ⟨q0, 0, none⟩ = some (.pointer (some ⟨x, 0, none⟩)) ∧ Calls Try.prog 77 #[.pointer (some ⟨x, 0, none⟩)] w1 fun e w' => e = .returned (.tuple #[]) ∧ LG B w' d s (D.sunk (o * R + 0) (layP W.e 0 l)) x W G ∧ Kept G w w' ∧ Below B w w') := fun w1 A1 K1 B1 => by
    refine ⟨(hq0.block (K1 q0 h0)).cell 0, (settle77 A1.disk A1.wal ?_ ?_).mono ?_⟩
    · exact hfl
    · show (D.wait ++ waitOf _ _).length ≤ _
      rw [List.length_append, waitOf_length, lay_length]
      omega
    · rintro e w2 ⟨rfl, A2, K2, B2⟩
      exact ⟨rfl, ⟨A2, A1.wal.block (K2 x (by simp)), A1.nx, A1.bx⟩, fun g hg => (K2 g (List.mem_cons_of_mem _ hg)).trans (K1 g hg), B1.trans B2⟩
  clear hq0 hq1 hq2 hA hlv
  go_enter Try.func81, Try.ntmps81
  go_wp2_with (first
    | (go_at_call 82; (refine k82.mono ?_; rintro e w1 ⟨rfl, A1, K1, B1⟩; obtain ⟨y3, k77⟩ := HF.out w1 A1 K1 B1; clear A1 K1 B1))
    | (go_at_call 77; (refine k77.mono ?_; rintro e w2 ⟨rfl, A2, K2, B2⟩)))
  go_end0
  exact ⟨rfl, A2, K2, B2⟩
theorem switch81_no {R n c q0 q1 q2 o : Nat} {a : Option Addr} {l : Bs} (hA : LG B w d s D x W G) (hq0 : Blk w q0 [.pointer (some ⟨x, 0, none⟩)] 57) (hq1 : Blk w q1 [.int .i64 (o : Int)] 3) (hq2 : Blk w q2 [.slice a n c] 33) (h0 : q0 ∈ G) (hleft : D.cut = true → 0 ≤ D.left) (hoff : D.off = false) (hw : D.wait.length ≤ 50000) (hS : D.secs.length = 2 * R) (hR : R ≤ 64) (ho : o = 0 ∨ o = 1) (he : W.e < 65536) (hlv : LV EB w (.slice a n c) l) (hl0 : 0 < l.length) (hl : l.length ≤ 3648) (hag : ∀ g o, a = some ⟨g, o, none⟩ → g ∈ G) (hfit : np l ≤ R) (hno : (¬ D.can (np l) ∧ D' = D.stuck (o * R + 0) (layP W.e 0 l)) ∨ (D.can (np l) ∧ D.says (o * R + 0) (layP W.e 0 l) = 7 ∧ D' = D.sunk (o * R + 0) (layP W.e 0 l))) :
    Calls Try.prog 81 #[.pointer (some ⟨q0, 0, none⟩), .pointer (some ⟨q1, 0, none⟩), .pointer (some ⟨q2, 0, none⟩)] w fun e w' => e = .panicked (GU 7) ∧ LG B w' d s D' x W G ∧ Kept G w w' ∧ Below B w w' := by
  have y0 := hq0.cell 0
  have y1 := hq1.cell 0
  have y2 := hq2.cell 0
  simp only [List.getElem?_cons_zero] at y0 y1 y2
  rcases hno with ⟨hcan, rfl⟩ | ⟨hcan, hfl, rfl⟩
  · have k82 := write82_no (p := 0) hA hleft hoff hw hS hR ho he hlv hl0 hl hag hA.glt (by omega) hcan
    clear hq0 hq1 hq2 hA hlv hcan
    go_enter Try.func81, Try.ntmps81
    go_wp2_with (go_at_call 82; (refine k82.mono ?_; rintro e w1 ⟨rfl, A1, K1, B1⟩))
    exact ⟨rfl, rfl, A1, K1, B1⟩
  · have hfl : (D.put (o * R + 0) (layP W.e 0 l)).flush.1 = 7 := hfl
    have k82 := write82_yes (p := 0) hA hleft hoff hw hS hR ho he hlv hl0 hl hag hA.glt (by omega) hcan
    have HF : Hid (∀ w1, LG B w1 d s (D.put (o * R + 0) (layP W.e 0 l)) x W G → Kept G w w1 → Below B w w1 → w1.cell? ⟨q0, 0, none⟩ = some (.pointer (some ⟨x, 0, none⟩)) ∧ Calls Try.prog 77 #[.pointer (some ⟨x, 0, none⟩)] w1 fun e w' => e = .panicked (GU 7) ∧ LG B w' d s (D.sunk (o * R + 0) (layP W.e 0 l)) x W G ∧ Kept G w w' ∧ Below B w w') := fun w1 A1 K1 B1 => by
      refine ⟨(hq0.block (K1 q0 h0)).cell 0, (settle77_no A1.disk A1.wal ?_ ?_).mono ?_⟩
      · rw [hfl]; decide
      · show (D.wait ++ waitOf _ _).length ≤ _
        rw [List.length_append, waitOf_length, lay_length]
        have : np l ≤ 64 := by unfold np; omega
        omega
      · rintro e w2 ⟨rfl, A2, K2, B2⟩
        rw [hfl]
        exact ⟨rfl, ⟨A2, A1.wal.block (K2 x (by simp)), A1.nx, A1.bx⟩, fun g hg => (K2 g (List.mem_cons_of_mem _ hg)).trans (K1 g hg), B1.trans B2⟩
    clear hq0 hq1 hq2 hA hlv hcan hfl
    go_enter Try.func81, Try.ntmps81
    go_wp2_with (first
      | (go_at_call 82; (refine k82.mono ?_; rintro e w1 ⟨rfl, A1, K1, B1⟩; obtain ⟨y3, k77⟩ := HF.out w1 A1 K1 B1; clear A1 K1 B1))
      | (go_at_call 77; (refine k77.mono ?_; rintro e w2 ⟨rfl, A2, K2, B2⟩)))
    exact ⟨rfl, rfl, A2, K2, B2⟩
set_option maxHeartbeats 4000000 in
theorem switch41_yes {R n c : Nat} {a : Option Addr} {l : Bs} (hA : LG B w d s D x W G) (hbr : W.br = false) (hleft : D.cut = true → 0 ≤ D.left) (hcan : D.can (np l)) (hoff : D.off = false) (hw : D.wait.length ≤ 50000) (hS : D.secs.length = 2 * R) (hR : R ≤ 64) (hh : W.half = 0 ∨ W.half = 1) (he : W.e < 65535) (hlv : LV EB w (.slice a n c) l) (hl0 : 0 < l.length) (hl : l.length ≤ 3648) (hag : ∀ g o, a = some ⟨g, o, none⟩ → g ∈ G) (hfit : np l ≤ R) (hfl : D.says ((1 - W.half) * R + 0) (layP (W.e + 1) 0 l) = 0) :
    Calls Try.prog 41 #[.pointer (some ⟨x, 0, none⟩), .slice a n c] w fun e w' => e = .returned (.int .i64 0) ∧ LG B w' d s (D.sunk ((1 - W.half) * R + 0) (layP (W.e + 1) 0 l)) x ⟨1 - W.half, W.e + 1, 1, np l, false⟩ G ∧ Kept G w w' ∧ Below B w w' := by
  obtain ⟨o, ho⟩ : ∃ o, 1 - W.half = o := ⟨_, rfl⟩
  obtain ⟨E, hE⟩ : ∃ E, W.e + 1 = E := ⟨_, rfl⟩
  rw [ho, hE]
  rw [ho, hE] at hfl
  obtain ⟨_, _, hv0⟩ := hlv.form
  have hnl : n = l.length := by simp only [Value.slice.injEq] at hv0; exact hv0.2.1
  clear hv0
  have hnp : (n + 56) / 57 = np l := by rw [hnl]; rfl
  have k78 : ∀ W2, Below w.heap.size w W2 → Calls Try.prog 78 #[.pointer (some ⟨x, 0, none⟩), .slice a n c] W2 fun e w' => e = .returned (.int .i64 0) ∧ w' = W2 := fun W2 k => by
    have := takes78 (hA.wal.below k) a n c
    unfold takesP at this
    rw [hbr, if_neg (by simp), if_neg (by omega)] at this
    exact this
  have k79 := pieces79 a n c (by omega)
  rw [hnp] at k79
  have b0 := blk_new w [.pointer (some ⟨x, 0, none⟩)] 57
  have b1 := blk_new (w.alloc (.cells #[.pointer (some ⟨x, 0, none⟩)] 57)) [.slice a n c] 33
  have A2 := ((hA.new (.cells #[.pointer (some ⟨x, 0, none⟩)] 57)).new (.cells #[.slice a n c] 33)).below (Below.refl _ _).drew
  have kd : Below w.heap.size w ((w.alloc (.cells #[.pointer (some ⟨x, 0, none⟩)] 57)).alloc (.cells #[.slice a n c] 33)).drew := bmore (bmore (al _ _) (al _ _)) (Below.refl _ _).drew
  have c0 := (b0.below (al _ (.cells #[.slice a n c] 33))).below (Below.refl _ _).drew
  have c1 := b1.below (Below.refl _ _).drew
  have e0 := c0.cell 0
  have e1 := c1.cell 0
  simp only [World.size_alloc, List.getElem?_cons_zero] at e0 e1 c1 A2
  have k80 := room80 A2.disk A2.wal hS hR
  have hlv2 := hlv.below kd
  have hbz := hA.size
  have HKG : Hid (∀ g ∈ G, g < w.heap.size) := hA.glt
  have hxl := hA.wal.lt
  have hsz2 : (((w.alloc (.cells #[.pointer (some ⟨x, 0, none⟩)] 57)).alloc (.cells #[.slice a n c] 33)).drew).heap.size = w.heap.size + 2 := by simp
  clear b0 b1 hA hlv hnp
  obtain ⟨V, hV⟩ : ∃ V, ((w.alloc (.cells #[.pointer (some ⟨x, 0, none⟩)] 57)).alloc (.cells #[.slice a n c] 33)).drew = V := ⟨_, rfl⟩
  rw [hV] at hsz2 A2 c0 c1 hlv2 kd
  -- the epoch goes up
  obtain ⟨A3, K3, B3⟩ := A2.turn (o := 2) (v := .int .i64 (E : Int)) (W2 := ⟨W.half, E, W.cnt, W.en, false⟩) (by simp [wlC, hbr])
  have d0 := c0.block (K3 _ (by simp))
  have d1 := c1.block (K3 _ (by simp))
  have hlv3 : LV EB (V.setCell ⟨x, 2, none⟩ (.int .i64 (E : Int))) (.slice a n c) l := lv_keepAt hlv2 fun g o hg => K3 g (by simp [hag g o hg])
  have hsz3 : (V.setCell ⟨x, 2, none⟩ (.int .i64 (E : Int))).heap.size = w.heap.size + 2 := by rw [← hsz2]; simp [World.setCell]
  have A4 := A3.new (.cells #[.int .i64 (o : Int)] 3)
  have d2 := blk_new (V.setCell ⟨x, 2, none⟩ (.int .i64 (E : Int))) [.int .i64 (o : Int)] 3
  have f0 := d0.below (al _ (.cells #[.int .i64 (o : Int)] 3))
  have f1 := d1.below (al _ (.cells #[.int .i64 (o : Int)] 3))
  have hlv4 := hlv3.below (al _ (.cells #[.int .i64 (o : Int)] 3))
  rw [hsz3] at A4 d2
  obtain ⟨V4, hV4⟩ : ∃ V4, (V.setCell ⟨x, 2, none⟩ (.int .i64 (E : Int))).alloc (.cells #[.int .i64 (o : Int)] 3) = V4 := ⟨_, rfl⟩
  rw [hV4] at A4 d2 f0 f1 hlv4
  have k76 := change_lit (f := 81) (caps := #[.pointer (some ⟨w.heap.size, 0, none⟩), .pointer (some ⟨w.heap.size + 2, 0, none⟩), .pointer (some ⟨w.heap.size + 1, 0, none⟩)]) (D' := D.sunk (o * R + 0) (layP E 0 l)) (cf81 _) A4 rfl (fun r hr => by
    subst hr
    exact switch81_yes (R := R) (A4.new _) (f0.below (al _ _)) (d2.below (al _ _)) (f1.below (al _ _)) (by simp) hleft hcan hoff hw hS hR (by omega) (by show E < 65536; omega) (hlv4.below (al _ _)) hl0 hl (fun g o hg => by simp [hag g o hg]) hfit hfl)
  have K34 : Kept G w V4 := fun g hg => by rw [← hV4]; exact ((Below.heap_alloc _ _ _ (by rw [hsz3]; have := HKG.out g hg; omega)).trans (K3 g (by simp [hg]))).trans (kd.block g (HKG.out g hg))
  have B34 : Below B w V4 := by rw [← hV4]; exact ((kd.mono hbz).trans B3).trans ((al _ _).mono (by rw [hsz3]; omega))
  have HFIN : Hid (∀ w5, LG B w5 d s (D.sunk (o * R + 0) (layP E 0 l)) x ⟨W.half, E, W.cnt, W.en, false⟩ ((w.heap.size + 2) :: (w.heap.size + 1) :: w.heap.size :: G) → Kept ((w.heap.size + 2) :: (w.heap.size + 1) :: w.heap.size :: G) V4 w5 → Below B V4 w5 → ∀ w6, w6 = ((w5.setCell ⟨x, 1, none⟩ (.int .i64 (o : Int))).setCell ⟨x, 3, none⟩ (.int .i64 1)).setCell ⟨x, 4, none⟩ (.int .i64 ((np l : Nat) : Int)) →
      LG B w6 d s (D.sunk (o * R + 0) (layP E 0 l)) x ⟨o, E, 1, np l, false⟩ G ∧ Kept G w w6 ∧ Below B w w6) := by
    rintro w5 A5 K5 B5 w6 rfl
    obtain ⟨A6, K6, B6⟩ := A5.turn (o := 1) (v := .int .i64 (o : Int)) (W2 := ⟨o, E, W.cnt, W.en, false⟩) (by simp [wlC])
    obtain ⟨A7, K7, B7⟩ := A6.turn (o := 3) (v := .int .i64 1) (W2 := ⟨o, E, 1, W.en, false⟩) (by simp [wlC])
    obtain ⟨A8, K8, B8⟩ := A7.turn (o := 4) (v := .int .i64 ((np l : Nat) : Int)) (W2 := ⟨o, E, 1, np l, false⟩) (by simp [wlC])
    refine ⟨A8.less (fun g hg => by simp [hg]), fun g hg => ?_, (((B34.trans B5).trans B6).trans B7).trans B8⟩
    have h1 : g ∈ (w.heap.size + 2) :: (w.heap.size + 1) :: w.heap.size :: G := by simp [hg]
    exact ((((K8 g h1).trans (K7 g h1)).trans (K6 g h1)).trans (K5 g h1)).trans (K34 g hg)
  have hle : ¬ (R : Int) < ((np l : Nat) : Int) := by omega
  have hle2 : ¬ R < np l := by omega
  have hne : ¬ (W.e : Int) = 65535 := by omega
  have hneb : ((W.e : Int) == 65535) = false := by simpa using hne
  have hmf : ∀ (fn : Fn) (first cap : Array Value) (w : World), (Instr.makeFunc fn first cap).run Try.prog w = .ok (.func fn first cap) w := fun _ _ _ _ => rfl
  have hwe : IntKind.i64.wrap ((W.e : Int) + 1) = (E : Int) := by rw [wrap_small _ (by omega) (by omega)]; omega
  have hwo : IntKind.i64.wrap (1 - (W.half : Int)) = (o : Int) := by rw [wrap_small _ (by omega) (by omega)]; omega
  have HV : Hid ((((w.alloc (.cells #[.pointer (some ⟨x, 0, none⟩)] 57)).alloc (.cells #[.slice a n c] 33)).drew) = V) := hV
  have HV4 : Hid ((V.setCell ⟨x, 2, none⟩ (.int .i64 (E : Int))).alloc (.cells #[.int .i64 (o : Int)] 3) = V4) := hV4
  have HSZ : Hid (V.heap.size = w.heap.size + 2) := hsz2
  have HC : Hid (∀ w5, Kept ((w.heap.size + 2) :: (w.heap.size + 1) :: w.heap.size :: G) V4 w5 → Blk w5 w.heap.size [.pointer (some ⟨x, 0, none⟩)] 57 ∧ Blk w5 (w.heap.size + 1) [.slice a n c] 33 ∧ Blk w5 (w.heap.size + 2) [.int .i64 (o : Int)] 3) := fun w5 K5 => ⟨f0.block (K5 _ (by simp)), f1.block (K5 _ (by simp)), d2.block (K5 _ (by simp))⟩
  have hn3 : ¬ w.heap.size = x := by omega
  have hn4 : ¬ w.heap.size + 1 = x := by omega
  have hn5 : ¬ w.heap.size + 2 = x := by omega
  have v0 := c0.cell 0
  have v1 := c1.cell 0
  have v2 := A2.wal.cell 2
  have v3 := A2.wal.frozen 2
  have u0 := d0.cell 0
  have u1 := d1.cell 0
  have u2 := A3.wal.cell 1
  have u4 := f0.cell 0
  rw [← hV4] at u4
  simp only [wlC, List.getElem?_cons_zero, List.getElem?_cons_succ] at v0 v1 v2 u0 u1 u2 u4
  rw [show w.heap.size + 2 = V.heap.size from hsz2.symm] at k76 HFIN HC hn5
  clear c0 c1 d0 d1 d2 f0 f1 A2 A3 A4 K3 B3 kd hlv2 hlv3 hlv4 hbr hleft hcan hfl hoff hw hS hR hh he hl0 hl hag hfit hnl hxl hbz hV hV4 hsz2 hsz3 ho hE K34 B34
  generalize np l = m at *
  go_enter Try.func41, Try.ntmps41
  go_wp2_with (go_at_call 78; (refine (k78 _ (bmore (al _ _) (al _ _))).mono ?_; rintro e w1 ⟨rfl, rfl⟩))
  go_region_held3 (fun W2 => W2.cell? ⟨w.heap.size, 0, none⟩ = some (.pointer (some ⟨x, 0, none⟩)) ∧ W2.cell? ⟨w.heap.size + 1, 0, none⟩ = some (.slice a n c)) (exact ⟨e0, e1⟩) (first
    | (go_at_call 79; (refine (k79 _).mono ?_; rintro e w1 ⟨rfl, rfl⟩))
    | (go_at_call 80; (refine k80.mono ?_; rintro e w1 ⟨rfl, rfl⟩)))
  rw [HV.out]
  go_wp2_with (go_at_call 76; (rw [HV4.out]; refine k76.mono ?_; rintro e w5 ⟨rfl, A5, K5, B5⟩; obtain ⟨p0, p1, p2⟩ := HC.out w5 K5; have x1 := A5.wal.frozen 1; have x3 := A5.wal.frozen 3; have x4 := A5.wal.frozen 4; have z1 := A5.wal.cell 1; have z3 := A5.wal.cell 3; have z4 := A5.wal.cell 4; have t0 := p0.cell 0; have t1 := p1.cell 0; have t2 := p2.cell 0; simp only [wlC, List.getElem?_cons_zero, List.getElem?_cons_succ] at z1 z3 z4 t0 t1 t2))
  have HF := HFIN.out w5 A5 K5 B5 _ rfl
  have hs0 : w5.drew.cell? ⟨w.heap.size, 0, none⟩ = some (.pointer (some ⟨x, 0, none⟩)) ∧ w5.drew.cell? ⟨w.heap.size + 1, 0, none⟩ = some (.slice a n c) ∧ w5.drew.cell? ⟨V.heap.size, 0, none⟩ = some (.int .i64 (o : Int)) := ⟨t0, t1, t2⟩
  have HS1 : Hid (∀ v, (w5.drew.setCell ⟨x, 1, none⟩ v).cell? ⟨w.heap.size, 0, none⟩ = some (.pointer (some ⟨x, 0, none⟩)) ∧ (w5.drew.setCell ⟨x, 1, none⟩ v).cell? ⟨w.heap.size + 1, 0, none⟩ = some (.slice a n c) ∧ (w5.drew.setCell ⟨x, 1, none⟩ v).cell? ⟨V.heap.size, 0, none⟩ = some (.int .i64 (o : Int))) := fun v => ⟨(p0.other (p := ⟨x, 1, none⟩) (by simpa using hn3) v).cell 0, (p1.other (p := ⟨x, 1, none⟩) (by simpa using hn4) v).cell 0, (p2.other (p := ⟨x, 1, none⟩) (by simpa using hn5) v).cell 0⟩
  have HS2 : Hid (∀ v u, ((w5.drew.setCell ⟨x, 1, none⟩ v).setCell ⟨x, 3, none⟩ u).cell? ⟨w.heap.size, 0, none⟩ = some (.pointer (some ⟨x, 0, none⟩)) ∧ ((w5.drew.setCell ⟨x, 1, none⟩ v).setCell ⟨x, 3, none⟩ u).cell? ⟨w.heap.size + 1, 0, none⟩ = some (.slice a n c) ∧ ((w5.drew.setCell ⟨x, 1, none⟩ v).setCell ⟨x, 3, none⟩ u).cell? ⟨V.heap.size, 0, none⟩ = some (.int .i64 (o : Int))) := fun v u => ⟨((p0.other (p := ⟨x, 1, none⟩) (by simpa using hn3) v).other (p := ⟨x, 3, none⟩) (by simpa using hn3) u).cell 0, ((p1.other (p := ⟨x, 1, none⟩) (by simpa using hn4) v).other (p := ⟨x, 3, none⟩) (by simpa using hn4) u).cell 0, ((p2.other (p := ⟨x, 1, none⟩) (by simpa using hn5) v).other (p := ⟨x, 3, none⟩) (by simpa using hn5) u).cell 0⟩
  have HS3 : Hid (∀ v u r, (((w5.drew.setCell ⟨x, 1, none⟩ v).setCell ⟨x, 3, none⟩ u).setCell ⟨x, 4, none⟩ r).cell? ⟨w.heap.size, 0, none⟩ = some (.pointer (some ⟨x, 0, none⟩)) ∧ (((w5.drew.setCell ⟨x, 1, none⟩ v).setCell ⟨x, 3, none⟩ u).setCell ⟨x, 4, none⟩ r).cell? ⟨w.heap.size + 1, 0, none⟩ = some (.slice a n c) ∧ (((w5.drew.setCell ⟨x, 1, none⟩ v).setCell ⟨x, 3, none⟩ u).setCell ⟨x, 4, none⟩ r).cell? ⟨V.heap.size, 0, none⟩ = some (.int .i64 (o : Int))) := fun v u r => ⟨(((p0.other (p := ⟨x, 1, none⟩) (by simpa using hn3) v).other (p := ⟨x, 3, none⟩) (by simpa using hn3) u).other (p := ⟨x, 4, none⟩) (by simpa using hn3) r).cell 0, (((p1.other (p := ⟨x, 1, none⟩) (by simpa using hn4) v).other (p := ⟨x, 3, none⟩) (by simpa using hn4) u).other (p := ⟨x, 4, none⟩) (by simpa using hn4) r).cell 0, (((p2.other (p := ⟨x, 1, none⟩) (by simpa using hn5) v).other (p := ⟨x, 3, none⟩) (by simpa using hn5) u).other (p := ⟨x, 4, none⟩) (by simpa using hn5) r).cell 0⟩
  clear A5 K5 B5 p0 p1 p2 t0 t1 t2
  refine wp_region_held_drew (S := fun W2 => W2.cell? ⟨w.heap.size, 0, none⟩ = some (.pointer (some ⟨x, 0, none⟩)) ∧ W2.cell? ⟨w.heap.size + 1, 0, none⟩ = some (.slice a n c) ∧ W2.cell? ⟨V.heap.size, 0, none⟩ = some (.int .i64 (o : Int))) (by kernel_rfl) hs0 (fun hS => ?_)
  refine wpAnyH_take' 0 (some 42) (.pointer (some ⟨x, 0, none⟩)) rfl rfl (by kernel_rfl) (by kernel_rfl) (by kernel_rfl) (fun _ _ _ h => h) (Or.inl ⟨by rfl, fun w' hS => by obtain ⟨s0, s1, s2⟩ := hS; go_simp⟩) hS ?_
  simp only [Act.put, List.setIfInBounds_toArray, List.set_cons_zero, List.set_cons_succ]
  refine wpAnyH_take' 1 (some 43) (.pointer (some ⟨x, 0, none⟩)) rfl rfl (by kernel_rfl) (by kernel_rfl) (by kernel_rfl) (fun _ _ _ h => h) (Or.inl ⟨by rfl, fun w' hS => by obtain ⟨s0, s1, s2⟩ := hS; go_simp⟩) hS ?_
  simp only [Act.put, List.setIfInBounds_toArray, List.set_cons_zero, List.set_cons_succ]
  refine wpAnyH_take' 2 (some 44) (.pointer (some ⟨x, 0, none⟩)) rfl rfl (by kernel_rfl) (by kernel_rfl) (by kernel_rfl) (fun _ _ _ h => h) (Or.inl ⟨by rfl, fun w' hS => by obtain ⟨s0, s1, s2⟩ := hS; go_simp⟩) hS ?_
  simp only [Act.put, List.setIfInBounds_toArray, List.set_cons_zero, List.set_cons_succ]
  refine wpAnyH_take' 3 (some 45) (.int .i64 (o : Int)) rfl rfl (by kernel_rfl) (by kernel_rfl) (by kernel_rfl) (fun _ _ _ h => h) (Or.inl ⟨by rfl, fun w' hS => by obtain ⟨s0, s1, s2⟩ := hS; go_simp⟩) hS ?_
  simp only [Act.put, List.setIfInBounds_toArray, List.set_cons_zero, List.set_cons_succ]
  refine wpAnyH_take' 4 (some 46) (.slice a n c) rfl rfl (by kernel_rfl) (by kernel_rfl) (by kernel_rfl) (fun _ _ _ h => h) (Or.inl ⟨by rfl, fun w' hS => by obtain ⟨s0, s1, s2⟩ := hS; go_simp⟩) hS ?_
  simp only [Act.put, List.setIfInBounds_toArray, List.set_cons_zero, List.set_cons_succ]
  refine wpAnyH_ready (rs := [5]) (by kernel_rfl) (by simp) (AllReadyH.cons rfl (fun K2 hK2 => ?_) AllReadyH.nil)
  go_simp
  refine (k79 _).mono ?_
  rintro e' w6 ⟨rfl, rfl⟩
  refine hK2.out _ _ hS (fun hS => ?_)
  clear hK2 K2
  try simp only [Act.put, List.setIfInBounds_toArray, List.set_cons_zero, List.set_cons_succ]
  refine wpAnyH_take' 6 (some 48) (.pointer (some ⟨x, 0, none⟩)) rfl rfl (by kernel_rfl) (by kernel_rfl) (by kernel_rfl) (fun _ _ _ h => h) (Or.inl ⟨by rfl, fun w' hS => by obtain ⟨s0, s1, s2⟩ := hS; go_simp⟩) hS ?_
  simp only [Act.put, List.setIfInBounds_toArray, List.set_cons_zero, List.set_cons_succ]
  refine wpAnyH_take' 7 (some 49) (.pointer (some ⟨x, 1, none⟩)) rfl rfl (by kernel_rfl) (by kernel_rfl) (by kernel_rfl) (fun _ _ _ h => h) (Or.inl ⟨by rfl, fun w' hS => by obtain ⟨s0, s1, s2⟩ := hS; go_simp⟩) hS ?_
  simp only [Act.put, List.setIfInBounds_toArray, List.set_cons_zero, List.set_cons_succ]
  refine wpAnyH_ready (rs := [8]) (by kernel_rfl) (by simp) (AllReadyH.cons rfl (fun K2 hK2 => ?_) AllReadyH.nil)
  go_simp
  refine hK2.out _ _ (HS1.out _) (fun hS => ?_)
  clear hK2 K2
  try simp only [Act.put, List.setIfInBounds_toArray, List.set_cons_zero, List.set_cons_succ]
  refine wpAnyH_take' 9 (some 50) (.pointer (some ⟨x, 0, none⟩)) rfl rfl (by kernel_rfl) (by kernel_rfl) (by kernel_rfl) (fun _ _ _ h => h) (Or.inl ⟨by rfl, fun w' hS => by obtain ⟨s0, s1, s2⟩ := hS; go_simp⟩) hS ?_
  simp only [Act.put, List.setIfInBounds_toArray, List.set_cons_zero, List.set_cons_succ]
  refine wpAnyH_take' 10 (some 51) (.pointer (some ⟨x, 3, none⟩)) rfl rfl (by kernel_rfl) (by kernel_rfl) (by kernel_rfl) (fun _ _ _ h => h) (Or.inl ⟨by rfl, fun w' hS => by obtain ⟨s0, s1, s2⟩ := hS; go_simp⟩) hS ?_
  simp only [Act.put, List.setIfInBounds_toArray, List.set_cons_zero, List.set_cons_succ]
  refine wpAnyH_ready (rs := [11]) (by kernel_rfl) (by simp) (AllReadyH.cons rfl (fun K2 hK2 => ?_) AllReadyH.nil)
  go_simp
  refine hK2.out _ _ (HS2.out _ _) (fun hS => ?_)
  clear hK2 K2
  try simp only [Act.put, List.setIfInBounds_toArray, List.set_cons_zero, List.set_cons_succ]
  refine wpAnyH_take' 12 (some 52) (.pointer (some ⟨x, 0, none⟩)) rfl rfl (by kernel_rfl) (by kernel_rfl) (by kernel_rfl) (fun _ _ _ h => h) (Or.inl ⟨by rfl, fun w' hS => by obtain ⟨s0, s1, s2⟩ := hS; go_simp⟩) hS ?_
  simp only [Act.put, List.setIfInBounds_toArray, List.set_cons_zero, List.set_cons_succ]
  refine wpAnyH_take' 13 (some 53) (.pointer (some ⟨x, 4, none⟩)) rfl rfl (by kernel_rfl) (by kernel_rfl) (by kernel_rfl) (fun _ _ _ h => h) (Or.inl ⟨by rfl, fun w' hS => by obtain ⟨s0, s1, s2⟩ := hS; go_simp⟩) hS ?_
  simp only [Act.put, List.setIfInBounds_toArray, List.set_cons_zero, List.set_cons_succ]
  refine wpAnyH_ready (rs := [14]) (by kernel_rfl) (by simp) (AllReadyH.cons rfl (fun K2 hK2 => ?_) AllReadyH.nil)
  go_simp
  refine hK2.out _ _ (HS3.out _ _ _) (fun hS => ?_)
  clear hK2 K2
  try simp only [Act.put, List.setIfInBounds_toArray, List.set_cons_zero, List.set_cons_succ]
  refine wpAnyH_done (by kernel_rfl) ?_ _
  go_wp2
  go_ret
  exact ⟨rfl, HF.1.below (Below.refl _ _).drew, fun g hg => HF.2.1 g hg, HF.2.2.trans (Below.refl _ _).drew⟩
set_option maxHeartbeats 1000000 in
theorem switch41_no {R n c : Nat} {a : Option Addr} {l : Bs} (hA : LG B w d s D x W G) (hbr : W.br = false) (hleft : D.cut = true → 0 ≤ D.left) (hoff : D.off = false) (hw : D.wait.length ≤ 50000) (hS : D.secs.length = 2 * R) (hR : R ≤ 64) (hh : W.half = 0 ∨ W.half = 1) (he : W.e < 65535) (hlv : LV EB w (.slice a n c) l) (hl0 : 0 < l.length) (hl : l.length ≤ 3648) (hag : ∀ g o, a = some ⟨g, o, none⟩ → g ∈ G) (hfit : np l ≤ R) (hno : (¬ D.can (np l) ∧ D' = D.stuck ((1 - W.half) * R + 0) (layP (W.e + 1) 0 l)) ∨ (D.can (np l) ∧ D.says ((1 - W.half) * R + 0) (layP (W.e + 1) 0 l) = 7 ∧ D' = D.sunk ((1 - W.half) * R + 0) (layP (W.e + 1) 0 l))) :
    Calls Try.prog 41 #[.pointer (some ⟨x, 0, none⟩), .slice a n c] w fun e w' => e = .returned (.int .i64 7) ∧ LG B w' d s D' x ⟨W.half, W.e + 1, W.cnt, W.en, true⟩ G ∧ Kept G w w' ∧ Below B w w' := by
  obtain ⟨o, ho⟩ : ∃ o, 1 - W.half = o := ⟨_, rfl⟩
  obtain ⟨E, hE⟩ : ∃ E, W.e + 1 = E := ⟨_, rfl⟩
  rw [ho, hE] at hno
  rw [hE]
  obtain ⟨_, _, hv0⟩ := hlv.form
  have hnl : n = l.length := by simp only [Value.slice.injEq] at hv0; exact hv0.2.1
  clear hv0
  have hnp : (n + 56) / 57 = np l := by rw [hnl]; rfl
  have k78 : ∀ W2, Below w.heap.size w W2 → Calls Try.prog 78 #[.pointer (some ⟨x, 0, none⟩), .slice a n c] W2 fun e w' => e = .returned (.int .i64 0) ∧ w' = W2 := fun W2 k => by
    have := takes78 (hA.wal.below k) a n c
    unfold takesP at this
    rw [hbr, if_neg (by simp), if_neg (by omega)] at this
    exact this
  have k79 := pieces79 a n c (by omega)
  rw [hnp] at k79
  have b0 := blk_new w [.pointer (some ⟨x, 0, none⟩)] 57
  have b1 := blk_new (w.alloc (.cells #[.pointer (some ⟨x, 0, none⟩)] 57)) [.slice a n c] 33
  have A2 := ((hA.new (.cells #[.pointer (some ⟨x, 0, none⟩)] 57)).new (.cells #[.slice a n c] 33)).below (Below.refl _ _).drew
  have kd : Below w.heap.size w ((w.alloc (.cells #[.pointer (some ⟨x, 0, none⟩)] 57)).alloc (.cells #[.slice a n c] 33)).drew := bmore (bmore (al _ _) (al _ _)) (Below.refl _ _).drew
  have c0 := (b0.below (al _ (.cells #[.slice a n c] 33))).below (Below.refl _ _).drew
  have c1 := b1.below (Below.refl _ _).drew
  have e0 := c0.cell 0
  have e1 := c1.cell 0
  simp only [World.size_alloc, List.getElem?_cons_zero] at e0 e1 c1 A2
  have k80 := room80 A2.disk A2.wal hS hR
  have hlv2 := hlv.below kd
  have hbz := hA.size
  have HKG : Hid (∀ g ∈ G, g < w.heap.size) := hA.glt
  have hxl := hA.wal.lt
  have hsz2 : (((w.alloc (.cells #[.pointer (some ⟨x, 0, none⟩)] 57)).alloc (.cells #[.slice a n c] 33)).drew).heap.size = w.heap.size + 2 := by simp
  clear b0 b1 hA hlv hnp
  obtain ⟨V, hV⟩ : ∃ V, ((w.alloc (.cells #[.pointer (some ⟨x, 0, none⟩)] 57)).alloc (.cells #[.slice a n c] 33)).drew = V := ⟨_, rfl⟩
  rw [hV] at hsz2 A2 c0 c1 hlv2 kd
  -- the epoch goes up
  obtain ⟨A3, K3, B3⟩ := A2.turn (o := 2) (v := .int .i64 (E : Int)) (W2 := ⟨W.half, E, W.cnt, W.en, false⟩) (by simp [wlC, hbr])
  have d0 := c0.block (K3 _ (by simp))
  have d1 := c1.block (K3 _ (by simp))
  have hlv3 : LV EB (V.setCell ⟨x, 2, none⟩ (.int .i64 (E : Int))) (.slice a n c) l := lv_keepAt hlv2 fun g o hg => K3 g (by simp [hag g o hg])
  have hsz3 : (V.setCell ⟨x, 2, none⟩ (.int .i64 (E : Int))).heap.size = w.heap.size + 2 := by rw [← hsz2]; simp [World.setCell]
  have A4 := A3.new (.cells #[.int .i64 (o : Int)] 3)
  have d2 := blk_new (V.setCell ⟨x, 2, none⟩ (.int .i64 (E : Int))) [.int .i64 (o : Int)] 3
  have f0 := d0.below (al _ (.cells #[.int .i64 (o : Int)] 3))
  have f1 := d1.below (al _ (.cells #[.int .i64 (o : Int)] 3))
  have hlv4 := hlv3.below (al _ (.cells #[.int .i64 (o : Int)] 3))
  rw [hsz3] at A4 d2
  obtain ⟨V4, hV4⟩ : ∃ V4, (V.setCell ⟨x, 2, none⟩ (.int .i64 (E : Int))).alloc (.cells #[.int .i64 (o : Int)] 3) = V4 := ⟨_, rfl⟩
  rw [hV4] at A4 d2 f0 f1 hlv4
  have k76 := change_no (f := 81) (n := 7) (caps := #[.pointer (some ⟨w.heap.size, 0, none⟩), .pointer (some ⟨w.heap.size + 2, 0, none⟩), .pointer (some ⟨w.heap.size + 1, 0, none⟩)]) (D' := D') (by decide) (cf81 _) A4 (fun r hr => by
    subst hr
    exact switch81_no (R := R) (A4.new _) (f0.below (al _ _)) (d2.below (al _ _)) (f1.below (al _ _)) (by simp) hleft hoff hw hS hR (by omega) (by show E < 65536; omega) (hlv4.below (al _ _)) hl0 hl (fun g o hg => by simp [hag g o hg]) hfit hno)
  have K34 : Kept G w V4 := fun g hg => by rw [← hV4]; exact ((Below.heap_alloc _ _ _ (by rw [hsz3]; have := HKG.out g hg; omega)).trans (K3 g (by simp [hg]))).trans (kd.block g (HKG.out g hg))
  have B34 : Below B w V4 := by rw [← hV4]; exact ((kd.mono hbz).trans B3).trans ((al _ _).mono (by rw [hsz3]; omega))
  have HFIN : Hid (∀ w5, LG B w5 d s D' x ⟨W.half, E, W.cnt, W.en, true⟩ ((w.heap.size + 2) :: (w.heap.size + 1) :: w.heap.size :: G) → Kept ((w.heap.size + 2) :: (w.heap.size + 1) :: w.heap.size :: G) V4 w5 → Below B V4 w5 → LG B w5 d s D' x ⟨W.half, E, W.cnt, W.en, true⟩ G ∧ Kept G w w5 ∧ Below B w w5) := by
    rintro w5 A5 K5 B5
    exact ⟨A5.less (fun g hg => by simp [hg]), fun g hg => (K5 g (by simp [hg])).trans (K34 g hg), B34.trans B5⟩
  have hle : ¬ (R : Int) < ((np l : Nat) : Int) := by omega
  have hle2 : ¬ R < np l := by omega
  have hne : ¬ (W.e : Int) = 65535 := by omega
  have hneb : ((W.e : Int) == 65535) = false := by simpa using hne
  have hmf : ∀ (fn : Fn) (first cap : Array Value) (w : World), (Instr.makeFunc fn first cap).run Try.prog w = .ok (.func fn first cap) w := fun _ _ _ _ => rfl
  have hwe : IntKind.i64.wrap ((W.e : Int) + 1) = (E : Int) := by rw [wrap_small _ (by omega) (by omega)]; omega
  have hwo : IntKind.i64.wrap (1 - (W.half : Int)) = (o : Int) := by rw [wrap_small _ (by omega) (by omega)]; omega
  have HV : Hid ((((w.alloc (.cells #[.pointer (some ⟨x, 0, none⟩)] 57)).alloc (.cells #[.slice a n c] 33)).drew) = V) := hV
  have HV4 : Hid ((V.setCell ⟨x, 2, none⟩ (.int .i64 (E : Int))).alloc (.cells #[.int .i64 (o : Int)] 3) = V4) := hV4
  have HSZ : Hid (V.heap.size = w.heap.size + 2) := hsz2
  have v0 := c0.cell 0
  have v1 := c1.cell 0
  have v2 := A2.wal.cell 2
  have v3 := A2.wal.frozen 2
  have u0 := d0.cell 0
  have u1 := d1.cell 0
  have u2 := A3.wal.cell 1
  have u4 := f0.cell 0
  rw [← hV4] at u4
  simp only [wlC, List.getElem?_cons_zero, List.getElem?_cons_succ] at v0 v1 v2 u0 u1 u2 u4
  rw [show w.heap.size + 2 = V.heap.size from hsz2.symm] at k76 HFIN
  clear c0 c1 d0 d1 d2 f0 f1 A2 A3 A4 K3 B3 kd hlv2 hlv3 hlv4 hbr hleft hno hoff hw hS hR hh he hl0 hl hag hfit hnl hxl hbz hV hV4 hsz2 hsz3 ho hE K34 B34
  generalize np l = m at *
  go_enter Try.func41, Try.ntmps41
  go_wp2_with (go_at_call 78; (refine (k78 _ (bmore (al _ _) (al _ _))).mono ?_; rintro e w1 ⟨rfl, rfl⟩))
  go_region_held3 (fun W2 => W2.cell? ⟨w.heap.size, 0, none⟩ = some (.pointer (some ⟨x, 0, none⟩)) ∧ W2.cell? ⟨w.heap.size + 1, 0, none⟩ = some (.slice a n c)) (exact ⟨e0, e1⟩) (first
    | (go_at_call 79; (refine (k79 _).mono ?_; rintro e w1 ⟨rfl, rfl⟩))
    | (go_at_call 80; (refine k80.mono ?_; rintro e w1 ⟨rfl, rfl⟩)))
  rw [HV.out]
  go_wp2_with (go_at_call 76; (rw [HV4.out]; refine k76.mono ?_; rintro e w5 ⟨rfl, A5, K5, B5⟩))
  go_ret
  exact ⟨rfl, HFIN.out w5 A5 K5 B5⟩
theorem attempt_m_no {f : Nat} {p : Value} {n : Int} {Q : World → Prop} (hf : ∀ W, Sem.run Try.prog (callFunc f #[p]) W = .ok (.enter f #[p]) W) (hc : Calls Try.prog f #[p] (w.alloc (.cells #[.int .i64 0] 34)) fun e w' => e = .panicked (GU n) ∧ Blk w' w.heap.size [.int .i64 0] 34 ∧ Q w') :
    Calls Try.prog 67 #[.func (.func f) #[p] #[]] w fun e w' => e = .returned (.int .i64 n) ∧ ∃ w2, Q w2 ∧ Keep (fun k => k = w.heap.size) w2 w' := by
  have hmf : ∀ (fn : Fn) (first cap : Array Value) (w : World), (Instr.makeFunc fn first cap).run Try.prog w = .ok (.func fn first cap) w := fun _ _ _ _ => rfl
  go_enter_defers Try.func67, Try.ntmps67
  go_wp2_with ((refine hc.mono ?_; rintro e w1 ⟨rfl, hb1, hq1⟩; have y0 := hb1.cell 0; have y1 := hb1.frozen 0))
  refine leaves_cons (f := 97) (args := #[.pointer (some ⟨w.heap.size, 0, none⟩)]) (by simp) (by simp [go_sem]) ?_
  refine (catch97_no _ n _ _ y0 y1).mono ?_
  rintro e u' w'' ⟨rfl, rfl, y2, k2⟩
  exact ⟨.int .i64 n, by simp [results, Try.results67, go_sem, y2], rfl, w1, hq1, k2⟩
set_option maxHeartbeats 1000000 in
theorem flush39_no (h : LG B w d s D x W G) (hbr : W.br = false) (hf : D.flush.1 = 7) (hw : D.wait.length ≤ 100000) (hG : ∀ g ∈ G, g < w.heap.size) :
    Calls Try.prog 39 #[.pointer (some ⟨x, 0, none⟩)] w fun e w' => e = .returned (.int .i64 7) ∧ LG B w' d s D.flush.2 x ⟨W.half, W.e, W.cnt, W.en, true⟩ G ∧ Kept G w w' ∧ Below B w w' := by
  have k75 := whole75 h.wal
  rw [hbr] at k75
  simp only [Bool.false_eq_true, if_false] at k75
  have hmf : ∀ (fn : Fn) (first cap : Array Value) (w : World), (Instr.makeFunc fn first cap).run Try.prog w = .ok (.func fn first cap) w := fun _ _ _ _ => rfl
  have hxl := h.wal.lt
  have hBx := h.bx
  have hz : B ≤ w.heap.size := by obtain ⟨_, _, _, _, hz⟩ := h.disk; exact hz
  have hA := h.disk.new (.cells #[.int .i64 0] 34)
  have k77 := settle77_no hA (h.wal.below (al w _)) (by rw [hf]; decide) hw
  rw [hf] at k77
  have k67 := attempt_m_no (w := w) (Q := fun w2 => Alone B w2 d s D.flush.2 (w.heap.size :: x :: G) ∧ Blk w2 x (wlC d W) 111 ∧ Kept G w w2 ∧ Below B w w2) (cf77 (.pointer (some ⟨x, 0, none⟩))) (k77.mono (by
    rintro e w1 ⟨rfl, A1, K1, B1⟩
    refine ⟨rfl, (blk_new w [.int .i64 0] 34).block (K1 _ (by simp)), A1, (h.wal.below (al w _)).block (K1 _ (by simp)), fun g hg => (K1 g (by simp [hg])).trans (Below.heap_alloc _ _ _ (hG g hg)), ((al w _).mono hz).trans B1⟩))
  have k67' : Calls Try.prog 67 #[.func (.func 77) #[.pointer (some ⟨x, 0, none⟩)] #[]] w fun e w' => e = .returned (.int .i64 7) ∧ (Alone B w' d s D.flush.2 (x :: G) ∧ Kept G w w' ∧ Below B w w') ∧ Blk w' x (wlC d W) 111 := k67.mono (by
    rintro e w1 ⟨rfl, w2, ⟨A2, b2, K2, B2⟩, k⟩
    have hne : ∀ g ∈ x :: G, g ≠ w.heap.size := fun g hg => by
      rcases List.mem_cons.1 hg with rfl | hg
      · omega
      · have := hG g hg; omega
    refine ⟨rfl, ⟨(A2.keepOne k).less (by simp +contextual), fun g hg => (k.block g (by have := hG g hg; have := B2.size; omega) (hne g (by simp [hg]))).trans (K2 g hg), B2.trans (k.below (Nat.le_trans hz B2.size) (fun i e => by omega))⟩, b2.block (k.block x b2.lt (hne x (by simp)))⟩)
  have k76 := change76_no (by decide) k67' ⟨_, _, _, rfl⟩
  have HF : Hid (∀ w2, (Alone B w2 d s D.flush.2 (x :: G) ∧ Kept G w w2 ∧ Below B w w2) → Blk w2 x (wlC d W) 111 → LG B (w2.setCell ⟨x, 5, none⟩ (.bool true)) d s D.flush.2 x ⟨W.half, W.e, W.cnt, W.en, true⟩ G ∧ Kept G w (w2.setCell ⟨x, 5, none⟩ (.bool true)) ∧ Below B w (w2.setCell ⟨x, 5, none⟩ (.bool true))) := fun w2 ⟨A2, K2, B2⟩ b2 => by
    have kk : Keep (fun b => b = x) w2 (w2.setCell ⟨x, 5, none⟩ (.bool true)) := (Keep.refl (fun b => b = x) w2).set (.inr rfl) _
    refine ⟨⟨A2.keepOne kk, ?_, h.nx, hBx⟩, fun g hg => (Below.heap_setCell _ _ _ _ (fun e => h.nx (by rw [← show g = x from e]; exact hg))).trans (K2 g hg), bset B2 hBx _⟩
    have := b2.set (o := 5) (.bool true)
    rw [show (wlC d W).set 5 (.bool true) = wlC d ⟨W.half, W.e, W.cnt, W.en, true⟩ by simp [wlC]] at this
    exact this
  clear k77 k67 k67' hA hf hw
  go_enter Try.func39, Try.ntmps39
  go_wp2_with (first
    | (go_at_call 75; (refine k75.mono ?_; rintro e w1 ⟨rfl, rfl⟩))
    | (go_at_call 76; (refine k76.mono ?_; rintro e w2 ⟨rfl, w3, hq, hb, rfl⟩; have HQ := HF.out _ hq hb)))
  go_ret
  exact ⟨rfl, HQ⟩
theorem flush39_br (hx : Blk w x (wlC d W) 111) (hbr : W.br = true) :
    Calls Try.prog 39 #[.pointer (some ⟨x, 0, none⟩)] w fun e w' => e = .returned (.int .i64 7) ∧ w' = w := by
  have k75 := whole75 hx
  rw [hbr] at k75
  simp only [if_true] at k75
  clear hx
  go_enter Try.func39, Try.ntmps39
  go_wp2_with (go_at_call 75; (refine k75.mono ?_; rintro e w1 ⟨rfl, rfl⟩))
  go_ret
  exact ⟨rfl, rfl⟩
end Go.Proofs.Ytnganmekiloigaa
