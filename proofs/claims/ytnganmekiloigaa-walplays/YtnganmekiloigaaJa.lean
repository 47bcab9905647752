/- A piece as a sector. · What a log tells; small ones. · Flush. -/
import Derived.Test.YtnganmekiloigaaGz
import Derived.Test.YtnganmekiloigaaJg
/-! ### A piece as a sector. -/
namespace Go.Proofs.Ytnganmekiloigaa
open Go.RowKit
set_option maxRecDepth 100000
variable {w w' : World} {B d s : Nat} {D : Dk}
def head7 (x : Pc) : Bs := [UInt8.ofNat (x.e / 256), UInt8.ofNat x.e, UInt8.ofNat (x.p / 256), UInt8.ofNat x.p, UInt8.ofNat x.k, UInt8.ofNat x.n, UInt8.ofNat x.z]
def secX (x : Pc) : Bs := head7 x ++ x.b
theorem secX_length {x : Pc} (h : x.b.length = 57) : (secX x).length = 64 := by simp [secX, head7, h]
def hd7 (a0 a1 a2 a3 a4 a5 a6 : Int) : List Value := [.int .u8 a0, .int .u8 a1, .int .u8 a2, .int .u8 a3, .int .u8 a4, .int .u8 a5, .int .u8 a6] ++ cellsB (List.replicate 57 0)
theorem built90 (a0 a1 a2 a3 a4 a5 a6 : Int) : Try.prog.built 90 [(0, .int .u8 a0), (1, .int .u8 a1), (2, .int .u8 a2), (3, .int .u8 a3), (4, .int .u8 a4), (5, .int .u8 a5), (6, .int .u8 a6)] = some (hd7 a0 a1 a2 a3 a4 a5 a6).toArray := by kernel_rfl
theorem info90y : (Try.prog.info? 90).map (fun i => (i.zero, i.size, i.bytes)) = some (some (.agg (cellsB Z64).toArray), 64, 64) := by kernel_rfl
theorem hd7_length (a0 a1 a2 a3 a4 a5 a6 : Int) : (hd7 a0 a1 a2 a3 a4 a5 a6).length = 64 := by simp [hd7, cellsB_length]
theorem hd7_one (a0 a1 a2 a3 a4 a5 a6 : Int) : ∀ u ∈ hd7 a0 a1 a2 a3 a4 a5 a6, u.oneCell' = true := by
  intro u hu
  rcases List.mem_append.1 hu with h | h
  · simp at h
    rcases h with rfl | rfl | rfl | rfl | rfl | rfl | rfl <;> rfl
  · exact cellsB_one _ u h
theorem w8 (n : Nat) : IntKind.u8.wrap ((n : Nat) : Int) = (((UInt8.ofNat n).toNat : Nat) : Int) := by
  rw [IntKind.wrap_u8, UInt8.toNat_ofNat']
  omega
theorem head_splice {x : Pc} (hx : x.Ok) : splice (hd7 ((x.e : Int) / 256 % 256) ((x.e : Int) % 256) ((x.p : Int) / 256 % 256) ((x.p : Int) % 256) ((x.k : Int) % 256) ((x.n : Int) % 256) ((x.z : Int) % 256)) 7 (cellsB x.b) = cellsB (secX x) := by
  have h1 := hx.b
  unfold splice hd7 secX
  rw [List.take_append_of_le_length (by simp), List.take_of_length_le (by simp), cellsB_length, h1, List.drop_of_length_le (by simp [cellsB_length]), List.append_nil]
  simp only [cellsB, head7, List.map_append, List.map_cons, List.map_nil, UInt8.toNat_ofNat']
  congr 1
set_option maxHeartbeats 1000000 in
theorem sector103 {x : Pc} (hx : x.Ok) : Calls Try.prog 103 #[.agg (encPc x).toArray] w fun e w' => e = .returned (.agg (cellsB (secX x)).toArray) ∧ Below w.heap.size w w' := by
  have b0 := blk_new w (encPc x) 141
  have B0 := al w (.cells (encPc x).toArray 141)
  have HC : Hid (∀ W, Below (w.alloc (.cells (encPc x).toArray 141)).heap.size (w.alloc (.cells (encPc x).toArray 141)) W → W.cell? ⟨w.heap.size, 0, none⟩ = some (.int .i64 (x.e : Int)) ∧ W.cell? ⟨w.heap.size, 1, none⟩ = some (.int .i64 (x.p : Int)) ∧ W.cell? ⟨w.heap.size, 2, none⟩ = some (.int .i64 (x.k : Int)) ∧ W.cell? ⟨w.heap.size, 3, none⟩ = some (.int .i64 (x.n : Int)) ∧ W.cell? ⟨w.heap.size, 4, none⟩ = some (.int .i64 (x.z : Int)) ∧ Blk W w.heap.size (encPc x) 141) := fun W k => ⟨(b0.below k).cell 0, (b0.below k).cell 1, (b0.below k).cell 2, (b0.below k).cell 3, (b0.below k).cell 4, b0.below k⟩
  have hzi := info90y
  have hzl : (cellsB Z64).length = 64 := by rw [cellsB_length]; rfl
  generalize hW : w.alloc (.cells (encPc x).toArray 141) = W0 at *
  generalize cellsB Z64 = z0 at *
  clear b0
  go_enter Try.func103, Try.ntmps103
  have hbd := built90 ((x.e : Int) / 256 % 256) ((x.e : Int) % 256) ((x.p : Int) / 256 % 256) ((x.p : Int) % 256) ((x.k : Int) % 256) ((x.n : Int) % 256) ((x.z : Int) % 256)
  have h7l := hd7_length ((x.e : Int) / 256 % 256) ((x.e : Int) % 256) ((x.p : Int) / 256 % 256) ((x.p : Int) % 256) ((x.k : Int) % 256) ((x.n : Int) % 256) ((x.z : Int) % 256)
  have h7o := hd7_one ((x.e : Int) / 256 % 256) ((x.e : Int) % 256) ((x.p : Int) / 256 % 256) ((x.p : Int) % 256) ((x.k : Int) % 256) ((x.n : Int) % 256) ((x.z : Int) % 256)
  have H7 : Hid (splice (hd7 ((x.e : Int) / 256 % 256) ((x.e : Int) % 256) ((x.p : Int) / 256 % 256) ((x.p : Int) % 256) ((x.k : Int) % 256) ((x.n : Int) % 256) ((x.z : Int) % 256)) 7 (cellsB x.b) = cellsB (secX x)) := head_splice hx
  generalize hd7 ((x.e : Int) / 256 % 256) ((x.e : Int) % 256) ((x.p : Int) / 256 % 256) ((x.p : Int) % 256) ((x.k : Int) % 256) ((x.n : Int) % 256) ((x.z : Int) % 256) = h7 at *
  have hxb := hx.b
  go_wp2_with (first
    | ((with_reducible show wpList _ _ _ ({ dst := _, op := .alloc 90, type := _, pos := _, after := _, guard := none } :: _) _ _); refine wpList_alloc_row rfl 90 rfl z0 hzi ?_; first
      | (intro w4 b4 k4 s4; have S4 : Hid (w4.heap.size = w3.heap.size + 1) := s4; clear s4)
      | (intro w3 b3 k3 s3; have S3 : Hid (w3.heap.size = W0.heap.size + 1) := s3; clear s3; obtain ⟨q0, q1, q2, q3, q4, q5⟩ := HC.out _ k3))
    | ((with_reducible show wpList _ _ _ ({ dst := _, op := .build 90 _, type := _, pos := _, after := _, guard := none } :: _) _ _); refine wpList_build rfl 90 _ rfl #[(0, .int .u8 ((x.e : Int) / 256 % 256)), (1, .int .u8 ((x.e : Int) % 256)), (2, .int .u8 ((x.p : Int) / 256 % 256)), (3, .int .u8 ((x.p : Int) % 256)), (4, .int .u8 ((x.k : Int) % 256)), (5, .int .u8 ((x.n : Int) % 256)), (6, .int .u8 ((x.z : Int) % 256))] (by simp [Act.eval]) h7 hbd ?_)
    | ((with_reducible show wpList _ _ _ ({ dst := _, op := .store 90 (.tmp 3) _, type := _, pos := _, after := _, guard := none } :: _) _ _); refine wpList_store_whole rfl 90 (.tmp 3) (.tmp 33) rfl w3.heap.size h7 rfl rfl z0 90 b4 (by omega) (by rw [h7l]; exact info90s) h7o ?_; intro w5 b5 k5 s5; clear s5))
  have q5' : Below W0.heap.size W0 w5 := kbel (bmore k3 k4) k5 k3.size (Nat.le_refl _)
  have b35 : Blk w5 W0.heap.size z0 90 := (b3.below k4).block (k5.block _ (by have := S3.out; have := S4.out; omega) (by have := S3.out; omega))
  have b05 := (HC.out _ q5').2.2.2.2.2
  have b55 := b5.below (Below.refl _ _).drew
  have HSRC : Hid (∀ j v, (cellsB x.b)[j]? = some v → w5.drew.cell? ((⟨w.heap.size, 5, none⟩ : Addr).add j) = some v) := fun j v hv => by
    have hj := (List.getElem?_eq_some_iff.1 hv).1
    rw [cellsB_length, hxb] at hj
    rw [show (⟨w.heap.size, 5, none⟩ : Addr).add j = ⟨w.heap.size, 5 + j, none⟩ by unfold Addr.add; split <;> simp_all]
    refine ((b05.below (Below.refl _ _).drew).cell (5 + j)).trans ?_
    have e : encPc x = (headC x ++ [Value.int .i64 (x.z : Int)]) ++ cellsB (fix57 x.b) := by simp [encPc]
    have e5 : (headC x ++ [Value.int .i64 (x.z : Int)]).length = 5 := by simp [headC]
    rw [e, List.getElem?_append_right (by omega), fix57_eq hxb, e5, Nat.add_sub_cancel_left]
    exact hv
  have hcl : (cellsB x.b).length = 57 := by rw [cellsB_length]; exact hxb
  have hco := cellsB_one x.b
  clear q0 q1 q2 q3 q4 q5 b3 b4 b5 k3 k4 k5
  have HS3 : Hid (w3.heap.size = W0.heap.size + 1) := S3
  generalize hA3 : w3.heap.size = A3 at *
  have HA3 : Hid (A3 = W0.heap.size + 1) := S3.out
  have HW0 : Hid (W0.heap.size = w.heap.size + 1) := by show _ = _; rw [← hW]; simp
  clear hA3 S3 HS3 S4
  generalize cellsB x.b = cb at *
  generalize encPc x = cx at *
  go_wp2_with fail
  go_region_held3 (fun _ => True) (exact trivial) ((refine step_copy_splice rfl (.tmp 34) (.tmp 36) 33 33 rfl 5 Try.underlying33 info5s (some ⟨A3, 7, none⟩) (some ⟨w.heap.size, 5, none⟩) 57 57 57 57 (by rfl) (by rfl) A3 7 h7 90 b55 cb (by rw [hcl]; rfl) (fun _ => ⟨rfl, _, rfl, HSRC.out⟩) (by omega) hco A3 w5.drew (Below.refl _ _) (Nat.le_refl _) ?_; intro w8 h8 k8))
  have b8 : Blk w8 A3 (cellsB (secX x)) 90 := by rw [← H7.out]; exact h8.out
  have q8 : Below w.heap.size w w8 := (bmore (bmore B0 q5') (Below.refl _ _).drew).trans (k8.mono (by have := HA3.out; have := HW0.out; omega))
  have r8 : Blk w8 W0.heap.size z0 90 := (b35.below (Below.refl _ _).drew).block (k8.block _ (by have := HA3.out; omega))
  have hsl : (cellsB (secX x)).length = 64 := by rw [cellsB_length]; exact secX_length hxb
  have hso := cellsB_one (secX x)
  have hr8 := b8.whole
  generalize hsc : cellsB (secX x) = sc at *
  have HSC : Hid (cellsB (secX x) = sc) := hsc
  clear hsc
  go_wp2_with (first
    | ((with_reducible show wpList _ _ _ ({ dst := _, op := .load 90 _, type := _, pos := _, after := _, guard := none } :: _) _ _); refine wpList_load_mid rfl 90 (.tmp 3) rfl A3 0 rfl sc _ hr8 Try.underlying90 rfl (by rw [hsl]; exact info90s) ?_)
    | ((with_reducible show wpList _ _ _ ({ dst := _, op := .store 90 _ _, type := _, pos := _, after := _, guard := none } :: _) _ _); refine wpList_store_whole rfl 90 (.tmp 2) (.tmp 38) rfl W0.heap.size sc rfl rfl z0 90 r8 (by omega) (by rw [hsl]; exact info90s) hso ?_; intro w9 b9 k9 s9))
  exact bodyPost_ret (v := .agg sc.toArray) (results_cell (fn := Try.f103) (t := 2) (ty := 90) rfl _ _ _ _ _ _ b9 rfl _ Try.underlying90 rfl (by rw [hsl]; exact info90s)) rfl ⟨by rw [HSC.out], kbel q8 k9 (by have := HW0.out; omega) (Nat.le_refl _)⟩
end Go.Proofs.Ytnganmekiloigaa
/-! ### What a log tells; small ones. -/
namespace Go.Proofs.Ytnganmekiloigaa
open Go.RowKit
set_option maxRecDepth 100000
variable {w w' : World} {B d s x : Nat} {D : Dk} {W : Wl} {G : List Nat}
theorem most33 (w : World) : Calls Try.prog 33 #[] w fun e w' => e = .returned (.int .i64 3648) ∧ w' = w := by
  go_enter Try.func33, Try.ntmps33
  go_wp2
  go_ret
  exact ⟨rfl, rfl⟩
theorem np_int (n : Nat) : ((n : Int) + 56).tdiv 57 = (((n + 56) / 57 : Nat) : Int) := by
  rw [show ((n : Int) + 56) = ((n + 56 : Nat) : Int) by omega]
  exact (Int.ofNat_tdiv _ _).symm
theorem pieces79 (a : Option Addr) (n c : Nat) (hn : n ≤ 1000000) (w : World) : Calls Try.prog 79 #[.slice a n c] w fun e w' => e = .returned (.int .i64 (((n + 56) / 57 : Nat) : Int)) ∧ w' = w := by
  have h1 := np_int n
  have h2 : (n : Int) + 57 - 1 = (n : Int) + 56 := by omega
  go_enter Try.func79, Try.ntmps79
  go_wp2
  go_ret
  refine ⟨?_, rfl⟩
  rw [← h1]
  rfl
/-- The log at x, on the disk at d. -/
theorem room80 {R : Nat} (h : Alone B w d s D G) (hx : Blk w x (wlC d W) 111) (hR : D.secs.length = 2 * R) (hR2 : R ≤ 64) : Calls Try.prog 80 #[.pointer (some ⟨x, 0, none⟩)] w fun e w' => e = .returned (.int .i64 (R : Int)) ∧ w' = w := by
  have c28 : Calls Try.prog 28 #[.pointer (some ⟨d, 0, none⟩)] w fun e w' => e = .returned (.int .i64 (D.secs.length : Int)) ∧ w' = w := by obtain ⟨wv, h1, _⟩ := h; exact size28 h1
  have y0 : w.cell? ⟨x, 0, none⟩ = some (.pointer (some ⟨d, 0, none⟩)) := hx.cell 0
  have h1 := half_int hR
  clear h hx
  generalize D.secs.length = n at *
  clear hR
  go_enter Try.func80, Try.ntmps80
  go_wp2_with (go_at_call 28; (refine c28.mono ?_; rintro e w1 ⟨rfl, rfl⟩))
  go_ret
  exact ⟨rfl, rfl⟩
theorem whole75 (hx : Blk w x (wlC d W) 111) : Calls Try.prog 75 #[.pointer (some ⟨x, 0, none⟩)] w fun e w' => e = .returned (.int .i64 (if W.br then 7 else 0)) ∧ w' = w := by
  have y5 : w.cell? ⟨x, 5, none⟩ = some (.bool W.br) := hx.cell 5
  clear hx
  cases hb : W.br
  · rw [hb] at y5
    go_enter Try.func75, Try.ntmps75
    go_wp2
    go_ret
    exact ⟨rfl, rfl⟩
  · rw [hb] at y5
    go_enter Try.func75, Try.ntmps75
    go_wp2
    go_ret
    exact ⟨rfl, rfl⟩
theorem whole75_nil (w : World) : Calls Try.prog 75 #[.pointer none] w fun e w' => e = .returned (.int .i64 1) ∧ w' = w := by
  go_enter Try.func75, Try.ntmps75
  go_wp2
  go_ret
  exact ⟨rfl, rfl⟩
theorem takes78_nil (v : Value) (w : World) : Calls Try.prog 78 #[.pointer none, v] w fun e w' => e = .returned (.int .i64 1) ∧ w' = w := by
  have k75 := whole75_nil w
  go_enter Try.func78, Try.ntmps78
  go_wp2_with (go_at_call 75; (refine k75.mono ?_; rintro e w1 ⟨rfl, rfl⟩))
  go_ret
  exact ⟨rfl, rfl⟩
/-- Why a record may be in no half. -/
def takesP (br : Bool) (n : Nat) : Int := if br then 7 else if n < 1 ∨ 3648 < n then 2 else 0
theorem takes78 (hx : Blk w x (wlC d W) 111) (a : Option Addr) (n c : Nat) : Calls Try.prog 78 #[.pointer (some ⟨x, 0, none⟩), .slice a n c] w fun e w' => e = .returned (.int .i64 (takesP W.br n)) ∧ w' = w := by
  have k75 := whole75 hx
  have k33 := most33 w
  clear hx
  unfold takesP
  cases hb : W.br
  · rw [hb] at k75
    simp only [Bool.false_eq_true, if_false] at k75 ⊢
    by_cases h1 : n < 1
    · have h1' : (n : Int) < 1 := by omega
      rw [if_pos (.inl h1)]
      go_enter Try.func78, Try.ntmps78
      go_wp2_with (go_at_call 75; (refine k75.mono ?_; rintro e w1 ⟨rfl, rfl⟩))
      go_ret
      exact ⟨rfl, rfl⟩
    · have h1' : ¬ (n : Int) < 1 := by omega
      by_cases h2 : 3648 < n
      · have h2' : (3648 : Int) < (n : Int) := by omega
        rw [if_pos (.inr h2)]
        go_enter Try.func78, Try.ntmps78
        go_wp2_with (first | (go_at_call 75; (refine k75.mono ?_; rintro e w1 ⟨rfl, rfl⟩)) | (go_at_call 33; (refine k33.mono ?_; rintro e w2 ⟨rfl, rfl⟩)))
        go_ret
        exact ⟨rfl, rfl⟩
      · have h2' : ¬ (3648 : Int) < (n : Int) := by omega
        rw [if_neg (by omega)]
        go_enter Try.func78, Try.ntmps78
        go_wp2_with (first | (go_at_call 75; (refine k75.mono ?_; rintro e w1 ⟨rfl, rfl⟩)) | (go_at_call 33; (refine k33.mono ?_; rintro e w2 ⟨rfl, rfl⟩)))
        go_ret
        exact ⟨rfl, rfl⟩
  · rw [hb] at k75
    simp only [if_true] at k75 ⊢
    go_enter Try.func78, Try.ntmps78
    go_wp2_with (go_at_call 75; (refine k75.mono ?_; rintro e w1 ⟨rfl, rfl⟩))
    go_ret
    exact ⟨rfl, rfl⟩
theorem len46 (hx : Blk w x (wlC d W) 111) : Calls Try.prog 46 #[.pointer (some ⟨x, 0, none⟩)] w fun e w' => e = .returned (.int .i64 (W.cnt : Int)) ∧ w' = w := by
  have y : w.cell? ⟨x, 3, none⟩ = some (.int .i64 (W.cnt : Int)) := hx.cell 3
  clear hx
  go_enter Try.func46, Try.ntmps46
  go_wp2
  go_ret
  exact ⟨rfl, rfl⟩
theorem half43 (hx : Blk w x (wlC d W) 111) : Calls Try.prog 43 #[.pointer (some ⟨x, 0, none⟩)] w fun e w' => e = .returned (.int .i64 (W.half : Int)) ∧ w' = w := by
  have y : w.cell? ⟨x, 1, none⟩ = some (.int .i64 (W.half : Int)) := hx.cell 1
  clear hx
  go_enter Try.func43, Try.ntmps43
  go_wp2
  go_ret
  exact ⟨rfl, rfl⟩
theorem epoch48 (hx : Blk w x (wlC d W) 111) : Calls Try.prog 48 #[.pointer (some ⟨x, 0, none⟩)] w fun e w' => e = .returned (.int .i64 (W.e : Int)) ∧ w' = w := by
  have y : w.cell? ⟨x, 2, none⟩ = some (.int .i64 (W.e : Int)) := hx.cell 2
  clear hx
  go_enter Try.func48, Try.ntmps48
  go_wp2
  go_ret
  exact ⟨rfl, rfl⟩
theorem len46_nil (w : World) : Calls Try.prog 46 #[.pointer none] w fun e w' => e = .returned (.int .i64 0) ∧ w' = w := by
  go_enter Try.func46, Try.ntmps46
  go_wp2
  go_ret
  exact ⟨rfl, rfl⟩
theorem left47_nil (w : World) : Calls Try.prog 47 #[.pointer none] w fun e w' => e = .returned (.int .i64 0) ∧ w' = w := by
  go_enter Try.func47, Try.ntmps47
  go_wp2
  go_ret
  exact ⟨rfl, rfl⟩
theorem half43_nil (w : World) : Calls Try.prog 43 #[.pointer none] w fun e w' => e = .returned (.int .i64 0) ∧ w' = w := by
  go_enter Try.func43, Try.ntmps43
  go_wp2
  go_ret
  exact ⟨rfl, rfl⟩
theorem epoch48_nil (w : World) : Calls Try.prog 48 #[.pointer none] w fun e w' => e = .returned (.int .i64 0) ∧ w' = w := by
  go_enter Try.func48, Try.ntmps48
  go_wp2
  go_ret
  exact ⟨rfl, rfl⟩
theorem broken49_nil (w : World) : Calls Try.prog 49 #[.pointer none] w fun e w' => e = .returned (.bool false) ∧ w' = w := by
  go_enter Try.func49, Try.ntmps49
  go_wp2
  go_ret
  exact ⟨rfl, rfl⟩
theorem flush39_nil (w : World) : Calls Try.prog 39 #[.pointer none] w fun e w' => e = .returned (.int .i64 1) ∧ w' = w := by
  have k75 := whole75_nil w
  go_enter Try.func39, Try.ntmps39
  go_wp2_with (go_at_call 75; (refine k75.mono ?_; rintro e w1 ⟨rfl, rfl⟩))
  go_ret
  exact ⟨rfl, rfl⟩
theorem append42_nil (a : Option Addr) (n c : Nat) (w : World) : Calls Try.prog 42 #[.pointer none, .slice a n c] w fun e w' => e = .returned (.tuple #[.int .i64 0, .int .i64 1]) ∧ Below w.heap.size w w' := by
  have k78 := fun W => takes78_nil (.slice a n c) W
  go_enter Try.func42, Try.ntmps42
  go_wp2_with (go_at_call 78; (refine (k78 _).mono ?_; rintro e w1 ⟨rfl, rfl⟩))
  refine bodyPost_ret (v := .tuple #[.int .i64 0, .int .i64 1]) (by simp [results, Try.results42]) rfl ⟨rfl, bmore (al _ _) (al _ _)⟩
theorem switch41_nil (a : Option Addr) (n c : Nat) (w : World) : Calls Try.prog 41 #[.pointer none, .slice a n c] w fun e w' => e = .returned (.int .i64 1) ∧ Below w.heap.size w w' := by
  have k78 := fun W => takes78_nil (.slice a n c) W
  go_enter Try.func41, Try.ntmps41
  go_wp2_with (go_at_call 78; (refine (k78 _).mono ?_; rintro e w1 ⟨rfl, rfl⟩))
  go_ret
  exact ⟨rfl, bmore (al _ _) (al _ _)⟩
end Go.Proofs.Ytnganmekiloigaa
/-! ### Flush. -/
namespace Go.Proofs.Ytnganmekiloigaa
open Go.RowKit
set_option maxRecDepth 100000
variable {w w' : World} {B d s x : Nat} {D : Dk} {W : Wl} {G : List Nat}
set_option maxHeartbeats 1000000 in
/-- attempt of a method's value. -/
theorem attempt_m {f : Nat} {p : Value} {Q : World → Prop} (hf : ∀ W, Sem.run Try.prog (callFunc f #[p]) W = .ok (.enter f #[p]) W) (hc : Calls Try.prog f #[p] (w.alloc (.cells #[.int .i64 0] 34)) fun e w' => e = .returned (.tuple #[]) ∧ Blk w' w.heap.size [.int .i64 0] 34 ∧ Q w') :
    Calls Try.prog 67 #[.func (.func f) #[p] #[]] w fun e w' => e = .returned (.int .i64 0) ∧ ∃ w2, Q w2 ∧ Keep (fun k => k = w.heap.size) w2 w' := by
  have hmf : ∀ (fn : Fn) (first cap : Array Value) (w : World), (Instr.makeFunc fn first cap).run Try.prog w = .ok (.func fn first cap) w := fun _ _ _ _ => rfl
  go_enter_defers Try.func67, Try.ntmps67
  go_wp2_with ((refine hc.mono ?_; rintro e w1 ⟨rfl, hb1, hq1⟩; have y0 := hb1.cell 0; have y1 := hb1.frozen 0))
  refine leaves_cons (f := 97) (args := #[.pointer (some ⟨w.heap.size, 0, none⟩)]) (by simp) (by simp [go_sem]) ?_
  refine (catch97 _ _).mono ?_
  rintro e u' w'' ⟨rfl, rfl, rfl⟩
  have y2 := (hb1.set (o := 0) (.int .i64 0)).cell 0
  exact ⟨.int .i64 0, by simp [results, Try.results67, go_sem, y2], rfl, w1, hq1, (Keep.refl (fun k => k = w.heap.size) w1).set (.inr rfl) _⟩
theorem cf77 (p : Value) : ∀ W, Sem.run Try.prog (callFunc 77 #[p]) W = .ok (.enter 77 #[p]) W := fun W => enters_of Try.func77 (by kernel_rfl) rfl #[p] W
/-- settle, where the disk does it. -/
theorem settle77 (h : Alone B w d s D G) (hx : Blk w x (wlC d W) 111) (hf : D.flush.1 = 0) (hw : D.wait.length ≤ 100000) : Calls Try.prog 77 #[.pointer (some ⟨x, 0, none⟩)] w fun e w' => e = .returned (.tuple #[]) ∧ Alone B w' d s D.flush.2 G ∧ Kept G w w' ∧ Below B w w' := by
  have k24 := alone24 h hw
  rw [hf] at k24
  have y0 : w.cell? ⟨x, 0, none⟩ = some (.pointer (some ⟨d, 0, none⟩)) := hx.cell 0
  clear hx h
  go_enter Try.func77, Try.ntmps77
  go_wp2_with (first
    | (go_at_call 24; (refine k24.mono ?_; rintro e w1 ⟨rfl, A1, K1, B1⟩; have k98 := accept98 w1))
    | (go_at_call 98; (refine k98.mono ?_; rintro e w2 ⟨rfl, rfl⟩)))
  go_end0
  exact ⟨rfl, A1, K1, B1⟩
set_option maxHeartbeats 1000000 in
/-- change of a thing that is done. -/
theorem change76 {F : Value} {Q : World → Prop} (k67 : Calls Try.prog 67 #[F] w fun e w' => e = .returned (.int .i64 0) ∧ Q w' ∧ Blk w' x (wlC d W) 111) (hF : ∃ f a c, F = .func f a c) :
    Calls Try.prog 76 #[.pointer (some ⟨x, 0, none⟩), F] w fun e w' => e = .returned (.int .i64 0) ∧ ∃ w2, Q w2 ∧ Blk w2 x (wlC d W) 111 ∧ w' = w2.setCell ⟨x, 5, none⟩ (.bool false) := by
  obtain ⟨f, a, c, rfl⟩ := hF
  go_enter Try.func76, Try.ntmps76
  go_wp2_with (go_at_call 67; (refine k67.mono ?_; rintro e w1 ⟨rfl, hq, hb⟩; have y5 : w1.cell? ⟨x, 5, none⟩ = some (.bool W.br) := hb.cell 5; have f5 := hb.frozen 5))
  go_ret
  exact ⟨rfl, w1, hq, hb, rfl⟩
/-- A log on a disk, in memory; none of the blocks of G is theirs. -/
structure LG (B : Nat) (w : World) (d s : Nat) (D : Dk) (x : Nat) (W : Wl) (G : List Nat) : Prop where
  disk : Alone B w d s D (x :: G)
  wal : Blk w x (wlC d W) 111
  nx : x ∉ G
  bx : B ≤ x
theorem Alone.keepOne {g : Nat} (h : Alone B w d s D (g :: G)) (k : Keep (fun b => b = g) w w') : Alone B w' d s D (g :: G) := by
  obtain ⟨wv, h1, h2, h3, h4⟩ := h
  exact ⟨wv, h1.keep k (fun b hb e => (h2 g (by simp)).1 (e ▸ hb)), fun b hb => ⟨(h2 b hb).1, Nat.lt_of_lt_of_le (h2 b hb).2 k.size⟩, h3, Nat.le_trans h4 k.size⟩
set_option maxHeartbeats 1000000 in
theorem flush39 (h : LG B w d s D x W G) (hbr : W.br = false) (hf : D.flush.1 = 0) (hw : D.wait.length ≤ 100000) (hG : ∀ g ∈ G, g < w.heap.size) :
    Calls Try.prog 39 #[.pointer (some ⟨x, 0, none⟩)] w fun e w' => e = .returned (.int .i64 0) ∧ LG B w' d s D.flush.2 x W G ∧ Kept G w w' ∧ Below B w w' := by
  have k75 := whole75 h.wal
  rw [hbr] at k75
  simp only [Bool.false_eq_true, if_false] at k75
  have hmf : ∀ (fn : Fn) (first cap : Array Value) (w : World), (Instr.makeFunc fn first cap).run Try.prog w = .ok (.func fn first cap) w := fun _ _ _ _ => rfl
  have hxl := h.wal.lt
  have hBx := h.bx
  have hz : B ≤ w.heap.size := by obtain ⟨_, _, _, _, hz⟩ := h.disk; exact hz
  have hA := h.disk.new (.cells #[.int .i64 0] 34)
  have k77 := settle77 hA (h.wal.below (al w _)) hf hw
  have k67 := attempt_m (w := w) (Q := fun w2 => Alone B w2 d s D.flush.2 (w.heap.size :: x :: G) ∧ Blk w2 x (wlC d W) 111 ∧ Kept G w w2 ∧ Below B w w2) (cf77 (.pointer (some ⟨x, 0, none⟩))) (k77.mono (by
    rintro e w1 ⟨rfl, A1, K1, B1⟩
    refine ⟨rfl, (blk_new w [.int .i64 0] 34).block (K1 _ (by simp)), A1, (h.wal.below (al w _)).block (K1 _ (by simp)), fun g hg => (K1 g (by simp [hg])).trans (Below.heap_alloc _ _ _ (hG g hg)), ((al w _).mono hz).trans B1⟩))
  have k67' : Calls Try.prog 67 #[.func (.func 77) #[.pointer (some ⟨x, 0, none⟩)] #[]] w fun e w' => e = .returned (.int .i64 0) ∧ (Alone B w' d s D.flush.2 (x :: G) ∧ Kept G w w' ∧ Below B w w') ∧ Blk w' x (wlC d W) 111 := k67.mono (by
    rintro e w1 ⟨rfl, w2, ⟨A2, b2, K2, B2⟩, k⟩
    have hne : ∀ g ∈ x :: G, g ≠ w.heap.size := fun g hg => by
      rcases List.mem_cons.1 hg with rfl | hg
      · omega
      · have := hG g hg; omega
    refine ⟨rfl, ⟨(A2.keepOne k).less (by simp +contextual), fun g hg => (k.block g (by have := hG g hg; have := B2.size; omega) (hne g (by simp [hg]))).trans (K2 g hg), B2.trans (k.below (Nat.le_trans hz B2.size) (fun i e => by omega))⟩, b2.block (k.block x b2.lt (hne x (by simp)))⟩)
  have k76 := change76 k67' ⟨_, _, _, rfl⟩
  have HF : Hid (∀ w2, (Alone B w2 d s D.flush.2 (x :: G) ∧ Kept G w w2 ∧ Below B w w2) → Blk w2 x (wlC d W) 111 → LG B (w2.setCell ⟨x, 5, none⟩ (.bool false)) d s D.flush.2 x W G ∧ Kept G w (w2.setCell ⟨x, 5, none⟩ (.bool false)) ∧ Below B w (w2.setCell ⟨x, 5, none⟩ (.bool false))) := fun w2 ⟨A2, K2, B2⟩ b2 => by
    have kk : Keep (fun b => b = x) w2 (w2.setCell ⟨x, 5, none⟩ (.bool false)) := (Keep.refl (fun b => b = x) w2).set (.inr rfl) _
    refine ⟨⟨A2.keepOne kk, ?_, h.nx, hBx⟩, fun g hg => (Below.heap_setCell _ _ _ _ (fun e => h.nx (by rw [← show g = x from e]; exact hg))).trans (K2 g hg), bset B2 hBx _⟩
    have := b2.set (o := 5) (.bool false)
    rw [show (wlC d W).set 5 (.bool false) = wlC d W by simp [wlC, hbr]] at this
    exact this
  clear k77 k67 k67' hA hf hw
  go_enter Try.func39, Try.ntmps39
  go_wp2_with (first
    | (go_at_call 75; (refine k75.mono ?_; rintro e w1 ⟨rfl, rfl⟩))
    | (go_at_call 76; (refine k76.mono ?_; rintro e w2 ⟨rfl, w3, hq, hb, rfl⟩; have HQ := HF.out _ hq hb)))
  go_ret
  exact ⟨rfl, HQ⟩
end Go.Proofs.Ytnganmekiloigaa
