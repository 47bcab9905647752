/- A piece as a sector. -/
import Derived.Test.YtnganmekiloigaaGz
namespace Go.Proofs.Ytnganmekiloigaa
open Go.RowKit
set_option maxRecDepth 100000
variable {w w' : World} {B d s : Nat} {D : Dk}
def head7 (x : Pc) : Bs := [UInt8.ofNat (x.e / 256), UInt8.ofNat x.e, UInt8.ofNat (x.p / 256), UInt8.ofNat x.p, UInt8.ofNat x.k, UInt8.ofNat x.n, UInt8.ofNat x.z]
def secX (x : Pc) : Bs := head7 x ++ x.b
theorem secX_length {x : Pc} (h : x.b.length = 57) : (secX x).length = 64 := by simp [secX, head7, h]
def hd7 (a0 a1 a2 a3 a4 a5 a6 : Int) : List Value := [.int .u8 a0, .int .u8 a1, .int .u8 a2, .int .u8 a3, .int .u8 a4, .int .u8 a5, .int .u8 a6] ++ cellsB (List.replicate 57 0)
theorem built90 (a0 a1 a2 a3 a4 a5 a6 : Int) : Try.prog.built 90 [(0, .int .u8 a0), (1, .int .u8 a1), (2, .int .u8 a2), (3, .int .u8 a3), (4, .int .u8 a4), (5, .int .u8 a5), (6, .int .u8 a6)] = some (hd7 a0 a1 a2 a3 a4 a5 a6).toArray := by kernel_rfl
theorem info90y : (Try.prog.info? 90).map (fun i => (i.zero, i.size, i.bytes)) = some (some (.agg (cellsB Z64).toArray), 64, 64) := by kernel_rfl
theorem hd7_length (a0 a1 a2 a3 a4 a5 a6 : Int) : (hd7 a0 a1 a2 a3 a4 a5 a6).length = 64 := by simp [hd7, cellsB_length]
theorem hd7_one (a0 a1 a2 a3 a4 a5 a6 : Int) : ∀ u ∈ hd7 a0 a1 a2 a3 a4 a5 a6, u.oneCell' = true := by
  intro u hu
  rcases List.mem_append.1 hu with h | h
  · simp at h
    rcases h with rfl | rfl | rfl | rfl | rfl | rfl | rfl <;> rfl
  · exact cellsB_one _ u h
theorem w8 (n : Nat) : IntKind.u8.wrap ((n : Nat) : Int) = (((UInt8.ofNat n).toNat : Nat) : Int) := by
  rw [IntKind.wrap_u8, UInt8.toNat_ofNat']
  omega
theorem head_splice {x : Pc} (hx : x.Ok) : splice (hd7 ((x.e : Int) / 256 % 256) ((x.e : Int) % 256) ((x.p : Int) / 256 % 256) ((x.p : Int) % 256) ((x.k : Int) % 256) ((x.n : Int) % 256) ((x.z : Int) % 256)) 7 (cellsB x.b) = cellsB (secX x) := by
  have h1 := hx.b
  unfold splice hd7 secX
  rw [List.take_append_of_le_length (by simp), List.take_of_length_le (by simp), cellsB_length, h1, List.drop_of_length_le (by simp [cellsB_length]), List.append_nil]
  simp only [cellsB, head7, List.map_append, List.map_cons, List.map_nil, UInt8.toNat_ofNat']
  congr 1
set_option maxHeartbeats 1000000 in
theorem sector103 {x : Pc} (hx : x.Ok) : Calls Try.prog 103 #[.agg (encPc x).toArray] w fun e w' => e = .returned (.agg (cellsB (secX x)).toArray) ∧ Below w.heap.size w w' := by
  have b0 := blk_new w (encPc x) 141
  have B0 := al w (.cells (encPc x).toArray 141)
  have HC : Hid (∀ W, Below (w.alloc (.cells (encPc x).toArray 141)).heap.size (w.alloc (.cells (encPc x).toArray 141)) W → W.cell? ⟨w.heap.size, 0, none⟩ = some (.int .i64 (x.e : Int)) ∧ W.cell? ⟨w.heap.size, 1, none⟩ = some (.int .i64 (x.p : Int)) ∧ W.cell? ⟨w.heap.size, 2, none⟩ = some (.int .i64 (x.k : Int)) ∧ W.cell? ⟨w.heap.size, 3, none⟩ = some (.int .i64 (x.n : Int)) ∧ W.cell? ⟨w.heap.size, 4, none⟩ = some (.int .i64 (x.z : Int)) ∧ Blk W w.heap.size (encPc x) 141) := fun W k => ⟨(b0.below k).cell 0, (b0.below k).cell 1, (b0.below k).cell 2, (b0.below k).cell 3, (b0.below k).cell 4, b0.below k⟩
  have hzi := info90y
  have hzl : (cellsB Z64).length = 64 := by rw [cellsB_length]; rfl
  generalize hW : w.alloc (.cells (encPc x).toArray 141) = W0 at *
  generalize cellsB Z64 = z0 at *
  clear b0
  go_enter Try.func103, Try.ntmps103
  have hbd := built90 ((x.e : Int) / 256 % 256) ((x.e : Int) % 256) ((x.p : Int) / 256 % 256) ((x.p : Int) % 256) ((x.k : Int) % 256) ((x.n : Int) % 256) ((x.z : Int) % 256)
  have h7l := hd7_length ((x.e : Int) / 256 % 256) ((x.e : Int) % 256) ((x.p : Int) / 256 % 256) ((x.p : Int) % 256) ((x.k : Int) % 256) ((x.n : Int) % 256) ((x.z : Int) % 256)
  have h7o := hd7_one ((x.e : Int) / 256 % 256) ((x.e : Int) % 256) ((x.p : Int) / 256 % 256) ((x.p : Int) % 256) ((x.k : Int) % 256) ((x.n : Int) % 256) ((x.z : Int) % 256)
  have H7 : Hid (splice (hd7 ((x.e : Int) / 256 % 256) ((x.e : Int) % 256) ((x.p : Int) / 256 % 256) ((x.p : Int) % 256) ((x.k : Int) % 256) ((x.n : Int) % 256) ((x.z : Int) % 256)) 7 (cellsB x.b) = cellsB (secX x)) := head_splice hx
  generalize hd7 ((x.e : Int) / 256 % 256) ((x.e : Int) % 256) ((x.p : Int) / 256 % 256) ((x.p : Int) % 256) ((x.k : Int) % 256) ((x.n : Int) % 256) ((x.z : Int) % 256) = h7 at *
  have hxb := hx.b
  go_wp2_with (first
    | ((with_reducible show wpList _ _ _ ({ dst := _, op := .alloc 90, type := _, pos := _, after := _, guard := none } :: _) _ _); refine wpList_alloc_row rfl 90 rfl z0 hzi ?_; first
      | (intro w4 b4 k4 s4; have S4 : Hid (w4.heap.size = w3.heap.size + 1) := s4; clear s4)
      | (intro w3 b3 k3 s3; have S3 : Hid (w3.heap.size = W0.heap.size + 1) := s3; clear s3; obtain ⟨q0, q1, q2, q3, q4, q5⟩ := HC.out _ k3))
    | ((with_reducible show wpList _ _ _ ({ dst := _, op := .build 90 _, type := _, pos := _, after := _, guard := none } :: _) _ _); refine wpList_build rfl 90 _ rfl #[(0, .int .u8 ((x.e : Int) / 256 % 256)), (1, .int .u8 ((x.e : Int) % 256)), (2, .int .u8 ((x.p : Int) / 256 % 256)), (3, .int .u8 ((x.p : Int) % 256)), (4, .int .u8 ((x.k : Int) % 256)), (5, .int .u8 ((x.n : Int) % 256)), (6, .int .u8 ((x.z : Int) % 256))] (by simp [Act.eval]) h7 hbd ?_)
    | ((with_reducible show wpList _ _ _ ({ dst := _, op := .store 90 (.tmp 3) _, type := _, pos := _, after := _, guard := none } :: _) _ _); refine wpList_store_whole rfl 90 (.tmp 3) (.tmp 33) rfl w3.heap.size h7 rfl rfl z0 90 b4 (by omega) (by rw [h7l]; exact info90s) h7o ?_; intro w5 b5 k5 s5; clear s5))
  have q5' : Below W0.heap.size W0 w5 := kbel (bmore k3 k4) k5 k3.size (Nat.le_refl _)
  have b35 : Blk w5 W0.heap.size z0 90 := (b3.below k4).block (k5.block _ (by have := S3.out; have := S4.out; omega) (by have := S3.out; omega))
  have b05 := (HC.out _ q5').2.2.2.2.2
  have b55 := b5.below (Below.refl _ _).drew
  have HSRC : Hid (∀ j v, (cellsB x.b)[j]? = some v → w5.drew.cell? ((⟨w.heap.size, 5, none⟩ : Addr).add j) = some v) := fun j v hv => by
    have hj := (List.getElem?_eq_some_iff.1 hv).1
    rw [cellsB_length, hxb] at hj
    rw [show (⟨w.heap.size, 5, none⟩ : Addr).add j = ⟨w.heap.size, 5 + j, none⟩ by unfold Addr.add; split <;> simp_all]
    refine ((b05.below (Below.refl _ _).drew).cell (5 + j)).trans ?_
    have e : encPc x = (headC x ++ [Value.int .i64 (x.z : Int)]) ++ cellsB (fix57 x.b) := by simp [encPc]
    have e5 : (headC x ++ [Value.int .i64 (x.z : Int)]).length = 5 := by simp [headC]
    rw [e, List.getElem?_append_right (by omega), fix57_eq hxb, e5, Nat.add_sub_cancel_left]
    exact hv
  have hcl : (cellsB x.b).length = 57 := by rw [cellsB_length]; exact hxb
  have hco := cellsB_one x.b
  clear q0 q1 q2 q3 q4 q5 b3 b4 b5 k3 k4 k5
  have HS3 : Hid (w3.heap.size = W0.heap.size + 1) := S3
  generalize hA3 : w3.heap.size = A3 at *
  have HA3 : Hid (A3 = W0.heap.size + 1) := S3.out
  have HW0 : Hid (W0.heap.size = w.heap.size + 1) := by show _ = _; rw [← hW]; simp
  clear hA3 S3 HS3 S4
  generalize cellsB x.b = cb at *
  generalize encPc x = cx at *
  go_wp2_with fail
  go_region_held3 (fun _ => True) (exact trivial) ((refine step_copy_splice rfl (.tmp 34) (.tmp 36) 33 33 rfl 5 Try.underlying33 info5s (some ⟨A3, 7, none⟩) (some ⟨w.heap.size, 5, none⟩) 57 57 57 57 (by rfl) (by rfl) A3 7 h7 90 b55 cb (by rw [hcl]; rfl) (fun _ => ⟨rfl, _, rfl, HSRC.out⟩) (by omega) hco A3 w5.drew (Below.refl _ _) (Nat.le_refl _) ?_; intro w8 h8 k8))
  have b8 : Blk w8 A3 (cellsB (secX x)) 90 := by rw [← H7.out]; exact h8.out
  have q8 : Below w.heap.size w w8 := (bmore (bmore B0 q5') (Below.refl _ _).drew).trans (k8.mono (by have := HA3.out; have := HW0.out; omega))
  have r8 : Blk w8 W0.heap.size z0 90 := (b35.below (Below.refl _ _).drew).block (k8.block _ (by have := HA3.out; omega))
  have hsl : (cellsB (secX x)).length = 64 := by rw [cellsB_length]; exact secX_length hxb
  have hso := cellsB_one (secX x)
  have hr8 := b8.whole
  generalize hsc : cellsB (secX x) = sc at *
  have HSC : Hid (cellsB (secX x) = sc) := hsc
  clear hsc
  go_wp2_with (first
    | ((with_reducible show wpList _ _ _ ({ dst := _, op := .load 90 _, type := _, pos := _, after := _, guard := none } :: _) _ _); refine wpList_load_mid rfl 90 (.tmp 3) rfl A3 0 rfl sc _ hr8 Try.underlying90 rfl (by rw [hsl]; exact info90s) ?_)
    | ((with_reducible show wpList _ _ _ ({ dst := _, op := .store 90 _ _, type := _, pos := _, after := _, guard := none } :: _) _ _); refine wpList_store_whole rfl 90 (.tmp 2) (.tmp 38) rfl W0.heap.size sc rfl rfl z0 90 r8 (by omega) (by rw [hsl]; exact info90s) hso ?_; intro w9 b9 k9 s9))
  exact bodyPost_ret (v := .agg sc.toArray) (results_cell (fn := Try.f103) (t := 2) (ty := 90) rfl _ _ _ _ _ _ b9 rfl _ Try.underlying90 rfl (by rw [hsl]; exact info90s)) rfl ⟨by rw [HSC.out], kbel q8 k9 (by have := HW0.out; omega) (Nat.le_refl _)⟩
end Go.Proofs.Ytnganmekiloigaa
