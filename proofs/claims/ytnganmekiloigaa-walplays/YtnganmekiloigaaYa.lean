/- WalNone: the document's Open of a new disk, both Opens of nil and of disks that may not be, the law; what came in. · The document's sector, as a piece. -/
import Derived.Test.YtnganmekiloigaaJq
import Derived.Test.YtnganmekiloigaaRr
import Derived.Test.YtnganmekiloigaaArg
/-! ### WalNone: the document's Open of a new disk, both Opens of nil and of disks that may not be, the law; what came in. -/
/-! ### The document's Open, of a disk whose sectors are all nought. -/
namespace Go.Proofs.Ytnganmekiloigaa
open Go.RowKit
set_option maxRecDepth 100000
variable {w w' : World}
theorem info123a : (Try.prog.info? 123).map (fun i => (i.zero, i.size, i.bytes)) = some (some (.agg #[.int .i64 0, .int .i64 0, .int .i64 0, .int .i64 0, .int .i64 0, .slice none 0 0]), 6, 64) := by kernel_rfl
theorem info123s : (Try.prog.info? 123).map (·.size) = some 6 := by kernel_rfl
/-- A piece of epoch nought, of the document. -/
def EZ : Ety Sl := ⟨6, fun y => [.int .i64 0, .int .i64 0, .int .i64 0, .int .i64 0, .int .i64 0, slV y], 123, 121, .agg #[.int .i64 0, .int .i64 0, .int .i64 0, .int .i64 0, .int .i64 0, .slice none 0 0], 64, fun _ => rfl, fun x u hu => by simp at hu; rcases hu with rfl | rfl | rfl | rfl | rfl | rfl <;> rfl, Try.underlying121, info123a, rfl, by decide, by decide⟩
theorem wz64 : IntKind.i64.wrap 0 = 0 := by decide
theorem built123 : Try.prog.built 123 [(0, .int .i64 0), (1, .int .i64 0), (2, .int .i64 0), (3, .int .i64 0), (4, .int .i64 0)] = some #[.int .i64 0, .int .i64 0, .int .i64 0, .int .i64 0, .int .i64 0, .slice none 0 0] := by kernel_rfl
set_option maxHeartbeats 2000000 in
theorem sector84 {g c : Nat} (hc : 64 ≤ c) (hz : ∀ j, j < 64 → w.cell? ⟨g, j, none⟩ = some (.int .u8 0)) : Calls Try.prog 84 #[.slice (some ⟨g, 0, none⟩) 64 c] w fun e w' => e = .returned (.agg #[.int .i64 0, .int .i64 0, .int .i64 0, .int .i64 0, .int .i64 0, .slice (some ⟨g, 7, none⟩) 0 (c - 7)]) ∧ Below w.heap.size w w' := by
  have hgl : g < w.heap.size := World.block_lt_of_cell? _ _ (hz 0 (by omega))
  have HZ : Hid (∀ W, Below w.heap.size w W → W.cell? ⟨g, 0, none⟩ = some (.int .u8 0) ∧ W.cell? ⟨g, 1, none⟩ = some (.int .u8 0) ∧ W.cell? ⟨g, 2, none⟩ = some (.int .u8 0) ∧ W.cell? ⟨g, 3, none⟩ = some (.int .u8 0) ∧ W.cell? ⟨g, 4, none⟩ = some (.int .u8 0) ∧ W.cell? ⟨g, 5, none⟩ = some (.int .u8 0) ∧ W.cell? ⟨g, 6, none⟩ = some (.int .u8 0)) := fun W k => ⟨(k.cell (p := ⟨g, 0, none⟩) hgl).trans (hz 0 (by omega)), (k.cell (p := ⟨g, 1, none⟩) hgl).trans (hz 1 (by omega)), (k.cell (p := ⟨g, 2, none⟩) hgl).trans (hz 2 (by omega)), (k.cell (p := ⟨g, 3, none⟩) hgl).trans (hz 3 (by omega)), (k.cell (p := ⟨g, 4, none⟩) hgl).trans (hz 4 (by omega)), (k.cell (p := ⟨g, 5, none⟩) hgl).trans (hz 5 (by omega)), (k.cell (p := ⟨g, 6, none⟩) hgl).trans (hz 6 (by omega))⟩
  have n1 : ¬ c < 7 := by omega
  have n2 : ¬ c = 7 := by omega
  have n3 : (7 : Int) ≤ (c : Int) := by omega
  have n4 : 7 ≤ c := by omega
  have hbt := built123
  clear hz
  go_enter Try.func84, Try.ntmps84
  go_wp2_with fail
  have HA : Hid (Below w.heap.size w (w.alloc (.cells #[.int .i64 0, .int .i64 0, .int .i64 0, .int .i64 0, .int .i64 0, .slice none 0 0] 123)).drew) := bmore (al _ _) (Below.refl _ _).drew
  have hb0 := (blk_new w [.int .i64 0, .int .i64 0, .int .i64 0, .int .i64 0, .int .i64 0, .slice none 0 0] 123).below (Below.refl _ (w.alloc (.cells #[.int .i64 0, .int .i64 0, .int .i64 0, .int .i64 0, .int .i64 0, .slice none 0 0] 123))).drew
  refine wp_region_held_drew (S := fun W => W.cell? ⟨g, 0, none⟩ = some (.int .u8 0) ∧ W.cell? ⟨g, 1, none⟩ = some (.int .u8 0) ∧ W.cell? ⟨g, 2, none⟩ = some (.int .u8 0) ∧ W.cell? ⟨g, 3, none⟩ = some (.int .u8 0) ∧ W.cell? ⟨g, 4, none⟩ = some (.int .u8 0) ∧ W.cell? ⟨g, 5, none⟩ = some (.int .u8 0) ∧ W.cell? ⟨g, 6, none⟩ = some (.int .u8 0)) (by kernel_rfl) (HZ.out _ HA.out) (fun hS => ?_)
  have hsw : Hid ((w.alloc (.cells #[.int .i64 0, .int .i64 0, .int .i64 0, .int .i64 0, .int .i64 0, .slice none 0 0] 123)).drew.heap.size = w.heap.size + 1) := by show _ = _; simp
  generalize (w.alloc (.cells #[.int .i64 0, .int .i64 0, .int .i64 0, .int .i64 0, .int .i64 0, .slice none 0 0] 123)).drew = w1 at *
  refine wpAnyH_take' 0 (some 4) (.slice (some ⟨g, 0, none⟩) 64 c) rfl rfl (by kernel_rfl) (by kernel_rfl) (by kernel_rfl) (fun _ _ _ h => h) (Or.inl ⟨by rfl, fun w' hS => by obtain ⟨s0, s1, s2, s3, s4, s5, s6⟩ := hS; go_simp <;> exact wz64⟩) hS ?_
  simp only [Act.put, List.setIfInBounds_toArray, List.set_cons_zero, List.set_cons_succ]
  refine wpAnyH_take' 1 (some 5) (.pointer (some ⟨g, 0, none⟩)) rfl rfl (by kernel_rfl) (by kernel_rfl) (by kernel_rfl) (fun _ _ _ h => h) (Or.inl ⟨by rfl, fun w' hS => by obtain ⟨s0, s1, s2, s3, s4, s5, s6⟩ := hS; go_simp <;> exact wz64⟩) hS ?_
  simp only [Act.put, List.setIfInBounds_toArray, List.set_cons_zero, List.set_cons_succ]
  refine wpAnyH_take' 2 (some 6) (.int .u8 0) rfl rfl (by kernel_rfl) (by kernel_rfl) (by kernel_rfl) (fun _ _ _ h => h) (Or.inl ⟨by rfl, fun w' hS => by obtain ⟨s0, s1, s2, s3, s4, s5, s6⟩ := hS; go_simp <;> exact wz64⟩) hS ?_
  simp only [Act.put, List.setIfInBounds_toArray, List.set_cons_zero, List.set_cons_succ]
  refine wpAnyH_take' 3 (some 7) (.int .i64 0) rfl rfl (by kernel_rfl) (by kernel_rfl) (by kernel_rfl) (fun _ _ _ h => h) (Or.inl ⟨by rfl, fun w' hS => by obtain ⟨s0, s1, s2, s3, s4, s5, s6⟩ := hS; go_simp <;> exact wz64⟩) hS ?_
  simp only [Act.put, List.setIfInBounds_toArray, List.set_cons_zero, List.set_cons_succ]
  refine wpAnyH_take' 4 (some 8) (.int .i64 0) rfl rfl (by kernel_rfl) (by kernel_rfl) (by kernel_rfl) (fun _ _ _ h => h) (Or.inl ⟨by rfl, fun w' hS => by obtain ⟨s0, s1, s2, s3, s4, s5, s6⟩ := hS; go_simp <;> exact wz64⟩) hS ?_
  simp only [Act.put, List.setIfInBounds_toArray, List.set_cons_zero, List.set_cons_succ]
  refine wpAnyH_take' 5 (some 9) (.slice (some ⟨g, 0, none⟩) 64 c) rfl rfl (by kernel_rfl) (by kernel_rfl) (by kernel_rfl) (fun _ _ _ h => h) (Or.inl ⟨by rfl, fun w' hS => by obtain ⟨s0, s1, s2, s3, s4, s5, s6⟩ := hS; go_simp <;> exact wz64⟩) hS ?_
  simp only [Act.put, List.setIfInBounds_toArray, List.set_cons_zero, List.set_cons_succ]
  refine wpAnyH_take' 6 (some 10) (.pointer (some ⟨g, 1, none⟩)) rfl rfl (by kernel_rfl) (by kernel_rfl) (by kernel_rfl) (fun _ _ _ h => h) (Or.inl ⟨by rfl, fun w' hS => by obtain ⟨s0, s1, s2, s3, s4, s5, s6⟩ := hS; go_simp <;> exact wz64⟩) hS ?_
  simp only [Act.put, List.setIfInBounds_toArray, List.set_cons_zero, List.set_cons_succ]
  refine wpAnyH_take' 7 (some 11) (.int .u8 0) rfl rfl (by kernel_rfl) (by kernel_rfl) (by kernel_rfl) (fun _ _ _ h => h) (Or.inl ⟨by rfl, fun w' hS => by obtain ⟨s0, s1, s2, s3, s4, s5, s6⟩ := hS; go_simp <;> exact wz64⟩) hS ?_
  simp only [Act.put, List.setIfInBounds_toArray, List.set_cons_zero, List.set_cons_succ]
  refine wpAnyH_take' 8 (some 12) (.int .i64 0) rfl rfl (by kernel_rfl) (by kernel_rfl) (by kernel_rfl) (fun _ _ _ h => h) (Or.inl ⟨by rfl, fun w' hS => by obtain ⟨s0, s1, s2, s3, s4, s5, s6⟩ := hS; go_simp <;> exact wz64⟩) hS ?_
  simp only [Act.put, List.setIfInBounds_toArray, List.set_cons_zero, List.set_cons_succ]
  refine wpAnyH_take' 9 (some 13) (.int .i64 0) rfl rfl (by kernel_rfl) (by kernel_rfl) (by kernel_rfl) (fun _ _ _ h => h) (Or.inl ⟨by rfl, fun w' hS => by obtain ⟨s0, s1, s2, s3, s4, s5, s6⟩ := hS; go_simp <;> exact wz64⟩) hS ?_
  simp only [Act.put, List.setIfInBounds_toArray, List.set_cons_zero, List.set_cons_succ]
  refine wpAnyH_take' 10 (some 14) (.slice (some ⟨g, 0, none⟩) 64 c) rfl rfl (by kernel_rfl) (by kernel_rfl) (by kernel_rfl) (fun _ _ _ h => h) (Or.inl ⟨by rfl, fun w' hS => by obtain ⟨s0, s1, s2, s3, s4, s5, s6⟩ := hS; go_simp <;> exact wz64⟩) hS ?_
  simp only [Act.put, List.setIfInBounds_toArray, List.set_cons_zero, List.set_cons_succ]
  refine wpAnyH_take' 11 (some 15) (.pointer (some ⟨g, 2, none⟩)) rfl rfl (by kernel_rfl) (by kernel_rfl) (by kernel_rfl) (fun _ _ _ h => h) (Or.inl ⟨by rfl, fun w' hS => by obtain ⟨s0, s1, s2, s3, s4, s5, s6⟩ := hS; go_simp <;> exact wz64⟩) hS ?_
  simp only [Act.put, List.setIfInBounds_toArray, List.set_cons_zero, List.set_cons_succ]
  refine wpAnyH_take' 12 (some 16) (.int .u8 0) rfl rfl (by kernel_rfl) (by kernel_rfl) (by kernel_rfl) (fun _ _ _ h => h) (Or.inl ⟨by rfl, fun w' hS => by obtain ⟨s0, s1, s2, s3, s4, s5, s6⟩ := hS; go_simp <;> exact wz64⟩) hS ?_
  simp only [Act.put, List.setIfInBounds_toArray, List.set_cons_zero, List.set_cons_succ]
  refine wpAnyH_take' 13 (some 17) (.int .i64 0) rfl rfl (by kernel_rfl) (by kernel_rfl) (by kernel_rfl) (fun _ _ _ h => h) (Or.inl ⟨by rfl, fun w' hS => by obtain ⟨s0, s1, s2, s3, s4, s5, s6⟩ := hS; go_simp <;> exact wz64⟩) hS ?_
  simp only [Act.put, List.setIfInBounds_toArray, List.set_cons_zero, List.set_cons_succ]
  refine wpAnyH_take' 14 (some 18) (.int .i64 0) rfl rfl (by kernel_rfl) (by kernel_rfl) (by kernel_rfl) (fun _ _ _ h => h) (Or.inl ⟨by rfl, fun w' hS => by obtain ⟨s0, s1, s2, s3, s4, s5, s6⟩ := hS; go_simp <;> exact wz64⟩) hS ?_
  simp only [Act.put, List.setIfInBounds_toArray, List.set_cons_zero, List.set_cons_succ]
  refine wpAnyH_take' 15 (some 19) (.slice (some ⟨g, 0, none⟩) 64 c) rfl rfl (by kernel_rfl) (by kernel_rfl) (by kernel_rfl) (fun _ _ _ h => h) (Or.inl ⟨by rfl, fun w' hS => by obtain ⟨s0, s1, s2, s3, s4, s5, s6⟩ := hS; go_simp <;> exact wz64⟩) hS ?_
  simp only [Act.put, List.setIfInBounds_toArray, List.set_cons_zero, List.set_cons_succ]
  refine wpAnyH_take' 16 (some 20) (.pointer (some ⟨g, 3, none⟩)) rfl rfl (by kernel_rfl) (by kernel_rfl) (by kernel_rfl) (fun _ _ _ h => h) (Or.inl ⟨by rfl, fun w' hS => by obtain ⟨s0, s1, s2, s3, s4, s5, s6⟩ := hS; go_simp <;> exact wz64⟩) hS ?_
  simp only [Act.put, List.setIfInBounds_toArray, List.set_cons_zero, List.set_cons_succ]
  refine wpAnyH_take' 17 (some 21) (.int .u8 0) rfl rfl (by kernel_rfl) (by kernel_rfl) (by kernel_rfl) (fun _ _ _ h => h) (Or.inl ⟨by rfl, fun w' hS => by obtain ⟨s0, s1, s2, s3, s4, s5, s6⟩ := hS; go_simp <;> exact wz64⟩) hS ?_
  simp only [Act.put, List.setIfInBounds_toArray, List.set_cons_zero, List.set_cons_succ]
  refine wpAnyH_take' 18 (some 22) (.int .i64 0) rfl rfl (by kernel_rfl) (by kernel_rfl) (by kernel_rfl) (fun _ _ _ h => h) (Or.inl ⟨by rfl, fun w' hS => by obtain ⟨s0, s1, s2, s3, s4, s5, s6⟩ := hS; go_simp <;> exact wz64⟩) hS ?_
  simp only [Act.put, List.setIfInBounds_toArray, List.set_cons_zero, List.set_cons_succ]
  refine wpAnyH_take' 19 (some 23) (.int .i64 0) rfl rfl (by kernel_rfl) (by kernel_rfl) (by kernel_rfl) (fun _ _ _ h => h) (Or.inl ⟨by rfl, fun w' hS => by obtain ⟨s0, s1, s2, s3, s4, s5, s6⟩ := hS; go_simp <;> exact wz64⟩) hS ?_
  simp only [Act.put, List.setIfInBounds_toArray, List.set_cons_zero, List.set_cons_succ]
  refine wpAnyH_take' 20 (some 24) (.slice (some ⟨g, 0, none⟩) 64 c) rfl rfl (by kernel_rfl) (by kernel_rfl) (by kernel_rfl) (fun _ _ _ h => h) (Or.inl ⟨by rfl, fun w' hS => by obtain ⟨s0, s1, s2, s3, s4, s5, s6⟩ := hS; go_simp <;> exact wz64⟩) hS ?_
  simp only [Act.put, List.setIfInBounds_toArray, List.set_cons_zero, List.set_cons_succ]
  refine wpAnyH_take' 21 (some 25) (.pointer (some ⟨g, 4, none⟩)) rfl rfl (by kernel_rfl) (by kernel_rfl) (by kernel_rfl) (fun _ _ _ h => h) (Or.inl ⟨by rfl, fun w' hS => by obtain ⟨s0, s1, s2, s3, s4, s5, s6⟩ := hS; go_simp <;> exact wz64⟩) hS ?_
  simp only [Act.put, List.setIfInBounds_toArray, List.set_cons_zero, List.set_cons_succ]
  refine wpAnyH_take' 22 (some 26) (.int .u8 0) rfl rfl (by kernel_rfl) (by kernel_rfl) (by kernel_rfl) (fun _ _ _ h => h) (Or.inl ⟨by rfl, fun w' hS => by obtain ⟨s0, s1, s2, s3, s4, s5, s6⟩ := hS; go_simp <;> exact wz64⟩) hS ?_
  simp only [Act.put, List.setIfInBounds_toArray, List.set_cons_zero, List.set_cons_succ]
  refine wpAnyH_take' 23 (some 27) (.int .i64 0) rfl rfl (by kernel_rfl) (by kernel_rfl) (by kernel_rfl) (fun _ _ _ h => h) (Or.inl ⟨by rfl, fun w' hS => by obtain ⟨s0, s1, s2, s3, s4, s5, s6⟩ := hS; go_simp <;> exact wz64⟩) hS ?_
  simp only [Act.put, List.setIfInBounds_toArray, List.set_cons_zero, List.set_cons_succ]
  refine wpAnyH_take' 24 (some 28) (.slice (some ⟨g, 0, none⟩) 64 c) rfl rfl (by kernel_rfl) (by kernel_rfl) (by kernel_rfl) (fun _ _ _ h => h) (Or.inl ⟨by rfl, fun w' hS => by obtain ⟨s0, s1, s2, s3, s4, s5, s6⟩ := hS; go_simp <;> exact wz64⟩) hS ?_
  simp only [Act.put, List.setIfInBounds_toArray, List.set_cons_zero, List.set_cons_succ]
  refine wpAnyH_take' 25 (some 29) (.pointer (some ⟨g, 5, none⟩)) rfl rfl (by kernel_rfl) (by kernel_rfl) (by kernel_rfl) (fun _ _ _ h => h) (Or.inl ⟨by rfl, fun w' hS => by obtain ⟨s0, s1, s2, s3, s4, s5, s6⟩ := hS; go_simp <;> exact wz64⟩) hS ?_
  simp only [Act.put, List.setIfInBounds_toArray, List.set_cons_zero, List.set_cons_succ]
  refine wpAnyH_take' 26 (some 30) (.int .u8 0) rfl rfl (by kernel_rfl) (by kernel_rfl) (by kernel_rfl) (fun _ _ _ h => h) (Or.inl ⟨by rfl, fun w' hS => by obtain ⟨s0, s1, s2, s3, s4, s5, s6⟩ := hS; go_simp <;> exact wz64⟩) hS ?_
  simp only [Act.put, List.setIfInBounds_toArray, List.set_cons_zero, List.set_cons_succ]
  refine wpAnyH_take' 27 (some 31) (.int .i64 0) rfl rfl (by kernel_rfl) (by kernel_rfl) (by kernel_rfl) (fun _ _ _ h => h) (Or.inl ⟨by rfl, fun w' hS => by obtain ⟨s0, s1, s2, s3, s4, s5, s6⟩ := hS; go_simp <;> exact wz64⟩) hS ?_
  simp only [Act.put, List.setIfInBounds_toArray, List.set_cons_zero, List.set_cons_succ]
  refine wpAnyH_take' 28 (some 32) (.slice (some ⟨g, 0, none⟩) 64 c) rfl rfl (by kernel_rfl) (by kernel_rfl) (by kernel_rfl) (fun _ _ _ h => h) (Or.inl ⟨by rfl, fun w' hS => by obtain ⟨s0, s1, s2, s3, s4, s5, s6⟩ := hS; go_simp <;> exact wz64⟩) hS ?_
  simp only [Act.put, List.setIfInBounds_toArray, List.set_cons_zero, List.set_cons_succ]
  refine wpAnyH_take' 29 (some 33) (.pointer (some ⟨g, 6, none⟩)) rfl rfl (by kernel_rfl) (by kernel_rfl) (by kernel_rfl) (fun _ _ _ h => h) (Or.inl ⟨by rfl, fun w' hS => by obtain ⟨s0, s1, s2, s3, s4, s5, s6⟩ := hS; go_simp <;> exact wz64⟩) hS ?_
  simp only [Act.put, List.setIfInBounds_toArray, List.set_cons_zero, List.set_cons_succ]
  refine wpAnyH_take' 30 (some 34) (.int .u8 0) rfl rfl (by kernel_rfl) (by kernel_rfl) (by kernel_rfl) (fun _ _ _ h => h) (Or.inl ⟨by rfl, fun w' hS => by obtain ⟨s0, s1, s2, s3, s4, s5, s6⟩ := hS; go_simp <;> exact wz64⟩) hS ?_
  simp only [Act.put, List.setIfInBounds_toArray, List.set_cons_zero, List.set_cons_succ]
  refine wpAnyH_take' 31 (some 35) (.int .i64 0) rfl rfl (by kernel_rfl) (by kernel_rfl) (by kernel_rfl) (fun _ _ _ h => h) (Or.inl ⟨by rfl, fun w' hS => by obtain ⟨s0, s1, s2, s3, s4, s5, s6⟩ := hS; go_simp <;> exact wz64⟩) hS ?_
  simp only [Act.put, List.setIfInBounds_toArray, List.set_cons_zero, List.set_cons_succ]
  refine wpAnyH_take' 32 (some 36) (.agg #[.int .i64 0, .int .i64 0, .int .i64 0, .int .i64 0, .int .i64 0, .slice none 0 0]) rfl rfl (by kernel_rfl) (by kernel_rfl) (by kernel_rfl) (fun _ _ _ h => h) (Or.inl ⟨by rfl, fun w' hS => by exact exec_build 123 _ rfl #[(0, .int .i64 0), (1, .int .i64 0), (2, .int .i64 0), (3, .int .i64 0), (4, .int .i64 0)] (by simp [Act.eval]) [.int .i64 0, .int .i64 0, .int .i64 0, .int .i64 0, .int .i64 0, .slice none 0 0] hbt⟩) hS ?_
  simp only [Act.put, List.setIfInBounds_toArray, List.set_cons_zero, List.set_cons_succ]
  refine wpAnyH_ready (rs := [33]) (by kernel_rfl) (by simp) (AllReadyH.cons rfl (fun K2 hK2 => ?_) AllReadyH.nil)
  refine step_alloc_row rfl (some 3) rfl 123 rfl [.int .i64 0, .int .i64 0, .int .i64 0, .int .i64 0, .int .i64 0, .slice none 0 0] info123a ?_
  intro w2 b2 k2 s2
  refine hK2.out _ _ (HZ.out _ (bmore HA.out k2)) (fun hS => ?_)
  clear hK2 K2
  simp only [Act.put, List.setIfInBounds_toArray, List.set_cons_zero, List.set_cons_succ]
  refine wpAnyH_ready (rs := [34]) (by kernel_rfl) (by simp) (AllReadyH.cons rfl (fun K2 hK2 => ?_) AllReadyH.nil)
  refine step_store_whole rfl rfl 123 (.tmp 3) (.tmp 36) rfl w1.heap.size [.int .i64 0, .int .i64 0, .int .i64 0, .int .i64 0, .int .i64 0, .slice none 0 0] rfl rfl _ 123 b2 rfl (by exact info123s) (by simp [Value.oneCell']) ?_
  intro w3 b3 k3 s3
  have q3 : Below w1.heap.size w1 w3 := kbel k2 k3 (Nat.le_refl _) (Nat.le_refl _)
  refine hK2.out _ _ (HZ.out _ (bmore HA.out q3)) (fun hS => ?_)
  clear hK2 K2
  refine wpAnyH_done (by kernel_rfl) ?_ _
  have y4 := b3.cell 4
  have z5 := b3.frozen 5
  have y5 := b3.cell 5
  have b4 := b3.set (o := 5) (.slice (some ⟨g, 7, none⟩) 0 (c - 7))
  have hsz := hsw.out
  have hb3 := hb0.below q3
  have hne : ¬ w1.heap.size = w.heap.size := by omega
  have hb4 := hb3.other (p := ⟨w1.heap.size, 5, none⟩) (by simp only; omega) (.slice (some ⟨g, 7, none⟩) 0 (c - 7))
  simp only [List.getElem?_cons_zero, List.getElem?_cons_succ, List.set_cons_succ, List.set_cons_zero] at y4 y5 b4
  have HQ : Hid (Below w.heap.size w (w3.setCell ⟨w1.heap.size, 5, none⟩ (.slice (some ⟨g, 7, none⟩) 0 (c - 7)))) := bset (bmore HA.out q3) (by simp only; omega) _
  have wz : IntKind.i64.wrap 0 = 0 := by decide
  clear hsz hS HZ HA hb0 hb3 b2 k2 k3 q3 s3 b3 hbt
  go_wp2_with (first
    | (refine wpList_load_mid rfl 123 (.tmp 3) rfl w1.heap.size 0 rfl _ _ b4.whole Try.underlying123 rfl (by exact info123s) ?_)
    | (refine wpList_store_whole rfl 123 (.tmp 2) (.tmp 46) rfl w.heap.size [.int .i64 0, .int .i64 0, .int .i64 0, .int .i64 0, .int .i64 0, .slice (some ⟨g, 7, none⟩) 0 (c - 7)] rfl rfl _ 123 hb4 rfl (by exact info123s) (by simp [Value.oneCell']) ?_; intro w4 b5 k5 s5; have HQ5 := kbel HQ.out k5 (Nat.le_refl _) (Nat.le_refl _))
    | (refine wpList_load_mid rfl 123 (.tmp 2) rfl w.heap.size 0 rfl _ _ b5.whole Try.underlying123 rfl (by exact info123s) ?_))
  have HQ6 := HQ5
  clear HQ5
  refine bodyPost_ret (v := .agg #[.int .i64 0, .int .i64 0, .int .i64 0, .int .i64 0, .int .i64 0, .slice (some ⟨g, 7, none⟩) 0 (c - 7)]) (results_cell rfl _ _ _ _ _ _ b5 rfl _ Try.underlying123 rfl (by exact info123s)) rfl ⟨rfl, HQ6⟩
end Go.Proofs.Ytnganmekiloigaa
/-! ### The document's chain of a half whose first piece is nought. -/
namespace Go.Proofs.Ytnganmekiloigaa
open Go.RowKit
set_option maxRecDepth 100000
variable {w w' : World}
theorem at104_zero {g o n c : Nat} (hn : 0 < n) (h0 : w.cell? ⟨g, o, none⟩ = some (.int .i64 0)) (h3 : w.cell? ⟨g, o + 3, none⟩ = some (.int .i64 0)) : Calls Try.prog 104 #[.slice (some ⟨g, o, none⟩) n c, .int .i64 0] w fun e w' => e = .returned (.tuple #[.slice none 0 0, .int .i64 0]) ∧ w' = w := by
  have n1 : (0 : Int) < (n : Int) := by omega
  have n2 : ¬ n = 0 := by omega
  go_enter Try.func104, Try.ntmps104
  go_wp2_with fail
  go_ret2
  exact ⟨rfl, rfl⟩
theorem chain85_zero {g o n c : Nat} (hn : 0 < n) (h0 : w.cell? ⟨g, o, none⟩ = some (.int .i64 0)) (h3 : w.cell? ⟨g, o + 3, none⟩ = some (.int .i64 0)) : Calls Try.prog 85 #[.slice (some ⟨g, o, none⟩) n c] w fun e w' => e = .returned (.tuple #[.slice none 0 0, .int .i64 0, .int .i64 0]) ∧ w' = w := by
  have n1 : (0 : Int) < (n : Int) := by omega
  have n2 : ¬ n = 0 := by omega
  have k104 := at104_zero (c := c) hn h0 h3
  go_enter Try.func85, Try.ntmps85
  go_wp2_with fail
  go_loopw [6] (fun p wr => p = .int .i64 0 ∧ w = wr) (fun _ _ => 0)
  · exact ⟨rfl, rfl⟩
  · obtain ⟨rfl, rfl⟩ := hrel
    go_wp2_with (go_at_call 104; (refine k104.mono ?_; rintro e w1 ⟨rfl, rfl⟩))
    go_ret3
    exact ⟨rfl, rfl⟩
end Go.Proofs.Ytnganmekiloigaa
/-! ### The document's Open of a new disk, of nil, of a disk that may not be. -/
namespace Go.Proofs.Ytnganmekiloigaa
open Go.RowKit
set_option maxRecDepth 100000
variable {w w' : World} {r : Nat} {lv xv : Value} {D : Dk}
theorem open44_nil : Calls Try.prog 44 #[.pointer none] w fun e w' => e = .returned (.tuple #[.pointer none, .slice none 0 0, .int .i64 1]) ∧ w' = w := by
  go_enter Try.func44, Try.ntmps44
  go_wp2_with fail
  go_ret3
  exact ⟨rfl, rfl⟩
theorem open44_no (h : RD w r lv xv D) (hn : D.secs.length % 2 ≠ 0 ∨ D.secs.length < 4) : Calls Try.prog 44 #[.pointer (some ⟨r, 0, none⟩)] w fun e w' => e = .returned (.tuple #[.pointer none, .slice none 0 0, .int .i64 2]) ∧ w' = w := by
  have k50 := rsize50 h
  clear h
  generalize D.secs.length = n at *
  by_cases h2 : n % 2 = 0
  · have h3 : (n : Int) < 4 := by omega
    have h4 : (n : Int).tmod 2 = 0 := by rw [Int.tmod_eq_emod_of_nonneg (by omega)]; omega
    clear hn
    go_enter Try.func44, Try.ntmps44
    go_wp2_with (go_at_call 50; (refine k50.mono ?_; rintro e w1 ⟨rfl, rfl⟩))
    go_ret3
    exact ⟨rfl, rfl⟩
  · have h4 : (n : Int).tmod 2 = 1 := by rw [Int.tmod_eq_emod_of_nonneg (by omega)]; omega
    clear hn
    go_enter Try.func44, Try.ntmps44
    go_wp2_with (go_at_call 50; (refine k50.mono ?_; rintro e w1 ⟨rfl, rfl⟩))
    go_ret3
    exact ⟨rfl, rfl⟩

theorem und121 : Try.prog.underlying 121 = some (.slice 123) := by kernel_rfl
theorem info123y : (Try.prog.info? 123).map (fun i => (i.zero, i.size)) = some (some (.agg #[.int .i64 0, .int .i64 0, .int .i64 0, .int .i64 0, .int .i64 0, .slice none 0 0]), 6) := by kernel_rfl
theorem built126 (r : Nat) : Try.prog.built 126 [(0, .pointer (some ⟨r, 0, none⟩)), (4, .int .i64 1)] = some #[.pointer (some ⟨r, 0, none⟩), .int .i64 0, .int .i64 0, .int .i64 0, .int .i64 1, .bool false] := by kernel_rfl
theorem zero_cells {v : Value} {B : Nat} (h : w.ownsRow B 5 1 v 64 (cellsB (List.replicate 64 0))) : ∃ g c, v = .slice (some ⟨g, 0, none⟩) 64 c ∧ 64 ≤ c ∧ ∀ j, j < 64 → w.cell? ⟨g, j, none⟩ = some (.int .u8 0) := by
  obtain ⟨_, h | h⟩ := h
  · obtain ⟨_, h⟩ := h; omega
  · obtain ⟨g, cap, cur, rfl, _, h1, h2, _, h4, h5⟩ := h
    refine ⟨g, cap, rfl, h2, fun j hj => ?_⟩
    have e : cur[j]? = (cur.toList.take (64 * 1))[j]? := by rw [List.getElem?_take_of_lt (by omega), Array.getElem?_toList]
    rw [World.cell?, h1]
    show cur[j]? = _
    rw [e, h5]
    show ((List.replicate 64 0).map _)[j]? = _
    rw [List.getElem?_map, List.getElem?_replicate, if_pos hj]
    rfl
set_option maxHeartbeats 2000000 in
theorem open44_new {R : Nat} (h : RD w r lv xv (newDk (2 * R))) (h2 : 2 ≤ R) (h3 : R ≤ 64) : Calls Try.prog 44 #[.pointer (some ⟨r, 0, none⟩)] w fun e w' => ∃ x, e = .returned (.tuple #[.pointer (some ⟨x, 0, none⟩), .slice none 0 0, .int .i64 0]) ∧ Below w.heap.size w w' := by
  have hl : (newDk (2 * R)).secs.length = 2 * R := by simp [newDk]
  have H50 : Hid (∀ W, Below w.heap.size w W → Calls Try.prog 50 #[.pointer (some ⟨r, 0, none⟩)] W fun e w' => e = .returned (.int .i64 ((2 * R : Nat) : Int)) ∧ w' = W) := fun W k => by have := rsize50 (h.below k); rw [hl] at this; exact this
  have H32 : Hid (∀ W m, m < 2 * R → Below w.heap.size w W → Calls Try.prog 32 #[.pointer (some ⟨r, 0, none⟩), .int .i64 (m : Int)] W fun e w' => ∃ g c, e = .returned (.tuple #[.slice (some ⟨g, 0, none⟩) 64 c, .int .i64 0]) ∧ 64 ≤ c ∧ (∀ j, j < 64 → w'.cell? ⟨g, j, none⟩ = some (.int .u8 0)) ∧ Below W.heap.size W w') := fun W m hm k => by
    refine (rread32_yes (h.below k) m (by rw [hl]; exact hm) (by simp [newDk]) rfl).mono ?_
    rintro e w' ⟨v, rfl, h1, h2⟩
    have e1 : latest (newDk (2 * R)).secs (newDk (2 * R)).wait m = List.replicate 64 0 := by simp [newDk, latest, hm]
    rw [e1] at h1
    obtain ⟨g, c, rfl, h3, h4⟩ := zero_cells h1
    exact ⟨g, c, rfl, h3, h4, h2⟩
  clear h hl
  have hn2 : ((2 * R : Nat) : Int).tmod 2 = 0 := by rw [Int.tmod_eq_emod_of_nonneg (by omega)]; omega
  have hn4 : ¬ ((2 * R : Nat) : Int) < 4 := by omega
  have k50 := H50.out w (Below.refl _ _)
  have HR : Hid (2 ≤ R ∧ R ≤ 64) := ⟨h2, h3⟩
  generalize hN : 2 * R = N at *
  have HN : Hid (2 * R = N) := hN
  have hN128 : N ≤ 128 := by omega
  clear hN h2 h3
  go_enter Try.func44, Try.ntmps44
  go_wp2_with (go_at_call 50; (refine k50.mono ?_; rintro e w0 ⟨rfl, rfl⟩))
  go_loopw [5, 6, 7] (fun u q p wr => ∃ (m : Nat) (L : List Sl), m ≤ N ∧ q = .int .i64 0 ∧ p = .int .i64 (m : Int) ∧ Hid (L.length = m) ∧ Hid (RW EZ w0.heap.size wr u L) ∧ Below w0.heap.size w0 wr) (fun _ _ p _ => N - (intOf p).toNat)
  case atStart => exact ⟨0, [], by omega, rfl, rfl, rfl, RW.nil _ _ _, Below.refl _ _⟩
  case round =>
    obtain ⟨m, L, hm, rfl, rfl, hlm, hU, hB⟩ := hrel
    have k50 := H50.out _ hB
    by_cases hlt : m < N
    · have hlt1 : (m : Int) < (N : Int) := by omega
      have k32 := H32.out _ m hlt hB
      obtain ⟨ua, uc, hu, _⟩ := hU.out.form
      rw [hlm.out] at hu
      subst hu
      have hm1 : (0 : Int) ≤ (m : Int) := by omega
      have hm2 : (m : Int) < ((m + 1 : Nat) : Int) := by omega
      have hm3 : m < m + 1 := by omega
      have HA : Hid (∀ W x, Below wr.heap.size wr W → ∃ u' w', (Builtin.append_ #[121, 121] 121 #[.slice ua m uc, .slice (some ⟨W.heap.size, 0, none⟩) 1 1]).run Try.prog (W.alloc (.cells (EZ.enc x).toArray 123)) = .ok u' w' ∧ ∃ g cap, u' = .slice (some ⟨g, 0, none⟩) (m + 1) cap ∧ RW EZ w0.heap.size w' u' (L ++ [x]) ∧ w'.cell? ⟨g, m * 6, none⟩ = some (.int .i64 0) ∧ Below w0.heap.size w0 w') := fun W x k => by
        obtain ⟨u', w', h1, h2, h3⟩ := rw_app ((hU.out.below k).below (al W (.cells (EZ.enc x).toArray 123))) (lv_blk EZ (L := [x]) (by rw [show EZ.cells [x] = EZ.enc x by simp [Ety.cells]]; exact blk_new W (EZ.enc x) 123) 1 (by simp)) (by have := HR.out; have := HN.out; have := hlm.out; simp; omega) (by have := k.size; have := hB.size; simp; omega)
        have hlx : (L ++ [x]).length = m + 1 := by simp [hlm.out]
        obtain ⟨g, cap, rfl⟩ : ∃ g cap, u' = .slice (some ⟨g, 0, none⟩) (m + 1) cap := by
          obtain ⟨_, ⟨_, h⟩ | ⟨g, cap, cur, h, _⟩⟩ := h2
          · rw [hlx] at h; omega
          · exact ⟨g, cap, by rw [h, hlx]⟩
        obtain ⟨g', o', e1, e2⟩ := h2.read.at (i := m) (x := x) (by simp [← hlm.out])
        simp only [Option.some.injEq, Addr.mk.injEq] at e1
        obtain ⟨rfl, rfl, -⟩ := e1
        have e3 := e2 0 (by decide)
        refine ⟨_, w', h1, g, cap, rfl, h2, ?_, (hB.trans ((k.trans ((al W _).mono k.size)).mono hB.size)).trans h3⟩
        rw [show 0 + m * EZ.m + 0 = m * 6 by show 0 + m * 6 + 0 = m * 6; omega] at e3
        exact e3
      go_wp2_with (first
        | (go_at_call 50; (refine k50.mono ?_; rintro e wz ⟨rfl, rfl⟩))
        | (go_at_call 32; (refine k32.mono ?_; rintro e w1 ⟨g, c, rfl, hc, hz, B1⟩; have k84 := sector84 hc hz))
        | (go_at_call 84; (refine k84.mono ?_; rintro e w2 ⟨rfl, B2⟩; have kA := HA.out _ (some ⟨g, 7, none⟩, 0, c - 7) (bmore B1 B2)))
        | (refine wpList_buildSlice1 rfl 121 123 (.tmp 45) rfl (EZ.enc (some ⟨g, 7, none⟩, 0, c - 7)) rfl (.agg #[.int .i64 0, .int .i64 0, .int .i64 0, .int .i64 0, .int .i64 0, .slice none 0 0]) und121 (by exact info123y) rfl (by show 6 ≤ 1000; omega) (by show 0 < 6; omega) ?_; rintro _ rfl)
        | (refine wpList_append_ex rfl (.tmp 43) (.tmp 46) 121 rfl _ _ rfl rfl kA ?_; rintro u5 w5 ⟨g5, c5, rfl, hU5, hc5, hB5⟩))
      go_roundw
      case rel => exact ⟨m + 1, L ++ [(some ⟨g, 7, none⟩, 0, c - 7)], by omega, rfl, by simp, by show _ = _; simp [hlm.out], (by show RW _ _ _ _ _; exact hU5), hB5⟩
      case measure => simp only [intOf]; omega
    · have hlt1 : ¬ (m : Int) < (N : Int) := by omega
      obtain rfl : m = N := by omega
      obtain ⟨ua, cap, hu, hcap⟩ := hU.out.form
      rw [hlm.out] at hu hcap
      subst hu
      obtain ⟨g, rfl⟩ : ∃ g, ua = some ⟨g, 0, none⟩ := by
        obtain ⟨_, ⟨_, h⟩ | ⟨g, cap, cur, h, _⟩⟩ := hU.out
        · have := HR.out; have := HN.out; have := hlm.out; omega
        · simp only [Value.slice.injEq] at h; exact ⟨g, h.1⟩
      have HC : Hid (∀ i, i < m → ∀ W, Below wr.heap.size wr W → W.cell? ⟨g, i * 6, none⟩ = some (.int .i64 0) ∧ W.cell? ⟨g, i * 6 + 3, none⟩ = some (.int .i64 0)) := fun i hi W k => by
        obtain ⟨x, hx⟩ : ∃ x, L[i]? = some x := ⟨_, List.getElem?_eq_getElem (by rw [hlm.out]; exact hi)⟩
        obtain ⟨g', o', e1, e2⟩ := (hU.out.below k).read.at hx
        simp only [Option.some.injEq, Addr.mk.injEq] at e1
        obtain ⟨rfl, rfl, -⟩ := e1
        have e3 := e2 0 (by decide)
        have e4 := e2 3 (by decide)
        rw [show 0 + i * EZ.m + 0 = i * 6 by show 0 + i * 6 + 0 = i * 6; omega] at e3
        rw [show 0 + i * EZ.m + 3 = i * 6 + 3 by show 0 + i * 6 + 3 = i * 6 + 3; omega] at e4
        exact ⟨e3, e4⟩
      have hq : (m : Int).tdiv 2 = (R : Int) := half_int HN.out.symm
      have K85 : Hid (∀ W c, Below wr.heap.size wr W → Calls Try.prog 85 #[.slice (some ⟨g, 0, none⟩) R c] W fun e w' => e = .returned (.tuple #[.slice none 0 0, .int .i64 0, .int .i64 0]) ∧ w' = W) := fun W c k => chain85_zero (by have := HR.out; omega) (by have := (HC.out 0 (by have := HR.out; have := HN.out; omega) W k).1; simpa using this) (by have := (HC.out 0 (by have := HR.out; have := HN.out; omega) W k).2; simpa using this)
      have K85b : Hid (∀ W c, Below wr.heap.size wr W → Calls Try.prog 85 #[.slice (some ⟨g, R * 6, none⟩) R c] W fun e w' => e = .returned (.tuple #[.slice none 0 0, .int .i64 0, .int .i64 0]) ∧ w' = W) := fun W c k => chain85_zero (by have := HR.out; omega) (HC.out R (by have := HR.out; have := HN.out; omega) W k).1 (HC.out R (by have := HR.out; have := HN.out; omega) W k).2
      have hR0 : (0 : Int) ≤ (R : Int) := by omega
      have hRm : (R : Int) ≤ (m : Int) := by have := HN.out; omega
      have hRc : (R : Int) ≤ (cap : Int) := by have := HN.out; omega
      have hRc2 : R ≤ cap := by have := HN.out; omega
      have hRm2 : R ≤ m := by have := HN.out; omega
      have hmc : (m : Int) ≤ (cap : Int) := by omega
      have hmR : m - R = R := by have := HN.out; omega
      have hcR : ¬ cap = R := by have := HN.out; have := HR.out; omega
      have hcR2 : ¬ cap - R = 0 := by have := HN.out; have := HR.out; omega
      have hbt := built126 r
      clear HC hU
      go_wp2_with (first
        | (go_at_call 50; (refine k50.mono ?_; rintro e wz ⟨rfl, rfl⟩))
        | (go_at_call 85; (refine (K85b.out _ _ HBQ.out).mono ?_); rintro e wq2 ⟨rfl, rfl⟩)
        | (go_at_call 85; (refine (K85.out _ _ (al _ _)).mono ?_); rintro e wq ⟨rfl, hwq⟩; have hbq : Blk wq wz.heap.size [.pointer (some ⟨r, 0, none⟩), .int .i64 0, .int .i64 0, .int .i64 0, .int .i64 1, .bool false] 126 := (by rw [hwq]; exact blk_new _ _ _); have HBQ : Hid (Below wz.heap.size wz wq) := (by rw [hwq]; exact al _ _); clear hwq; have y2 := hbq.cell 2; have f2 := hbq.frozen 2; have y3 := hbq.cell 3; have f3 := hbq.frozen 3; clear hbq))
      go_ret3
      exact ⟨_, rfl, bset (bset (bmore hB HBQ.out) (by simpa using hB.size) _) (by simpa using hB.size) _⟩
end Go.Proofs.Ytnganmekiloigaa
/-! ### The program's Open of nil and of a disk that may not be. -/
namespace Go.Proofs.Ytnganmekiloigaa
open Go.RowKit
set_option maxRecDepth 100000
variable {w w' : World} {d s : Nat} {wv : Value} {D : Dk}
theorem open35_nil : Calls Try.prog 35 #[.pointer none] w fun e w' => e = .returned (.tuple #[.pointer none, .slice none 0 0, .int .i64 1]) ∧ Below w.heap.size w w' := by
  refine (callsIn_wide (n := 0)).1 (callsIn_of_wp_marks Try.func35 rfl trivial (wpIn_wide.2 ?_) rfl)
  simp only [Try.ntmps35, List.size_toArray, List.length_cons, List.length_nil, Nat.reduceAdd, Nat.reduceSub, Array.replicate_succ, Array.replicate_zero, List.push_toArray, List.append_toArray, List.nil_append, List.cons_append]
  go_wp2_with fail
  trace_state
  exact leave_marks [] _ (fun w'' k => ⟨by simp [results, Try.results35], rfl, (al _ _).trans (k.below (B := w.heap.size) (by simp) (fun b hb => by simp at hb))⟩) (fun D'' h => by simp at h) (by simp)
theorem open35_no (h : PD w d s wv D) (hn : D.secs.length % 2 ≠ 0 ∨ D.secs.length < 4) : Calls Try.prog 35 #[.pointer (some ⟨d, 0, none⟩)] w fun e w' => e = .returned (.tuple #[.pointer none, .slice none 0 0, .int .i64 2]) ∧ Below w.heap.size w w' := by
  have c28 : Calls Try.prog 28 #[.pointer (some ⟨d, 0, none⟩)] (w.alloc (.cells #[.pointer (some ⟨d, 0, none⟩)] 23)) fun e w' => e = .returned (.int .i64 (D.secs.length : Int)) ∧ w' = w.alloc (.cells #[.pointer (some ⟨d, 0, none⟩)] 23) := size28 (h.below (al _ _))
  clear h
  generalize D.secs.length = n at *
  by_cases h2 : n < 4
  · have h3 : (n : Int) < 4 := by omega
    clear hn
    refine (callsIn_wide (n := 0)).1 (callsIn_of_wp_marks Try.func35 rfl trivial (wpIn_wide.2 ?_) rfl)
    simp only [Try.ntmps35, List.size_toArray, List.length_cons, List.length_nil, Nat.reduceAdd, Nat.reduceSub, Array.replicate_succ, Array.replicate_zero, List.push_toArray, List.append_toArray, List.nil_append, List.cons_append]
    go_wp2_with (go_at_call 28; (with_reducible refine c28.mono ?_); rintro e w0 ⟨rfl, rfl⟩)
    exact leave_marks [] _ (fun w'' k => ⟨by simp [results, Try.results35], rfl, (al _ _).trans (k.below (B := w.heap.size) (by simp) (fun b hb => by simp at hb))⟩) (fun D'' h => by simp at h) (by simp)
  · have h3 : ¬ (n : Int) < 4 := by omega
    have h4 : (n : Int).tmod 2 = 1 := by rw [Int.tmod_eq_emod_of_nonneg (by omega)]; omega
    clear hn
    refine (callsIn_wide (n := 0)).1 (callsIn_of_wp_marks Try.func35 rfl trivial (wpIn_wide.2 ?_) rfl)
    simp only [Try.ntmps35, List.size_toArray, List.length_cons, List.length_nil, Nat.reduceAdd, Nat.reduceSub, Array.replicate_succ, Array.replicate_zero, List.push_toArray, List.append_toArray, List.nil_append, List.cons_append]
    go_wp2_with (go_at_call 28; (with_reducible refine c28.mono ?_); rintro e w0 ⟨rfl, rfl⟩)
    exact leave_marks [] _ (fun w'' k => ⟨by simp [results, Try.results35], rfl, (al _ _).trans (k.below (B := w.heap.size) (by simp) (fun b hb => by simp at hb))⟩) (fun D'' h => by simp at h) (by simp)
end Go.Proofs.Ytnganmekiloigaa
/-! ### WalNone. -/
namespace Go.Proofs.Ytnganmekiloigaa
open Go.RowKit
set_option maxRecDepth 100000
variable {w w' : World}
theorem rnone45 (n : Int) (h : n < 1 ∨ 128 < n) : Calls Try.prog 45 #[.int .i64 n] w fun e w' => e = .returned (.pointer none) ∧ w' = w := by
  rcases h with h | h
  · go_enter Try.func45, Try.ntmps45
    go_wp2
    go_ret
    exact ⟨rfl, rfl⟩
  · have h1 : ¬ n < 1 := by omega
    go_enter Try.func45, Try.ntmps45
    go_wp2
    go_ret
    exact ⟨rfl, rfl⟩
/-- Both Opens of a new disk of n sectors. -/
structure Opens (n c : Int) (N : Prop) : Prop where
  ours : ∀ w, Calls Try.prog 29 #[.int .i64 n] w fun e w1 => ∃ v, e = .returned v ∧ Below w.heap.size w w1 ∧ Calls Try.prog 35 #[v] w1 fun e w2 => ∃ p ua uc, e = .returned (.tuple #[.pointer p, .slice ua 0 uc, .int .i64 c]) ∧ (p = none ↔ N) ∧ Below w1.heap.size w1 w2
  theirs : ∀ w, Calls Try.prog 45 #[.int .i64 n] w fun e w1 => ∃ v, e = .returned v ∧ Below w.heap.size w w1 ∧ Calls Try.prog 44 #[v] w1 fun e w2 => ∃ p l, e = .returned (.tuple #[p, l, .int .i64 c]) ∧ Below w1.heap.size w1 w2
theorem opens (n : Int) : Opens n 1 True ∨ Opens n 2 True ∨ Opens n 0 False := by
  by_cases h : n < 1 ∨ 128 < n
  · refine .inl ⟨fun w => ?_, fun w => ?_⟩
    · refine (new29_no n w h).mono ?_
      rintro e w1 ⟨rfl, rfl⟩
      refine ⟨_, rfl, Below.refl _ _, open35_nil.mono ?_⟩
      rintro e w2 ⟨rfl, B⟩
      exact ⟨_, _, _, rfl, by simp, B⟩
    · refine (rnone45 n h).mono ?_
      rintro e w1 ⟨rfl, rfl⟩
      refine ⟨_, rfl, Below.refl _ _, open44_nil.mono ?_⟩
      rintro e w2 ⟨rfl, rfl⟩
      exact ⟨_, _, rfl, Below.refl _ _⟩
  · obtain ⟨m, rfl⟩ : ∃ m : Nat, n = (m : Int) := ⟨n.toNat, by omega⟩
    have h1 : 1 ≤ m := by omega
    have h2 : m ≤ 128 := by omega
    have hl : (newDk m).secs.length = m := by simp [newDk]
    by_cases hq : m % 2 ≠ 0 ∨ m < 4
    · refine .inr (.inl ⟨fun w => ?_, fun w => ?_⟩)
      · refine (new29 m w h1 h2).mono ?_
        rintro e w1 ⟨rfl, hP, B⟩
        refine ⟨_, rfl, B, (open35_no hP (by rw [hl]; exact hq)).mono ?_⟩
        rintro e w2 ⟨rfl, B2⟩
        exact ⟨_, _, _, rfl, by simp, B2⟩
      · refine (rnew45 m w h1 h2).mono ?_
        rintro e w1 ⟨rfl, hP, B⟩
        refine ⟨_, rfl, B, (open44_no hP (by rw [hl]; exact hq)).mono ?_⟩
        rintro e w2 ⟨rfl, rfl⟩
        exact ⟨_, _, rfl, Below.refl _ _⟩
    · obtain ⟨R, rfl⟩ : ∃ R, m = 2 * R := ⟨m / 2, by omega⟩
      refine .inr (.inr ⟨fun w => ?_, fun w => ?_⟩)
      · refine (new29 (2 * R) w h1 h2).mono ?_
        rintro e w1 ⟨rfl, hP, B⟩
        refine ⟨_, rfl, B, (open_new (alone_new29 hP B) (by omega) (by omega)).mono ?_⟩
        rintro e w2 ⟨x, ua, uc, rfl, -, -, B2⟩
        exact ⟨_, _, _, rfl, by simp, B2⟩
      · refine (rnew45 (2 * R) w h1 h2).mono ?_
        rintro e w1 ⟨rfl, hP, B⟩
        refine ⟨_, rfl, B, (open44_new hP (by omega) (by omega)).mono ?_⟩
        rintro e w2 ⟨x, rfl, B2⟩
        exact ⟨_, _, rfl, B2⟩
set_option maxHeartbeats 4000000 in
theorem none12 (W0 : World) (v0 : Value) (b : Bs) (hb : InB W0.heap.size W0 v0 b) (n : Int) : Calls Try.prog 12 #[v0, .int .i64 n] W0 fun e w' => e = .returned (.bool true) ∧ Below W0.heap.size W0 w' := by
  obtain ⟨a, c, rfl, _, _, _⟩ := id hb
  clear hb
  generalize b.length = m at *
  have k42 := append42_nil a m c
  have k41 := switch41_nil a m c
  have key : ∀ (cd : Int) (N : Prop), Opens n cd N → ((N ∧ (cd = 1 ∨ cd = 2)) ∨ (¬ N ∧ cd = 0)) → Calls Try.prog 12 #[.slice a m c, .int .i64 n] W0 fun e w' => e = .returned (.bool true) ∧ Below W0.heap.size W0 w' := by
    intro cd N O hN
    go_enter Try.func12, Try.ntmps12
    go_wp2_with (first
      | (go_at_call 42; (refine (k42 _).mono ?_; rintro e w1 ⟨rfl, B1⟩))
      | (go_at_call 29; (refine (O.ours _).mono ?_; rintro e w2 ⟨v, rfl, B2, k35⟩))
      | (go_at_call 35; (refine k35.mono ?_; rintro e w3 ⟨p, ua, uc, rfl, hp, B3⟩))
      | (go_at_call 45; (refine (O.theirs _).mono ?_; rintro e w4 ⟨v, rfl, B4, k44⟩))
      | (go_at_call 44; (refine k44.mono ?_; rintro e w5 ⟨q, l, rfl, B5⟩))
      | (go_at_call 31; (refine (live31 _).mono ?_; rintro e w6 ⟨rfl, B6⟩))
      | (go_at_call 39; (refine (flush39_nil _).mono ?_; rintro e w7 ⟨rfl, h7⟩; replace h7 := h7.symm; subst h7))
      | (go_at_call 41; (refine (k41 _).mono ?_; rintro e w8 ⟨rfl, B8⟩))
      | (go_at_call 46; (refine (len46_nil _).mono ?_; rintro e w9 ⟨rfl, h9⟩; replace h9 := h9.symm; subst h9))
      | (go_at_call 47; (refine (left47_nil _).mono ?_; rintro e w9 ⟨rfl, h9⟩; replace h9 := h9.symm; subst h9))
      | (go_at_call 43; (refine (half43_nil _).mono ?_; rintro e w9 ⟨rfl, h9⟩; replace h9 := h9.symm; subst h9))
      | (go_at_call 48; (refine (epoch48_nil _).mono ?_; rintro e w9 ⟨rfl, h9⟩; replace h9 := h9.symm; subst h9))
      | (go_at_call 49; (refine (broken49_nil _).mono ?_; rintro e w9 ⟨rfl, h9⟩; replace h9 := h9.symm; subst h9)))
    have hpc : (p.isNone == (cd != 0)) = true := by
      rcases hN with ⟨h1, rfl | rfl⟩ | ⟨h1, rfl⟩
      · rw [hp.2 h1]; rfl
      · rw [hp.2 h1]; rfl
      · cases p with
        | none => exact absurd (hp.1 rfl) h1
        | some q => rfl
    go_ret
    exact ⟨congrArg (fun b => Ending.returned (.bool b)) hpc, bmore (bmore (bmore (bmore (bmore (bmore B1 B2) B3) B4) B5) B6) B8⟩
  rcases opens n with O | O | O
  · exact key _ _ O (.inl ⟨trivial, .inl rfl⟩)
  · exact key _ _ O (.inl ⟨trivial, .inr rfl⟩)
  · exact key _ _ O (.inr ⟨id, rfl⟩)
end Go.Proofs.Ytnganmekiloigaa
/-! ### Bytes and a number that came in. -/
namespace Go.Proofs.Ytnganmekiloigaa
open Go.ChangeShapes Go.WideShapes Go.ChangeAt Go.RowKit Go.Joins Go.Deep
set_option maxRecDepth 100000
theorem openBytesN {H : Type} {enc : TypeId × Value → H} {W : World} {base : Nat} {v : Value} {d : DataW H} {p : List MemPlace} (hv : Value.okWide Try.prog W .any base 33 v) (h : DataW.Trod enc Try.prog W 0 (fun _ => true) true 33 v d p) : ∃ l : Bs, InB W.heap.size W v l := by
  obtain ⟨a0, len0, cap0, rfl⟩ := okWide_slice Try.underlying33 hv
  obtain ⟨fuel, hf⟩ := h
  exact openB (c := .slice a0 len0 cap0) hf
theorem openIntN {H : Type} {enc : TypeId × Value → H} {W : World} {base : Nat} {v : Value} {d : DataW H} {p : List MemPlace} (hv : Value.okWide Try.prog W .any base 3 v) (h : DataW.Trod enc Try.prog W 0 (fun _ => true) true 3 v d p) : ∃ x : Int, v = .int .i64 x := by
  obtain ⟨z, rfl, _, _, wf⟩ := open_int Try.underlying3 hv h
  exact ⟨z, rfl⟩
end Go.Proofs.Ytnganmekiloigaa
/-! ### The document's sector, as a piece. -/
namespace Go.Proofs.Ytnganmekiloigaa
open Go.RowKit
set_option maxRecDepth 100000
variable {w w' : World}
theorem built123g (a b c d e : Int) : Try.prog.built 123 [(0, .int .i64 a), (1, .int .i64 b), (2, .int .i64 c), (3, .int .i64 d), (4, .int .i64 e)] = some #[.int .i64 a, .int .i64 b, .int .i64 c, .int .i64 d, .int .i64 e, .slice none 0 0] := by kernel_rfl
set_option maxHeartbeats 4000000 in
theorem sector84y {g c d0 d1 d2 d3 d4 d5 d6 : Nat} (hc : 64 ≤ c) (hb : d0 < 256 ∧ d1 < 256 ∧ d2 < 256 ∧ d3 < 256 ∧ d4 < 256 ∧ d5 < 256 ∧ d6 < 256) (hz6 : d6 ≤ 57) (hz : w.cell? ⟨g, 0, none⟩ = some (.int .u8 (d0 : Int)) ∧ w.cell? ⟨g, 1, none⟩ = some (.int .u8 (d1 : Int)) ∧ w.cell? ⟨g, 2, none⟩ = some (.int .u8 (d2 : Int)) ∧ w.cell? ⟨g, 3, none⟩ = some (.int .u8 (d3 : Int)) ∧ w.cell? ⟨g, 4, none⟩ = some (.int .u8 (d4 : Int)) ∧ w.cell? ⟨g, 5, none⟩ = some (.int .u8 (d5 : Int)) ∧ w.cell? ⟨g, 6, none⟩ = some (.int .u8 (d6 : Int))) : Calls Try.prog 84 #[.slice (some ⟨g, 0, none⟩) 64 c] w fun e w' => e = .returned (.agg #[.int .i64 (256 * (d0 : Int) + (d1 : Int)), .int .i64 (256 * (d2 : Int) + (d3 : Int)), .int .i64 (d4 : Int), .int .i64 (d5 : Int), .int .i64 (d6 : Int), .slice (some ⟨g, 7, none⟩) d6 (c - 7)]) ∧ Below w.heap.size w w' := by
  have hgl : g < w.heap.size := World.block_lt_of_cell? _ _ hz.1
  have HZ : Hid (∀ W, Below w.heap.size w W → W.cell? ⟨g, 0, none⟩ = some (.int .u8 (d0 : Int)) ∧ W.cell? ⟨g, 1, none⟩ = some (.int .u8 (d1 : Int)) ∧ W.cell? ⟨g, 2, none⟩ = some (.int .u8 (d2 : Int)) ∧ W.cell? ⟨g, 3, none⟩ = some (.int .u8 (d3 : Int)) ∧ W.cell? ⟨g, 4, none⟩ = some (.int .u8 (d4 : Int)) ∧ W.cell? ⟨g, 5, none⟩ = some (.int .u8 (d5 : Int)) ∧ W.cell? ⟨g, 6, none⟩ = some (.int .u8 (d6 : Int))) := fun W k => by
    obtain ⟨z0, z1, z2, z3, z4, z5, z6⟩ := hz
    exact ⟨(k.cell (p := ⟨g, 0, none⟩) hgl).trans z0, (k.cell (p := ⟨g, 1, none⟩) hgl).trans z1, (k.cell (p := ⟨g, 2, none⟩) hgl).trans z2, (k.cell (p := ⟨g, 3, none⟩) hgl).trans z3, (k.cell (p := ⟨g, 4, none⟩) hgl).trans z4, (k.cell (p := ⟨g, 5, none⟩) hgl).trans z5, (k.cell (p := ⟨g, 6, none⟩) hgl).trans z6⟩
  obtain ⟨h0, h1, h2, h3, h4, h5, h6⟩ := hb
  have v0 : IntKind.i64.wrap (d0 : Int) = (d0 : Int) := wrap_small _ (by omega) (by omega)
  have v1 : IntKind.i64.wrap (d1 : Int) = (d1 : Int) := wrap_small _ (by omega) (by omega)
  have v2 : IntKind.i64.wrap (d2 : Int) = (d2 : Int) := wrap_small _ (by omega) (by omega)
  have v3 : IntKind.i64.wrap (d3 : Int) = (d3 : Int) := wrap_small _ (by omega) (by omega)
  have v4 : IntKind.i64.wrap (d4 : Int) = (d4 : Int) := wrap_small _ (by omega) (by omega)
  have v5 : IntKind.i64.wrap (d5 : Int) = (d5 : Int) := wrap_small _ (by omega) (by omega)
  have v6 : IntKind.i64.wrap (d6 : Int) = (d6 : Int) := wrap_small _ (by omega) (by omega)
  have m0 : IntKind.i64.wrap (256 * (d0 : Int)) = 256 * (d0 : Int) := wrap_small _ (by omega) (by omega)
  have a0 : IntKind.i64.wrap (256 * (d0 : Int) + (d1 : Int)) = 256 * (d0 : Int) + (d1 : Int) := wrap_small _ (by omega) (by omega)
  have m2 : IntKind.i64.wrap (256 * (d2 : Int)) = 256 * (d2 : Int) := wrap_small _ (by omega) (by omega)
  have a2 : IntKind.i64.wrap (256 * (d2 : Int) + (d3 : Int)) = 256 * (d2 : Int) + (d3 : Int) := wrap_small _ (by omega) (by omega)
  have a7 : IntKind.i64.wrap (7 + (d6 : Int)) = 7 + (d6 : Int) := wrap_small _ (by omega) (by omega)
  have c0 : (d6 : Int) ≤ 57 := by omega
  have c1 : (7 : Int) ≤ 7 + (d6 : Int) := by omega
  have c2 : 7 + (d6 : Int) ≤ 64 := by omega
  have c3 : 7 + (d6 : Int) ≤ (c : Int) := by omega
  have c4 : (7 + (d6 : Int)).toNat = 7 + d6 := by omega
  have c5 : 7 + d6 - 7 = d6 := by omega
  have c6 : ¬ c = 7 := by omega
  have c7 : (0 : Int) ≤ 7 + (d6 : Int) := by omega
  have c8 : 7 + d6 ≤ c := by omega
  have hbt := built123g (256 * (d0 : Int) + (d1 : Int)) (256 * (d2 : Int) + (d3 : Int)) (d4 : Int) (d5 : Int) (d6 : Int)
  clear hz h0 h1 h2 h3 h4 h5 h6
  go_enter Try.func84, Try.ntmps84
  go_wp2_with fail
  have HA : Hid (Below w.heap.size w (w.alloc (.cells #[.int .i64 0, .int .i64 0, .int .i64 0, .int .i64 0, .int .i64 0, .slice none 0 0] 123)).drew) := bmore (al _ _) (Below.refl _ _).drew
  have hb0 := (blk_new w [.int .i64 0, .int .i64 0, .int .i64 0, .int .i64 0, .int .i64 0, .slice none 0 0] 123).below (Below.refl _ (w.alloc (.cells #[.int .i64 0, .int .i64 0, .int .i64 0, .int .i64 0, .int .i64 0, .slice none 0 0] 123))).drew
  refine wp_region_held_drew (S := fun W => W.cell? ⟨g, 0, none⟩ = some (.int .u8 (d0 : Int)) ∧ W.cell? ⟨g, 1, none⟩ = some (.int .u8 (d1 : Int)) ∧ W.cell? ⟨g, 2, none⟩ = some (.int .u8 (d2 : Int)) ∧ W.cell? ⟨g, 3, none⟩ = some (.int .u8 (d3 : Int)) ∧ W.cell? ⟨g, 4, none⟩ = some (.int .u8 (d4 : Int)) ∧ W.cell? ⟨g, 5, none⟩ = some (.int .u8 (d5 : Int)) ∧ W.cell? ⟨g, 6, none⟩ = some (.int .u8 (d6 : Int))) (by kernel_rfl) (HZ.out _ HA.out) (fun hS => ?_)
  have hsw : Hid ((w.alloc (.cells #[.int .i64 0, .int .i64 0, .int .i64 0, .int .i64 0, .int .i64 0, .slice none 0 0] 123)).drew.heap.size = w.heap.size + 1) := by show _ = _; simp
  generalize (w.alloc (.cells #[.int .i64 0, .int .i64 0, .int .i64 0, .int .i64 0, .int .i64 0, .slice none 0 0] 123)).drew = w1 at *
  refine wpAnyH_take' 0 (some 4) (.slice (some ⟨g, 0, none⟩) 64 c) rfl rfl (by kernel_rfl) (by kernel_rfl) (by kernel_rfl) (fun _ _ _ h => h) (Or.inl ⟨by rfl, fun w' hS => by obtain ⟨s0, s1, s2, s3, s4, s5, s6⟩ := hS; go_simp⟩) hS ?_
  simp only [Act.put, List.setIfInBounds_toArray, List.set_cons_zero, List.set_cons_succ]
  refine wpAnyH_take' 1 (some 5) (.pointer (some ⟨g, 0, none⟩)) rfl rfl (by kernel_rfl) (by kernel_rfl) (by kernel_rfl) (fun _ _ _ h => h) (Or.inl ⟨by rfl, fun w' hS => by obtain ⟨s0, s1, s2, s3, s4, s5, s6⟩ := hS; go_simp⟩) hS ?_
  simp only [Act.put, List.setIfInBounds_toArray, List.set_cons_zero, List.set_cons_succ]
  refine wpAnyH_take' 2 (some 6) (.int .u8 (d0 : Int)) rfl rfl (by kernel_rfl) (by kernel_rfl) (by kernel_rfl) (fun _ _ _ h => h) (Or.inl ⟨by rfl, fun w' hS => by obtain ⟨s0, s1, s2, s3, s4, s5, s6⟩ := hS; go_simp⟩) hS ?_
  simp only [Act.put, List.setIfInBounds_toArray, List.set_cons_zero, List.set_cons_succ]
  refine wpAnyH_take' 3 (some 7) (.int .i64 (d0 : Int)) rfl rfl (by kernel_rfl) (by kernel_rfl) (by kernel_rfl) (fun _ _ _ h => h) (Or.inl ⟨by rfl, fun w' hS => by obtain ⟨s0, s1, s2, s3, s4, s5, s6⟩ := hS; go_simp⟩) hS ?_
  simp only [Act.put, List.setIfInBounds_toArray, List.set_cons_zero, List.set_cons_succ]
  refine wpAnyH_take' 4 (some 8) (.int .i64 (256 * (d0 : Int))) rfl rfl (by kernel_rfl) (by kernel_rfl) (by kernel_rfl) (fun _ _ _ h => h) (Or.inl ⟨by rfl, fun w' hS => by obtain ⟨s0, s1, s2, s3, s4, s5, s6⟩ := hS; go_simp⟩) hS ?_
  simp only [Act.put, List.setIfInBounds_toArray, List.set_cons_zero, List.set_cons_succ]
  refine wpAnyH_take' 5 (some 9) (.slice (some ⟨g, 0, none⟩) 64 c) rfl rfl (by kernel_rfl) (by kernel_rfl) (by kernel_rfl) (fun _ _ _ h => h) (Or.inl ⟨by rfl, fun w' hS => by obtain ⟨s0, s1, s2, s3, s4, s5, s6⟩ := hS; go_simp⟩) hS ?_
  simp only [Act.put, List.setIfInBounds_toArray, List.set_cons_zero, List.set_cons_succ]
  refine wpAnyH_take' 6 (some 10) (.pointer (some ⟨g, 1, none⟩)) rfl rfl (by kernel_rfl) (by kernel_rfl) (by kernel_rfl) (fun _ _ _ h => h) (Or.inl ⟨by rfl, fun w' hS => by obtain ⟨s0, s1, s2, s3, s4, s5, s6⟩ := hS; go_simp⟩) hS ?_
  simp only [Act.put, List.setIfInBounds_toArray, List.set_cons_zero, List.set_cons_succ]
  refine wpAnyH_take' 7 (some 11) (.int .u8 (d1 : Int)) rfl rfl (by kernel_rfl) (by kernel_rfl) (by kernel_rfl) (fun _ _ _ h => h) (Or.inl ⟨by rfl, fun w' hS => by obtain ⟨s0, s1, s2, s3, s4, s5, s6⟩ := hS; go_simp⟩) hS ?_
  simp only [Act.put, List.setIfInBounds_toArray, List.set_cons_zero, List.set_cons_succ]
  refine wpAnyH_take' 8 (some 12) (.int .i64 (d1 : Int)) rfl rfl (by kernel_rfl) (by kernel_rfl) (by kernel_rfl) (fun _ _ _ h => h) (Or.inl ⟨by rfl, fun w' hS => by obtain ⟨s0, s1, s2, s3, s4, s5, s6⟩ := hS; go_simp⟩) hS ?_
  simp only [Act.put, List.setIfInBounds_toArray, List.set_cons_zero, List.set_cons_succ]
  refine wpAnyH_take' 9 (some 13) (.int .i64 (256 * (d0 : Int) + (d1 : Int))) rfl rfl (by kernel_rfl) (by kernel_rfl) (by kernel_rfl) (fun _ _ _ h => h) (Or.inl ⟨by rfl, fun w' hS => by obtain ⟨s0, s1, s2, s3, s4, s5, s6⟩ := hS; go_simp⟩) hS ?_
  simp only [Act.put, List.setIfInBounds_toArray, List.set_cons_zero, List.set_cons_succ]
  refine wpAnyH_take' 10 (some 14) (.slice (some ⟨g, 0, none⟩) 64 c) rfl rfl (by kernel_rfl) (by kernel_rfl) (by kernel_rfl) (fun _ _ _ h => h) (Or.inl ⟨by rfl, fun w' hS => by obtain ⟨s0, s1, s2, s3, s4, s5, s6⟩ := hS; go_simp⟩) hS ?_
  simp only [Act.put, List.setIfInBounds_toArray, List.set_cons_zero, List.set_cons_succ]
  refine wpAnyH_take' 11 (some 15) (.pointer (some ⟨g, 2, none⟩)) rfl rfl (by kernel_rfl) (by kernel_rfl) (by kernel_rfl) (fun _ _ _ h => h) (Or.inl ⟨by rfl, fun w' hS => by obtain ⟨s0, s1, s2, s3, s4, s5, s6⟩ := hS; go_simp⟩) hS ?_
  simp only [Act.put, List.setIfInBounds_toArray, List.set_cons_zero, List.set_cons_succ]
  refine wpAnyH_take' 12 (some 16) (.int .u8 (d2 : Int)) rfl rfl (by kernel_rfl) (by kernel_rfl) (by kernel_rfl) (fun _ _ _ h => h) (Or.inl ⟨by rfl, fun w' hS => by obtain ⟨s0, s1, s2, s3, s4, s5, s6⟩ := hS; go_simp⟩) hS ?_
  simp only [Act.put, List.setIfInBounds_toArray, List.set_cons_zero, List.set_cons_succ]
  refine wpAnyH_take' 13 (some 17) (.int .i64 (d2 : Int)) rfl rfl (by kernel_rfl) (by kernel_rfl) (by kernel_rfl) (fun _ _ _ h => h) (Or.inl ⟨by rfl, fun w' hS => by obtain ⟨s0, s1, s2, s3, s4, s5, s6⟩ := hS; go_simp⟩) hS ?_
  simp only [Act.put, List.setIfInBounds_toArray, List.set_cons_zero, List.set_cons_succ]
  refine wpAnyH_take' 14 (some 18) (.int .i64 (256 * (d2 : Int))) rfl rfl (by kernel_rfl) (by kernel_rfl) (by kernel_rfl) (fun _ _ _ h => h) (Or.inl ⟨by rfl, fun w' hS => by obtain ⟨s0, s1, s2, s3, s4, s5, s6⟩ := hS; go_simp⟩) hS ?_
  simp only [Act.put, List.setIfInBounds_toArray, List.set_cons_zero, List.set_cons_succ]
  refine wpAnyH_take' 15 (some 19) (.slice (some ⟨g, 0, none⟩) 64 c) rfl rfl (by kernel_rfl) (by kernel_rfl) (by kernel_rfl) (fun _ _ _ h => h) (Or.inl ⟨by rfl, fun w' hS => by obtain ⟨s0, s1, s2, s3, s4, s5, s6⟩ := hS; go_simp⟩) hS ?_
  simp only [Act.put, List.setIfInBounds_toArray, List.set_cons_zero, List.set_cons_succ]
  refine wpAnyH_take' 16 (some 20) (.pointer (some ⟨g, 3, none⟩)) rfl rfl (by kernel_rfl) (by kernel_rfl) (by kernel_rfl) (fun _ _ _ h => h) (Or.inl ⟨by rfl, fun w' hS => by obtain ⟨s0, s1, s2, s3, s4, s5, s6⟩ := hS; go_simp⟩) hS ?_
  simp only [Act.put, List.setIfInBounds_toArray, List.set_cons_zero, List.set_cons_succ]
  refine wpAnyH_take' 17 (some 21) (.int .u8 (d3 : Int)) rfl rfl (by kernel_rfl) (by kernel_rfl) (by kernel_rfl) (fun _ _ _ h => h) (Or.inl ⟨by rfl, fun w' hS => by obtain ⟨s0, s1, s2, s3, s4, s5, s6⟩ := hS; go_simp⟩) hS ?_
  simp only [Act.put, List.setIfInBounds_toArray, List.set_cons_zero, List.set_cons_succ]
  refine wpAnyH_take' 18 (some 22) (.int .i64 (d3 : Int)) rfl rfl (by kernel_rfl) (by kernel_rfl) (by kernel_rfl) (fun _ _ _ h => h) (Or.inl ⟨by rfl, fun w' hS => by obtain ⟨s0, s1, s2, s3, s4, s5, s6⟩ := hS; go_simp⟩) hS ?_
  simp only [Act.put, List.setIfInBounds_toArray, List.set_cons_zero, List.set_cons_succ]
  refine wpAnyH_take' 19 (some 23) (.int .i64 (256 * (d2 : Int) + (d3 : Int))) rfl rfl (by kernel_rfl) (by kernel_rfl) (by kernel_rfl) (fun _ _ _ h => h) (Or.inl ⟨by rfl, fun w' hS => by obtain ⟨s0, s1, s2, s3, s4, s5, s6⟩ := hS; go_simp⟩) hS ?_
  simp only [Act.put, List.setIfInBounds_toArray, List.set_cons_zero, List.set_cons_succ]
  refine wpAnyH_take' 20 (some 24) (.slice (some ⟨g, 0, none⟩) 64 c) rfl rfl (by kernel_rfl) (by kernel_rfl) (by kernel_rfl) (fun _ _ _ h => h) (Or.inl ⟨by rfl, fun w' hS => by obtain ⟨s0, s1, s2, s3, s4, s5, s6⟩ := hS; go_simp⟩) hS ?_
  simp only [Act.put, List.setIfInBounds_toArray, List.set_cons_zero, List.set_cons_succ]
  refine wpAnyH_take' 21 (some 25) (.pointer (some ⟨g, 4, none⟩)) rfl rfl (by kernel_rfl) (by kernel_rfl) (by kernel_rfl) (fun _ _ _ h => h) (Or.inl ⟨by rfl, fun w' hS => by obtain ⟨s0, s1, s2, s3, s4, s5, s6⟩ := hS; go_simp⟩) hS ?_
  simp only [Act.put, List.setIfInBounds_toArray, List.set_cons_zero, List.set_cons_succ]
  refine wpAnyH_take' 22 (some 26) (.int .u8 (d4 : Int)) rfl rfl (by kernel_rfl) (by kernel_rfl) (by kernel_rfl) (fun _ _ _ h => h) (Or.inl ⟨by rfl, fun w' hS => by obtain ⟨s0, s1, s2, s3, s4, s5, s6⟩ := hS; go_simp⟩) hS ?_
  simp only [Act.put, List.setIfInBounds_toArray, List.set_cons_zero, List.set_cons_succ]
  refine wpAnyH_take' 23 (some 27) (.int .i64 (d4 : Int)) rfl rfl (by kernel_rfl) (by kernel_rfl) (by kernel_rfl) (fun _ _ _ h => h) (Or.inl ⟨by rfl, fun w' hS => by obtain ⟨s0, s1, s2, s3, s4, s5, s6⟩ := hS; go_simp⟩) hS ?_
  simp only [Act.put, List.setIfInBounds_toArray, List.set_cons_zero, List.set_cons_succ]
  refine wpAnyH_take' 24 (some 28) (.slice (some ⟨g, 0, none⟩) 64 c) rfl rfl (by kernel_rfl) (by kernel_rfl) (by kernel_rfl) (fun _ _ _ h => h) (Or.inl ⟨by rfl, fun w' hS => by obtain ⟨s0, s1, s2, s3, s4, s5, s6⟩ := hS; go_simp⟩) hS ?_
  simp only [Act.put, List.setIfInBounds_toArray, List.set_cons_zero, List.set_cons_succ]
  refine wpAnyH_take' 25 (some 29) (.pointer (some ⟨g, 5, none⟩)) rfl rfl (by kernel_rfl) (by kernel_rfl) (by kernel_rfl) (fun _ _ _ h => h) (Or.inl ⟨by rfl, fun w' hS => by obtain ⟨s0, s1, s2, s3, s4, s5, s6⟩ := hS; go_simp⟩) hS ?_
  simp only [Act.put, List.setIfInBounds_toArray, List.set_cons_zero, List.set_cons_succ]
  refine wpAnyH_take' 26 (some 30) (.int .u8 (d5 : Int)) rfl rfl (by kernel_rfl) (by kernel_rfl) (by kernel_rfl) (fun _ _ _ h => h) (Or.inl ⟨by rfl, fun w' hS => by obtain ⟨s0, s1, s2, s3, s4, s5, s6⟩ := hS; go_simp⟩) hS ?_
  simp only [Act.put, List.setIfInBounds_toArray, List.set_cons_zero, List.set_cons_succ]
  refine wpAnyH_take' 27 (some 31) (.int .i64 (d5 : Int)) rfl rfl (by kernel_rfl) (by kernel_rfl) (by kernel_rfl) (fun _ _ _ h => h) (Or.inl ⟨by rfl, fun w' hS => by obtain ⟨s0, s1, s2, s3, s4, s5, s6⟩ := hS; go_simp⟩) hS ?_
  simp only [Act.put, List.setIfInBounds_toArray, List.set_cons_zero, List.set_cons_succ]
  refine wpAnyH_take' 28 (some 32) (.slice (some ⟨g, 0, none⟩) 64 c) rfl rfl (by kernel_rfl) (by kernel_rfl) (by kernel_rfl) (fun _ _ _ h => h) (Or.inl ⟨by rfl, fun w' hS => by obtain ⟨s0, s1, s2, s3, s4, s5, s6⟩ := hS; go_simp⟩) hS ?_
  simp only [Act.put, List.setIfInBounds_toArray, List.set_cons_zero, List.set_cons_succ]
  refine wpAnyH_take' 29 (some 33) (.pointer (some ⟨g, 6, none⟩)) rfl rfl (by kernel_rfl) (by kernel_rfl) (by kernel_rfl) (fun _ _ _ h => h) (Or.inl ⟨by rfl, fun w' hS => by obtain ⟨s0, s1, s2, s3, s4, s5, s6⟩ := hS; go_simp⟩) hS ?_
  simp only [Act.put, List.setIfInBounds_toArray, List.set_cons_zero, List.set_cons_succ]
  refine wpAnyH_take' 30 (some 34) (.int .u8 (d6 : Int)) rfl rfl (by kernel_rfl) (by kernel_rfl) (by kernel_rfl) (fun _ _ _ h => h) (Or.inl ⟨by rfl, fun w' hS => by obtain ⟨s0, s1, s2, s3, s4, s5, s6⟩ := hS; go_simp⟩) hS ?_
  simp only [Act.put, List.setIfInBounds_toArray, List.set_cons_zero, List.set_cons_succ]
  refine wpAnyH_take' 31 (some 35) (.int .i64 (d6 : Int)) rfl rfl (by kernel_rfl) (by kernel_rfl) (by kernel_rfl) (fun _ _ _ h => h) (Or.inl ⟨by rfl, fun w' hS => by obtain ⟨s0, s1, s2, s3, s4, s5, s6⟩ := hS; go_simp⟩) hS ?_
  simp only [Act.put, List.setIfInBounds_toArray, List.set_cons_zero, List.set_cons_succ]
  refine wpAnyH_take' 32 (some 36) (.agg #[.int .i64 (256 * (d0 : Int) + (d1 : Int)), .int .i64 (256 * (d2 : Int) + (d3 : Int)), .int .i64 (d4 : Int), .int .i64 (d5 : Int), .int .i64 (d6 : Int), .slice none 0 0]) rfl rfl (by kernel_rfl) (by kernel_rfl) (by kernel_rfl) (fun _ _ _ h => h) (Or.inl ⟨by rfl, fun w' hS => by obtain ⟨s0, s1, s2, s3, s4, s5, s6⟩ := hS; exact exec_build 123 _ rfl #[(0, .int .i64 (256 * (d0 : Int) + (d1 : Int))), (1, .int .i64 (256 * (d2 : Int) + (d3 : Int))), (2, .int .i64 (d4 : Int)), (3, .int .i64 (d5 : Int)), (4, .int .i64 (d6 : Int))] (by simp [Act.eval]) [.int .i64 (256 * (d0 : Int) + (d1 : Int)), .int .i64 (256 * (d2 : Int) + (d3 : Int)), .int .i64 (d4 : Int), .int .i64 (d5 : Int), .int .i64 (d6 : Int), .slice none 0 0] hbt⟩) hS ?_
  simp only [Act.put, List.setIfInBounds_toArray, List.set_cons_zero, List.set_cons_succ]
  refine wpAnyH_ready (rs := [33]) (by kernel_rfl) (by simp) (AllReadyH.cons rfl (fun K2 hK2 => ?_) AllReadyH.nil)
  refine step_alloc_row rfl (some 3) rfl 123 rfl [.int .i64 0, .int .i64 0, .int .i64 0, .int .i64 0, .int .i64 0, .slice none 0 0] info123a ?_
  intro w2 b2 k2 s2
  refine hK2.out _ _ (HZ.out _ (bmore HA.out k2)) (fun hS => ?_)
  clear hK2 K2
  simp only [Act.put, List.setIfInBounds_toArray, List.set_cons_zero, List.set_cons_succ]
  refine wpAnyH_ready (rs := [34]) (by kernel_rfl) (by simp) (AllReadyH.cons rfl (fun K2 hK2 => ?_) AllReadyH.nil)
  refine step_store_whole rfl rfl 123 (.tmp 3) (.tmp 36) rfl w1.heap.size [.int .i64 (256 * (d0 : Int) + (d1 : Int)), .int .i64 (256 * (d2 : Int) + (d3 : Int)), .int .i64 (d4 : Int), .int .i64 (d5 : Int), .int .i64 (d6 : Int), .slice none 0 0] rfl rfl _ 123 b2 rfl (by exact info123s) (by simp [Value.oneCell']) ?_
  intro w3 b3 k3 s3
  have q3 : Below w1.heap.size w1 w3 := kbel k2 k3 (Nat.le_refl _) (Nat.le_refl _)
  refine hK2.out _ _ (HZ.out _ (bmore HA.out q3)) (fun hS => ?_)
  clear hK2 K2
  refine wpAnyH_done (by kernel_rfl) ?_ _
  have y4 := b3.cell 4
  have z5 := b3.frozen 5
  have y5 := b3.cell 5
  have b4 := b3.set (o := 5) (.slice (some ⟨g, 7, none⟩) d6 (c - 7))
  have hsz := hsw.out
  have hb3 := hb0.below q3
  have hne : ¬ w1.heap.size = w.heap.size := by omega
  have hb4 := hb3.other (p := ⟨w1.heap.size, 5, none⟩) (by simp only; omega) (.slice (some ⟨g, 7, none⟩) d6 (c - 7))
  simp only [List.getElem?_cons_zero, List.getElem?_cons_succ, List.set_cons_succ, List.set_cons_zero] at y4 y5 b4
  have HQ : Hid (Below w.heap.size w (w3.setCell ⟨w1.heap.size, 5, none⟩ (.slice (some ⟨g, 7, none⟩) d6 (c - 7)))) := bset (bmore HA.out q3) (by simp only; omega) _
  clear hsz hS HZ HA hb0 hb3 b2 k2 k3 q3 s3 hbt b3
  go_wp2_with (first
    | (refine wpList_load_mid rfl 123 (.tmp 3) rfl w1.heap.size 0 rfl _ _ b4.whole Try.underlying123 rfl (by exact info123s) ?_)
    | (refine wpList_store_whole rfl 123 (.tmp 2) (.tmp 46) rfl w.heap.size [.int .i64 (256 * (d0 : Int) + (d1 : Int)), .int .i64 (256 * (d2 : Int) + (d3 : Int)), .int .i64 (d4 : Int), .int .i64 (d5 : Int), .int .i64 (d6 : Int), .slice (some ⟨g, 7, none⟩) d6 (c - 7)] rfl rfl _ 123 hb4 rfl (by exact info123s) (by simp [Value.oneCell']) ?_; intro w4 b5 k5 s5; have HQ5 := kbel HQ.out k5 (Nat.le_refl _) (Nat.le_refl _))
    | (refine wpList_load_mid rfl 123 (.tmp 2) rfl w.heap.size 0 rfl _ _ b5.whole Try.underlying123 rfl (by exact info123s) ?_))
  have HQ6 := HQ5
  clear HQ5
  refine bodyPost_ret (v := .agg #[.int .i64 (256 * (d0 : Int) + (d1 : Int)), .int .i64 (256 * (d2 : Int) + (d3 : Int)), .int .i64 (d4 : Int), .int .i64 (d5 : Int), .int .i64 (d6 : Int), .slice (some ⟨g, 7, none⟩) d6 (c - 7)]) (results_cell rfl _ _ _ _ _ _ b5 rfl _ Try.underlying123 rfl (by exact info123s)) rfl ⟨rfl, HQ6⟩
set_option maxHeartbeats 4000000 in
theorem sector84n {g c d0 d1 d2 d3 d4 d5 d6 : Nat} (hb : d0 < 256 ∧ d1 < 256 ∧ d2 < 256 ∧ d3 < 256 ∧ d4 < 256 ∧ d5 < 256 ∧ d6 < 256) (hz6 : 57 < d6) (hz : w.cell? ⟨g, 0, none⟩ = some (.int .u8 (d0 : Int)) ∧ w.cell? ⟨g, 1, none⟩ = some (.int .u8 (d1 : Int)) ∧ w.cell? ⟨g, 2, none⟩ = some (.int .u8 (d2 : Int)) ∧ w.cell? ⟨g, 3, none⟩ = some (.int .u8 (d3 : Int)) ∧ w.cell? ⟨g, 4, none⟩ = some (.int .u8 (d4 : Int)) ∧ w.cell? ⟨g, 5, none⟩ = some (.int .u8 (d5 : Int)) ∧ w.cell? ⟨g, 6, none⟩ = some (.int .u8 (d6 : Int))) : Calls Try.prog 84 #[.slice (some ⟨g, 0, none⟩) 64 c] w fun e w' => e = .returned (.agg #[.int .i64 (256 * (d0 : Int) + (d1 : Int)), .int .i64 (256 * (d2 : Int) + (d3 : Int)), .int .i64 (d4 : Int), .int .i64 (d5 : Int), .int .i64 (d6 : Int), .slice none 0 0]) ∧ Below w.heap.size w w' := by
  have hgl : g < w.heap.size := World.block_lt_of_cell? _ _ hz.1
  have HZ : Hid (∀ W, Below w.heap.size w W → W.cell? ⟨g, 0, none⟩ = some (.int .u8 (d0 : Int)) ∧ W.cell? ⟨g, 1, none⟩ = some (.int .u8 (d1 : Int)) ∧ W.cell? ⟨g, 2, none⟩ = some (.int .u8 (d2 : Int)) ∧ W.cell? ⟨g, 3, none⟩ = some (.int .u8 (d3 : Int)) ∧ W.cell? ⟨g, 4, none⟩ = some (.int .u8 (d4 : Int)) ∧ W.cell? ⟨g, 5, none⟩ = some (.int .u8 (d5 : Int)) ∧ W.cell? ⟨g, 6, none⟩ = some (.int .u8 (d6 : Int))) := fun W k => by
    obtain ⟨z0, z1, z2, z3, z4, z5, z6⟩ := hz
    exact ⟨(k.cell (p := ⟨g, 0, none⟩) hgl).trans z0, (k.cell (p := ⟨g, 1, none⟩) hgl).trans z1, (k.cell (p := ⟨g, 2, none⟩) hgl).trans z2, (k.cell (p := ⟨g, 3, none⟩) hgl).trans z3, (k.cell (p := ⟨g, 4, none⟩) hgl).trans z4, (k.cell (p := ⟨g, 5, none⟩) hgl).trans z5, (k.cell (p := ⟨g, 6, none⟩) hgl).trans z6⟩
  obtain ⟨h0, h1, h2, h3, h4, h5, h6⟩ := hb
  have v0 : IntKind.i64.wrap (d0 : Int) = (d0 : Int) := wrap_small _ (by omega) (by omega)
  have v1 : IntKind.i64.wrap (d1 : Int) = (d1 : Int) := wrap_small _ (by omega) (by omega)
  have v2 : IntKind.i64.wrap (d2 : Int) = (d2 : Int) := wrap_small _ (by omega) (by omega)
  have v3 : IntKind.i64.wrap (d3 : Int) = (d3 : Int) := wrap_small _ (by omega) (by omega)
  have v4 : IntKind.i64.wrap (d4 : Int) = (d4 : Int) := wrap_small _ (by omega) (by omega)
  have v5 : IntKind.i64.wrap (d5 : Int) = (d5 : Int) := wrap_small _ (by omega) (by omega)
  have v6 : IntKind.i64.wrap (d6 : Int) = (d6 : Int) := wrap_small _ (by omega) (by omega)
  have m0 : IntKind.i64.wrap (256 * (d0 : Int)) = 256 * (d0 : Int) := wrap_small _ (by omega) (by omega)
  have a0 : IntKind.i64.wrap (256 * (d0 : Int) + (d1 : Int)) = 256 * (d0 : Int) + (d1 : Int) := wrap_small _ (by omega) (by omega)
  have m2 : IntKind.i64.wrap (256 * (d2 : Int)) = 256 * (d2 : Int) := wrap_small _ (by omega) (by omega)
  have a2 : IntKind.i64.wrap (256 * (d2 : Int) + (d3 : Int)) = 256 * (d2 : Int) + (d3 : Int) := wrap_small _ (by omega) (by omega)
  have a7 : IntKind.i64.wrap (7 + (d6 : Int)) = 7 + (d6 : Int) := wrap_small _ (by omega) (by omega)
  have c0 : ¬ (d6 : Int) ≤ 57 := by omega
  have c1 : ¬ d6 ≤ 57 := by omega
  have hbt := built123g (256 * (d0 : Int) + (d1 : Int)) (256 * (d2 : Int) + (d3 : Int)) (d4 : Int) (d5 : Int) (d6 : Int)
  clear hz h0 h1 h2 h3 h4 h5 h6
  go_enter Try.func84, Try.ntmps84
  go_wp2_with fail
  have HA : Hid (Below w.heap.size w (w.alloc (.cells #[.int .i64 0, .int .i64 0, .int .i64 0, .int .i64 0, .int .i64 0, .slice none 0 0] 123)).drew) := bmore (al _ _) (Below.refl _ _).drew
  have hb0 := (blk_new w [.int .i64 0, .int .i64 0, .int .i64 0, .int .i64 0, .int .i64 0, .slice none 0 0] 123).below (Below.refl _ (w.alloc (.cells #[.int .i64 0, .int .i64 0, .int .i64 0, .int .i64 0, .int .i64 0, .slice none 0 0] 123))).drew
  refine wp_region_held_drew (S := fun W => W.cell? ⟨g, 0, none⟩ = some (.int .u8 (d0 : Int)) ∧ W.cell? ⟨g, 1, none⟩ = some (.int .u8 (d1 : Int)) ∧ W.cell? ⟨g, 2, none⟩ = some (.int .u8 (d2 : Int)) ∧ W.cell? ⟨g, 3, none⟩ = some (.int .u8 (d3 : Int)) ∧ W.cell? ⟨g, 4, none⟩ = some (.int .u8 (d4 : Int)) ∧ W.cell? ⟨g, 5, none⟩ = some (.int .u8 (d5 : Int)) ∧ W.cell? ⟨g, 6, none⟩ = some (.int .u8 (d6 : Int))) (by kernel_rfl) (HZ.out _ HA.out) (fun hS => ?_)
  have hsw : Hid ((w.alloc (.cells #[.int .i64 0, .int .i64 0, .int .i64 0, .int .i64 0, .int .i64 0, .slice none 0 0] 123)).drew.heap.size = w.heap.size + 1) := by show _ = _; simp
  generalize (w.alloc (.cells #[.int .i64 0, .int .i64 0, .int .i64 0, .int .i64 0, .int .i64 0, .slice none 0 0] 123)).drew = w1 at *
  refine wpAnyH_take' 0 (some 4) (.slice (some ⟨g, 0, none⟩) 64 c) rfl rfl (by kernel_rfl) (by kernel_rfl) (by kernel_rfl) (fun _ _ _ h => h) (Or.inl ⟨by rfl, fun w' hS => by obtain ⟨s0, s1, s2, s3, s4, s5, s6⟩ := hS; go_simp⟩) hS ?_
  simp only [Act.put, List.setIfInBounds_toArray, List.set_cons_zero, List.set_cons_succ]
  refine wpAnyH_take' 1 (some 5) (.pointer (some ⟨g, 0, none⟩)) rfl rfl (by kernel_rfl) (by kernel_rfl) (by kernel_rfl) (fun _ _ _ h => h) (Or.inl ⟨by rfl, fun w' hS => by obtain ⟨s0, s1, s2, s3, s4, s5, s6⟩ := hS; go_simp⟩) hS ?_
  simp only [Act.put, List.setIfInBounds_toArray, List.set_cons_zero, List.set_cons_succ]
  refine wpAnyH_take' 2 (some 6) (.int .u8 (d0 : Int)) rfl rfl (by kernel_rfl) (by kernel_rfl) (by kernel_rfl) (fun _ _ _ h => h) (Or.inl ⟨by rfl, fun w' hS => by obtain ⟨s0, s1, s2, s3, s4, s5, s6⟩ := hS; go_simp⟩) hS ?_
  simp only [Act.put, List.setIfInBounds_toArray, List.set_cons_zero, List.set_cons_succ]
  refine wpAnyH_take' 3 (some 7) (.int .i64 (d0 : Int)) rfl rfl (by kernel_rfl) (by kernel_rfl) (by kernel_rfl) (fun _ _ _ h => h) (Or.inl ⟨by rfl, fun w' hS => by obtain ⟨s0, s1, s2, s3, s4, s5, s6⟩ := hS; go_simp⟩) hS ?_
  simp only [Act.put, List.setIfInBounds_toArray, List.set_cons_zero, List.set_cons_succ]
  refine wpAnyH_take' 4 (some 8) (.int .i64 (256 * (d0 : Int))) rfl rfl (by kernel_rfl) (by kernel_rfl) (by kernel_rfl) (fun _ _ _ h => h) (Or.inl ⟨by rfl, fun w' hS => by obtain ⟨s0, s1, s2, s3, s4, s5, s6⟩ := hS; go_simp⟩) hS ?_
  simp only [Act.put, List.setIfInBounds_toArray, List.set_cons_zero, List.set_cons_succ]
  refine wpAnyH_take' 5 (some 9) (.slice (some ⟨g, 0, none⟩) 64 c) rfl rfl (by kernel_rfl) (by kernel_rfl) (by kernel_rfl) (fun _ _ _ h => h) (Or.inl ⟨by rfl, fun w' hS => by obtain ⟨s0, s1, s2, s3, s4, s5, s6⟩ := hS; go_simp⟩) hS ?_
  simp only [Act.put, List.setIfInBounds_toArray, List.set_cons_zero, List.set_cons_succ]
  refine wpAnyH_take' 6 (some 10) (.pointer (some ⟨g, 1, none⟩)) rfl rfl (by kernel_rfl) (by kernel_rfl) (by kernel_rfl) (fun _ _ _ h => h) (Or.inl ⟨by rfl, fun w' hS => by obtain ⟨s0, s1, s2, s3, s4, s5, s6⟩ := hS; go_simp⟩) hS ?_
  simp only [Act.put, List.setIfInBounds_toArray, List.set_cons_zero, List.set_cons_succ]
  refine wpAnyH_take' 7 (some 11) (.int .u8 (d1 : Int)) rfl rfl (by kernel_rfl) (by kernel_rfl) (by kernel_rfl) (fun _ _ _ h => h) (Or.inl ⟨by rfl, fun w' hS => by obtain ⟨s0, s1, s2, s3, s4, s5, s6⟩ := hS; go_simp⟩) hS ?_
  simp only [Act.put, List.setIfInBounds_toArray, List.set_cons_zero, List.set_cons_succ]
  refine wpAnyH_take' 8 (some 12) (.int .i64 (d1 : Int)) rfl rfl (by kernel_rfl) (by kernel_rfl) (by kernel_rfl) (fun _ _ _ h => h) (Or.inl ⟨by rfl, fun w' hS => by obtain ⟨s0, s1, s2, s3, s4, s5, s6⟩ := hS; go_simp⟩) hS ?_
  simp only [Act.put, List.setIfInBounds_toArray, List.set_cons_zero, List.set_cons_succ]
  refine wpAnyH_take' 9 (some 13) (.int .i64 (256 * (d0 : Int) + (d1 : Int))) rfl rfl (by kernel_rfl) (by kernel_rfl) (by kernel_rfl) (fun _ _ _ h => h) (Or.inl ⟨by rfl, fun w' hS => by obtain ⟨s0, s1, s2, s3, s4, s5, s6⟩ := hS; go_simp⟩) hS ?_
  simp only [Act.put, List.setIfInBounds_toArray, List.set_cons_zero, List.set_cons_succ]
  refine wpAnyH_take' 10 (some 14) (.slice (some ⟨g, 0, none⟩) 64 c) rfl rfl (by kernel_rfl) (by kernel_rfl) (by kernel_rfl) (fun _ _ _ h => h) (Or.inl ⟨by rfl, fun w' hS => by obtain ⟨s0, s1, s2, s3, s4, s5, s6⟩ := hS; go_simp⟩) hS ?_
  simp only [Act.put, List.setIfInBounds_toArray, List.set_cons_zero, List.set_cons_succ]
  refine wpAnyH_take' 11 (some 15) (.pointer (some ⟨g, 2, none⟩)) rfl rfl (by kernel_rfl) (by kernel_rfl) (by kernel_rfl) (fun _ _ _ h => h) (Or.inl ⟨by rfl, fun w' hS => by obtain ⟨s0, s1, s2, s3, s4, s5, s6⟩ := hS; go_simp⟩) hS ?_
  simp only [Act.put, List.setIfInBounds_toArray, List.set_cons_zero, List.set_cons_succ]
  refine wpAnyH_take' 12 (some 16) (.int .u8 (d2 : Int)) rfl rfl (by kernel_rfl) (by kernel_rfl) (by kernel_rfl) (fun _ _ _ h => h) (Or.inl ⟨by rfl, fun w' hS => by obtain ⟨s0, s1, s2, s3, s4, s5, s6⟩ := hS; go_simp⟩) hS ?_
  simp only [Act.put, List.setIfInBounds_toArray, List.set_cons_zero, List.set_cons_succ]
  refine wpAnyH_take' 13 (some 17) (.int .i64 (d2 : Int)) rfl rfl (by kernel_rfl) (by kernel_rfl) (by kernel_rfl) (fun _ _ _ h => h) (Or.inl ⟨by rfl, fun w' hS => by obtain ⟨s0, s1, s2, s3, s4, s5, s6⟩ := hS; go_simp⟩) hS ?_
  simp only [Act.put, List.setIfInBounds_toArray, List.set_cons_zero, List.set_cons_succ]
  refine wpAnyH_take' 14 (some 18) (.int .i64 (256 * (d2 : Int))) rfl rfl (by kernel_rfl) (by kernel_rfl) (by kernel_rfl) (fun _ _ _ h => h) (Or.inl ⟨by rfl, fun w' hS => by obtain ⟨s0, s1, s2, s3, s4, s5, s6⟩ := hS; go_simp⟩) hS ?_
  simp only [Act.put, List.setIfInBounds_toArray, List.set_cons_zero, List.set_cons_succ]
  refine wpAnyH_take' 15 (some 19) (.slice (some ⟨g, 0, none⟩) 64 c) rfl rfl (by kernel_rfl) (by kernel_rfl) (by kernel_rfl) (fun _ _ _ h => h) (Or.inl ⟨by rfl, fun w' hS => by obtain ⟨s0, s1, s2, s3, s4, s5, s6⟩ := hS; go_simp⟩) hS ?_
  simp only [Act.put, List.setIfInBounds_toArray, List.set_cons_zero, List.set_cons_succ]
  refine wpAnyH_take' 16 (some 20) (.pointer (some ⟨g, 3, none⟩)) rfl rfl (by kernel_rfl) (by kernel_rfl) (by kernel_rfl) (fun _ _ _ h => h) (Or.inl ⟨by rfl, fun w' hS => by obtain ⟨s0, s1, s2, s3, s4, s5, s6⟩ := hS; go_simp⟩) hS ?_
  simp only [Act.put, List.setIfInBounds_toArray, List.set_cons_zero, List.set_cons_succ]
  refine wpAnyH_take' 17 (some 21) (.int .u8 (d3 : Int)) rfl rfl (by kernel_rfl) (by kernel_rfl) (by kernel_rfl) (fun _ _ _ h => h) (Or.inl ⟨by rfl, fun w' hS => by obtain ⟨s0, s1, s2, s3, s4, s5, s6⟩ := hS; go_simp⟩) hS ?_
  simp only [Act.put, List.setIfInBounds_toArray, List.set_cons_zero, List.set_cons_succ]
  refine wpAnyH_take' 18 (some 22) (.int .i64 (d3 : Int)) rfl rfl (by kernel_rfl) (by kernel_rfl) (by kernel_rfl) (fun _ _ _ h => h) (Or.inl ⟨by rfl, fun w' hS => by obtain ⟨s0, s1, s2, s3, s4, s5, s6⟩ := hS; go_simp⟩) hS ?_
  simp only [Act.put, List.setIfInBounds_toArray, List.set_cons_zero, List.set_cons_succ]
  refine wpAnyH_take' 19 (some 23) (.int .i64 (256 * (d2 : Int) + (d3 : Int))) rfl rfl (by kernel_rfl) (by kernel_rfl) (by kernel_rfl) (fun _ _ _ h => h) (Or.inl ⟨by rfl, fun w' hS => by obtain ⟨s0, s1, s2, s3, s4, s5, s6⟩ := hS; go_simp⟩) hS ?_
  simp only [Act.put, List.setIfInBounds_toArray, List.set_cons_zero, List.set_cons_succ]
  refine wpAnyH_take' 20 (some 24) (.slice (some ⟨g, 0, none⟩) 64 c) rfl rfl (by kernel_rfl) (by kernel_rfl) (by kernel_rfl) (fun _ _ _ h => h) (Or.inl ⟨by rfl, fun w' hS => by obtain ⟨s0, s1, s2, s3, s4, s5, s6⟩ := hS; go_simp⟩) hS ?_
  simp only [Act.put, List.setIfInBounds_toArray, List.set_cons_zero, List.set_cons_succ]
  refine wpAnyH_take' 21 (some 25) (.pointer (some ⟨g, 4, none⟩)) rfl rfl (by kernel_rfl) (by kernel_rfl) (by kernel_rfl) (fun _ _ _ h => h) (Or.inl ⟨by rfl, fun w' hS => by obtain ⟨s0, s1, s2, s3, s4, s5, s6⟩ := hS; go_simp⟩) hS ?_
  simp only [Act.put, List.setIfInBounds_toArray, List.set_cons_zero, List.set_cons_succ]
  refine wpAnyH_take' 22 (some 26) (.int .u8 (d4 : Int)) rfl rfl (by kernel_rfl) (by kernel_rfl) (by kernel_rfl) (fun _ _ _ h => h) (Or.inl ⟨by rfl, fun w' hS => by obtain ⟨s0, s1, s2, s3, s4, s5, s6⟩ := hS; go_simp⟩) hS ?_
  simp only [Act.put, List.setIfInBounds_toArray, List.set_cons_zero, List.set_cons_succ]
  refine wpAnyH_take' 23 (some 27) (.int .i64 (d4 : Int)) rfl rfl (by kernel_rfl) (by kernel_rfl) (by kernel_rfl) (fun _ _ _ h => h) (Or.inl ⟨by rfl, fun w' hS => by obtain ⟨s0, s1, s2, s3, s4, s5, s6⟩ := hS; go_simp⟩) hS ?_
  simp only [Act.put, List.setIfInBounds_toArray, List.set_cons_zero, List.set_cons_succ]
  refine wpAnyH_take' 24 (some 28) (.slice (some ⟨g, 0, none⟩) 64 c) rfl rfl (by kernel_rfl) (by kernel_rfl) (by kernel_rfl) (fun _ _ _ h => h) (Or.inl ⟨by rfl, fun w' hS => by obtain ⟨s0, s1, s2, s3, s4, s5, s6⟩ := hS; go_simp⟩) hS ?_
  simp only [Act.put, List.setIfInBounds_toArray, List.set_cons_zero, List.set_cons_succ]
  refine wpAnyH_take' 25 (some 29) (.pointer (some ⟨g, 5, none⟩)) rfl rfl (by kernel_rfl) (by kernel_rfl) (by kernel_rfl) (fun _ _ _ h => h) (Or.inl ⟨by rfl, fun w' hS => by obtain ⟨s0, s1, s2, s3, s4, s5, s6⟩ := hS; go_simp⟩) hS ?_
  simp only [Act.put, List.setIfInBounds_toArray, List.set_cons_zero, List.set_cons_succ]
  refine wpAnyH_take' 26 (some 30) (.int .u8 (d5 : Int)) rfl rfl (by kernel_rfl) (by kernel_rfl) (by kernel_rfl) (fun _ _ _ h => h) (Or.inl ⟨by rfl, fun w' hS => by obtain ⟨s0, s1, s2, s3, s4, s5, s6⟩ := hS; go_simp⟩) hS ?_
  simp only [Act.put, List.setIfInBounds_toArray, List.set_cons_zero, List.set_cons_succ]
  refine wpAnyH_take' 27 (some 31) (.int .i64 (d5 : Int)) rfl rfl (by kernel_rfl) (by kernel_rfl) (by kernel_rfl) (fun _ _ _ h => h) (Or.inl ⟨by rfl, fun w' hS => by obtain ⟨s0, s1, s2, s3, s4, s5, s6⟩ := hS; go_simp⟩) hS ?_
  simp only [Act.put, List.setIfInBounds_toArray, List.set_cons_zero, List.set_cons_succ]
  refine wpAnyH_take' 28 (some 32) (.slice (some ⟨g, 0, none⟩) 64 c) rfl rfl (by kernel_rfl) (by kernel_rfl) (by kernel_rfl) (fun _ _ _ h => h) (Or.inl ⟨by rfl, fun w' hS => by obtain ⟨s0, s1, s2, s3, s4, s5, s6⟩ := hS; go_simp⟩) hS ?_
  simp only [Act.put, List.setIfInBounds_toArray, List.set_cons_zero, List.set_cons_succ]
  refine wpAnyH_take' 29 (some 33) (.pointer (some ⟨g, 6, none⟩)) rfl rfl (by kernel_rfl) (by kernel_rfl) (by kernel_rfl) (fun _ _ _ h => h) (Or.inl ⟨by rfl, fun w' hS => by obtain ⟨s0, s1, s2, s3, s4, s5, s6⟩ := hS; go_simp⟩) hS ?_
  simp only [Act.put, List.setIfInBounds_toArray, List.set_cons_zero, List.set_cons_succ]
  refine wpAnyH_take' 30 (some 34) (.int .u8 (d6 : Int)) rfl rfl (by kernel_rfl) (by kernel_rfl) (by kernel_rfl) (fun _ _ _ h => h) (Or.inl ⟨by rfl, fun w' hS => by obtain ⟨s0, s1, s2, s3, s4, s5, s6⟩ := hS; go_simp⟩) hS ?_
  simp only [Act.put, List.setIfInBounds_toArray, List.set_cons_zero, List.set_cons_succ]
  refine wpAnyH_take' 31 (some 35) (.int .i64 (d6 : Int)) rfl rfl (by kernel_rfl) (by kernel_rfl) (by kernel_rfl) (fun _ _ _ h => h) (Or.inl ⟨by rfl, fun w' hS => by obtain ⟨s0, s1, s2, s3, s4, s5, s6⟩ := hS; go_simp⟩) hS ?_
  simp only [Act.put, List.setIfInBounds_toArray, List.set_cons_zero, List.set_cons_succ]
  refine wpAnyH_take' 32 (some 36) (.agg #[.int .i64 (256 * (d0 : Int) + (d1 : Int)), .int .i64 (256 * (d2 : Int) + (d3 : Int)), .int .i64 (d4 : Int), .int .i64 (d5 : Int), .int .i64 (d6 : Int), .slice none 0 0]) rfl rfl (by kernel_rfl) (by kernel_rfl) (by kernel_rfl) (fun _ _ _ h => h) (Or.inl ⟨by rfl, fun w' hS => by obtain ⟨s0, s1, s2, s3, s4, s5, s6⟩ := hS; exact exec_build 123 _ rfl #[(0, .int .i64 (256 * (d0 : Int) + (d1 : Int))), (1, .int .i64 (256 * (d2 : Int) + (d3 : Int))), (2, .int .i64 (d4 : Int)), (3, .int .i64 (d5 : Int)), (4, .int .i64 (d6 : Int))] (by simp [Act.eval]) [.int .i64 (256 * (d0 : Int) + (d1 : Int)), .int .i64 (256 * (d2 : Int) + (d3 : Int)), .int .i64 (d4 : Int), .int .i64 (d5 : Int), .int .i64 (d6 : Int), .slice none 0 0] hbt⟩) hS ?_
  simp only [Act.put, List.setIfInBounds_toArray, List.set_cons_zero, List.set_cons_succ]
  refine wpAnyH_ready (rs := [33]) (by kernel_rfl) (by simp) (AllReadyH.cons rfl (fun K2 hK2 => ?_) AllReadyH.nil)
  refine step_alloc_row rfl (some 3) rfl 123 rfl [.int .i64 0, .int .i64 0, .int .i64 0, .int .i64 0, .int .i64 0, .slice none 0 0] info123a ?_
  intro w2 b2 k2 s2
  refine hK2.out _ _ (HZ.out _ (bmore HA.out k2)) (fun hS => ?_)
  clear hK2 K2
  simp only [Act.put, List.setIfInBounds_toArray, List.set_cons_zero, List.set_cons_succ]
  refine wpAnyH_ready (rs := [34]) (by kernel_rfl) (by simp) (AllReadyH.cons rfl (fun K2 hK2 => ?_) AllReadyH.nil)
  refine step_store_whole rfl rfl 123 (.tmp 3) (.tmp 36) rfl w1.heap.size [.int .i64 (256 * (d0 : Int) + (d1 : Int)), .int .i64 (256 * (d2 : Int) + (d3 : Int)), .int .i64 (d4 : Int), .int .i64 (d5 : Int), .int .i64 (d6 : Int), .slice none 0 0] rfl rfl _ 123 b2 rfl (by exact info123s) (by simp [Value.oneCell']) ?_
  intro w3 b3 k3 s3
  have q3 : Below w1.heap.size w1 w3 := kbel k2 k3 (Nat.le_refl _) (Nat.le_refl _)
  refine hK2.out _ _ (HZ.out _ (bmore HA.out q3)) (fun hS => ?_)
  clear hK2 K2
  refine wpAnyH_done (by kernel_rfl) ?_ _
  have y4 := b3.cell 4
  have z5 := b3.frozen 5
  have y5 := b3.cell 5
  have hsz := hsw.out
  have hb3 := hb0.below q3
  have hne : ¬ w1.heap.size = w.heap.size := by omega
  simp only [List.getElem?_cons_zero, List.getElem?_cons_succ] at y4 y5
  have HQ : Hid (Below w.heap.size w w3) := bmore HA.out q3
  have hb4 := hb3
  clear hsz hS HZ HA hb0 hb3 b2 k2 k3 q3 s3 hbt
  go_wp2_with (first
    | (refine wpList_load_mid rfl 123 (.tmp 3) rfl w1.heap.size 0 rfl _ _ b3.whole Try.underlying123 rfl (by exact info123s) ?_)
    | (refine wpList_store_whole rfl 123 (.tmp 2) (.tmp 46) rfl w.heap.size [.int .i64 (256 * (d0 : Int) + (d1 : Int)), .int .i64 (256 * (d2 : Int) + (d3 : Int)), .int .i64 (d4 : Int), .int .i64 (d5 : Int), .int .i64 (d6 : Int), .slice none 0 0] rfl rfl _ 123 hb4 rfl (by exact info123s) (by simp [Value.oneCell']) ?_; intro w4 b5 k5 s5; have HQ5 := kbel HQ.out k5 (Nat.le_refl _) (Nat.le_refl _))
    | (refine wpList_load_mid rfl 123 (.tmp 2) rfl w.heap.size 0 rfl _ _ b5.whole Try.underlying123 rfl (by exact info123s) ?_))
  have HQ6 := HQ5
  clear HQ5
  refine bodyPost_ret (v := .agg #[.int .i64 (256 * (d0 : Int) + (d1 : Int)), .int .i64 (256 * (d2 : Int) + (d3 : Int)), .int .i64 (d4 : Int), .int .i64 (d5 : Int), .int .i64 (d6 : Int), .slice none 0 0]) (results_cell rfl _ _ _ _ _ _ b5 rfl _ Try.underlying123 rfl (by exact info123s)) rfl ⟨rfl, HQ6⟩
end Go.Proofs.Ytnganmekiloigaa
