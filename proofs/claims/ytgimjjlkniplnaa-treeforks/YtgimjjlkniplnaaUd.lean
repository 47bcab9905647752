/- The answers of a nil tree. -/
import Derived.Test.YtgimjjlkniplnaaTg
namespace Go.Proofs.Ytgimjjlkniplnaa
open Go.RowKit Go.Shelf
set_option maxRecDepth 100000
attribute [local go_sem] ta64_64 ta72_64 ta72_72 ta64_72 tb64_64 tb72_72
theorem put_nil (w : World) (k v : ByteArray) : Calls Try.prog 31 #[.pointer none, .string k, .string v] w fun e w' => e = .returned (.int .i64 1) ∧ Below w.heap.size w w' := by
  go_enter Try.func31, Try.ntmps31
  go_wp2
  go_ret
  exact ⟨rfl, Below.refl _ _⟩
theorem fork_nil (w : World) : Calls Try.prog 29 #[.pointer none] w fun e w' => e = .returned (.pointer none) ∧ Below w.heap.size w w' := by
  go_enter Try.func29, Try.ntmps29
  go_wp2
  go_ret
  exact ⟨rfl, Below.refl _ _⟩
theorem sound_nil (w : World) : Calls Try.prog 24 #[.pointer none] w fun e w' => e = .returned (.bool false) ∧ Below w.heap.size w w' := by
  go_enter Try.func24, Try.ntmps24
  go_wp2
  go_ret
  exact ⟨rfl, Below.refl _ _⟩
theorem next_nil (w : World) (k : ByteArray) : Calls Try.prog 12 #[.pointer none, .string k] w (FPost w none) := next12 (tp_nil w) k
theorem range_nil (w : World) (a b : ByteArray) (mo : Int) : Calls Try.prog 17 #[.pointer none, .string a, .string b, .int .i64 mo] w (RgPost w []) := by
  have := range17 (tp_nil w) a b mo
  rwa [show rangeP [] a b mo = [] by simp [rangeP, ge]] at this
set_option maxHeartbeats 400000 in
theorem floor_nil (w : World) (k : ByteArray) : Calls Try.prog 14 #[.pointer none, .string k] w (FPost w none) := by
  have hB := al w (.cells #[.string ⟨#[]⟩, .string ⟨#[]⟩] 33)
  have k35 := top35_nil (w.alloc (.cells #[.string ⟨#[]⟩, .string ⟨#[]⟩] 33))
  have k36 := floor36 (k := k) (h := 0) (n := 0) (x := (64, .slice none 0 0)) (leaf_of (LV.nil EP (w.alloc (.cells #[.string ⟨#[]⟩, .string ⟨#[]⟩] 33)) none 0)) List.Pairwise.nil (by simp)
  have hbk := blk_new w [.string ⟨#[]⟩, .string ⟨#[]⟩] 33
  have HBk : Hid (Blk (w.alloc (.cells #[.string ⟨#[]⟩, .string ⟨#[]⟩] 33)) w.heap.size [.string ⟨#[]⟩, .string ⟨#[]⟩] 33) := hbk
  have HB : Hid _ := hB
  unfold FPost at k36
  rw [show floorP [] k = none from rfl] at k36
  clear hB hbk
  go_enter Try.func14, Try.ntmps14
  go_wp2_with (first
    | (go_at_call 35; (with_reducible refine k35.mono ?_); rintro e w1 ⟨rfl, rfl⟩)
    | (go_at_call 36; (with_reducible refine k36.mono ?_); rintro e w2 ⟨rfl, hB2⟩; obtain ⟨e0, e1, f0, f1⟩ := Blk.c2 (HBk.out.below hB2); have HB2 : Hid _ := hB2; clear hB2))
  exact bodyPost_ret (results_cell2 rfl _ _ _ w.heap.size [.string ⟨#[]⟩, .string ⟨#[]⟩] 33 (Blk.set (o := 1) (Blk.set (o := 0) (HBk.out.below HB2.out) _) _) rfl _ Try.underlying33 rfl (by kernel_rfl)) rfl ⟨rfl, bset (bset (bmore HB.out HB2.out) (Nat.le_refl _) _) (Nat.le_refl _) _⟩
theorem get_nil (w : World) (k : ByteArray) : Calls Try.prog 10 #[.pointer none, .string k] w (GetPost w none) := by
  have k14 := floor_nil w k
  unfold FPost at k14
  go_enter Try.func10, Try.ntmps10
  go_wp2_with (go_at_call 14; (with_reducible refine k14.mono ?_); rintro e w1 ⟨rfl, hB1⟩)
  go_ret2
  exact ⟨rfl, bmore hB1 (al _ _)⟩
theorem delete_nil (w : World) (k : ByteArray) : Calls Try.prog 32 #[.pointer none, .string k] w fun e w' => e = .returned (.bool false) ∧ Below w.heap.size w w' := by
  have k10 := get_nil w k
  unfold GetPost at k10
  go_enter Try.func32, Try.ntmps32
  go_wp2_with (go_at_call 10; (with_reducible refine k10.mono ?_); rintro e w1 ⟨rfl, hB1⟩)
  go_ret
  exact ⟨rfl, hB1⟩
end Go.Proofs.Ytgimjjlkniplnaa
