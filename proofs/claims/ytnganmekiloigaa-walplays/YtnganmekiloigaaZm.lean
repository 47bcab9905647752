/- Both logs tell the same. -/
import Derived.Test.YtnganmekiloigaaYf
namespace Go.Proofs.Ytnganmekiloigaa
open Go.RowKit
set_option maxRecDepth 100000
variable {w w' : World} {B d s x r y q : Nat} {D D' : Dk} {W W' : Wl} {G : List Nat}
set_option maxHeartbeats 4000000 in
theorem same66 (h : Pr B w q d s r D x y W) (hS : D.secs.length = 2 * 6) (hen : W.en ≤ 6) : Calls Try.prog 66 #[.pointer (some ⟨q, 0, none⟩)] w fun e w' => e = .returned (.bool true) ∧ Below w.heap.size w w' := by
  obtain ⟨lv, xv, h1, h2, h3, h4⟩ := h.ex
  have HS : Hid (∀ w1, Below w.heap.size w w1 → (w1.cell? ⟨q, 1, none⟩ = some (.pointer (some ⟨x, 0, none⟩)) ∧ w1.cell? ⟨q, 3, none⟩ = some (.pointer (some ⟨y, 0, none⟩)))) := fun w1 k => ⟨(h.blk.below k).cell 1, (h.blk.below k).cell 3⟩
  have kd : Below w.heap.size w w.drew := (Below.refl _ w).drew
  have k46 : ∀ W', Below w.heap.size w W' → Calls Try.prog 46 #[.pointer (some ⟨x, 0, none⟩)] W' fun e w' => e = .returned (.int .i64 (W.cnt : Int)) ∧ Below w.heap.size w w' := fun W' k => (len46 (h3.wal.below k)).mono (by rintro e w1 ⟨rfl, rfl⟩; exact ⟨rfl, k⟩)
  have k92 : ∀ W', Below w.heap.size w W' → Calls Try.prog 92 #[.pointer (some ⟨y, 0, none⟩)] W' fun e w' => e = .returned (.int .i64 (W.cnt : Int)) ∧ Below w.heap.size w w' := fun W' k => (len92 (h2.below k)).mono (by rintro e w1 ⟨rfl, rfl⟩; exact ⟨rfl, k⟩)
  have k47 : ∀ W', Below w.heap.size w W' → Calls Try.prog 47 #[.pointer (some ⟨x, 0, none⟩)] W' fun e w' => e = .returned (.int .i64 ((6 - W.en : Nat) : Int)) ∧ Below w.heap.size w w' := fun W' k => (left47 (h3.alone.below k) (h3.wal.below k) hS (by omega) hen).mono (by rintro e w1 ⟨rfl, rfl⟩; exact ⟨rfl, bmore k (Below.refl _ _).drew⟩)
  have k93 : ∀ W', Below w.heap.size w W' → Calls Try.prog 93 #[.pointer (some ⟨y, 0, none⟩)] W' fun e w' => e = .returned (.int .i64 ((6 - W.en : Nat) : Int)) ∧ Below w.heap.size w w' := fun W' k => (left93 (h1.below k) (h2.below k) hS (by omega) hen).mono (by rintro e w1 ⟨rfl, rfl⟩; exact ⟨rfl, bmore k (Below.refl _ _).drew⟩)
  have k43 : ∀ W', Below w.heap.size w W' → Calls Try.prog 43 #[.pointer (some ⟨x, 0, none⟩)] W' fun e w' => e = .returned (.int .i64 (W.half : Int)) ∧ Below w.heap.size w w' := fun W' k => (half43 (h3.wal.below k)).mono (by rintro e w1 ⟨rfl, rfl⟩; exact ⟨rfl, k⟩)
  have k94 : ∀ W', Below w.heap.size w W' → Calls Try.prog 94 #[.pointer (some ⟨y, 0, none⟩)] W' fun e w' => e = .returned (.int .i64 (W.half : Int)) ∧ Below w.heap.size w w' := fun W' k => (half94 (h2.below k)).mono (by rintro e w1 ⟨rfl, rfl⟩; exact ⟨rfl, k⟩)
  have k48 : ∀ W', Below w.heap.size w W' → Calls Try.prog 48 #[.pointer (some ⟨x, 0, none⟩)] W' fun e w' => e = .returned (.int .i64 (W.e : Int)) ∧ Below w.heap.size w w' := fun W' k => (epoch48 (h3.wal.below k)).mono (by rintro e w1 ⟨rfl, rfl⟩; exact ⟨rfl, k⟩)
  have k95 : ∀ W', Below w.heap.size w W' → Calls Try.prog 95 #[.pointer (some ⟨y, 0, none⟩)] W' fun e w' => e = .returned (.int .i64 (W.e : Int)) ∧ Below w.heap.size w w' := fun W' k => (epoch95 (h2.below k)).mono (by rintro e w1 ⟨rfl, rfl⟩; exact ⟨rfl, k⟩)
  have k49 : ∀ W', Below w.heap.size w W' → Calls Try.prog 49 #[.pointer (some ⟨x, 0, none⟩)] W' fun e w' => e = .returned (.bool W.br) ∧ Below w.heap.size w w' := fun W' k => (broken49 (h3.wal.below k)).mono (by rintro e w1 ⟨rfl, rfl⟩; exact ⟨rfl, k⟩)
  have k96 : ∀ W', Below w.heap.size w W' → Calls Try.prog 96 #[.pointer (some ⟨y, 0, none⟩)] W' fun e w' => e = .returned (.bool W.br) ∧ Below w.heap.size w w' := fun W' k => (broken96 (h2.below k)).mono (by rintro e w1 ⟨rfl, rfl⟩; exact ⟨rfl, k⟩)
  have KALL : Hid (_ ∧ _ ∧ _ ∧ _ ∧ _ ∧ _ ∧ _ ∧ _ ∧ _ ∧ _) := ⟨k46, k92, k47, k93, k43, k94, k48, k95, k49, k96⟩
  have hS0 := HS.out _ kd
  have HD : Hid (Below w.heap.size w w.drew) := kd
  clear k46 k92 k47 k93 k43 k94 k48 k95 k49 k96 h1 h2 h3 h4 h hS hen kd
  obtain ⟨br, hbr⟩ : ∃ br, W.br = br := ⟨_, rfl⟩
  rw [hbr] at KALL
  clear hbr
  go_enter Try.func66, Try.ntmps66
  go_wp2
  go_region_held3 (fun W' => W'.cell? ⟨q, 1, none⟩ = some (.pointer (some ⟨x, 0, none⟩)) ∧ W'.cell? ⟨q, 3, none⟩ = some (.pointer (some ⟨y, 0, none⟩))) (first | exact hS0 | exact hSz) (first
    | (go_at_call 46; (first | (refine (KALL.out.1 _ HZ.out).mono ?_) | (refine (KALL.out.1 _ HD.out).mono ?_)); rintro e wz ⟨rfl, hz⟩; have hSz := HS.out _ hz; have HZ : Hid (Below w.heap.size w wz) := hz; clear hz)
    | (go_at_call 92; (first | (refine (KALL.out.2.1 _ HZ.out).mono ?_) | (refine (KALL.out.2.1 _ HD.out).mono ?_)); rintro e wz ⟨rfl, hz⟩; have hSz := HS.out _ hz; have HZ : Hid (Below w.heap.size w wz) := hz; clear hz)
    | (go_at_call 47; (first | (refine (KALL.out.2.2.1 _ HZ.out).mono ?_) | (refine (KALL.out.2.2.1 _ HD.out).mono ?_)); rintro e wz ⟨rfl, hz⟩; have hSz := HS.out _ hz; have HZ : Hid (Below w.heap.size w wz) := hz; clear hz)
    | (go_at_call 93; (first | (refine (KALL.out.2.2.2.1 _ HZ.out).mono ?_) | (refine (KALL.out.2.2.2.1 _ HD.out).mono ?_)); rintro e wz ⟨rfl, hz⟩; have hSz := HS.out _ hz; have HZ : Hid (Below w.heap.size w wz) := hz; clear hz)
    | (go_at_call 43; (first | (refine (KALL.out.2.2.2.2.1 _ HZ.out).mono ?_) | (refine (KALL.out.2.2.2.2.1 _ HD.out).mono ?_)); rintro e wz ⟨rfl, hz⟩; have hSz := HS.out _ hz; have HZ : Hid (Below w.heap.size w wz) := hz; clear hz)
    | (go_at_call 94; (first | (refine (KALL.out.2.2.2.2.2.1 _ HZ.out).mono ?_) | (refine (KALL.out.2.2.2.2.2.1 _ HD.out).mono ?_)); rintro e wz ⟨rfl, hz⟩; have hSz := HS.out _ hz; have HZ : Hid (Below w.heap.size w wz) := hz; clear hz)
    | (go_at_call 48; (first | (refine (KALL.out.2.2.2.2.2.2.1 _ HZ.out).mono ?_) | (refine (KALL.out.2.2.2.2.2.2.1 _ HD.out).mono ?_)); rintro e wz ⟨rfl, hz⟩; have hSz := HS.out _ hz; have HZ : Hid (Below w.heap.size w wz) := hz; clear hz)
    | (go_at_call 95; (first | (refine (KALL.out.2.2.2.2.2.2.2.1 _ HZ.out).mono ?_) | (refine (KALL.out.2.2.2.2.2.2.2.1 _ HD.out).mono ?_)); rintro e wz ⟨rfl, hz⟩; have hSz := HS.out _ hz; have HZ : Hid (Below w.heap.size w wz) := hz; clear hz)
    | (go_at_call 49; (first | (refine (KALL.out.2.2.2.2.2.2.2.2.1 _ HZ.out).mono ?_) | (refine (KALL.out.2.2.2.2.2.2.2.2.1 _ HD.out).mono ?_)); rintro e wz ⟨rfl, hz⟩; have hSz := HS.out _ hz; have HZ : Hid (Below w.heap.size w wz) := hz; clear hz)
    | (go_at_call 96; (first | (refine (KALL.out.2.2.2.2.2.2.2.2.2 _ HZ.out).mono ?_) | (refine (KALL.out.2.2.2.2.2.2.2.2.2 _ HD.out).mono ?_)); rintro e wz ⟨rfl, hz⟩; have hSz := HS.out _ hz; have HZ : Hid (Below w.heap.size w wz) := hz; clear hz))
  all_goals go_wp2
  all_goals go_ret
  all_goals exact ⟨by simp, HZ.out⟩
end Go.Proofs.Ytnganmekiloigaa
