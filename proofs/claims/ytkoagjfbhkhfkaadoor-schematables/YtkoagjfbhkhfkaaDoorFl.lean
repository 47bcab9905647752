/- The reference's Fork; a nil catalog. -/
import Derived.Test.YtkoagjfbhkhfkaaDoorFk
import Derived.BigQuiet
namespace Go.Proofs.YtkoagjfbhkhfkaaDoor
open Go.RowKit Go.Lib
set_option maxRecDepth 100000
variable {w w' : World} {B c m r : Nat} {nv lv : Value} {E : List En} {L : List Tv} {Q : Nat → Prop}
theorem RU.form {u : Value} (h : RU B w u L) : ∃ ua un uc, u = .slice ua un uc := by
  rcases h with ⟨_, b, rfl, _⟩ | ⟨_, _, ⟨rfl, _⟩ | ⟨g, cap, cur, rfl, _⟩⟩
  · exact ⟨_, _, _, rfl⟩
  · exact ⟨_, _, _, rfl⟩
  · exact ⟨_, _, _, rfl⟩
theorem RU.tl {u : Value} (h : RU B w u L) {P : Nat → Prop} (hP : ∀ k, B ≤ k → k < w.heap.size → P k) (hc : ∀ x ∈ L, SCP P w x.2 x.1.cols) : TL P w u L := by
  rcases h with ⟨rfl, b, rfl, _⟩ | ⟨h0, h1⟩
  · exact ⟨⟨some b, 0, rfl, Nat.le_refl _, fun h => by simp at h⟩, hc⟩
  · exact TL.own h1 (fun g hg => hP g (ownsRow_ge h1 hg).1 (ownsRow_ge h1 hg).2) hc
def RFPost (Q : Nat → Prop) (w : World) (L : List Tv) (e : Ending) (w' : World) : Prop := ∃ r lv, e = .returned (.pointer (some ⟨r, 0, none⟩)) ∧ RCat (fun k => Q k ∨ w.heap.size ≤ k) w' r lv L ∧ w.heap.size ≤ r ∧ Below w.heap.size w w'
theorem rfork19 (h : RCat Q w r lv L) : Calls Tryd.prog 19 #[.pointer (some ⟨r, 0, none⟩)] w (RFPost Q w L) := by
  obtain ⟨u, w2, hrun, hru, hgr⟩ := run_app0 (h.tl.below (al w (.cells #[] 32))) h.few w.heap.size (al _ _).size ⟨w.heap.size, 0, none⟩ (Nat.le_refl _) (by simp)
  obtain ⟨⟨la, lc, rfl, _, _⟩, _⟩ := id h.tl
  have e0 := h.blk.here (j := 0) rfl
  have e1 := (h.blk.below (al w (.cells #[] 32))).here (j := 0) rfl
  obtain ⟨ua, un, uc, rfl⟩ := hru.form
  have HR : Hid _ := hrun
  have F2 : Below w.heap.size w w2 := (al w (.cells #[] 32)).grown hgr (al _ _).size (by simp)
  have HF : Hid (RFPost Q w L (.returned (.pointer (some ⟨w2.heap.size, 0, none⟩))) (w2.alloc (.cells #[.slice ua un uc] 63))) := by
    refine ⟨_, .slice ua un uc, rfl, ⟨blk_new w2 [.slice ua un uc] 63, ?_, h.ok, h.few⟩, F2.size, bal F2 _⟩
    have h1 : TL (fun k => k ≠ w2.heap.size ∧ (Q k ∨ w.heap.size ≤ k)) w2 (.slice ua un uc) L := hru.tl (fun k hk hk2 => ⟨by omega, .inr hk⟩) (fun x hx => by
      have h3 := ((h.tl.imp (Q := fun k => k ≠ w2.heap.size ∧ (Q k ∨ w.heap.size ≤ k)) (fun g hg hq => ⟨by have := F2.size; omega, .inl hq.2⟩)).below F2).2 x hx
      exact h3)
    exact h1.below (al _ _)
  clear hrun hru hgr F2 h
  generalize L.length = N at *
  go_enter Tryd.func19, Tryd.ntmps19
  go_wp2_with (at_builtin; (refine wpList_append_run rfl (.tmp 5) (.tmp 9) 22 rfl _ _ rfl rfl _ _ HR.out ?_))
  go_ret
  exact HF.out
theorem create20_nil (w : World) : Calls Tryd.prog 20 #[.pointer none, TB0] w fun e w' => e = .returned (.int .i64 1) ∧ Below w.heap.size w w' := by
  go_enter Tryd.func20, Tryd.ntmps20
  go_wp2
  go_ret
  exact ⟨rfl, al _ _⟩
theorem names23_nil (w : World) : Calls Tryd.prog 23 #[.pointer none] w fun e w' => e = .returned (.slice none 0 0) ∧ Below w.heap.size w w' := by
  go_enter Tryd.func23, Tryd.ntmps23
  go_wp2
  go_ret
  exact ⟨rfl, Below.refl _ _⟩
theorem tables18_nil (w : World) : Calls Tryd.prog 18 #[.pointer none] w fun e w' => e = .returned (.slice none 0 0) ∧ Below w.heap.size w w' := by
  go_enter Tryd.func18, Tryd.ntmps18
  go_wp2
  go_ret
  exact ⟨rfl, Below.refl _ _⟩
theorem kids24_nil (s : ByteArray) (w : World) : Calls Tryd.prog 24 #[.pointer none, .string s] w fun e w' => e = .returned (.slice none 0 0) ∧ Below w.heap.size w w' := by
  go_enter Tryd.func24, Tryd.ntmps24
  go_wp2
  go_ret
  exact ⟨rfl, Below.refl _ _⟩
theorem same15_nil (w : World) : Calls Tryd.prog 15 #[.pointer none, .pointer none] w fun e w' => e = .returned (.bool false) ∧ Below w.heap.size w w' := by
  go_enter Tryd.func15, Tryd.ntmps15
  go_wp2_with fail
  go_quiet (fail)
  go_wp2_with fail
  go_ret
  exact ⟨rfl, bdrewN (Below.refl _ _) _⟩
theorem fork17_nil (w : World) : Calls Tryd.prog 17 #[.pointer none] w fun e w' => e = .returned (.pointer none) ∧ Below w.heap.size w w' := by
  go_enter Tryd.func17, Tryd.ntmps17
  go_wp2
  go_ret
  exact ⟨rfl, Below.refl _ _⟩
theorem get22_nil (s : ByteArray) (w : World) : Calls Tryd.prog 22 #[.pointer none, .string s] w fun e w' => e = .returned (.tuple #[TB0, .bool false]) ∧ Below w.heap.size w w' := by
  go_enter Tryd.func22, Tryd.ntmps22
  go_wp2
  exact bodyPost_ret (results_cell2 rfl _ _ _ w.heap.size [.string ⟨#[]⟩, .slice none 0 0, .string ⟨#[]⟩, .int .i64 0] 32 (blk_new w _ 32) rfl _ Tryd.underlying32 rfl (by kernel_rfl)) rfl ⟨rfl, al _ _⟩
end Go.Proofs.YtkoagjfbhkhfkaaDoor
