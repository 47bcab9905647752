/- A catalog: Get. -/
import Derived.Test.YtkoagjfbhkhfkaaDoorCa
namespace Go.Proofs.YtkoagjfbhkhfkaaDoor
open Go.RowKit Go.Lib
set_option maxRecDepth 100000
variable {w w' : World} {c m : Nat} {nv : Value} {E : List En}
theorem rtB_cols {n : Bs} {l : List Cl} {p : Bs} {r : Int} (h : rtB n l p r = true) : 1 ≤ l.length ∧ l.length ≤ 4 := by
  simp only [rtB, rcB, Bool.and_eq_true, decide_eq_true_eq] at h
  exact h.1.2.1
theorem fnd_mem {s : Bs} {x : En} (h : fnd E s = some x) : x ∈ E ∧ x.1.n = s := by
  refine ⟨List.mem_of_find?_eq_some h, ?_⟩
  have := List.find?_some h
  simpa using this
theorem Cat.sc (h : Cat w c m nv E) {x : En} (hx : x ∈ E) : SC w (.slice (some ⟨x.2, 0, none⟩) x.1.cols.length x.1.cols.length) x.1.cols := SC.blk (h.cols x hx)
set_option maxHeartbeats 1000000 in
theorem get5_none (h : Cat w c m nv E) (s : ByteArray) (hs : s.size ≤ maxLen) (hf : fnd E (bs s) = none) :
    Calls Tryd.prog 22 #[.pointer (some ⟨c, 0, none⟩), .string s] w fun e w' => e = .returned (.tuple #[TB0, .bool false]) ∧ Below w.heap.size w w' := by
  have hl := (h.below (al w (.cells #[.string ⟨#[]⟩, .slice none 0 0, .string ⟨#[]⟩, .int .i64 0] 32))).look s hs
  have hb := (h.below (al w (.cells #[.string ⟨#[]⟩, .slice none 0 0, .string ⟨#[]⟩, .int .i64 0] 32))).blk
  have hc0 := hb.cell 0
  rw [hf] at hl
  simp only [Option.map_none, Option.getD_none, Option.isSome_none, List.getElem?_cons_zero] at hl hc0
  go_enter Tryd.func22, Tryd.ntmps22
  go_wp2
  exact bodyPost_ret (results_cell2 rfl _ _ _ w.heap.size [.string ⟨#[]⟩, .slice none 0 0, .string ⟨#[]⟩, .int .i64 0] 32 ((blk_new w _ 32).below (al _ _)) rfl _ Tryd.underlying32 rfl (by kernel_rfl)) rfl ⟨rfl, bal (al _ _) _⟩
set_option maxHeartbeats 1000000 in
theorem get5_some (h : Cat w c m nv E) (s : ByteArray) (hs : s.size ≤ maxLen) {x : En} (hf : fnd E (bs s) = some x) :
    Calls Tryd.prog 22 #[.pointer (some ⟨c, 0, none⟩), .string s] w fun e w' => ∃ g, e = .returned (.tuple #[tv (x.1, g), .bool true]) ∧ w.heap.size ≤ g ∧ Blk w' g (cellsC x.1.cols) 44 ∧ Below w.heap.size w w' := by
  have hl := (h.below (al w (.cells #[.string ⟨#[]⟩, .slice none 0 0, .string ⟨#[]⟩, .int .i64 0] 32))).look s hs
  have hb := (h.below (al w (.cells #[.string ⟨#[]⟩, .slice none 0 0, .string ⟨#[]⟩, .int .i64 0] 32))).blk
  have hc0 := hb.cell 0
  rw [hf] at hl
  simp only [Option.map_some, Option.getD_some, Option.isSome_some, List.getElem?_cons_zero] at hl hc0
  have hx := (fnd_mem hf).1
  have H9 : Hid (∀ w1, Below w.heap.size w w1 → Calls Tryd.prog 40 #[tv x] w1 fun e w' => ∃ g, e = .returned (tv (x.1, g)) ∧ w1.heap.size ≤ g ∧ Blk w' g (cellsC x.1.cols) 44 ∧ Below w1.heap.size w1 w') := fun w1 h1 => copied9 _ _ _ x.1.cols _ w1 ((h.below h1).sc hx) (by have := rtB_cols (h.ok x hx); omega)
  obtain ⟨y, g0⟩ := x
  simp only [tv] at hl H9 ⊢
  generalize str y.n = sn at *
  generalize str y.p = sp at *
  generalize y.cols.length = N at *
  generalize y.r = r at *
  clear hb
  go_enter Tryd.func22, Tryd.ntmps22
  go_wp2_with (go_at_call 40; refine (H9.out _ (bal (al _ _) _)).mono ?_; rintro e w1 ⟨g, rfl, hg, hblk, hb1⟩; have b0 := ((blk_new w [.string ⟨#[]⟩, .slice none 0 0, .string ⟨#[]⟩, .int .i64 0] 32).below (al _ _)).below hb1; have d0 := b0.cell 0; have d1 := b0.cell 1; have d2 := b0.cell 2; have d3 := b0.cell 3; have fd := b0.frozen; simp only [List.getElem?_cons_zero, List.getElem?_cons_succ] at d0 d1 d2 d3)
  refine bodyPost_ret (results_cell2 rfl _ _ _ w.heap.size [.string sn, .slice (some ⟨g, 0, none⟩) N N, .string sp, .int .i64 r] 32 ?_ rfl _ Tryd.underlying32 rfl (by kernel_rfl)) rfl ⟨g, rfl, ?_, ?_, ?_⟩
  · exact (((b0.set _).set _).set _).set _
  · simp at hg; omega
  · have hne : g ≠ w.heap.size := by simp at hg; omega
    exact (((hblk.other hne _).other hne _).other hne _).other hne _
  · exact bset (bset (bset (bset (bmore (bal (al _ _) _) hb1) (by simp) _) (by simp) _) (by simp) _) (by simp) _
end Go.Proofs.YtkoagjfbhkhfkaaDoor
