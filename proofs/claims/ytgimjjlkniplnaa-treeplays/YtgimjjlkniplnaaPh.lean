/- halved, leaves, inners, innerOf. -/
import Derived.Test.YtgimjjlkniplnaaPs
namespace Go.Proofs.Ytgimjjlkniplnaa
open Go.RowKit Go.Shelf
set_option maxRecDepth 100000
section
variable {α : Type}
/-- A list in one piece, or in two. -/
def halves (l : List α) : List (List α) := if l.length ≤ 8 then [l] else [l.take (l.length / 2), l.drop (l.length / 2)]
def HPost (E : Ety α) (w : World) (l : List α) (e : Ending) (w' : World) : Prop := ∃ g ls, e = .returned (.slice (some ⟨g, 0, none⟩) ls.length ls.length) ∧ Ls E w' g ls ∧ ls.map (·.2) = halves l ∧ Below w.heap.size w w'
end
set_option maxHeartbeats 400000 in
theorem halved63 {w : World} {l : Value} {L : List Pr} (hl : LV EP w l L) (hn : L.length ≤ 500) : Calls Try.prog 63 #[l] w (HPost EP w L) := by
  obtain ⟨a, c, rfl⟩ := hl.form
  have hcap := hl.cap.2
  by_cases h8 : L.length ≤ 8
  · have hP : ∀ W, W = (w.alloc (.cells #[.slice a L.length c] 37)) → HPost EP w L (.returned (.slice (some ⟨w.heap.size, 0, none⟩) 1 1)) W := fun W hW => by
      subst hW
      refine ⟨w.heap.size, [(.slice a L.length c, L)], rfl, ls_of (t := 37) (blk_new w [.slice a L.length c] 37) ?_, by simp [halves, h8], al w _⟩
      intro q hq
      simp only [List.mem_cons, List.not_mem_nil, or_false] at hq
      subst hq
      exact hl.below (al w _)
    have HP : Hid _ := hP
    have h8' : (L.length : Int) ≤ 8 := by omega
    generalize L.length = n at *
    clear hl hP
    go_enter Try.func63, Try.ntmps63
    go_wp2
    go_ret
    exact HP.out _ rfl
  · obtain ⟨m, hm⟩ : ∃ m, m = L.length / 2 := ⟨_, rfl⟩
    have hS := hl.sliced (k := m) (by omega)
    rw [show m * EP.m = m * 2 from rfl, if_neg (by omega)] at hS
    have hP : ∀ W, W = ((w.alloc (.cells #[.slice a m c, .slice (Option.map (fun x => x.add (m * 2)) a) (L.length - m) (c - m)] 37)).drew) → HPost EP w L (.returned (.slice (some ⟨w.heap.size, 0, none⟩) 2 2)) W := fun W hW => by
      subst hW
      have hb := (al w (.cells #[.slice a m c, .slice (Option.map (fun x => x.add (m * 2)) a) (L.length - m) (c - m)] 37)).drew
      refine ⟨w.heap.size, [(.slice a m c, L.take m), (.slice (Option.map (fun x => x.add (m * 2)) a) (L.length - m) (c - m), L.drop m)], rfl, ls_of (t := 37) (blk_new w [.slice a m c, .slice (Option.map (fun x => x.add (m * 2)) a) (L.length - m) (c - m)] 37) ?_, by simp [halves, h8, hm], hb⟩
      intro q hq
      simp only [List.mem_cons, List.not_mem_nil, or_false] at hq
      rcases hq with rfl | rfl
      · exact (hl.take (k := m) (by omega) c (by omega)).below hb
      · exact hS.below hb
    have HP : Hid _ := hP
    have h8' : ¬ (L.length : Int) ≤ 8 := by omega
    have hq : (L.length : Int).tdiv 2 = (m : Int) := by rw [hm, Int.tdiv_eq_ediv_of_nonneg (by omega)]; omega
    have hw : wrap64 (m : Int) = (m : Int) := IntWalk.wrap64_in _ (by omega)
    have hw2 : IntKind.i64.wrap (m : Int) = (m : Int) := (IntWalk.i64_left _).trans hw
    have m0 : (0 : Int) ≤ (m : Int) := by omega
    have m1 : (m : Int) ≤ (L.length : Int) := by omega
    have m2 : (L.length : Int) ≤ (c : Int) := by omega
    have m3 : (m : Int) ≤ (c : Int) := by omega
    have m4 : ¬ (c = m) := by omega
    have HM : Hid _ := hm
    generalize L.length = n at *
    clear hl hP hS hm
    go_enter Try.func63, Try.ntmps63
    go_wp2_with fail
    go_region_held3 (fun W' : World => w.heap.size ≤ W'.heap.size) (simp) (fail)
    go_wp2
    go_ret
    exact HP.out _ rfl
set_option maxHeartbeats 400000 in
theorem halved65 {w : World} {l : Value} {L : List Bx} (hl : LV EK w l L) (hn : L.length ≤ 500) : Calls Try.prog 65 #[l] w (HPost EK w L) := by
  obtain ⟨a, c, rfl⟩ := hl.form
  have hcap := hl.cap.2
  by_cases h8 : L.length ≤ 8
  · have hP : ∀ W, W = (w.alloc (.cells #[.slice a L.length c] 69)) → HPost EK w L (.returned (.slice (some ⟨w.heap.size, 0, none⟩) 1 1)) W := fun W hW => by
      subst hW
      refine ⟨w.heap.size, [(.slice a L.length c, L)], rfl, ls_of (t := 69) (blk_new w [.slice a L.length c] 69) ?_, by simp [halves, h8], al w _⟩
      intro q hq
      simp only [List.mem_cons, List.not_mem_nil, or_false] at hq
      subst hq
      exact hl.below (al w _)
    have HP : Hid _ := hP
    have h8' : (L.length : Int) ≤ 8 := by omega
    generalize L.length = n at *
    clear hl hP
    go_enter Try.func65, Try.ntmps65
    go_wp2
    go_ret
    exact HP.out _ rfl
  · obtain ⟨m, hm⟩ : ∃ m, m = L.length / 2 := ⟨_, rfl⟩
    have hS := hl.sliced (k := m) (by omega)
    rw [show m * EK.m = m from Nat.mul_one m, if_neg (by omega)] at hS
    have hP : ∀ W, W = ((w.alloc (.cells #[.slice a m c, .slice (Option.map (fun x => x.add (m)) a) (L.length - m) (c - m)] 69)).drew) → HPost EK w L (.returned (.slice (some ⟨w.heap.size, 0, none⟩) 2 2)) W := fun W hW => by
      subst hW
      have hb := (al w (.cells #[.slice a m c, .slice (Option.map (fun x => x.add (m)) a) (L.length - m) (c - m)] 69)).drew
      refine ⟨w.heap.size, [(.slice a m c, L.take m), (.slice (Option.map (fun x => x.add (m)) a) (L.length - m) (c - m), L.drop m)], rfl, ls_of (t := 69) (blk_new w [.slice a m c, .slice (Option.map (fun x => x.add (m)) a) (L.length - m) (c - m)] 69) ?_, by simp [halves, h8, hm], hb⟩
      intro q hq
      simp only [List.mem_cons, List.not_mem_nil, or_false] at hq
      rcases hq with rfl | rfl
      · exact (hl.take (k := m) (by omega) c (by omega)).below hb
      · exact hS.below hb
    have HP : Hid _ := hP
    have h8' : ¬ (L.length : Int) ≤ 8 := by omega
    have hq : (L.length : Int).tdiv 2 = (m : Int) := by rw [hm, Int.tdiv_eq_ediv_of_nonneg (by omega)]; omega
    have hw : wrap64 (m : Int) = (m : Int) := IntWalk.wrap64_in _ (by omega)
    have hw2 : IntKind.i64.wrap (m : Int) = (m : Int) := (IntWalk.i64_left _).trans hw
    have m0 : (0 : Int) ≤ (m : Int) := by omega
    have m1 : (m : Int) ≤ (L.length : Int) := by omega
    have m2 : (L.length : Int) ≤ (c : Int) := by omega
    have m3 : (m : Int) ≤ (c : Int) := by omega
    have m4 : ¬ (c = m) := by omega
    have HM : Hid _ := hm
    generalize L.length = n at *
    clear hl hP hS hm
    go_enter Try.func65, Try.ntmps65
    go_wp2_with fail
    go_region_held3 (fun W' : World => w.heap.size ≤ W'.heap.size) (simp) (fail)
    go_wp2
    go_ret
    exact HP.out _ rfl
end Go.Proofs.Ytgimjjlkniplnaa
