/- live. -/
import Derived.Test.YtkoagjfbhkhfkaaDoorTt
namespace Go.Proofs.YtkoagjfbhkhfkaaDoor
open Go.RowKit Go.Lib
set_option maxRecDepth 100000
def dept : Tb := ⟨[100, 101, 112, 116], [([110, 97, 109, 101], 2)], [], 0⟩
def emp : Tb := ⟨[101, 109, 112], [([105, 100], 1), ([100], 2)], [100, 101, 112, 116], 1⟩
theorem ref_emp0 : refuse [] emp = 5 := by decide +kernel
theorem ref_dept : refuse [] dept = 0 := by decide +kernel
theorem ref_emp1 (g : Nat) : refuse [(dept, g)] emp = 0 := by kernel_rfl
theorem ch_live (a b : Nat) : chB [(emp, a), (dept, b)] [100, 101, 112, 116] = [(emp, a)] := by kernel_rfl
theorem col_live : colB emp.cols [100] = 1 := by decide +kernel
theorem rt_emp : rtB emp.n emp.cols emp.p emp.r = true := by decide +kernel
/-- The two tables' blocks, and the catalog. -/
structure LV (w W : World) (b1 b2 a1 a2 c m : Nat) (nv : Value) (E : List En) : Prop where
  cat : Cat W c m nv E
  bel : Below w.heap.size w W
  t1 : Blk W b1 [.string ⟨#[100, 101, 112, 116]⟩, .slice (some ⟨a1, 0, none⟩) 1 1, .string ⟨#[]⟩, .int .i64 0] 32
  t2 : Blk W b2 [.string ⟨#[101, 109, 112]⟩, .slice (some ⟨a2, 0, none⟩) 2 2, .string ⟨#[100, 101, 112, 116]⟩, .int .i64 1] 32
  c1 : Blk W a1 (cellsC dept.cols) 44
  c2 : Blk W a2 (cellsC emp.cols) 44
  ge : ∀ k, foot c m nv k → w.heap.size ≤ k
  na : ∀ k, foot c m nv k → k ≠ a1 ∧ k ≠ a2
variable {w W W' : World} {b1 b2 a1 a2 c m : Nat} {nv : Value} {E : List En}
theorem LV.below (h : LV w W b1 b2 a1 a2 c m nv E) (hb : Below W.heap.size W W') : LV w W' b1 b2 a1 a2 c m nv E := ⟨h.cat.below hb, bmore h.bel hb, h.t1.below hb, h.t2.below hb, h.c1.below hb, h.c2.below hb, h.ge, h.na⟩
theorem LV.step {nv' : Value} {E' : List En} (h : LV w W b1 b2 a1 a2 c m nv E) (h' : Cat W' c m nv' E') (hk : Keep (foot c m nv) W W') (hf : ∀ k, foot c m nv' k → foot c m nv k ∨ W.heap.size ≤ k) : LV w W' b1 b2 a1 a2 c m nv' E' := by
  have ne : ∀ {b : Nat} {l : List Value}, Blk W b l 32 → ¬ foot c m nv b := fun {b l} hb hx => by
    rcases hx with rfl | rfl | hx
    · exact h.cat.blk.ne hb (by decide) rfl
    · exact hb.ne_map h.cat.map rfl
    · exact hb.ne_row h.cat.names (by decide) hx
  refine ⟨h', h.bel.trans (hk.below h.bel.size (fun i hi => h.ge i hi)), h.t1.block (hk.block _ h.t1.lt (ne h.t1)), h.t2.block (hk.block _ h.t2.lt (ne h.t2)), h.c1.block (hk.block _ h.c1.lt (fun hx => (h.na _ hx).1 rfl)), h.c2.block (hk.block _ h.c2.lt (fun hx => (h.na _ hx).2 rfl)), fun k hk2 => (hf k hk2).elim (h.ge k) (fun h1 => Nat.le_trans h.bel.size h1), fun k hk2 => (hf k hk2).elim (h.na k) (fun h1 => ?_)⟩
  have l1 := h.c1.lt
  have l2 := h.c2.lt
  exact ⟨by omega, by omega⟩
theorem LV.cells (h : LV w W b1 b2 a1 a2 c m nv E) : W.cell? ⟨b1, 0, none⟩ = some (.string ⟨#[100, 101, 112, 116]⟩) ∧ W.cell? ⟨b1, 1, none⟩ = some (.slice (some ⟨a1, 0, none⟩) 1 1) ∧ W.cell? ⟨b1, 2, none⟩ = some (.string ⟨#[]⟩) ∧ W.cell? ⟨b1, 3, none⟩ = some (.int .i64 0) ∧ W.cell? ⟨b2, 0, none⟩ = some (.string ⟨#[101, 109, 112]⟩) ∧ W.cell? ⟨b2, 1, none⟩ = some (.slice (some ⟨a2, 0, none⟩) 2 2) ∧ W.cell? ⟨b2, 2, none⟩ = some (.string ⟨#[100, 101, 112, 116]⟩) ∧ W.cell? ⟨b2, 3, none⟩ = some (.int .i64 1) := ⟨h.t1.here rfl, h.t1.here rfl, h.t1.here rfl, h.t1.here rfl, h.t2.here rfl, h.t2.here rfl, h.t2.here rfl, h.t2.here rfl⟩
theorem LV.create1 (h : LV w W b1 b2 a1 a2 c m nv []) : Calls Tryd.prog 20 #[.pointer (some ⟨c, 0, none⟩), TB ⟨#[101, 109, 112]⟩ (.slice (some ⟨a2, 0, none⟩) 2 2) ⟨#[100, 101, 112, 116]⟩ 1] W fun e W' => e = .returned (.int .i64 5) ∧ LV w W' b1 b2 a1 a2 c m nv [] := by
  have := create6_no h.cat ⟨#[101, 109, 112]⟩ ⟨#[100, 101, 112, 116]⟩ (.slice (some ⟨a2, 0, none⟩) 2 2) emp.cols 1 (SC.blk h.c2) (by decide) (by rw [show refuse [] ⟨bs ⟨#[101, 109, 112]⟩, emp.cols, bs ⟨#[100, 101, 112, 116]⟩, 1⟩ = 5 from ref_emp0]; decide)
  rw [show refuse [] ⟨bs ⟨#[101, 109, 112]⟩, emp.cols, bs ⟨#[100, 101, 112, 116]⟩, 1⟩ = 5 from ref_emp0] at this
  exact this.mono fun e W' ⟨h1, h2⟩ => ⟨h1, h.below h2⟩
theorem LV.create2 (h : LV w W b1 b2 a1 a2 c m nv []) : Calls Tryd.prog 20 #[.pointer (some ⟨c, 0, none⟩), TB ⟨#[100, 101, 112, 116]⟩ (.slice (some ⟨a1, 0, none⟩) 1 1) ⟨#[]⟩ 0] W fun e W' => e = .returned (.int .i64 0) ∧ ∃ nv' g, LV w W' b1 b2 a1 a2 c m nv' [(dept, g)] := by
  have := create6_yes h.cat ⟨#[100, 101, 112, 116]⟩ ⟨#[]⟩ (.slice (some ⟨a1, 0, none⟩) 1 1) dept.cols 0 (SC.blk h.c1) (by decide) ref_dept
  exact this.mono fun e W' ⟨h1, nv', g, h2, h3, h4, _⟩ => ⟨h1, nv', g, h.step h2 h3 h4⟩
theorem LV.create3 {g : Nat} (h : LV w W b1 b2 a1 a2 c m nv [(dept, g)]) : Calls Tryd.prog 20 #[.pointer (some ⟨c, 0, none⟩), TB ⟨#[101, 109, 112]⟩ (.slice (some ⟨a2, 0, none⟩) 2 2) ⟨#[100, 101, 112, 116]⟩ 1] W fun e W' => e = .returned (.int .i64 0) ∧ ∃ nv' g2, LV w W' b1 b2 a1 a2 c m nv' [(emp, g2), (dept, g)] := by
  have := create6_yes h.cat ⟨#[101, 109, 112]⟩ ⟨#[100, 101, 112, 116]⟩ (.slice (some ⟨a2, 0, none⟩) 2 2) emp.cols 1 (SC.blk h.c2) (by decide) (ref_emp1 g)
  exact this.mono fun e W' ⟨h1, nv', g, h2, h3, h4, _⟩ => ⟨h1, nv', g, h.step h2 h3 h4⟩
theorem LV.kids {g g2 : Nat} (h : LV w W b1 b2 a1 a2 c m nv [(emp, g2), (dept, g)]) : Calls Tryd.prog 24 #[.pointer (some ⟨c, 0, none⟩), .string ⟨#[100, 101, 112, 116]⟩] W fun e W' => (∃ k vc, e = .returned (.slice (some ⟨k, 0, none⟩) 1 vc) ∧ W'.cell? ⟨k, 0, none⟩ = some (.string ⟨#[101, 109, 112]⟩)) ∧ LV w W' b1 b2 a1 a2 c m nv [(emp, g2), (dept, g)] := by
  have := children24 h.cat (by simp [emp, dept]) ⟨#[100, 101, 112, 116]⟩ (by simp [bs])
  rw [show chB [(emp, g2), (dept, g)] (bs ⟨#[100, 101, 112, 116]⟩) = [(emp, g2)] from ch_live g2 g] at this
  refine this.mono fun e W' ⟨⟨va, vc, h1, h2⟩, h3⟩ => ⟨?_, h.below h3⟩
  obtain ⟨k, cap, he, _, _⟩ := h2.form (by simp)
  simp only [Value.slice.injEq] at he
  obtain ⟨rfl, _, rfl⟩ := he
  refine ⟨k, vc, h1, ?_⟩
  rcases h2.2 with ⟨h4, _⟩ | ⟨k', cap', cur, h4, _, h5, _, _, _, h6⟩
  · cases h4
  · cases h4
    have h7 : (cur.toList.take ([(emp, g2)].length * 1))[0]? = some (.string ⟨#[101, 109, 112]⟩) := by rw [h6]; rfl
    rw [List.getElem?_take] at h7
    simp at h7
    simp [World.cell?, h5, h7]
abbrev O1 : Obj := .cells #[.string ⟨#[110, 97, 109, 101]⟩, .int .u8 2] 44
abbrev O2 (a : Nat) : Obj := .cells #[.string ⟨#[100, 101, 112, 116]⟩, .slice (some ⟨a, 0, none⟩) 1 1, .string ⟨#[]⟩, .int .i64 0] 32
abbrev O3 : Obj := .cells #[.string ⟨#[105, 100]⟩, .int .u8 1, .string ⟨#[100]⟩, .int .u8 2] 44
abbrev O4 (a : Nat) : Obj := .cells #[.string ⟨#[101, 109, 112]⟩, .slice (some ⟨a, 0, none⟩) 2 2, .string ⟨#[100, 101, 112, 116]⟩, .int .i64 1] 32
theorem lv0 {w1 : World} (hcat : Cat w1 c m (.slice none 0 0) []) (hc : w.heap.size ≤ c) (hm : w.heap.size ≤ m) (hb1 : Below w.heap.size w w1) : LV w ((((w1.alloc O1).alloc (O2 w1.heap.size)).alloc O3).alloc (O4 (w1.heap.size + 1 + 1))) (w1.heap.size + 1) (w1.heap.size + 1 + 1 + 1) w1.heap.size (w1.heap.size + 1 + 1) c m (.slice none 0 0) [] := by
  have lt : ∀ k, foot c m (.slice none 0 0) k → k < w1.heap.size := fun k hk => hcat.lt (by
    rcases hk with h | h | h
    · exact .inl h
    · exact .inr (.inl h)
    · exact .inr (.inr (.inl h)))
  refine ⟨hcat.below (bal (bal (bal (al _ _) _) _) _), bmore hb1 (bal (bal (bal (al _ _) _) _) _), ?_, ?_, ?_, ?_, ?_, ?_⟩
  · exact (blk_at (w1.alloc O1) _ 32 (by simp)).below (bal (al _ _) _)
  · exact blk_at _ _ 32 (by simp)
  · exact (blk_new w1 (cellsC dept.cols) 44).below (bal (bal (al _ _) _) _)
  · exact (blk_at ((w1.alloc O1).alloc (O2 w1.heap.size)) (cellsC emp.cols) 44 (by simp)).below (al _ _)
  · intro k hk
    rcases hk with rfl | rfl | hk
    · exact hc
    · exact hm
    · cases hk
  · intro k hk
    have := lt k hk
    exact ⟨by omega, by omega⟩
set_option maxHeartbeats 4000000 in
theorem live8 (w : World) : Calls Tryd.prog 8 #[] w fun e w' => e = .returned (.bool true) ∧ Below w.heap.size w w' := by
  go_enter Tryd.func8, Tryd.ntmps8
  go_wp2_with (first
    | (go_at_call 25; refine (new4 _).mono ?_; rintro e w1 ⟨c, m, rfl, hcat, hc, hm, hb1⟩; have l0 := lv0 hcat hc hm hb1; have L0 : Hid _ := l0; clear l0)
    | (go_at_call 20; refine L0.out.create1.mono ?_; rintro e w2 ⟨rfl, l2⟩; have L2 : Hid _ := l2; clear l2))
  have L3 := L2.out.below (Below.refl _ _).drew
  have HL3 : Hid (LV w w2.drew (w1.heap.size + 1) (w1.heap.size + 1 + 1 + 1) w1.heap.size (w1.heap.size + 1 + 1) c m (.slice none 0 0) []) := L3
  clear L3 L2 L0 hcat hc hm hb1
  generalize w1.heap.size + 1 + 1 + 1 = b2 at *
  generalize w1.heap.size + 1 + 1 = a2 at *
  generalize w1.heap.size + 1 = b1 at *
  generalize w1.heap.size = a1 at *
  have hS0 := HL3.out.cells
  go_region_held3 (fun w' => w'.cell? ⟨b1, 0, none⟩ = some (.string ⟨#[100, 101, 112, 116]⟩) ∧ w'.cell? ⟨b1, 1, none⟩ = some (.slice (some ⟨a1, 0, none⟩) 1 1) ∧ w'.cell? ⟨b1, 2, none⟩ = some (.string ⟨#[]⟩) ∧ w'.cell? ⟨b1, 3, none⟩ = some (.int .i64 0) ∧ w'.cell? ⟨b2, 0, none⟩ = some (.string ⟨#[101, 109, 112]⟩) ∧ w'.cell? ⟨b2, 1, none⟩ = some (.slice (some ⟨a2, 0, none⟩) 2 2) ∧ w'.cell? ⟨b2, 2, none⟩ = some (.string ⟨#[100, 101, 112, 116]⟩) ∧ w'.cell? ⟨b2, 3, none⟩ = some (.int .i64 1)) (first | exact hS0 | exact HL4.out.cells | exact HL5.out.cells) (first
    | (go_at_call 20; (with_reducible refine HL3.out.create2.mono ?_); rintro e w4 ⟨rfl, nv4, g4, l4⟩; have HL4 : Hid _ := l4; clear l4)
    | (go_at_call 20; (with_reducible refine HL4.out.create3.mono ?_); rintro e w5 ⟨rfl, nv5, g5, l5⟩; have HL5 : Hid _ := l5; clear l5))
  have HC : Hid (∀ W, LV w W b1 b2 a1 a2 c m nv5 [(emp, g5), (dept, g4)] → Calls Tryd.prog 13 #[.slice (some ⟨a2, 0, none⟩) 2 2, .string ⟨#[100]⟩] W fun e W' => e = .returned (.int .i64 1) ∧ LV w W' b1 b2 a1 a2 c m nv5 [(emp, g5), (dept, g4)]) := fun W h => by
    have := column17 (.slice (some ⟨a2, 0, none⟩) 2 2) emp.cols ⟨#[100]⟩ W (SC.blk h.c2) (by decide)
    rw [show colB emp.cols (bs ⟨#[100]⟩) = 1 from col_live] at this
    exact this.mono fun e W' ⟨h1, h2⟩ => ⟨h1, h.below h2⟩
  have HR : Hid (∀ W, LV w W b1 b2 a1 a2 c m nv5 [(emp, g5), (dept, g4)] → Calls Tryd.prog 11 #[TB ⟨#[101, 109, 112]⟩ (.slice (some ⟨a2, 0, none⟩) 2 2) ⟨#[100, 101, 112, 116]⟩ 1] W fun e W' => e = .returned (.bool true) ∧ LV w W' b1 b2 a1 a2 c m nv5 [(emp, g5), (dept, g4)]) := fun W h => by
    have := right8 ⟨#[101, 109, 112]⟩ ⟨#[100, 101, 112, 116]⟩ (.slice (some ⟨a2, 0, none⟩) 2 2) emp.cols 1 W (SC.blk h.c2) (by decide)
    rw [show rtB (bs ⟨#[101, 109, 112]⟩) emp.cols (bs ⟨#[100, 101, 112, 116]⟩) 1 = true from rt_emp] at this
    exact this.mono fun e W' ⟨h1, h2⟩ => ⟨h1, h.below h2⟩
  have HN : Hid (∀ W, LV w W b1 b2 a1 a2 c m nv5 [(emp, g5), (dept, g4)] → Calls Tryd.prog 23 #[.pointer (some ⟨c, 0, none⟩)] W fun e W' => (∃ k, e = .returned (.slice (some ⟨k, 0, none⟩) 2 2)) ∧ LV w W' b1 b2 a1 a2 c m nv5 [(emp, g5), (dept, g4)]) := fun W h =>
    (names7 h.cat).mono fun e W' ⟨g, h1, _, _, h2⟩ => ⟨⟨g, h1⟩, h.below h2⟩
  go_wp2_with (first
    | (go_at_call 24; refine HL5.out.kids.mono ?_; rintro e w6 ⟨⟨k, vc, rfl, hk⟩, l6⟩; obtain ⟨y0, y1, y2, y3, z0, z1, z2, z3⟩ := l6.cells; have HL6 : Hid _ := l6; clear l6)
    | (go_at_call 13; refine (HC.out _ HL6.out).mono ?_; rintro e w7 ⟨rfl, l7⟩; obtain ⟨y0, y1, y2, y3, z0, z1, z2, z3⟩ := l7.cells; have HL7 : Hid _ := l7; clear l7)
    | (go_at_call 11; refine (HR.out _ HL7.out).mono ?_; rintro e w8 ⟨rfl, l8⟩; have HL8 : Hid _ := l8; clear l8)
    | (go_at_call 23; refine (HN.out _ HL8.out).mono ?_; rintro e w9 ⟨⟨k9, rfl⟩, l9⟩; have HL9 : Hid _ := l9; clear l9))
  go_ret
  exact ⟨rfl, HL9.out.bel⟩
end Go.Proofs.YtkoagjfbhkhfkaaDoor
