/- Both managers, in memory; the document's deeds beside the program's. -/
import Derived.Test.YtjgdcdeekpeenaaRl
namespace Go.Proofs.Ytjgdcdeekpeenaa
open Go.RowKit Go.Shelf
set_option maxRecDepth 100000
theorem MM.beside {w w' : World} {B r : Nat} {a : At} {M : Mg} {K : Nat → Value} {D : Value} {R : Rf} (h : MM w B a M) (hr : RM w r K D R) (q : Keep (fun b => b = r) w w') : MM w' B a M :=
  h.keep q (fun e => blk_ne h.blk hr.blk (by decide) e) (fun e => blk_ne_map h.wm hr.blk e.symm) (fun i hi hs => by
    obtain ⟨s, hs⟩ := Option.isSome_iff_exists.1 hs
    exact ⟨fun e => blk_ne (h.sb i hi s hs) hr.blk (by decide) e, fun e => blk_ne_map (h.km i hi s hs) hr.blk e.symm⟩)
structure Bo (w : World) (B m wm : Nat) (s k : Nat → Nat) (M : Mg) (r : Nat) (R : Rf) (n : Nat) : Prop where
  mm : MM w B ⟨m, wm, s, k⟩ M
  rm : ∃ K D, RM w r K D R
  rel : Rel M R n
  inv : Inv M n
  hr : B ≤ r
  hB : B ≤ w.heap.size
theorem Bo.below {w w' : World} {B m wm : Nat} {s k : Nat → Nat} {M : Mg} {r : Nat} {R : Rf} {n : Nat} (h : Bo w B m wm s k M r R n) (q : Below w.heap.size w w') : Bo w' B m wm s k M r R n := by
  obtain ⟨K, D, hR⟩ := h.rm
  exact ⟨h.mm.below q, ⟨K, D, hR.below q⟩, h.rel, h.inv, h.hr, Nat.le_trans h.hB q.size⟩
/-- A deed of the first, then one of the second. -/
theorem Bo.two {w w1 w2 : World} {B m wm : Nat} {s k s' k' : Nat → Nat} {M M' : Mg} {r : Nat} {R R' : Rf} {n : Nat} (h : Bo w B m wm s k M r R n) (h1 : Lft B ⟨m, wm, s', k'⟩ M' w w1) (h2 : LR r R' w1 w2) (hrel : Rel M' R' (n + 1)) (hI : Inv M' (n + 1)) : Bo w2 B m wm s' k' M' r R' (n + 1) ∧ Below B w w2 := by
  obtain ⟨K, D, hR⟩ := h.rm
  have hR1 := hR.keep h1.2.box
  have hb := h1.2.b.trans (h2.2.below (Nat.le_trans h.hB h1.2.b.size) (fun i hi e => by have := h.hr; omega))
  exact ⟨⟨h1.1.beside hR1 h2.2, h2.1, hrel, hI, h.hr, Nat.le_trans h.hB hb.size⟩, hb⟩
theorem Bo.mid {w w1 : World} {B m wm : Nat} {s k s' k' : Nat → Nat} {M M' : Mg} {r : Nat} {R : Rf} {n : Nat} (h : Bo w B m wm s k M r R n) (h1 : Lft B ⟨m, wm, s', k'⟩ M' w w1) : ∃ K D, RM w1 r K D R := by
  obtain ⟨K, D, hR⟩ := h.rm
  exact ⟨K, D, hR.keep h1.2.box⟩
theorem rbegin41' {w : World} {r : Nat} {K : Nat → Value} {D : Value} {M : Mg} {R : Rf} {n : Nat} (h : RM w r K D R) (q : Rel M R n) (id : Int) : Calls Try.prog 41 #[.pointer (some ⟨r, 0, none⟩), .int .i64 id] w fun e w' => e = .returned (.tuple #[.int .i64 (bgnR M id), .int .i64 (errB M id)]) ∧ LR r (R.bgn id) w w' := by
  rw [← q.errB, ← q.bgnR]
  exact rbegin41 h id
theorem rend44' {w : World} {r : Nat} {K : Nat → Value} {D : Value} {M : Mg} {R : Rf} {n : Nat} (h : RM w r K D R) (q : Rel M R n) (id : Int) : Calls Try.prog 44 #[.pointer (some ⟨r, 0, none⟩), .int .i64 id] w fun e w' => e = .returned (.int .i64 (errM M id)) ∧ LR r (R.fin id) w w' := by
  rw [← q.err]
  exact rend44 h id
theorem LR.same {w w' : World} {r : Nat} {K : Nat → Value} {D : Value} {R : Rf} (h : RM w r K D R) (q : Below w.heap.size w w') : LR r R w w' := ⟨⟨K, D, h.below q⟩, Keep.of q⟩
theorem rwrite42' {w : World} {r : Nat} {K : Nat → Value} {D : Value} {M : Mg} {R : Rf} {n : Nat} (h : RM w r K D R) (q : Rel M R n) (hn : n ≤ 100) (id : Int) (x : ByteArray) : Calls Try.prog 42 #[.pointer (some ⟨r, 0, none⟩), .int .i64 id, .string x] w fun e w' => e = .returned (.int .i64 (errM M id)) ∧ ∃ R', Rel (M.wrt id (bs x)) R' (n + 1) ∧ LR r R' w w' := by
  by_cases c : errM M id = 0
  · obtain ⟨i, s, hi, rfl, hs⟩ := errM_zero c
    obtain ⟨h1, h2, l, h3, h4, h5⟩ := q.yes i s hi hs
    have := rwrite42_yes h hi h1 h3 h4 (by omega) (bs x)
    rw [ofL_bs] at this
    rw [c]
    refine this.mono ?_
    rintro e w' ⟨rfl, l', g1, g2, g3⟩
    refine ⟨rfl, _, ?_, g3⟩
    have e1 : M.wrt (i : Int) (bs x) = M.write i s (bs x) := by simp [Mg.wrt, c, sn_of hs]
    rw [e1]
    exact q.write hi hs g1 (by omega)
  · have := rwrite42_no h id (by rw [q.err]; exact c) x
    rw [q.err] at this
    refine this.mono ?_
    rintro e w' ⟨rfl, hb⟩
    refine ⟨rfl, R, ?_, LR.same h hb⟩
    rw [Mg.wrt, if_neg c]
    exact q.mono (by omega)
theorem Rel.keysLen {M : Mg} {R : Rf} {n : Nat} (q : Rel M R n) {i : Nat} {s : Sn} (hi : i < 4) (hs : M.op i = some s) : (R.l i).keys.length ≤ n := by
  obtain ⟨_, _, l, _, h4, h5⟩ := q.yes i s hi hs
  rw [h4, List.length_map]
  exact h5
theorem rtest31' {w : World} {r : Nat} {K : Nat → Value} {D : Value} {M : Mg} {R : Rf} {n : Nat} (h : RM w r K D R) (q : Rel M R n) (hI : Inv M n) (hn : n ≤ 100) (id : Int) : Calls Try.prog 31 #[.pointer (some ⟨r, 0, none⟩), .int .i64 id] w fun e w' => e = .returned (.int .i64 (errC M id)) ∧ Below w.heap.size w w' := by
  by_cases c : errM M id = 0
  · obtain ⟨i, s, hi, rfl, hs⟩ := errM_zero c
    have := rtest31_yes h hi (q.yes i s hi hs).op (by have := q.keysLen hi hs; omega) (by have := q.len; omega)
    rw [q.errT hI hi hs] at this
    rw [errC, if_pos c, sn_of hs]
    exact this
  · have := rtest31_no h id (by rw [q.err]; exact c)
    rw [q.err] at this
    rw [errC, if_neg c]
    exact this
theorem rcommit43' {w : World} {r : Nat} {K : Nat → Value} {D : Value} {M : Mg} {R : Rf} {n : Nat} (h : RM w r K D R) (q : Rel M R n) (hI : Inv M n) (hn : n ≤ 100) (id : Int) : Calls Try.prog 43 #[.pointer (some ⟨r, 0, none⟩), .int .i64 id] w fun e w' => e = .returned (.tuple #[.int .i64 (cmtR M id), .int .i64 (errC M id)]) ∧ ∃ R', (∀ l, (errC M id = 0 → Noted M.wr l (M.sn id).keys (hiC M)) → Rel (M.cmt id l) R' (n + 1)) ∧ LR r R' w w' := by
  by_cases c : errM M id = 0
  · obtain ⟨i, s, hi, rfl, hs⟩ := errM_zero c
    have e1 : errC M (i : Int) = errTR R (R.l i) := by rw [errC, if_pos c, sn_of hs, q.errT hI hi hs]
    by_cases d : errC M (i : Int) = 0
    · have := rcommit43_yes h hi (q.yes i s hi hs).op (by have := q.keysLen hi hs; omega) (by have := q.len; omega) (by rw [q.high]; exact hI.fit.h0) (by rw [q.high]; exact hI.fit.h1) (by rw [← e1]; exact d)
      refine this.mono ?_
      rintro e w' ⟨rfl, hL⟩
      refine ⟨by rw [cmtR, if_pos d, d, q.hiC], _, fun l hl => ?_, hL⟩
      have hN := hl d
      rw [sn_of hs] at hN
      rw [Mg.cmt, if_pos d, Int.toNat_natCast]
      exact q.cmt hn hi hs l hN
    · have := rcommit43_err h hi (q.yes i s hi hs).op (by have := q.keysLen hi hs; omega) (by have := q.len; omega) (by rw [← e1]; exact d)
      refine this.mono ?_
      rintro e w' ⟨rfl, hL⟩
      refine ⟨by rw [cmtR, if_neg d, e1], R, fun l _ => ?_, LR.same h hL⟩
      rw [Mg.cmt, if_neg d]
      exact q.mono (by omega)
  · have d : errC M id = errM M id := by rw [errC, if_neg c]
    have := rcommit43_no h id (by rw [q.err]; exact c)
    rw [q.err] at this
    refine this.mono ?_
    rintro e w' ⟨rfl, hL⟩
    refine ⟨by rw [cmtR, d, if_neg c], R, fun l _ => ?_, LR.same h hL⟩
    rw [Mg.cmt, d, if_neg c]
    exact q.mono (by omega)
end Go.Proofs.Ytjgdcdeekpeenaa
