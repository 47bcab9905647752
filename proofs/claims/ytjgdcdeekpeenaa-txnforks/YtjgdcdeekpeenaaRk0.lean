/- The document's Commit. -/
import Derived.Test.YtjgdcdeekpeenaaRj
namespace Go.Proofs.Ytjgdcdeekpeenaa
open Go.RowKit Go.Shelf
set_option maxRecDepth 100000
theorem two {α : Type} {E : Ety α} {W0 W : World} {e : Nat} {a : Value} {L1 L2 : List α} (hB : Below W0.heap.size W0 W) (he : W0.heap.size ≤ e) (hel : e < W.heap.size) (h1 : LV E W a L1) (hl : L1.length + L2.length ≤ 100000) :
    ∃ u1 W1, (Builtin.append_ #[E.tS, E.tS] E.tS #[.slice (some ⟨e, 0, none⟩) 0 0, a]).run Try.prog W = .ok u1 W1 ∧ Below W0.heap.size W0 W1 ∧ (∀ g l t, Blk W g l t → g ≠ e → Blk W1 g l t) ∧
      ∀ W2 b, Below W1.heap.size W1 W2 → LV E W2 b L2 → ∃ u2 W3, (Builtin.append_ #[E.tS, E.tS] E.tS #[u1, b]).run Try.prog W2 = .ok u2 W3 ∧ LV E W3 u2 (L1 ++ L2) ∧ Below W0.heap.size W0 W3 := by
  have hU : RU E W0.heap.size W (.slice (some ⟨e, 0, none⟩) 0 0) [] := .inl ⟨rfl, _, rfl, he, hel⟩
  obtain ⟨u1, W1, r1, U1, g1⟩ := run_app hU h1 (by simp; omega) hB.size
  have B1 := hB.trans (grown_below hU g1 hB.size)
  rw [List.nil_append] at U1
  refine ⟨u1, W1, r1, B1, fun g l t hb hg => (g1.block g hb.lt (fun q => hg (by cases q; rfl))).trans hb, fun W2 b q2 h2 => ?_⟩
  obtain ⟨u2, W3, r2, U2, g2⟩ := run_app (U1.below q2) h2 (by omega) (bmore B1 q2).size
  exact ⟨u2, W3, r2, U2.read, (bmore B1 q2).trans (grown_below (U1.below q2) g2 (bmore B1 q2).size)⟩
theorem twoD {W0 W : World} {e : Nat} {a : Value} {L1 L2 : List (ByteArray × Int)} (hB : Below W0.heap.size W0 W) (he : W0.heap.size ≤ e) (hel : e < W.heap.size) (h1 : LV ED W a L1) (hl : L1.length + L2.length ≤ 100000) :
    ∃ u1 W1, (Builtin.append_ #[73, 73] 73 #[.slice (some ⟨e, 0, none⟩) 0 0, a]).run Try.prog W = .ok u1 W1 ∧ Below W0.heap.size W0 W1 ∧ (∀ g l t, Blk W g l t → g ≠ e → Blk W1 g l t) ∧
      ∀ W2 b, Below W1.heap.size W1 W2 → LV ED W2 b L2 → ∃ u2 W3, (Builtin.append_ #[73, 73] 73 #[u1, b]).run Try.prog W2 = .ok u2 W3 ∧ LV ED W3 u2 (L1 ++ L2) ∧ Below W0.heap.size W0 W3 := two (E := ED) hB he hel h1 hl
theorem RM.setD {w : World} {r : Nat} {K : Nat → Value} {D : Value} {R : Rf} (h : RM w r K D R) (v : Value) {dn : List (ByteArray × Int)} (hv : LV ED w v dn) : RM (w.setCell ⟨r, 14, none⟩ v) r K v { R with done := dn } ∧ Keep (fun q => q = r) w (w.setCell ⟨r, 14, none⟩ v) := by
  have k := keep_set w r 14 v
  obtain ⟨h1, _⟩ := h.setKeep k
  exact ⟨⟨h.blk.set (o := 14) v, h1, hv.keep fun _ _ q => q.keep k (fun e => blk_ne q h.blk ED.not75 e)⟩, k⟩
abbrev hiRC (R : Rf) : Int := max R.clock (R.high + 1)
def dn (R : Rf) (ks : List ByteArray) (n : Int) : Rf := { R with high := n, done := R.done ++ ks.map fun x => (x, n) }
theorem rcommit43_no {w : World} {r : Nat} {K : Nat → Value} {D : Value} {R : Rf} (h : RM w r K D R) (id : Int) (hn : errR R id ≠ 0) : Calls Try.prog 43 #[.pointer (some ⟨r, 0, none⟩), .int .i64 id] w fun e w' => e = .returned (.tuple #[.int .i64 0, .int .i64 (errR R id)]) ∧ Below w.heap.size w w' := by
  have k := rtest31_no h id hn
  generalize errR R id = n at *
  clear h
  go_enter Try.func43, Try.ntmps43
  go_wp2_with (go_at_call 31; (with_reducible refine k.mono ?_); rintro e w1 ⟨rfl, hB⟩)
  exact bodyPost_ret (v := .tuple #[.int .i64 0, .int .i64 n]) (by simp [results, Try.results43, go_sem]) rfl ⟨rfl, hB⟩
theorem rcommit43_err {w : World} {r : Nat} {K : Nat → Value} {D : Value} {R : Rf} (h : RM w r K D R) {i : Nat} (hi : i < 4) (ho : (R.l i).op = true) (hl : (R.l i).keys.length ≤ 1000) (hd : R.done.length ≤ 100000) (hn : errTR R (R.l i) ≠ 0) : Calls Try.prog 43 #[.pointer (some ⟨r, 0, none⟩), .int .i64 (i : Int)] w fun e w' => e = .returned (.tuple #[.int .i64 0, .int .i64 (errTR R (R.l i))]) ∧ Below w.heap.size w w' := by
  have k := rtest31_yes h hi ho hl hd
  generalize errTR R (R.l i) = n at *
  clear h
  go_enter Try.func43, Try.ntmps43
  go_wp2_with (go_at_call 31; (with_reducible refine k.mono ?_); rintro e w1 ⟨rfl, hB⟩)
  exact bodyPost_ret (v := .tuple #[.int .i64 0, .int .i64 n]) (by simp [results, Try.results43, go_sem]) rfl ⟨rfl, hB⟩
end Go.Proofs.Ytjgdcdeekpeenaa
