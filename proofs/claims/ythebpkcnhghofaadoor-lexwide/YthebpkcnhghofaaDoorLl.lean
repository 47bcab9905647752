/- live; short; the law LexSigns. -/
import Derived.Test.YthebpkcnhghofaaDoorLt
namespace Go.Proofs.YthebpkcnhghofaaDoor
open Go.RowKit Go.Lib Go.Joins
set_option maxRecDepth 100000

theorem trow_cells {B : Nat} {v : Value} {l : List Tk} {w : World} (h : TRow B v l w) (hl : 0 < l.length) : ∃ g c, v = .slice (some ⟨g, 0, none⟩) l.length c ∧ B ≤ g ∧ g < w.heap.size ∧ ∀ j u, (cellsT l)[j]? = some u → w.cell? ⟨g, j, none⟩ = some u := by
  obtain ⟨g, c, rfl⟩ : ∃ g c, v = .slice (some ⟨g, 0, none⟩) l.length c := by
    rcases h.2 with ⟨_, h2⟩ | ⟨g, cap, cur, e, _⟩
    · omega
    · exact ⟨g, cap, e⟩
  refine ⟨g, c, rfl, (World.ownsRow.lt h g rfl).1, (World.ownsRow.lt h g rfl).2, fun j u hu => ?_⟩
  have := World.ownsRow.cells h (g := g) rfl j u hu
  rw [show ((⟨g, 0, none⟩ : Addr).add j) = ⟨g, j, none⟩ by unfold Addr.add; split <;> simp_all] at this
  exact this

def la : Bs := [65, 60, 61, 45, 53, 32, 39, 98, 39, 39, 99, 39]
theorem toks_a : toks la = ([⟨1, [97], 0, 0⟩, ⟨4, [60, 61], 0, 1⟩, ⟨2, [45, 53], -5, 3⟩, ⟨3, [98, 39, 99], 0, 6⟩], 0, 0) := by kernel_rfl
theorem toks_b : toks [97, 32, 95] = ([], 2, 8) := by kernel_rfl

set_option maxHeartbeats 4000000 in
theorem live11 (w : World) (hg : Good w) : Calls Tryd.prog 11 #[] w fun e w' => e = .returned (.bool true) ∧ Below w.heap.size w w' := by
  have c8a : Calls Tryd.prog 8 #[.string ⟨#[65, 60, 61, 45, 53, 32, 39, 98, 39, 39, 99, 39]⟩] w fun e w' => ∃ g c, e = .returned (.tuple #[.slice (some ⟨g, 0, none⟩) 4 c, .int .i64 0, .int .i64 0]) ∧ g < w'.heap.size ∧ (w'.cell? ⟨g, 1, none⟩ = some (.string ⟨#[97]⟩) ∧ w'.cell? ⟨g, 5, none⟩ = some (.string ⟨#[60, 61]⟩) ∧ w'.cell? ⟨g, 10, none⟩ = some (.int .i64 (-5)) ∧ w'.cell? ⟨g, 13, none⟩ = some (.string ⟨#[98, 39, 99]⟩) ∧ w'.cell? ⟨g, 15, none⟩ = some (.int .i64 6)) ∧ Below w.heap.size w w' := by
    refine (tokens8 ⟨#[65, 60, 61, 45, 53, 32, 39, 98, 39, 39, 99, 39]⟩ w (by decide) hg).mono ?_
    rintro e w' ⟨v, h1, h2, h3⟩
    rw [show toks (bs ⟨#[65, 60, 61, 45, 53, 32, 39, 98, 39, 39, 99, 39]⟩) = _ from toks_a] at h1 h2
    obtain ⟨g, c, rfl, _, h4, h5⟩ := trow_cells h2 (by simp)
    exact ⟨g, c, h1, h4, ⟨h5 1 _ rfl, h5 5 _ rfl, h5 10 _ rfl, h5 13 _ rfl, h5 15 _ rfl⟩, h3⟩
  have HC : Hid (∀ w1, Good w1 → Calls Tryd.prog 8 #[.string ⟨#[97, 32, 95]⟩] w1 fun e w' => ∃ a n c, e = .returned (.tuple #[.slice a n c, .int .i64 2, .int .i64 8]) ∧ Below w1.heap.size w1 w') := fun w1 h => by
    refine (tokens8 ⟨#[97, 32, 95]⟩ w1 (by decide) h).mono ?_
    rintro e w' ⟨v, h1, h2, h3⟩
    rw [show toks (bs ⟨#[97, 32, 95]⟩) = _ from toks_b] at h1 h2
    obtain ⟨a, n, c, rfl⟩ : ∃ a n c, v = .slice a n c := by
      rcases h2.2 with ⟨h, _⟩ | ⟨g, cap, cur, h, _⟩
      · exact ⟨_, _, _, h⟩
      · exact ⟨_, _, _, h⟩
    exact ⟨a, n, c, h1, h3⟩
  have HG : Hid (Good w) := hg
  clear hg
  go_enter Tryd.func11, Tryd.ntmps11
  go_wp2_with (first
    | (go_at_call 8; (with_reducible refine c8a.mono ?_); rintro e w1 ⟨g, c, rfl, hgl, hcs, hb1⟩; have HCS : Hid (w1.cell? ⟨g, 1, none⟩ = some (.string ⟨#[97]⟩) ∧ w1.cell? ⟨g, 5, none⟩ = some (.string ⟨#[60, 61]⟩) ∧ w1.cell? ⟨g, 10, none⟩ = some (.int .i64 (-5)) ∧ w1.cell? ⟨g, 13, none⟩ = some (.string ⟨#[98, 39, 99]⟩) ∧ w1.cell? ⟨g, 15, none⟩ = some (.int .i64 6)) := hcs; clear hcs)
    | (go_at_call 8; (with_reducible refine (HC.out w1 (HG.out.below hb1)).mono ?_); rintro e w2 ⟨a2, n2, c2, rfl, hb2⟩; have h1 := (hb2.cell (p := ⟨g, 1, none⟩) hgl).trans HCS.out.1; have h5 := (hb2.cell (p := ⟨g, 5, none⟩) hgl).trans HCS.out.2.1; have h10 := (hb2.cell (p := ⟨g, 10, none⟩) hgl).trans HCS.out.2.2.1; have h13 := (hb2.cell (p := ⟨g, 13, none⟩) hgl).trans HCS.out.2.2.2.1; have h15 := (hb2.cell (p := ⟨g, 15, none⟩) hgl).trans HCS.out.2.2.2.2))
  go_ret
  exact ⟨rfl, bmore hb1 hb2⟩
end Go.Proofs.YthebpkcnhghofaaDoor
