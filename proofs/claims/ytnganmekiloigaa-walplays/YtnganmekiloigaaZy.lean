/- Read, on both disks, as a string. -/
import Derived.Test.YtnganmekiloigaaRr
import Derived.Test.YtnganmekiloigaaJs
namespace Go.Proofs.Ytnganmekiloigaa
open Go.RowKit
set_option maxRecDepth 100000
theorem conv64 {w : World} {g : Nat} {l : Bs} (h : Blk w g (cellsB l) 5) (hl : l.length = 64) : (convert 33 9 (.slice (some ⟨g, 0, none⟩) 64 64)).run Try.prog w = .ok (.string (strB l)) w := by
  rw [← strOf_eq]
  refine run_convert_bytes_arg w 33 5 Try.underlying33 Try.underlying5 g 0 64 64 _ (by simp [hl]) ?_ 9 Try.underlying9
  intro i hi
  rw [Nat.zero_add, h.cell, cellsB_get l i (by omega)]
  simp [show i < l.length by omega]
variable {W : World} {B0 d s r : Nat} {wv lv xv : Value} {D : Dk}
theorem rread32_no (h : RD W r lv xv D) (i : Int) (hr : D.reach i ≠ 0) :
    Calls Try.prog 32 #[.pointer (some ⟨r, 0, none⟩), .int .i64 i] W fun e w' => e = .returned (.tuple #[.slice none 0 0, .int .i64 (D.reach i)]) ∧ w' = W := by
  obtain ⟨L, hx, hL⟩ := h.dx
  obtain ⟨lg, lc, rfl, _⟩ := h.secs
  have x0 := hx.c0
  have x4 := hx.c4
  unfold Dk.reach at hr ⊢
  clear hx hL h
  cases ho : D.off
  · rw [ho] at x4 hr
    simp only [Bool.false_eq_true, if_false] at hr ⊢
    have hi : ¬ (0 ≤ i ∧ i < (D.secs.length : Int)) := fun h => hr (if_pos h)
    rw [if_neg hi]
    clear hr
    generalize D.secs.length = S at *
    by_cases h0 : i < 0
    · go_enter Try.func32, Try.ntmps32
      go_wp2
      go_ret2
      exact ⟨rfl, rfl⟩
    · have h1 : (S : Int) ≤ i := by omega
      go_enter Try.func32, Try.ntmps32
      go_wp2
      go_ret2
      exact ⟨rfl, rfl⟩
  · rw [ho] at x4
    simp only [if_true]
    go_enter Try.func32, Try.ntmps32
    go_wp2
    go_ret2
    exact ⟨rfl, rfl⟩

/-- The bytes behind v, as a string, in every world that has v's block as W' has it. -/
def Str (W' : World) (v : Value) (l : Bs) : Prop := (∀ w : World, (∀ k, v.ownBlock = some k → w.heap[k]? = W'.heap[k]?) → (convert 33 9 v).run Try.prog w = .ok (.string (strB l)) w) ∧ ∀ k, v.ownBlock = some k → k < W'.heap.size
theorem Str.nil (w : World) : Str w (.slice none 0 0) [] := ⟨fun w' _ => run_convert_bytes_nil w' 33 5 Try.underlying33 Try.underlying5 0 0 9 Try.underlying9, fun k e => by cases e⟩
theorem Str.below {w w' : World} {v : Value} {l : Bs} (h : Str w v l) (hB : Below w.heap.size w w') : Str w' v l := ⟨fun w2 h2 => h.1 w2 (fun k e => (h2 k e).trans (hB.block k (h.2 k e))), fun k e => Nat.lt_of_lt_of_le (h.2 k e) hB.size⟩
theorem Str.of_got {w w' : World} {v : Value} {l : Bs} (h : Got w v l w') : Str w' v l := by
  rcases h with ⟨rfl, rfl⟩ | ⟨g, rfl, h1, h2, _⟩
  · exact Str.nil _
  · exact ⟨fun w2 hk => conv64 (h2.block (hk g rfl)) h1, fun k e => by simp only [Value.ownBlock, Option.some.injEq] at e; subst e; exact h2.lt⟩
theorem Str.of_row {w : World} {B : Nat} {v : Value} {l : Bs} (h : w.ownsRow B 5 1 v 64 (cellsB l)) (hl : l.length = 64) : Str w v l := by
  obtain ⟨g, c, rfl⟩ : ∃ g c, v = .slice (some ⟨g, 0, none⟩) 64 c := by
    rcases h.2 with ⟨_, h2⟩ | ⟨gw, capw, cur, e, _⟩
    · omega
    · exact ⟨gw, capw, e⟩
  refine ⟨fun w2 hk => ?_, fun k e => (World.ownsRow.lt h k e).2⟩
  rw [← strOf_eq]
  refine run_convert_bytes_arg w2 33 5 Try.underlying33 Try.underlying5 g 0 64 c _ (by simp [hl]) ?_ 9 Try.underlying9
  intro i hi
  rw [Nat.zero_add, World.cell?_of_block (a := ⟨g, i, none⟩) (hk g rfl), World.ownsRow.cellAt h i (by omega), cellsB_get l i (by omega)]
  simp [show i < l.length by omega]

theorem pread (h : PD W d s wv D) (i : Int) (hw : D.wait.length ≤ 1000) :
    Calls Try.prog 19 #[.pointer (some ⟨d, 0, none⟩), .int .i64 i] W fun e w' => ∃ v, e = .returned (.tuple #[v, .int .i64 (D.read i).2]) ∧ Str w' v (D.read i).1 ∧ Below W.heap.size W w' := by
  refine (read19 h i (by omega)).mono ?_
  rintro e w' ⟨v, h1, h2, h3⟩
  exact ⟨v, h1, Str.of_got h2, h3⟩
theorem rread (h : RD W r lv xv D) (i : Int) (hw : D.wait.length ≤ 1000) :
    Calls Try.prog 32 #[.pointer (some ⟨r, 0, none⟩), .int .i64 i] W fun e w' => ∃ v, e = .returned (.tuple #[v, .int .i64 (D.read i).2]) ∧ Str w' v (D.read i).1 ∧ Below W.heap.size W w' := by
  by_cases hr : D.reach i = 0
  · have hh : D.off = false ∧ 0 ≤ i ∧ i < D.secs.length := by
      unfold Dk.reach at hr
      split at hr
      · omega
      · split at hr
        · exact ⟨by simpa using ‹¬ D.off = true›, by assumption⟩
        · omega
    obtain ⟨k, rfl⟩ : ∃ k : Nat, i = (k : Int) := ⟨i.toNat, by omega⟩
    have hk : k < D.secs.length := by omega
    rw [show D.read k = (latest D.secs D.wait k, 0) by unfold Dk.read; rw [if_pos hr]; simp]
    refine (rread32_yes h k hk hw hh.1).mono ?_
    rintro e w' ⟨v, h1, h2, h3⟩
    exact ⟨v, h1, Str.of_row h2 (latest_length h.ok k hk), h3⟩
  · rw [show D.read i = ([], D.reach i) by unfold Dk.read; rw [if_neg hr]]
    refine (rread32_no h i hr).mono ?_
    rintro e w' ⟨h1, rfl⟩
    exact ⟨_, h1, Str.nil _, Below.refl _ _⟩
end Go.Proofs.Ytnganmekiloigaa
