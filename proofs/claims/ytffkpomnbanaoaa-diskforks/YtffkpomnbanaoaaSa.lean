/- same: both disks tell the same. -/
import Derived.Test.YtffkpomnbanaoaaRr
namespace Go.Proofs.Ytffkpomnbanaoaa
open Go.RowKit
set_option maxRecDepth 100000
variable {W : World} {B0 d s r : Nat} {wv lv xv : Value} {D : Dk}

theorem rread32_no (h : RD W r lv xv D) (i : Int) (hr : D.reach i ≠ 0) :
    Calls Try.prog 32 #[.pointer (some ⟨r, 0, none⟩), .int .i64 i] W fun e w' => e = .returned (.tuple #[.slice none 0 0, .int .i64 (D.reach i)]) ∧ w' = W := by
  obtain ⟨L, hx, hL⟩ := h.dx
  obtain ⟨lg, lc, rfl, _⟩ := h.secs
  have x0 := hx.c0
  have x4 := hx.c4
  unfold Dk.reach at hr ⊢
  clear hx hL h
  cases ho : D.off
  · rw [ho] at x4 hr
    simp only [Bool.false_eq_true, if_false] at hr ⊢
    have hi : ¬ (0 ≤ i ∧ i < (D.secs.length : Int)) := fun h => hr (if_pos h)
    rw [if_neg hi]
    clear hr
    generalize D.secs.length = S at *
    by_cases h0 : i < 0
    · go_enter Try.func32, Try.ntmps32
      go_wp2
      go_ret2
      exact ⟨rfl, rfl⟩
    · have h1 : (S : Int) ≤ i := by omega
      go_enter Try.func32, Try.ntmps32
      go_wp2
      go_ret2
      exact ⟨rfl, rfl⟩
  · rw [ho] at x4
    simp only [if_true]
    go_enter Try.func32, Try.ntmps32
    go_wp2
    go_ret2
    exact ⟨rfl, rfl⟩

/-- The bytes behind v, as a string, in every world that has v's block as W' has it. -/
def Str (W' : World) (v : Value) (l : Bs) : Prop := (∀ w : World, (∀ k, v.ownBlock = some k → w.heap[k]? = W'.heap[k]?) → (convert 33 9 v).run Try.prog w = .ok (.string (strB l)) w) ∧ ∀ k, v.ownBlock = some k → k < W'.heap.size
theorem Str.nil (w : World) : Str w (.slice none 0 0) [] := ⟨fun w' _ => run_convert_bytes_nil w' 33 5 Try.underlying33 Try.underlying5 0 0 9 Try.underlying9, fun k e => by cases e⟩
theorem Str.below {w w' : World} {v : Value} {l : Bs} (h : Str w v l) (hB : Below w.heap.size w w') : Str w' v l := ⟨fun w2 h2 => h.1 w2 (fun k e => (h2 k e).trans (hB.block k (h.2 k e))), fun k e => Nat.lt_of_lt_of_le (h.2 k e) hB.size⟩
theorem Str.of_got {w w' : World} {v : Value} {l : Bs} (h : Got w v l w') : Str w' v l := by
  rcases h with ⟨rfl, rfl⟩ | ⟨g, rfl, h1, h2, _⟩
  · exact Str.nil _
  · exact ⟨fun w2 hk => conv64 (h2.block (hk g rfl)) h1, fun k e => by simp only [Value.ownBlock, Option.some.injEq] at e; subst e; exact h2.lt⟩
theorem Str.of_row {w : World} {B : Nat} {v : Value} {l : Bs} (h : w.ownsRow B 5 1 v 64 (cellsB l)) (hl : l.length = 64) : Str w v l := by
  obtain ⟨g, c, rfl⟩ : ∃ g c, v = .slice (some ⟨g, 0, none⟩) 64 c := by
    rcases h.2 with ⟨_, h2⟩ | ⟨gw, capw, cur, e, _⟩
    · omega
    · exact ⟨gw, capw, e⟩
  refine ⟨fun w2 hk => ?_, fun k e => (World.ownsRow.lt h k e).2⟩
  rw [← strOf_eq]
  refine run_convert_bytes_arg w2 33 5 Try.underlying33 Try.underlying5 g 0 64 c _ (by simp [hl]) ?_ 9 Try.underlying9
  intro i hi
  rw [Nat.zero_add, World.cell?_of_block (a := ⟨g, i, none⟩) (hk g rfl), World.ownsRow.cellAt h i (by omega), cellsB_get l i (by omega)]
  simp [show i < l.length by omega]

theorem pread (h : PD W d s wv D) (i : Int) (hw : D.wait.length ≤ 1000) :
    Calls Try.prog 19 #[.pointer (some ⟨d, 0, none⟩), .int .i64 i] W fun e w' => ∃ v, e = .returned (.tuple #[v, .int .i64 (D.read i).2]) ∧ Str w' v (D.read i).1 ∧ Below W.heap.size W w' := by
  refine (read19 h i (by omega)).mono ?_
  rintro e w' ⟨v, h1, h2, h3⟩
  exact ⟨v, h1, Str.of_got h2, h3⟩
theorem rread (h : RD W r lv xv D) (i : Int) (hw : D.wait.length ≤ 1000) :
    Calls Try.prog 32 #[.pointer (some ⟨r, 0, none⟩), .int .i64 i] W fun e w' => ∃ v, e = .returned (.tuple #[v, .int .i64 (D.read i).2]) ∧ Str w' v (D.read i).1 ∧ Below W.heap.size W w' := by
  by_cases hr : D.reach i = 0
  · have hh : D.off = false ∧ 0 ≤ i ∧ i < D.secs.length := by
      unfold Dk.reach at hr
      split at hr
      · omega
      · split at hr
        · exact ⟨by simpa using ‹¬ D.off = true›, by assumption⟩
        · omega
    obtain ⟨k, rfl⟩ : ∃ k : Nat, i = (k : Int) := ⟨i.toNat, by omega⟩
    have hk : k < D.secs.length := by omega
    rw [show D.read k = (latest D.secs D.wait k, 0) by unfold Dk.read; rw [if_pos hr]; simp]
    refine (rread32_yes h k hk hw hh.1).mono ?_
    rintro e w' ⟨v, h1, h2, h3⟩
    exact ⟨v, h1, Str.of_row h2 (latest_length h.ok k hk), h3⟩
  · rw [show D.read i = ([], D.reach i) by unfold Dk.read; rw [if_neg hr]]
    refine (rread32_no h i hr).mono ?_
    rintro e w' ⟨h1, rfl⟩
    exact ⟨_, h1, Str.nil _, Below.refl _ _⟩

set_option maxHeartbeats 1000000 in
theorem same17 (h : Both B0 W d s wv r lv xv D) (hS : D.secs.length ≤ 1000) (hw : D.wait.length ≤ 1000) :
    Calls Try.prog 17 #[.pointer (some ⟨d, 0, none⟩), .pointer (some ⟨r, 0, none⟩)] W fun e w' => e = .returned (.bool true) ∧ Below W.heap.size W w' := by
  have H : Hid (∀ w, Below W.heap.size W w → PD w d s wv D ∧ RD w r lv xv D) := fun w hB => ⟨h.pd.below hB, h.rd.below hB⟩
  have H19 : Hid (∀ w i, Below W.heap.size W w → Calls Try.prog 19 #[.pointer (some ⟨d, 0, none⟩), .int .i64 i] w fun e w' => ∃ v, e = .returned (.tuple #[v, .int .i64 (D.read i).2]) ∧ Str w' v (D.read i).1 ∧ Below w.heap.size w w') := fun w i hB => pread (H.out w hB).1 i hw
  have H32 : Hid (∀ w i, Below W.heap.size W w → Calls Try.prog 32 #[.pointer (some ⟨r, 0, none⟩), .int .i64 i] w fun e w' => ∃ v, e = .returned (.tuple #[v, .int .i64 (D.read i).2]) ∧ Str w' v (D.read i).1 ∧ Below w.heap.size w w') := fun w i hB => rread (H.out w hB).2 i hw
  have H28 : Hid (∀ w, Below W.heap.size W w → Calls Try.prog 28 #[.pointer (some ⟨d, 0, none⟩)] w fun e w' => e = .returned (.int .i64 (D.secs.length : Int)) ∧ w' = w) := fun w hB => size28 (H.out w hB).1
  have H50 : Hid (∀ w, Below W.heap.size W w → Calls Try.prog 50 #[.pointer (some ⟨r, 0, none⟩)] w fun e w' => e = .returned (.int .i64 (D.secs.length : Int)) ∧ w' = w) := fun w hB => rsize50 (H.out w hB).2
  have H20 : Hid (∀ w, Below W.heap.size W w → Calls Try.prog 20 #[.pointer (some ⟨d, 0, none⟩)] w fun e w' => e = .returned (.bool D.off) ∧ w' = w) := fun w hB => off20 (H.out w hB).1
  have H51 : Hid (∀ w, Below W.heap.size W w → Calls Try.prog 51 #[.pointer (some ⟨r, 0, none⟩)] w fun e w' => e = .returned (.bool D.off) ∧ w' = w) := fun w hB => roff51 (H.out w hB).2
  have H21 : Hid (∀ w, Below W.heap.size W w → Calls Try.prog 21 #[.pointer (some ⟨d, 0, none⟩)] w fun e w' => e = .returned (.int .i64 (D.wait.length : Int)) ∧ w' = w) := fun w hB => waiting21 (H.out w hB).1
  have H52 : Hid (∀ w, Below W.heap.size W w → Calls Try.prog 52 #[.pointer (some ⟨r, 0, none⟩)] w fun e w' => e = .returned (.int .i64 (D.wait.length : Int)) ∧ w' = w) := fun w hB => rwaiting52 (H.out w hB).2
  clear h H
  generalize D.secs.length = S at *
  generalize D.wait.length = N at *
  generalize D.off = off at *
  obtain ⟨f, hf⟩ : ∃ f : Int → Bs × Int, ∀ i, D.read i = f i := ⟨D.read, fun _ => rfl⟩
  simp only [hf] at H19 H32
  clear hf
  go_enter Try.func17, Try.ntmps17
  go_wp2
  go_loopw [5] (fun p wr => ∃ m : Nat, m ≤ S + 2 ∧ p = .int .i64 ((m : Int) - 1) ∧ Below W.heap.size W wr) (fun p _ => S + 2 - (intOf p + 1).toNat)
  case atStart => exact ⟨0, by omega, rfl, Below.refl _ _⟩
  case round =>
    obtain ⟨m, hm, rfl, hB⟩ := hrel
    have c50 := H50.out wr hB
    by_cases hlt : m < S + 2
    · have hlt1 : (m : Int) - 1 ≤ (S : Int) := by omega
      have c19 := H19.out wr ((m : Int) - 1) hB
      go_wp2_with (first
        | (go_at_call 50; (refine c50.mono ?_; rintro e w1 ⟨rfl, rfl⟩))
        | (go_at_call 19; (refine c19.mono ?_; rintro e w2 ⟨v2, rfl, S2, B2⟩; have F2 := hB.trans (B2.mono hB.size)))
        | (go_at_call 32; (refine (H32.out w2 ((m : Int) - 1) F2).mono ?_; rintro e w3 ⟨v3, rfl, S3, B3⟩; have F3 := F2.trans (B3.mono F2.size); have cv2 := (S2.below B3).1 w3 (fun _ _ => rfl); have cv3 := S3.1 w3 (fun _ _ => rfl))))
      go_roundw
      case rel => exact ⟨m + 1, by omega, by simp, F3⟩
      case measure => simp only [intOf]; omega
    · have hlt1 : ¬ (m : Int) - 1 ≤ (S : Int) := by omega
      have c28 := H28.out wr hB
      have c20 := H20.out wr hB
      have c51 := H51.out wr hB
      have c21 := H21.out wr hB
      have c52 := H52.out wr hB
      go_wp2_with (first
        | (go_at_call 50; (refine c50.mono ?_; rintro e w1 ⟨rfl, rfl⟩))
        | (go_at_call 28; (refine c28.mono ?_; rintro e w1 ⟨rfl, rfl⟩))
        | (go_at_call 20; (refine c20.mono ?_; rintro e w1 ⟨rfl, rfl⟩))
        | (go_at_call 51; (refine c51.mono ?_; rintro e w1 ⟨rfl, rfl⟩))
        | (go_at_call 21; (refine c21.mono ?_; rintro e w1 ⟨rfl, rfl⟩))
        | (go_at_call 52; (refine c52.mono ?_; rintro e w1 ⟨rfl, rfl⟩)))
      go_ret
      exact ⟨rfl, hB⟩
end Go.Proofs.Ytffkpomnbanaoaa
