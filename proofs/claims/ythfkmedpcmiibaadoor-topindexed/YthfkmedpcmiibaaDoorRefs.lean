/- What the walks ask of the world (the tables of utf8, a number in bytealg.MaxLen); word.Right; the reference's Len, Right and Front. -/
import Derived.Test.YthfkmedpcmiibaaDoorRunes
import Derived.Test.YthfkmedpcmiibaaDoorShelf
namespace Go.Proofs.YthfkmedpcmiibaaDoor
open Go.RowKit Go.Lib

structure Good (w : World) : Prop where
  tabs : Lib.Utf8Tabs 0 1 w

theorem Good.below {w w' : World} (h : Good w) (b : Below w.heap.size w w') : Good w' := ⟨Utf8Tabs_below h.tabs b⟩

theorem bmore {w w1 w2 : World} (h : Below w.heap.size w w1) (k : Below w1.heap.size w1 w2) : Below w.heap.size w w2 := h.trans (k.mono h.size)

theorem decodeGo_rest {s : ByteArray} {pos : Nat} (h : pos < s.size) : Lib.decodeGo (s.extract pos s.size) = Utf8.decode s pos := by
  have hz : (s.extract pos s.size).size ≠ 0 := by rw [ByteArray.size_extract]; omega
  unfold Lib.decodeGo
  rw [if_neg hz]
  conv => rhs; rw [← rest_decode]
  rw [ext_take, List.take_of_length_le (by rw [bs_length]; exact Nat.le_refl _)]
  rfl

theorem rightR_many {l : Bs} (h : 8 < lenR l) : rightR l = false := by
  have : decide (lenR l ≤ 8) = false := decide_eq_false (by omega)
  simp [rightR, this]
theorem rightR_bad {l : Bs} (h : okRunes l = false) : rightR l = false := by
  rw [ok_runes_bytes _ l (Nat.le_refl _)] at h
  simp [rightR, h]
theorem rightR_else {l : Bs} (h1 : lenR l ≤ 8) (h2 : okRunes l = true) : rightR l = validD l := by
  rw [ok_runes_bytes _ l (Nat.le_refl _)] at h2
  simp [rightR, h1, h2]

set_option maxRecDepth 100000 in
set_option maxHeartbeats 2000000 in
theorem right11 (s : ByteArray) (w : World) (hs : s.size < 4611686018427387904) (hg : Good w) :
    Calls Tryd.prog 46 #[.string s] w fun e w' => e = .returned (.bool (rightR (bs s))) ∧ Below w.heap.size w w' := by
  go_enter Tryd.func46, Tryd.ntmps46
  go_wp2
  go_loopw [3] (fun n w' => ∃ (pos k : Nat), w' = w.iter s pos ∧ n = .int .i64 (k : Int) ∧ k ≤ pos ∧ k ≤ 8 ∧ pos ≤ s.size ∧ lenR (bs s) = k + lenR ((bs s).drop pos) ∧ okRunes (bs s) = okRunes ((bs s).drop pos)) (fun _ w' => s.size - w'.iterPos w.heap.size)
  case atStart => exact ⟨0, 0, rfl, rfl, Nat.le_refl _, Nat.zero_le _, Nat.zero_le _, by simp, by simp⟩
  case round =>
    obtain ⟨pos, k, rfl, rfl, hk, hk8, hps, hc, ho⟩ := hrel
    by_cases hp : pos < s.size
    · have hnx : ∀ ty, (Instr.next (.pointer (some ⟨w.heap.size, 0, none⟩)) true ty).run Tryd.prog (w.iter s pos) = _ := fun ty => run_next_any w s pos ty hp
      have hwd := width_pos s pos
      have hwl := rest_width hp
      have hst := lenR_step (rest_ne hp)
      have hso := okRunes_step (rest_ne hp)
      rw [rest_decode, rest_next] at hst hso
      obtain ⟨r, hr⟩ : ∃ r, (Utf8.decode s pos).1 = r := ⟨_, rfl⟩
      obtain ⟨wd, hw⟩ : ∃ k, (Utf8.decode s pos).2 = k := ⟨_, rfl⟩
      rw [hr, hw] at hnx hso
      rw [hw] at hwd hwl hst
      clear hr hw
      rw [hst] at hc
      rw [hso] at ho
      clear hst hso
      have hadd : wrap64 ((k : Int) + 1) = (k : Int) + 1 := by rw [IntWalk.wrap64_in _ ⟨by omega, by omega⟩]
      by_cases h8 : k = 8
      · have hr := rightR_many (l := bs s) (by omega)
        have h9 : (8 : Int) < (k : Int) + 1 := by omega
        clear hc ho
        go_wp2
        go_ret
        exact ⟨by first | rfl | (rw [hr]; rfl), iter_below w s _⟩
      · have h9 : ¬ ((8 : Int) < (k : Int) + 1) := by omega
        by_cases h32 : r < 32
        · have hz : (r : Int) < 32 := by omega
          have hr := rightR_bad (l := bs s) (by rw [ho]; simp [okRune]; omega)
          clear hc ho
          go_wp2
          go_ret
          exact ⟨by first | rfl | (rw [hr]; rfl), iter_below w s _⟩
        · have hz : ¬ ((r : Int) < 32) := by omega
          by_cases h127 : r = 127
          · have hy : (r : Int) = 127 := by omega
            have hr := rightR_bad (l := bs s) (by rw [ho]; simp [okRune]; omega)
            clear hc ho
            go_wp2
            go_ret
            exact ⟨by first | rfl | (rw [hr]; rfl), iter_below w s _⟩
          · have hy : ¬ ((r : Int) = 127) := by omega
            have hor : okRune r = true := by simp [okRune]; omega
            rw [hor, Bool.true_and] at ho
            go_wp2
            go_roundw
            case rel => exact ⟨pos + wd, k + 1, rfl, by simp, by omega, by omega, by omega, by omega, ho⟩
            case measure =>
              simp
              omega
    · have hnx : ∀ ty, (Instr.next (.pointer (some ⟨w.heap.size, 0, none⟩)) true ty).run Tryd.prog (w.iter s pos) = _ := fun ty => run_next_end w s pos ty hp
      rw [rest_nil hp, lenR_nil] at hc
      rw [rest_nil hp, okRunes_nil] at ho
      have hr := rightR_else (l := bs s) (by omega) ho
      clear hc ho
      have hv := Tryd.utf8_ValidString s (w.iter s pos) (by omega) (hg.below (iter_below w s pos)).tabs
      go_wp2_with (go_at_call 62; refine hv.mono ?_; rintro e w' ⟨rfl, hb⟩)
      go_ret
      exact ⟨by rw [hr]; rfl, bmore (iter_below w s pos) hb⟩

end Go.Proofs.YthfkmedpcmiibaaDoor
