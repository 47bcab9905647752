/- What the walks ask of the world (the tables of utf8, a number in bytealg.MaxLen); word.Right; the reference's Len, Right and Front. -/
import Derived.Test.YtipnaphikbjhbaaDoorRunes
import Derived.Test.YtipnaphikbjhbaaDoorShelf
namespace Go.Proofs.YtipnaphikbjhbaaDoor
open Go.RowKit Go.Lib

structure Good (w : World) : Prop where
  tabs : Lib.Utf8Tabs 1 2 w
  mx : ∃ m, w.cell? ⟨0, 0, none⟩ = some (.int .i64 m)

theorem Good.below {w w' : World} (h : Good w) (b : Below w.heap.size w w') : Good w' :=
  ⟨Utf8Tabs_below h.tabs b, by
    obtain ⟨m, hm⟩ := h.mx
    exact ⟨m, by rw [b.cell (World.block_lt_of_cell? _ _ hm)]; exact hm⟩⟩

theorem bmore {w w1 w2 : World} (h : Below w.heap.size w w1) (k : Below w1.heap.size w1 w2) : Below w.heap.size w w2 := h.trans (k.mono h.size)

theorem decodeGo_rest {s : ByteArray} {pos : Nat} (h : pos < s.size) : Lib.decodeGo (s.extract pos s.size) = Utf8.decode s pos := by
  have hz : (s.extract pos s.size).size ≠ 0 := by rw [ByteArray.size_extract]; omega
  unfold Lib.decodeGo
  rw [if_neg hz]
  conv => rhs; rw [← rest_decode]
  rw [ext_take, List.take_of_length_le (by rw [bs_length]; exact Nat.le_refl _)]
  rfl

theorem rightR_many {l : Bs} (h : 8 < lenR l) : rightR l = false := by
  have : decide (lenR l ≤ 8) = false := decide_eq_false (by omega)
  simp [rightR, this]
theorem rightR_bad {l : Bs} (h : okRunes l = false) : rightR l = false := by
  rw [ok_runes_bytes _ l (Nat.le_refl _)] at h
  simp [rightR, h]
theorem rightR_else {l : Bs} (h1 : lenR l ≤ 8) (h2 : okRunes l = true) : rightR l = validD l := by
  rw [ok_runes_bytes _ l (Nat.le_refl _)] at h2
  simp [rightR, h1, h2]

set_option maxRecDepth 100000 in
set_option maxHeartbeats 2000000 in
theorem len18 (s : ByteArray) (w : World) (hs : s.size < 4611686018427387904) (hg : Good w) :
    Calls Tryd.prog 78 #[.string s] w fun e w' => e = .returned (.int .i64 (lenR (bs s) : Nat)) ∧ Below w.heap.size w w' := by
  go_enter Tryd.func78, Tryd.ntmps78
  go_wp2
  go_loopw [3, 4] (fun n i w' => ∃ (pos k : Nat), Below w.heap.size w w' ∧ i = .int .i64 (pos : Int) ∧ n = .int .i64 (k : Int) ∧ k ≤ pos ∧ pos ≤ s.size ∧ lenR (bs s) = k + lenR ((bs s).drop pos)) (fun _ i _ => s.size - (Lib.intOf i).toNat)
  case atStart => exact ⟨0, 0, Below.refl _ _, rfl, rfl, Nat.le_refl _, Nat.zero_le _, by simp⟩
  case round =>
    obtain ⟨pos, k, hb, rfl, rfl, hk, hps, hc⟩ := hrel
    by_cases hp : pos < s.size
    · have hpz : (pos : Int) < (s.size : Int) := by omega
      have hwd := width_pos s pos
      have hwl := rest_width hp
      have hst := lenR_step (rest_ne hp)
      rw [rest_decode, rest_next] at hst
      have hv := Tryd.utf8_DecodeRuneInString (s.extract pos s.size) wr (hg.below hb).tabs
      rw [decodeGo_rest hp] at hv
      obtain ⟨wd, hw⟩ : ∃ k, (Utf8.decode s pos).2 = k := ⟨_, rfl⟩
      rw [hw] at hwd hwl hst hv
      clear hw
      rw [hst] at hc
      clear hst
      have hadd : wrap64 ((k : Int) + 1) = (k : Int) + 1 := by rw [IntWalk.wrap64_in _ ⟨by omega, by omega⟩]
      have hadd2 : wrap64 ((pos : Int) + (wd : Int)) = (pos : Int) + (wd : Int) := by rw [IntWalk.wrap64_in _ ⟨by omega, by omega⟩]
      go_wp2_with (go_at_call 83; refine hv.mono ?_; rintro e w2 ⟨rfl, hb2⟩)
      go_roundw
      case rel => exact ⟨pos + wd, k + 1, bmore hb hb2, by simp, by simp, by omega, by omega, by omega⟩
      case measure =>
        simp [Lib.intOf]
        omega
    · have hpz : ¬ ((pos : Int) < (s.size : Int)) := by omega
      rw [rest_nil hp, lenR_nil, Nat.add_zero] at hc
      go_wp2
      go_ret
      exact ⟨by first | rfl | (rw [hc]; rfl), hb⟩

end Go.Proofs.YtipnaphikbjhbaaDoor
