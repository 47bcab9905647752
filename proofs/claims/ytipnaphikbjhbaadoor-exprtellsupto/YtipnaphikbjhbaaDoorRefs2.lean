/- The reference's Right and Front. -/
import Derived.Test.YtipnaphikbjhbaaDoorRefs
namespace Go.Proofs.YtipnaphikbjhbaaDoor
open Go.RowKit Go.Lib

theorem okBytes_step {s : ByteArray} {pos : Nat} (h : pos < s.size) : okBytes ((bs s).drop pos) = (okByte (s[pos]'h) && okBytes ((bs s).drop (pos + 1))) := by
  rw [rest_cons h]; rfl
theorem rightR_byte {l : Bs} (h : okBytes l = false) : rightR l = false := by simp [rightR, h]
theorem rightR_inv {l : Bs} (h : validD l = false) : rightR l = false := by simp [rightR, h]
theorem rightR_all {l : Bs} (h1 : validD l = true) (h2 : lenR l ≤ 8) (h3 : okBytes l = true) : rightR l = true := by simp [rightR, h1, h2, h3]

set_option maxRecDepth 100000 in
set_option maxHeartbeats 2000000 in
theorem right12 (s : ByteArray) (w : World) (hs : s.size < 4611686018427387904) (hg : Good w) :
    Calls Tryd.prog 71 #[.string s] w fun e w' => e = .returned (.bool (rightR (bs s))) ∧ Below w.heap.size w w' := by
  have c29 := Tryd.utf8_ValidString s w (by omega) hg.tabs
  cases hV : validD (bs s)
  · have hr := rightR_inv hV
    rw [show Lib.validD s.data.toList = false from hV] at c29
    go_enter Tryd.func71, Tryd.ntmps71
    go_wp2_with (go_at_call 77; refine c29.mono ?_; rintro e w1 ⟨rfl, hb⟩)
    go_ret
    exact ⟨by first | rfl | (rw [hr]; rfl), hb⟩
  · rw [show Lib.validD s.data.toList = true from hV] at c29
    obtain ⟨L, hL⟩ : ∃ L, lenR (bs s) = L := ⟨_, rfl⟩
    have c18 : ∀ w1, Good w1 → Calls Tryd.prog 78 #[.string s] w1 fun e w' => e = .returned (.int .i64 (L : Int)) ∧ Below w1.heap.size w1 w' := fun w1 h => by rw [← hL]; exact len18 s w1 hs h
    by_cases h8 : 8 < L
    · have hz : (8 : Int) < (L : Int) := by omega
      have hr := rightR_many (l := bs s) (by omega)
      go_enter Tryd.func71, Tryd.ntmps71
      go_wp2_with (first
        | (go_at_call 77; refine c29.mono ?_; rintro e w1 ⟨rfl, hb⟩)
        | (go_at_call 78; refine (c18 _ (hg.below hb)).mono ?_; rintro e w2 ⟨rfl, hb2⟩))
      go_ret
      exact ⟨by first | rfl | (rw [hr]; rfl), bmore hb hb2⟩
    · have hz : ¬ ((8 : Int) < (L : Int)) := by omega
      go_enter Tryd.func71, Tryd.ntmps71
      go_wp2_with (first
        | (go_at_call 77; refine c29.mono ?_; rintro e w1 ⟨rfl, hb⟩)
        | (go_at_call 78; refine (c18 _ (hg.below hb)).mono ?_; rintro e w2 ⟨rfl, hb2⟩))
      have hB := bmore hb hb2
      clear c18 c29 hb hb2 hg
      go_loopw [3] (fun i w' => ∃ pos : Nat, w' = w2 ∧ i = .int .i64 (pos : Int) ∧ pos ≤ s.size ∧ okBytes (bs s) = okBytes ((bs s).drop pos)) (fun i _ => s.size - (Lib.intOf i).toNat)
      case atStart => exact ⟨0, rfl, rfl, Nat.zero_le _, by simp⟩
      case round =>
        obtain ⟨pos, rfl, rfl, hps, ho⟩ := hrel
        by_cases hp : pos < s.size
        · have hpz : (pos : Int) < (s.size : Int) := by omega
          have hso := okBytes_step hp
          rw [hso] at ho
          obtain ⟨b, hb⟩ : ∃ b, s[pos]'hp = b := ⟨_, rfl⟩
          rw [hb] at ho
          clear hso
          by_cases h32 : b.toNat < 32
          · have hz2 : (b.toNat : Int) < 32 := by omega
            have hr := rightR_byte (l := bs s) (by rw [ho]; simp [okByte]; omega)
            clear ho
            go_wp2
            go_ret
            exact ⟨by first | rfl | (rw [hr]; rfl), hB⟩
          · have hz2 : ¬ ((b.toNat : Int) < 32) := by omega
            by_cases h127 : b.toNat = 127
            · have hy : (b.toNat : Int) = 127 := by omega
              have hr := rightR_byte (l := bs s) (by rw [ho]; simp [okByte]; omega)
              clear ho
              go_wp2
              go_ret
              exact ⟨by first | rfl | (rw [hr]; rfl), hB⟩
            · have hy : ¬ ((b.toNat : Int) = 127) := by omega
              have hob : okByte b = true := by simp [okByte]; omega
              rw [hob, Bool.true_and] at ho
              have hadd : wrap64 ((pos : Int) + 1) = (pos : Int) + 1 := by rw [IntWalk.wrap64_in _ ⟨by omega, by omega⟩]
              go_wp2
              go_roundw
              case rel => exact ⟨pos + 1, by trivial, by simp, by omega, ho⟩
              case measure =>
                simp [Lib.intOf]
                omega
        · have hpz : ¬ ((pos : Int) < (s.size : Int)) := by omega
          rw [rest_nil hp] at ho
          have hr := rightR_all hV (by omega) (ho.trans rfl)
          clear ho
          go_wp2
          go_ret
          exact ⟨by first | rfl | (rw [hr]; rfl), hB⟩

end Go.Proofs.YtipnaphikbjhbaaDoor
