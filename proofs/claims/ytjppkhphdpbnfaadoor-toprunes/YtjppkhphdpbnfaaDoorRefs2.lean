/- The reference's Right and Front. -/
import Derived.Test.YtjppkhphdpbnfaaDoorRefs
namespace Go.Proofs.YtjppkhphdpbnfaaDoor
open Go.RowKit Go.Lib

theorem okBytes_step {s : ByteArray} {pos : Nat} (h : pos < s.size) : okBytes ((bs s).drop pos) = (okByte (s[pos]'h) && okBytes ((bs s).drop (pos + 1))) := by
  rw [rest_cons h]; rfl
theorem rightR_byte {l : Bs} (h : okBytes l = false) : rightR l = false := by simp [rightR, h]
theorem rightR_inv {l : Bs} (h : validD l = false) : rightR l = false := by simp [rightR, h]
theorem rightR_all {l : Bs} (h1 : validD l = true) (h2 : lenR l ≤ 8) (h3 : okBytes l = true) : rightR l = true := by simp [rightR, h1, h2, h3]

set_option maxRecDepth 100000 in
set_option maxHeartbeats 2000000 in
theorem right12 (s : ByteArray) (w : World) (hs : s.size < 4611686018427387904) (hg : Good w) :
    Calls Tryd.prog 12 #[.string s] w fun e w' => e = .returned (.bool (rightR (bs s))) ∧ Below w.heap.size w w' := by
  have c29 := Tryd.utf8_ValidString s w (by omega) hg.tabs
  cases hV : validD (bs s)
  · have hr := rightR_inv hV
    rw [show Lib.validD s.data.toList = false from hV] at c29
    go_enter Tryd.func12, Tryd.ntmps12
    go_wp2_with (go_at_call 29; refine c29.mono ?_; rintro e w1 ⟨rfl, hb⟩)
    go_ret
    exact ⟨by first | rfl | (rw [hr]; rfl), hb⟩
  · rw [show Lib.validD s.data.toList = true from hV] at c29
    obtain ⟨L, hL⟩ : ∃ L, lenR (bs s) = L := ⟨_, rfl⟩
    have c18 : ∀ w1, Good w1 → Calls Tryd.prog 18 #[.string s] w1 fun e w' => e = .returned (.int .i64 (L : Int)) ∧ Below w1.heap.size w1 w' := fun w1 h => by rw [← hL]; exact len18 s w1 hs h
    by_cases h8 : 8 < L
    · have hz : (8 : Int) < (L : Int) := by omega
      have hr := rightR_many (l := bs s) (by omega)
      go_enter Tryd.func12, Tryd.ntmps12
      go_wp2_with (first
        | (go_at_call 29; refine c29.mono ?_; rintro e w1 ⟨rfl, hb⟩)
        | (go_at_call 18; refine (c18 _ (hg.below hb)).mono ?_; rintro e w2 ⟨rfl, hb2⟩))
      go_ret
      exact ⟨by first | rfl | (rw [hr]; rfl), bmore hb hb2⟩
    · have hz : ¬ ((8 : Int) < (L : Int)) := by omega
      go_enter Tryd.func12, Tryd.ntmps12
      go_wp2_with (first
        | (go_at_call 29; refine c29.mono ?_; rintro e w1 ⟨rfl, hb⟩)
        | (go_at_call 18; refine (c18 _ (hg.below hb)).mono ?_; rintro e w2 ⟨rfl, hb2⟩))
      have hB := bmore hb hb2
      clear c18 c29 hb hb2 hg
      go_loopw [3] (fun i w' => ∃ pos : Nat, w' = w2 ∧ i = .int .i64 (pos : Int) ∧ pos ≤ s.size ∧ okBytes (bs s) = okBytes ((bs s).drop pos)) (fun i _ => s.size - (Lib.intOf i).toNat)
      case atStart => exact ⟨0, rfl, rfl, Nat.zero_le _, by simp⟩
      case round =>
        obtain ⟨pos, rfl, rfl, hps, ho⟩ := hrel
        by_cases hp : pos < s.size
        · have hpz : (pos : Int) < (s.size : Int) := by omega
          have hso := okBytes_step hp
          rw [hso] at ho
          obtain ⟨b, hb⟩ : ∃ b, s[pos]'hp = b := ⟨_, rfl⟩
          rw [hb] at ho
          clear hso
          by_cases h32 : b.toNat < 32
          · have hz2 : (b.toNat : Int) < 32 := by omega
            have hr := rightR_byte (l := bs s) (by rw [ho]; simp [okByte]; omega)
            clear ho
            go_wp2
            go_ret
            exact ⟨by first | rfl | (rw [hr]; rfl), hB⟩
          · have hz2 : ¬ ((b.toNat : Int) < 32) := by omega
            by_cases h127 : b.toNat = 127
            · have hy : (b.toNat : Int) = 127 := by omega
              have hr := rightR_byte (l := bs s) (by rw [ho]; simp [okByte]; omega)
              clear ho
              go_wp2
              go_ret
              exact ⟨by first | rfl | (rw [hr]; rfl), hB⟩
            · have hy : ¬ ((b.toNat : Int) = 127) := by omega
              have hob : okByte b = true := by simp [okByte]; omega
              rw [hob, Bool.true_and] at ho
              have hadd : wrap64 ((pos : Int) + 1) = (pos : Int) + 1 := by rw [IntWalk.wrap64_in _ ⟨by omega, by omega⟩]
              go_wp2
              go_roundw
              case rel => exact ⟨pos + 1, by trivial, by simp, by omega, ho⟩
              case measure =>
                simp [Lib.intOf]
                omega
        · have hpz : ¬ ((pos : Int) < (s.size : Int)) := by omega
          rw [rest_nil hp] at ho
          have hr := rightR_all hV (by omega) (ho.trans rfl)
          clear ho
          go_wp2
          go_ret
          exact ⟨by first | rfl | (rw [hr]; rfl), hB⟩

set_option maxRecDepth 100000 in
set_option maxHeartbeats 2000000 in
theorem front22 (s : ByteArray) (n : Int) (w : World) (hs : s.size < 4611686018427387904) (hg : Good w) :
    Calls Tryd.prog 22 #[.string s, .int .i64 n] w fun e w' => e = .returned (.string ⟨(frontR n.toNat (bs s)).toArray⟩) ∧ Below w.heap.size w w' := by
  obtain ⟨N, hN⟩ : ∃ N, n.toNat = N := ⟨_, rfl⟩
  rw [hN]
  have hlt : ∀ k : Nat, ((k : Int) < n ↔ k < N) := fun k => by omega
  clear hN
  go_enter Tryd.func22, Tryd.ntmps22
  go_wp2
  go_loopw [5, 6] (fun a c w' => ∃ (pos k : Nat), Below w.heap.size w w' ∧ a = .int .i64 (pos : Int) ∧ c = .int .i64 (k : Int) ∧ k ≤ pos ∧ k ≤ N ∧ pos ≤ s.size ∧ frontR N (bs s) = (bs s).take pos ++ frontR (N - k) ((bs s).drop pos)) (fun a _ _ => s.size - (Lib.intOf a).toNat)
  case atStart => exact ⟨0, 0, Below.refl _ _, rfl, rfl, Nat.le_refl _, Nat.zero_le _, Nat.zero_le _, by simp⟩
  case round =>
    obtain ⟨pos, k, hb, rfl, rfl, hk, hkN, hps, hc⟩ := hrel
    have hlk := hlt k
    clear hlt
    by_cases hkn : k = N
    · subst hkn
      have hkz : ¬ ((k : Int) < n) := by omega
      have e0 : frontR k (bs s) = (bs s).take pos := by rw [hc]; simp [frontR]
      clear hc hlk
      have hpz : (pos : Int) ≤ (s.size : Int) := by omega
      go_wp2
      go_ret
      exact ⟨by first | (rw [e0, ext_take]; rfl) | (rw [ext_take]; rfl) | (rw [ext_take]; simp), hb⟩
    · have hkz : (k : Int) < n := by omega
      clear hlk
      by_cases hp : pos < s.size
      · have hpz : (pos : Int) < (s.size : Int) := by omega
        have hwd := width_pos s pos
        have hwl := rest_width hp
        obtain ⟨m, hm⟩ : ∃ m, N - k = m + 1 := ⟨N - k - 1, by omega⟩
        have hst := frontR_step m (rest_ne hp)
        rw [rest_decode, rest_next] at hst
        rw [hm, hst] at hc
        clear hst
        have hv := Tryd.utf8_DecodeRuneInString (s.extract pos s.size) wr (hg.below hb).tabs
        rw [decodeGo_rest hp] at hv
        obtain ⟨wd, hw⟩ : ∃ k, (Utf8.decode s pos).2 = k := ⟨_, rfl⟩
        rw [hw] at hwd hwl hc hv
        clear hw
        have hadd : wrap64 ((k : Int) + 1) = (k : Int) + 1 := by rw [IntWalk.wrap64_in _ ⟨by omega, by omega⟩]
        have hadd2 : wrap64 ((pos : Int) + (wd : Int)) = (pos : Int) + (wd : Int) := by rw [IntWalk.wrap64_in _ ⟨by omega, by omega⟩]
        go_wp2_with (go_at_call 34; refine hv.mono ?_; rintro e w2 ⟨rfl, hb2⟩)
        go_roundw
        case rel =>
          refine ⟨pos + wd, k + 1, bmore hb hb2, by simp, by simp, by omega, by omega, by omega, ?_⟩
          rw [hc, show N - (k + 1) = m by omega, ← List.append_assoc]
          congr 1
          rw [List.take_add]
        case measure =>
          simp [Lib.intOf]
          omega
      · have hpz : ¬ ((pos : Int) < (s.size : Int)) := by omega
        have e0 : frontR N (bs s) = (bs s).take pos := by rw [hc, rest_nil hp, frontR_nil, List.append_nil]
        clear hc
        have hpz2 : (pos : Int) ≤ (s.size : Int) := by omega
        go_wp2
        go_ret
        exact ⟨by first | (rw [e0, ext_take]; rfl) | (rw [ext_take]; rfl) | (rw [ext_take]; simp), hb⟩

end Go.Proofs.YtjppkhphdpbnfaaDoor
