/- The reference's Unquote. -/
import Derived.Test.YtipnaphikbjhbaaDoorBytes
namespace Go.Proofs.YtipnaphikbjhbaaDoor
open Go.RowKit Go.Lib

theorem BRow.below {B : Nat} {v : Value} {l : Bs} {w w' : World} (h : BRow B v l w) (hb : Below w.heap.size w w') : BRow B v l w' := by
  obtain ⟨h1, h2 | ⟨g, cap, cur, rfl, hBg, hw, hn, hcap, hsz, htk⟩⟩ := h
  · exact ⟨h1, .inl h2⟩
  · refine ⟨h1, .inr ⟨g, cap, cur, rfl, hBg, ?_, hn, hcap, hsz, htk⟩⟩
    have hg : g < w.heap.size := (Array.getElem?_eq_some_iff.1 hw).1
    rw [hb.block g hg]; exact hw

/-- What the scan byte by byte knows at place pos, with the text p so far. -/
def Sp (t R p : Bs) (pos : Nat) : Prop := scan t = (scan R).map fun x => (p ++ x.1, x.2 + (pos - 1))
theorem sp_start (t : Bs) : Sp t t [] 1 := by unfold Sp; cases h : scan t <;> simp
theorem sp_plain {t R p : Bs} {b : UInt8} {pos : Nat} (hb : b ≠ 39) (h1 : 1 ≤ pos) (h : Sp t (b :: R) p pos) : Sp t R (p ++ [b]) (pos + 1) := by
  unfold Sp at h ⊢
  rw [h, show b :: R = [b] ++ R from rfl, scan_plain [b] R (by simpa using hb)]
  cases h : scan R <;> simp
  omega
theorem sp_pair {t R p : Bs} {pos : Nat} (h1 : 1 ≤ pos) (h : Sp t (39 :: 39 :: R) p pos) : Sp t R (p ++ [39]) (pos + 1 + 1) := by
  unfold Sp at h ⊢
  rw [h]
  simp only [scan, if_true]
  cases h : scan R <;> simp
  omega
theorem sp_shut {t R p : Bs} {pos : Nat} (hR : R.head? ≠ some 39) (h : Sp t (39 :: R) p pos) : scan t = some (p, pos - 1) := by
  unfold Sp at h
  rw [h]
  cases R with
  | nil => simp [scan]
  | cons c u =>
    have hc : c ≠ 39 := fun e => hR (by simp [e])
    simp [scan, hc]
theorem sp_end {t p : Bs} {pos : Nat} (h : Sp t [] p pos) : scan t = none := by
  unfold Sp at h
  rw [h]; simp [scan]

set_option maxRecDepth 100000 in
set_option maxHeartbeats 4000000 in
theorem unquote28 (s : ByteArray) (w : World) (hs : s.size ≤ 100000) (hg : Good w) :
    Calls Tryd.prog 65 #[.string s] w fun e w' => e = .returned (.tuple #[.string (str (unq (bs s)).1), .int .i64 ((unq (bs s)).2.1 : Nat), .int .i64 ((unq (bs s)).2.2 : Nat)]) ∧ Below w.heap.size w w' := by
  by_cases h0 : s.size = 0
  · have hnil : bs s = [] := List.eq_nil_of_length_eq_zero h0
    rw [hnil]
    go_enter Tryd.func65, Tryd.ntmps65
    go_wp2
    go_ret3
    exact ⟨rfl, Below.refl _ _⟩
  · have hp0 : 0 < s.size := by omega
    have hz0 : ¬ ((s.size : Int) = 0) := by omega
    have hz1 : ((s.size : Int) == 0) = false := by simpa using hz0
    have hcons := rest_cons hp0
    rw [List.drop_zero] at hcons
    obtain ⟨b0, hb0⟩ : ∃ b, s[0]'hp0 = b := ⟨_, rfl⟩
    rw [hb0] at hcons
    by_cases h39 : b0 = 39
    · subst h39
      obtain ⟨t, ht⟩ : ∃ t, (bs s).drop (0 + 1) = t := ⟨_, rfl⟩
      rw [ht] at hcons
      have HC : Hid (bs s = 39 :: t) := hcons
      have HT : Hid ((bs s).drop 1 = t) := ht
      clear hcons ht
      obtain ⟨B, hBw⟩ : ∃ B, w.heap.size = B := ⟨_, rfl⟩
      rw [hBw]
      go_enter Tryd.func65, Tryd.ntmps65
      go_wp2
      go_loopw [5, 6] (fun v i wr => ∃ (pos : Nat) (p : Bs), 1 ≤ pos ∧ pos ≤ s.size ∧ p.length ≤ pos ∧ i = .int .i64 (pos : Int) ∧ BRow B v p wr ∧ Below B w wr ∧ Sp t ((bs s).drop pos) p pos) (fun _ i _ => s.size - (Lib.intOf i).toNat)
      case atStart => exact ⟨1, [], Nat.le_refl _, hp0, Nat.zero_le _, rfl, BRow.none _ _, Below.refl _ _, by rw [show (bs s).drop 1 = t from HT]; exact sp_start t⟩
      case round =>
        obtain ⟨pos, p, h1, hps, hpl, rfl, hown, hb, hsp⟩ := hrel
        have hB : B ≤ wr.heap.size := by have := hb.size; omega
        by_cases hp : pos < s.size
        · have hpz : (pos : Int) < (s.size : Int) := by omega
          have hc := rest_cons hp
          obtain ⟨b, hbb⟩ : ∃ b, s[pos]'hp = b := ⟨_, rfl⟩
          rw [hbb] at hc
          rw [hc] at hsp
          have hadd : wrap64 ((pos : Int) + 1) = (pos : Int) + 1 := by rw [IntWalk.wrap64_in _ ⟨by omega, by omega⟩]
          by_cases h39 : b = 39
          · subst h39
            by_cases hq : pos + 1 < s.size
            · have hqz : (pos : Int) + 1 < (s.size : Int) := by omega
              have hc2 := rest_cons hq
              obtain ⟨c, hcc⟩ : ∃ b, s[pos + 1]'hq = b := ⟨_, rfl⟩
              rw [hcc] at hc2
              rw [hc2] at hsp
              by_cases hc39 : c = 39
              · subst hc39
                have hn := sp_pair h1 hsp
                clear hsp hc hc2
                have hadd2 : wrap64 ((pos : Int) + 1 + 1) = (pos : Int) + 1 + 1 := by rw [IntWalk.wrap64_in _ ⟨by omega, by omega⟩]
                go_wp2_with (at_builtin; refine push_own rfl (.tmp 43) (.tmp 47) rfl B _ p 39 rfl (hown.alloc _) ⟨wr.heap.size, 0, none⟩ rfl (by simp) (by omega) (by simp; omega) ?_; intro v' w1 hown' hgrow)
                have R := push_below hb hown hgrow hB
                clear hgrow hown hb
                go_wp2
                go_roundw
                case rel => exact ⟨pos + 1 + 1, p ++ [39], by omega, by omega, by simp; omega, by simp, hown', R, hn⟩
                case measure =>
                  simp [Lib.intOf]
                  omega
              · have hcne : ¬ ((c.toNat : Int) = 39) := by
                  intro e
                  exact hc39 (UInt8.toNat_inj.1 (by show c.toNat = 39; omega))
                have hsc := sp_shut (by simp; exact hc39) hsp
                have hcv := conv_own hown
                have c12 := right12 (str p) wr (by rw [str_size]; omega) (hg.below (hBw ▸ hb))
                rw [bs_str] at c12
                clear hsp hc hc2
                cases hV : rightR p
                · rw [hV] at c12
                  have hu : unq (bs s) = ([], 0, 3) := by
                    rw [show bs s = 39 :: t from HC, unq_mark, hsc]; simp [hV]
                  go_wp2_with (go_at_call 71; refine c12.mono ?_; rintro e w2 ⟨rfl, hb2⟩)
                  go_ret3
                  exact ⟨by first | rfl | (rw [hu]; rfl), hb.trans (hb2.mono hB)⟩
                · rw [hV] at c12
                  have hu : unq (bs s) = (p, pos + 1, 0) := by
                    rw [show bs s = 39 :: t from HC, unq_mark, hsc]; simp [hV]; omega
                  go_wp2_with (go_at_call 71; refine c12.mono ?_; rintro e w2 ⟨rfl, hb2⟩; have hcv2 := conv_own (hown.below hb2))
                  go_ret3
                  exact ⟨by first | rfl | (rw [hu]; rfl), hb.trans (hb2.mono hB)⟩
            · have hqz : ¬ ((pos : Int) + 1 < (s.size : Int)) := by omega
              have hsc := sp_shut (by rw [rest_nil hq]; simp) hsp
              have hcv := conv_own hown
              have c12 := right12 (str p) wr (by rw [str_size]; omega) (hg.below (hBw ▸ hb))
              rw [bs_str] at c12
              clear hsp hc
              cases hV : rightR p
              · rw [hV] at c12
                have hu : unq (bs s) = ([], 0, 3) := by
                  rw [show bs s = 39 :: t from HC, unq_mark, hsc]; simp [hV]
                go_wp2_with (go_at_call 71; refine c12.mono ?_; rintro e w2 ⟨rfl, hb2⟩)
                go_ret3
                exact ⟨by first | rfl | (rw [hu]; rfl), hb.trans (hb2.mono hB)⟩
              · rw [hV] at c12
                have hu : unq (bs s) = (p, pos + 1, 0) := by
                  rw [show bs s = 39 :: t from HC, unq_mark, hsc]; simp [hV]; omega
                go_wp2_with (go_at_call 71; refine c12.mono ?_; rintro e w2 ⟨rfl, hb2⟩; have hcv2 := conv_own (hown.below hb2))
                go_ret3
                exact ⟨by first | rfl | (rw [hu]; rfl), hb.trans (hb2.mono hB)⟩
          · have hne : ¬ ((b.toNat : Int) = 39) := by
              intro e
              exact h39 (UInt8.toNat_inj.1 (by show b.toNat = 39; omega))
            have hn := sp_plain h39 h1 hsp
            clear hsp hc
            go_wp2_with (at_builtin; refine push_own rfl (.tmp 25) (.tmp 29) rfl B _ p b rfl (hown.alloc _) ⟨wr.heap.size, 0, none⟩ rfl (by simp) (by omega) (by simp; omega) ?_; intro v' w1 hown' hgrow)
            have R := push_below hb hown hgrow hB
            clear hgrow hown hb
            go_wp2
            go_roundw
            case rel => exact ⟨pos + 1, p ++ [b], by omega, by omega, by simp; omega, by simp, hown', R, hn⟩
            case measure =>
              simp [Lib.intOf]
              omega
        · have hpz : ¬ ((pos : Int) < (s.size : Int)) := by omega
          rw [rest_nil hp] at hsp
          have hu : unq (bs s) = ([], s.size, 8) := by
            rw [show bs s = 39 :: t from HC, unq_mark, sp_end hsp, ← show bs s = 39 :: t from HC]; rfl
          clear hsp
          go_wp2
          go_ret3
          exact ⟨by first | rfl | (rw [hu]; rfl), hb⟩
    · have hne : ¬ ((b0.toNat : Int) = 39) := by
        intro e
        exact h39 (UInt8.toNat_inj.1 (by show b0.toNat = 39; omega))
      have hne2 : ((b0.toNat : Int) != 39) = true := by simpa using hne
      rw [hcons, unq_other h39]
      clear hcons
      go_enter Tryd.func65, Tryd.ntmps65
      go_wp2
      go_ret3
      exact ⟨rfl, Below.refl _ _⟩

end Go.Proofs.YtipnaphikbjhbaaDoor
