/- The law DiskForks. -/
import Derived.Test.YtffkpomnbanaoaaFm
import Derived.Test.YtffkpomnbanaoaaFn
import Derived.Test.YtffkpomnbanaoaaNo
namespace Go.Proofs.Ytffkpomnbanaoaa
open Go.RowKit
set_option maxRecDepth 100000

def playOn (D : Dk) (l : List Deed) : Dk := l.foldl (fun D x => D.deed x.1 x.2.1 x.2.2.1 x.2.2.2) D
theorem playOn_snoc (D : Dk) (l : List Deed) (x : Deed) : playOn D (l ++ [x]) = (playOn D l).deed x.1 x.2.1 x.2.2.1 x.2.2.2 := by simp [playOn]
theorem playOn_secs : ∀ (l : List Deed) (D : Dk), (playOn D l).secs.length = D.secs.length ∧ (playOn D l).wait.length ≤ D.wait.length + l.length
  | [], D => ⟨rfl, by simp [playOn]⟩
  | x :: l, D => by
    have h1 := playOn_secs l (D.deed x.1 x.2.1 x.2.2.1 x.2.2.2)
    have h2 := deed_secs D x.1 x.2.1 x.2.2.1 x.2.2.2
    show (playOn (D.deed x.1 x.2.1 x.2.2.1 x.2.2.2) l).secs.length = D.secs.length ∧ (playOn (D.deed x.1 x.2.1 x.2.2.1 x.2.2.2) l).wait.length ≤ D.wait.length + (l.length + 1)
    exact ⟨h1.1.trans h2.1, by omega⟩
theorem two_forks {w2 w3 w4 : World} {f s' g : Nat} {wv' lv' xv' : Value} {D : Dk} (h3 : PD w3 f s' wv' D) (hf : ∀ k, foot f s' wv' k → w2.heap.size ≤ k) (hz : w2.heap.size ≤ w3.heap.size) (B4 : Below w3.heap.size w3 w4) (h4 : RD w4 g lv' xv' D) (hg : ∀ k, rfoot g lv' xv' k → w3.heap.size ≤ k) : Two w2.heap.size f s' g D w4 :=
  ⟨wv', lv', xv', h3.below B4, h4, fun k h1 h2 => by have := h3.foot_lt k h1; have := hg k h2; omega, hf, fun k h => Nat.le_trans hz (hg k h), Nat.le_trans hz B4.size⟩

set_option maxHeartbeats 4000000 in
theorem forks7 (W : World) (v : Value) (l : List Deed) (hv : InD W.heap.size W v l) (vm : Value) (more : List Deed) (hm : InD W.heap.size W vm more) :
    Calls Try.prog 7 #[v, vm] W fun e w' => e = .returned (.bool true) ∧ Below W.heap.size W w' := by
  have c15 := play15 v l hv
  have hps := played_secs (l.take 40)
  have hpl : (l.take 40).length ≤ 40 := by rw [List.length_take]; omega
  obtain ⟨va, vc, hve, _⟩ := hv
  subst hve
  generalize l.length = ln at *
  have HUP : Hid (∀ w, Below W.heap.size W w → InD w.heap.size w vm more) := fun w hB => hm.up hB
  obtain ⟨ma, mc, hme, hmx, _⟩ := hm
  obtain ⟨n, hn⟩ : ∃ n, more.length = n := ⟨_, rfl⟩
  have HN : Hid (more.length = n) := hn
  rw [hn] at hme hmx
  subst hme
  clear hn
  have HL : Hid (∀ w, Calls Try.prog 16 #[] w fun e w' => e = .returned (.bool true) ∧ Below w.heap.size w w') := live16
  generalize played (l.take 40) = Dq at *
  have HT : Hid (∀ w w' d s r, Two W.heap.size d s r Dq w → Below w.heap.size w w' → Two W.heap.size d s r Dq w') := fun w w' d s r h hB => by
    obtain ⟨wv, lv, xv, hb⟩ := h
    exact ⟨wv, lv, xv, hb.below hB⟩
  have H25 : Hid (∀ w d s r, Two W.heap.size d s r Dq w → Calls Try.prog 25 #[.pointer (some ⟨d, 0, none⟩)] w fun e w' => ∃ d' s' wv' c, e = .returned (.pointer (some ⟨d', 0, none⟩)) ∧ PD w' d' s' wv' { Dq with cap := c } ∧ (∀ k, foot d' s' wv' k → w.heap.size ≤ k) ∧ Below w.heap.size w w') := fun w d s r h => by
    obtain ⟨wv, lv, xv, hb⟩ := h
    exact fork25 hb.pd (by omega) (by omega)
  have H26 : Hid (∀ w d s r, Two W.heap.size d s r Dq w → Calls Try.prog 26 #[.pointer (some ⟨r, 0, none⟩)] w fun e w' => ∃ r' lv' xv', e = .returned (.pointer (some ⟨r', 0, none⟩)) ∧ (∀ c, RD w' r' lv' xv' { Dq with cap := c }) ∧ (∀ k, rfoot r' lv' xv' k → w.heap.size ≤ k) ∧ Below w.heap.size w w') := fun w d s r h => by
    obtain ⟨wv, lv, xv, hb⟩ := h
    exact rfork26 hb.rd (by omega) (by omega)
  have HS : Hid (∀ w d s r, Two W.heap.size d s r Dq w → Calls Try.prog 17 #[.pointer (some ⟨d, 0, none⟩), .pointer (some ⟨r, 0, none⟩)] w fun e w2 => e = .returned (.bool true) ∧ Below w.heap.size w w2) := fun w d s r h => by
    obtain ⟨wv, lv, xv, hb⟩ := h
    exact same17 hb (by omega) (by omega)
  have HD : Hid (∀ c m, m ≤ 14 → (playOn { Dq with cap := c } (more.take m)).secs.length = 4 ∧ (playOn { Dq with cap := c } (more.take m)).wait.length ≤ 1000) := fun c m hm => by
    have h1 := playOn_secs (more.take m) { Dq with cap := c }
    have h2 : (more.take m).length ≤ m := by rw [List.length_take]; omega
    exact ⟨h1.1.trans hps.1, Nat.le_trans h1.2 (by show Dq.wait.length + _ ≤ _; omega)⟩
  have HSF : Hid (∀ B c m w d s r, m ≤ 14 → Two B d s r (playOn { Dq with cap := c } (more.take m)) w → Calls Try.prog 17 #[.pointer (some ⟨d, 0, none⟩), .pointer (some ⟨r, 0, none⟩)] w fun e w2 => e = .returned (.bool true) ∧ Below w.heap.size w w2) := fun B c m w d s r hm h => by
    obtain ⟨wv, lv, xv, hb⟩ := h
    have := HD.out c m hm
    exact same17 hb (by omega) (by omega)
  clear hps hpl
  go_enter Try.func7, Try.ntmps7
  go_wp2_with (first
    | (go_at_call 15; (refine c15.mono ?_; rintro e w1 ⟨d, s, r, rfl, T1, F1⟩))
    | (go_at_call 16; (refine (HL.out w1).mono ?_; rintro e w2 ⟨rfl, B2⟩; have T2 := HT.out _ _ _ _ _ T1 B2; have F2 := F1.trans (B2.mono F1.size); clear T1 F1 B2))
    | (go_at_call 25; (refine (H25.out w2 _ _ _ T2).mono ?_; rintro e w3 ⟨f, s', wv', c, rfl, P3, hf3, B3⟩; have T3 := HT.out _ _ _ _ _ T2 B3))
    | (go_at_call 26; (refine (H26.out w3 _ _ _ T3).mono ?_; rintro e w4 ⟨g, lv', xv', rfl, R4, hg4, B4⟩; have T4 := two_forks P3 hf3 B3.size B4 (R4 c) hg4; clear P3 R4 hf3 hg4)))
  have B24 : Below w2.heap.size w2 w4 := bmore B3 B4
  clear T3 B3 B4 H25 H26 HL
  have HUP2 := HUP.out w2 F2
  obtain ⟨_, _, hme2, _, hat2⟩ := HUP2
  have HAT : Hid (0 < more.length → ∃ b o, ma = some ⟨b, o, none⟩ ∧ b < w2.heap.size ∧ ∀ j x, more[j]? = some x → DeedAt w2.heap.size w2 b (o + j * 4) x) := fun h0 => by
    obtain ⟨b, o, e, h⟩ := hat2 h0
    cases hme2
    exact ⟨b, o, e, h⟩
  clear hat2 hme2 HUP
  have HT2 : Hid (Two W.heap.size d s r Dq w2) := T2
  clear T2
  go_loopw [10] (fun p wr => ∃ m : Nat, m ≤ n ∧ m ≤ 14 ∧ p = .int .i64 (m : Int) ∧ Hid (Two w2.heap.size f s' g (playOn { Dq with cap := c } (more.take m)) wr) ∧ Below w2.heap.size w2 wr) (fun p _ => n - (intOf p).toNat)
  case atStart => exact ⟨0, by omega, by omega, rfl, T4, B24⟩
  case round =>
    obtain ⟨m, hm, hm14, rfl, hT, hB⟩ := hrel
    have HEND : Hid (∀ m' : Nat, m' = m → Calls Try.prog 17 #[.pointer (some ⟨d, 0, none⟩), .pointer (some ⟨r, 0, none⟩)] wr fun e w2 => e = .returned (.bool true) ∧ Below wr.heap.size wr w2) := fun _ _ => HS.out wr d s r (HT.out _ _ _ _ _ HT2.out hB)
    have HEND2 : Hid (∀ w', Below wr.heap.size wr w' → Calls Try.prog 17 #[.pointer (some ⟨f, 0, none⟩), .pointer (some ⟨g, 0, none⟩)] w' fun e w2 => e = .returned (.bool true) ∧ Below w'.heap.size w' w2) := fun w' hB' => by
      obtain ⟨wv, lv, xv, hb⟩ := hT.out
      exact HSF.out _ c m w' f s' g hm14 ⟨wv, lv, xv, hb.below hB'⟩
    have HFIN : Hid (∀ wa wb, Below wr.heap.size wr wa → Below wa.heap.size wa wb → Below W.heap.size W wb) := fun wa wb h1 h2 => F2.trans ((hB.trans ((bmore h1 h2).mono hB.size)).mono F2.size)
    by_cases hlt : m < n
    · have hlt1 : (m : Int) < (n : Int) := by omega
      by_cases h14 : m < 14
      · have h141 : (m : Int) < 14 := by omega
        obtain ⟨b, o, rfl, hb, hall⟩ := HAT.out (by rw [HN.out]; omega)
        obtain ⟨x, hx⟩ : ∃ x, more[m]? = some x := ⟨_, List.getElem?_eq_getElem (by rw [HN.out]; exact hlt)⟩
        have HTK : Hid (more.take (m + 1) = more.take m ++ [x]) := by
          have hm' := List.getElem?_eq_some_iff.1 hx
          show _ = _
          rw [List.take_succ_eq_append_getElem hm'.1, hm'.2]
        obtain ⟨vb, vk, ⟨y0, y1, y2, y3⟩, hib, hik, hr1⟩ := hall m x hx
        have e0 := (hB.cell (p := ⟨b, o + m * 4, none⟩) hb).trans y0
        have e1 := (hB.cell (p := ⟨b, o + m * 4 + 1, none⟩) hb).trans y1
        have e2 := (hB.cell (p := ⟨b, o + m * 4 + 2, none⟩) hb).trans y2
        have e3 := (hB.cell (p := ⟨b, o + m * 4 + 3, none⟩) hb).trans y3
        obtain ⟨wv, lv, xv, hBo⟩ := hT.out
        have hps := HD.out c m hm14
        have c27 := do27 hBo hps.1 hps.2 x.1 x.2.1 hr1 vb vk x.2.2.1 x.2.2.2 (hib.below hB) (hik.below hB)
        rw [← playOn_snoc, ← HTK.out] at c27
        have HC27 : Hid (Calls Try.prog 27 #[.pointer (some ⟨f, 0, none⟩), .pointer (some ⟨g, 0, none⟩), .agg #[.int .i64 x.1, .int .i64 x.2.1, vb, vk]] wr fun e w' => e = .returned (.bool true) ∧ Two w2.heap.size f s' g (playOn { Dq with cap := c } (more.take (m + 1))) w' ∧ Below w2.heap.size wr w') := c27
        obtain ⟨xb1, xb2, xb3, rfl⟩ := hib.form
        obtain ⟨xk1, xk2, xk3, rfl⟩ := hik.form
        clear hib hik hall y0 y1 y2 y3 hBo hx c27 hps HEND HEND2 HFIN
        go_wp2_with (go_at_call 27; (refine HC27.out.mono ?_; rintro e w5 ⟨rfl, hT5, hB5⟩))
        go_roundw
        case rel => exact ⟨m + 1, by omega, by omega, by simp, hT5, hB.trans hB5⟩
        case measure => simp only [intOf]; omega
      · have h141 : ¬ (m : Int) < 14 := by omega
        go_wp2_with (first
          | (go_at_call 18; (refine (crash18_none (W := wr) _ ⟨none, 0, 0, rfl⟩).mono ?_; rintro e w5 ⟨rfl, rfl⟩))
          | (go_at_call 23; (refine (none23 3).mono ?_; rintro e w5 ⟨rfl, rfl⟩))
          | (go_at_call 19; (refine (none19 0).mono ?_; rintro e w5 ⟨rfl, rfl⟩))
          | (go_at_call 17; (with_reducible refine (HEND.out m rfl).mono ?_; rintro e w6 ⟨rfl, B6⟩))
          | (go_at_call 17; (with_reducible refine (HEND2.out w6 B6).mono ?_; rintro e w7 ⟨rfl, B7⟩))
          | (go_at_call 22; (refine (none22 0).mono ?_; rintro e w8 ⟨rfl, rfl⟩))
          | (go_at_call 24; (refine none24.mono ?_; rintro e w8 ⟨rfl, rfl⟩))
          | (go_at_call 28; (refine none28.mono ?_; rintro e w8 ⟨rfl, rfl⟩))
          | (go_at_call 20; (refine none20.mono ?_; rintro e w8 ⟨rfl, rfl⟩))
          | (go_at_call 21; (refine none21.mono ?_; rintro e w8 ⟨rfl, rfl⟩))
          | (go_at_call 25; (refine none25.mono ?_; rintro e w8 ⟨rfl, rfl⟩))
          | (go_at_call 29; (with_reducible refine (none29 0 (by omega)).mono ?_; rintro e w8 ⟨rfl, rfl⟩))
          | (go_at_call 29; (with_reducible refine (none29 129 (by omega)).mono ?_; rintro e w8 ⟨rfl, rfl⟩)))
        go_ret
        exact ⟨rfl, HFIN.out _ _ B6 B7⟩
    · have hlt1 : ¬ (m : Int) < (n : Int) := by omega
      go_wp2_with (first
        | (go_at_call 18; (refine (crash18_none (W := wr) _ ⟨none, 0, 0, rfl⟩).mono ?_; rintro e w5 ⟨rfl, rfl⟩))
        | (go_at_call 23; (refine (none23 3).mono ?_; rintro e w5 ⟨rfl, rfl⟩))
        | (go_at_call 19; (refine (none19 0).mono ?_; rintro e w5 ⟨rfl, rfl⟩))
        | (go_at_call 17; (with_reducible refine (HEND.out m rfl).mono ?_; rintro e w6 ⟨rfl, B6⟩))
        | (go_at_call 17; (with_reducible refine (HEND2.out w6 B6).mono ?_; rintro e w7 ⟨rfl, B7⟩))
        | (go_at_call 22; (refine (none22 0).mono ?_; rintro e w8 ⟨rfl, rfl⟩))
        | (go_at_call 24; (refine none24.mono ?_; rintro e w8 ⟨rfl, rfl⟩))
        | (go_at_call 28; (refine none28.mono ?_; rintro e w8 ⟨rfl, rfl⟩))
        | (go_at_call 20; (refine none20.mono ?_; rintro e w8 ⟨rfl, rfl⟩))
        | (go_at_call 21; (refine none21.mono ?_; rintro e w8 ⟨rfl, rfl⟩))
        | (go_at_call 25; (refine none25.mono ?_; rintro e w8 ⟨rfl, rfl⟩))
        | (go_at_call 29; (with_reducible refine (none29 0 (by omega)).mono ?_; rintro e w8 ⟨rfl, rfl⟩))
        | (go_at_call 29; (with_reducible refine (none29 129 (by omega)).mono ?_; rintro e w8 ⟨rfl, rfl⟩)))
      go_ret
      exact ⟨rfl, HFIN.out _ _ B6 B7⟩
end Go.Proofs.Ytffkpomnbanaoaa
