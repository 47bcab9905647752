/- The law TreeForks. -/
import Derived.Test.YtgimjjlkniplnaaUc
import Derived.Test.YtgimjjlkniplnaaUe
namespace Go.Proofs.Ytgimjjlkniplnaa
open Go.RowKit Go.Shelf
set_option maxRecDepth 100000
theorem Two.other {A A' : World} {B x r x2 r2 : Nat} {kv : List Pr} {l l' : List Value} (h : Two A B x r kv) (k : Keep (fun i => i = x2 ∨ i = r2) A A') (hx : Blk A x2 l 66) (hr : Blk A r2 l' 55) (nx : x ≠ x2) (nr : r ≠ r2) : Two A' B x r kv := by
  refine ⟨h.tt.keep fun g l0 ty hty q => q.keep k ?_, h.ri.imp fun _ i => i.imp fun _ i => ⟨i.blk.keep k ?_, i.lv.keep fun g l0 q => q.keep k ?_⟩, h.bx, h.br⟩
  · rintro (e | e)
    · rcases hty with rfl | rfl | ⟨rfl, e2⟩
      · exact Blk.ne q hx (by decide) e
      · exact Blk.ne q hx (by decide) e
      · exact nx (e2.symm.trans e)
    · exact Blk.ne q hr (by rcases hty with rfl | rfl | ⟨rfl, _⟩ <;> decide) e
  · rintro (e | e)
    · exact Blk.ne i.blk hx (by decide) e
    · exact nr e
  · rintro (e | e)
    · exact Blk.ne q hx (by decide) e
    · exact Blk.ne q hr (by decide) e
set_option maxHeartbeats 4000000 in
theorem forks6 {W : World} {v v' : Value} {xs ys : List (Int × Pr)} (hv : DRow W v xs) (hv' : DRow W v' ys) : Calls Try.prog 6 #[v, v'] W fun e w' => e = .returned (.bool true) ∧ Below W.heap.size W w' := by
  have k7 := play7 hv
  obtain ⟨a, c, rfl⟩ := hv.form
  obtain ⟨a', c', rfl⟩ := hv'.form
  generalize xs.length = N0 at *
  obtain ⟨N, hN⟩ : ∃ N, ys.length = N := ⟨_, rfl⟩
  have HN : Hid (ys.length = N) := hN
  have HV : Hid (DRow W (.slice a' ys.length c') ys) := hv'
  rw [hN]
  clear hv hv' hN
  unfold PyPost at k7
  have N10 : Hid (∀ w, Calls Try.prog 10 #[.pointer none, .string ⟨#[97]⟩] w fun e w' => e = .returned (.tuple #[.string ⟨#[]⟩, .bool false]) ∧ Below w.heap.size w w') := fun w => get_nil w _
  have N12 : Hid (∀ w, Calls Try.prog 12 #[.pointer none, .string ⟨#[97]⟩] w fun e w' => e = .returned (.tuple #[.agg #[.string ⟨#[]⟩, .string ⟨#[]⟩], .bool false]) ∧ Below w.heap.size w w') := fun w => next_nil w _
  have N14 : Hid (∀ w, Calls Try.prog 14 #[.pointer none, .string ⟨#[97]⟩] w fun e w' => e = .returned (.tuple #[.agg #[.string ⟨#[]⟩, .string ⟨#[]⟩], .bool false]) ∧ Below w.heap.size w w') := fun w => floor_nil w _
  have N17 : Hid (∀ w, Calls Try.prog 17 #[.pointer none, .string ⟨#[]⟩, .string ⟨#[]⟩, .int .i64 9] w fun e w' => ∃ a c, e = .returned (.slice a 0 c) ∧ Below w.heap.size w w') := fun w => (range_nil w ⟨#[]⟩ ⟨#[]⟩ 9).mono fun e w' ⟨v, he, hv, hB⟩ => by
    obtain ⟨a, c, rfl⟩ := hv.form
    exact ⟨a, c, he, hB⟩
  go_enter Try.func6, Try.ntmps6
  go_wp2_with (first
    | (go_at_call 7; (with_reducible refine k7.mono ?_); rintro e w1 ⟨x, r, kv, rfl, T1, l1, B1⟩; have HT1 : Hid (Two w1 W.heap.size x r kv) := T1; clear T1)
    | (go_at_call 8; (with_reducible refine (live8 _).mono ?_); rintro e w2 ⟨rfl, B2⟩; have HT2 : Hid (Two w2 W.heap.size x r kv) := HT1.out.below B2; have k29 := fork29 HT2.out.tt; unfold FkPost at k29)
    | (go_at_call 29; (with_reducible refine k29.mono ?_); rintro e w3 ⟨x2, rfl, hx2, T3, B3⟩; obtain ⟨ra, rc, hri⟩ := HT2.out.ri; have k30 := rfork30 (hri.below B3) (Nat.le_trans l1 (by decide)); have HT3 : Hid (TT w3 x2 kv) := T3; clear T3 hri k29)
    | (go_at_call 30; (with_reducible refine k30.mono ?_); rintro e w4 ⟨r2, a2, c2, rfl, hr2, R4, B4⟩; have HR4 : Hid (RI w4 r2 a2 c2 kv) := R4; clear R4))
  have HXR : Hid (W.heap.size ≤ x2 ∧ W.heap.size ≤ r2 ∧ x ≠ x2 ∧ r ≠ r2) := by
    have s1 := B1.size
    have s2 := B2.size
    have s3 := B3.size
    obtain ⟨_, hb⟩ := HT2.out.tt.blk
    obtain ⟨_, _, hri⟩ := HT2.out.ri
    have := hb.lt
    have := hri.blk.lt
    exact ⟨by omega, by omega, by omega, by omega⟩
  have HK0 : Hid (Below W.heap.size W w4) := bmore (bmore (bmore B1 B2) B3) B4
  have HTa : Hid (Two w4 W.heap.size x r kv) := HT2.out.below (bmore B3 B4)
  have HTb : Hid (Two w4 W.heap.size x2 r2 kv) := ⟨HT3.out.below B4, ⟨_, _, HR4.out⟩, HXR.out.1, HXR.out.2.1⟩
  have HL : Hid (kv.length ≤ 120) := l1
  clear HT1 HT2 HT3 HR4 B1 B2 B3 B4 hx2 hr2 k7 k30 l1
  go_loopw [10] (fun fi wr => ∃ (k : Nat) (kv2 : List Pr), fi = .int .i64 (k : Int) ∧ Hid (k ≤ N ∧ k ≤ 20) ∧ Hid (Two wr W.heap.size x r kv ∧ Two wr W.heap.size x2 r2 kv2 ∧ kv2.length ≤ 120 + k) ∧ Hid (Below W.heap.size W wr)) (fun fi _ => (20 - intOf fi).toNat)
  case atStart => exact ⟨0, kv, rfl, ⟨Nat.zero_le _, by omega⟩, ⟨HTa.out, HTb.out, HL.out⟩, HK0.out⟩
  case round =>
    obtain ⟨k, kv2, rfl, hk, hT, hB⟩ := hrel
    have HEnd : Hid (∀ kk : Nat, kk = 0 → True) := fun _ _ => trivial
    by_cases hcont : k < N ∧ k < 20
    · obtain ⟨hkN, hk100⟩ := hcont
      have hkNi : (k : Int) < (N : Int) := by omega
      have hki : (k : Int) < 20 := by omega
      have hk0 : (0 : Int) ≤ (k : Int) := by omega
      have hw : wrap64 ((k : Int) + 1) = (k : Int) + 1 := IntWalk.wrap64_in _ (by omega)
      obtain ⟨y, hy⟩ : ∃ y, ys[k]? = some y := ⟨_, List.getElem?_eq_getElem (by rw [HN.out]; exact hkN)⟩
      obtain ⟨b, off, ha, d0, d1, d2⟩ := (DRow.below HV.out hB.out).at hy
      subst ha
      have k23 := do23 hT.out.2.1 (by have := hT.out.2.2; omega) y.1 y.2
      clear hy
      go_wp2_with (go_at_call 23; (with_reducible refine k23.mono ?_); rintro e w3 ⟨rfl, ⟨kv', T3, l3⟩, K3⟩)
      have HT3 : Hid (Two w3 W.heap.size x2 r2 kv') := T3
      have HT4 : Hid (Two w3 W.heap.size x r kv) := by
        obtain ⟨_, hb⟩ := hT.out.2.1.tt.blk
        obtain ⟨_, _, hri⟩ := hT.out.2.1.ri
        exact hT.out.1.other K3 hb hri.blk HXR.out.2.2.1 HXR.out.2.2.2
      have HB3 : Hid (Below W.heap.size W w3) := Two.keepB rfl HXR.out.1 HXR.out.2.1 hB.out K3
      clear T3 K3
      go_roundw
      case rel => exact ⟨k + 1, kv', by simp, ⟨by omega, by omega⟩, ⟨HT4.out, HT3.out, by have := hT.out.2.2; omega⟩, HB3.out⟩
      case measure => simp only [intOf]; omega
    · have HS1 : Hid (∀ W', Below wr.heap.size wr W' → Calls Try.prog 9 #[.pointer (some ⟨x, 0, none⟩), .pointer (some ⟨r, 0, none⟩)] W' fun e w' => e = .returned (.bool true) ∧ Below W'.heap.size W' w') := fun W' hW => same9 (hT.out.1.below hW)
      have HS2 : Hid (∀ W', Below wr.heap.size wr W' → Calls Try.prog 9 #[.pointer (some ⟨x2, 0, none⟩), .pointer (some ⟨r2, 0, none⟩)] W' fun e w' => e = .returned (.bool true) ∧ Below W'.heap.size W' w') := fun W' hW => same9 (hT.out.2.1.below hW)
      have HS3 : Hid (∀ W', Below wr.heap.size wr W' → Calls Try.prog 24 #[.pointer (some ⟨x2, 0, none⟩)] W' fun e w' => e = .returned (.bool true) ∧ Below W'.heap.size W' w') := fun W' hW => sound24 (hT.out.2.1.tt.below hW)
      have hcase : ((k : Int) < (N : Int) ∧ ¬ (k : Int) < 20) ∨ ¬ (k : Int) < (N : Int) := by omega
      clear hcont
      rcases hcase with ⟨hq1, hq2⟩ | hq1
      all_goals (
        go_wp2_with (first
          | (go_at_call 10; (with_reducible refine (N10.out _).mono ?_); rintro e v1 ⟨rfl, E1⟩)
          | (go_at_call 12; (with_reducible refine (N12.out _).mono ?_); rintro e v2 ⟨rfl, E2⟩; have G2 := bmore E1 (bmore E2 (al _ (.cells #[.string ⟨#[]⟩, .string ⟨#[]⟩] 33))))
          | (go_at_call 14; (with_reducible refine (N14.out _).mono ?_); rintro e v3 ⟨rfl, E3⟩; have G3 := bmore G2 (bmore E3 (al _ (.cells #[.string ⟨#[]⟩, .string ⟨#[]⟩] 33))))
          | (go_at_call 9; (with_reducible refine (HS1.out _ G3).mono ?_); rintro e v4 ⟨rfl, E4⟩; have G4 := bmore G3 E4)
          | (go_at_call 9; (with_reducible refine (HS2.out _ G4).mono ?_); rintro e v5 ⟨rfl, E5⟩; have G5 := bmore G4 E5)
          | (go_at_call 24; (with_reducible refine (HS3.out _ G5).mono ?_); rintro e v6 ⟨rfl, E6⟩; have G6 := bmore G5 E6)
          | (go_at_call 31; (with_reducible refine (put_nil _ _ _).mono ?_); rintro e v7 ⟨rfl, E7⟩; have G7 := bmore G6 E7)
          | (go_at_call 32; (with_reducible refine (delete_nil _ _).mono ?_); rintro e v8 ⟨rfl, E8⟩; have G8 := bmore G7 E8)
          | (go_at_call 26; (with_reducible refine (len26_nil _).mono ?_); rintro e v9 ⟨rfl, E9⟩; have G9 := bmore G8 E9)
          | (go_at_call 25; (with_reducible refine (height_nil _).mono ?_); rintro e v10 ⟨rfl, E10⟩; have G10 := bmore G9 E10)
          | (go_at_call 24; (with_reducible refine (sound_nil _).mono ?_); rintro e v11 ⟨rfl, E11⟩; have G11 := bmore G10 E11)
          | (go_at_call 19; (with_reducible refine (count_nil _).mono ?_); rintro e v12 ⟨rfl, E12⟩; have G12 := bmore G11 E12)
          | (go_at_call 17; (with_reducible refine (N17.out _).mono ?_); rintro e v13 ⟨a9, c9, rfl, E13⟩; have G13 := bmore G12 E13)
          | (go_at_call 29; (with_reducible refine (fork_nil _).mono ?_); rintro e v14 ⟨rfl, E14⟩; have G14 := bmore G13 E14))
        go_ret
        exact ⟨by first | rfl | simp, bmore hB.out G14⟩)
end Go.Proofs.Ytgimjjlkniplnaa
