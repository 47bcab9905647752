/- The document's Range, Same, Fork; both at once: same. -/
import Derived.Test.YtgimjjlkniplnaaTh
namespace Go.Proofs.Ytgimjjlkniplnaa
open Go.RowKit Go.Shelf
set_option maxRecDepth 100000
def inR (fr to : ByteArray) (p : Pr) : Bool := okR to p && !lt p.1 fr
theorem range_eq (kv : List Pr) (fr to : ByteArray) (mo : Int) : rangeP kv fr to mo = (kv.filter (inR fr to)).take mo.toNat := by
  unfold rangeP ge
  rw [List.filter_filter]
  rfl
theorem filter_more {kv : List Pr} {i : Nat} {p : Pr} (f : Pr → Bool) (hp : kv[i]? = some p) : (kv.take (i + 1)).filter f = (kv.take i).filter f ++ (if f p then [p] else []) := by
  rw [List.take_add_one, hp, List.filter_append]
  simp only [Option.toList_some]
  by_cases h : f p = true
  · simp [h]
  · simp [h]
theorem take_done {kv : List Pr} {i : Nat} (f : Pr → Bool) {m : Nat} (h : ((kv.take i).filter f).length = m) : (kv.filter f).take m = (kv.take i).filter f := by
  have e : kv.filter f = (kv.take i).filter f ++ (kv.drop i).filter f := by rw [← List.filter_append, List.take_append_drop]
  rw [e, List.take_append_of_le_length (by omega), List.take_of_length_le (by omega)]
set_option maxHeartbeats 2000000 in
theorem rrange18 {w : World} {r : Nat} {a : Option Addr} {c : Nat} {kv : List Pr} (hr : RI w r a c kv) (hl : kv.length ≤ 1000) (fr to : ByteArray) (mo : Int) : Calls Try.prog 18 #[.pointer (some ⟨r, 0, none⟩), .string fr, .string to, .int .i64 mo] w (RgPost w (rangeP kv fr to mo)) := by
  have HR : Hid (RI w r a c kv) := hr
  have HL : Hid (kv.length ≤ 1000) := hl
  have HC : Hid (∀ W, Below w.heap.size w W → W.cell? ⟨r, 0, none⟩ = some (.slice a kv.length c)) := fun W k => (hr.blk.below k).cell 0
  have HF : Hid (∀ (v : Value) (W : World) (q : List Pr) (i : Nat), RW EP w.heap.size W v q → Below w.heap.size w W → q = (kv.take i).filter (inR fr to) → (q.length ≤ mo.toNat) → (kv.length ≤ i ∨ mo ≤ (q.length : Int)) → RgPost w (rangeP kv fr to mo) (.returned v) W) := fun v W q i h1 h2 h3 h4 h5 => by
    refine ⟨v, rfl, ?_, h2⟩
    have : rangeP kv fr to mo = q := by
      rw [range_eq]
      rcases h5 with h5 | h5
      · rw [h3, List.take_of_length_le h5, List.take_of_length_le]
        rw [h3, List.take_of_length_le h5] at h4
        exact h4
      · rw [take_done (i := i) _ (m := mo.toNat) (by rw [← h3]; omega), h3]
    rw [this]
    exact h1.read
  generalize hN : kv.length = n at HC hl HF
  have HN : Hid (kv.length = n) := hN
  clear hr hN
  go_enter Try.func18, Try.ntmps18
  go_wp2_with fail
  go_loopw [9, 10] (fun fo fi wr => ∃ (i : Nat) (q : List Pr), fi = .int .i64 (i : Int) ∧ Hid (i ≤ n ∧ q = (kv.take i).filter (inR fr to) ∧ q.length ≤ mo.toNat) ∧ Hid (RW EP w.heap.size wr fo q) ∧ Hid (Below w.heap.size w wr)) (fun _ fi _ => ((n : Int) - intOf fi).toNat)
  case atStart => exact ⟨0, [], rfl, ⟨Nat.zero_le _, by simp, by simp⟩, RW.nil _ _ _, Below.refl _ _⟩
  case round =>
    rename_i fo
    obtain ⟨i, q, rfl, hi, hq, hB⟩ := hrel
    obtain ⟨av, cv, rfl, hcv⟩ := RW.form hq.out
    have e0 := HC.out _ hB.out
    have HE : Hid _ := HF.out _ _ _ _ hq.out hB.out hi.out.2.1 hi.out.2.2
    clear hcv
    by_cases hin : i < n
    · have h1 : (i : Int) < (n : Int) := by omega
      have h0 : (0 : Int) ≤ (i : Int) := by omega
      have hw : wrap64 ((i : Int) + 1) = (i : Int) + 1 := IntWalk.wrap64_in _ (by omega)
      by_cases hmo : (q.length : Int) < mo
      · obtain ⟨p, hp⟩ : ∃ p, kv[i]? = some p := ⟨_, List.getElem?_eq_getElem (by rw [HN.out]; omega)⟩
        obtain ⟨g, o, ha, d0, d1⟩ := EP.cell (by have := (HR.out.below hB.out).lv; rw [HN.out] at this; exact this) hp
        subst ha
        have HX : Hid ((kv.take (i + 1)).filter (inR fr to) = q ++ (if inR fr to p then [p] else [])) := by show _ = _; rw [filter_more _ hp, ← hi.out.2.1]
        have hA : ∃ u w', (Builtin.append_ #[37, 37] 37 #[.slice av q.length cv, .slice (some ⟨wr.heap.size, 0, none⟩) 1 1]).run Try.prog (wr.alloc (.cells #[.string p.1, .string p.2] 33)) = .ok u w' ∧ RW EP w.heap.size w' u (q ++ [p]) ∧ Below w.heap.size w w' := by
          have hb := blk_new wr [.string p.1, .string p.2] 33
          have hq2 : RW EP w.heap.size (wr.alloc (.cells #[.string p.1, .string p.2] 33)) (.slice av q.length cv) q := hq.out.keepO fun g' hg' => (al wr _).block g' (hq.out.at hg').2
          have hB2 := bmore hB.out (al wr (.cells #[.string p.1, .string p.2] 33))
          obtain ⟨u, w', e1, e2, e3⟩ := rw_app hq2 (lv_blk EP (L := [p]) hb 1 (Nat.le_refl _)) (by have : q.length ≤ kv.length := by { rw [hi.out.2.1]; exact Nat.le_trans (List.length_filter_le _ _) (by simp; omega) }; have := HL.out; simp; omega) hB2.size
          exact ⟨u, w', e1, e2, hB2.trans e3⟩
        have HI : Hid (i ≤ n ∧ q = (kv.take i).filter (inR fr to) ∧ q.length ≤ mo.toNat) := hi.out
        clear HE hp hi
        by_cases hz : to.size = 0
        · have hzb : to = ⟨#[]⟩ := bs_inj (by
            have : (bs to).length = 0 := by simpa [bs] using hz
            rw [List.length_eq_zero_iff.1 this]; rfl)
          subst hzb
          cases hlt : lt p.1 fr with
          | true =>
            have hb1 : Op.bytesLess p.1.toList fr.toList = true := by rw [less_lt]; exact hlt
            have HX2 : Hid ((kv.take (i + 1)).filter (inR fr ⟨#[]⟩) = q) := by show _ = _; rw [HX.out]; simp [inR, hlt]
            go_wp2_with fail
            go_roundw
            case rel => exact ⟨i + 1, q, by simp, ⟨by omega, HX2.out.symm, HI.out.2.2⟩, hq.out, hB.out⟩
            case measure => simp only [intOf]; omega
          | false =>
            have hb1 : Op.bytesLess p.1.toList fr.toList = false := by rw [less_lt]; exact hlt
            have HX2 : Hid ((kv.take (i + 1)).filter (inR fr ⟨#[]⟩) = q ++ [p]) := by show _ = _; rw [HX.out, show inR fr ⟨#[]⟩ p = true by unfold inR okR; rw [hlt, decide_eq_true hz]; rfl]; rfl
            go_wp2_with (at_builtin; refine wpList_append_ex (by rfl) (.tmp 54) (.tmp 62) 37 (by rfl) _ _ (by rfl) (by rfl) hA ?_; rintro v7 w7 ⟨hO7, hB7⟩)
            go_roundw
            case rel => exact ⟨i + 1, q ++ [p], by simp, ⟨by omega, HX2.out.symm, by simp; omega⟩, hO7, hB7⟩
            case measure => simp only [intOf]; omega
        · have hbt : (to.toList == ([] : List UInt8)) = false := by
            have e1 : to.toList = bs to := Lib.toList_data to
            rw [e1]
            cases hb : bs to with
            | nil => exact absurd (by have := congrArg List.length hb; simpa [bs] using this) hz
            | cons x l => rfl
          cases hlt : lt p.1 fr with
          | true =>
            have hb1 : Op.bytesLess p.1.toList fr.toList = true := by rw [less_lt]; exact hlt
            have HX2 : Hid ((kv.take (i + 1)).filter (inR fr to) = q) := by show _ = _; rw [HX.out]; simp [inR, hlt]
            go_wp2_with fail
            go_roundw
            case rel => exact ⟨i + 1, q, by simp, ⟨by omega, HX2.out.symm, HI.out.2.2⟩, hq.out, hB.out⟩
            case measure => simp only [intOf]; omega
          | false =>
            have hb1 : Op.bytesLess p.1.toList fr.toList = false := by rw [less_lt]; exact hlt
            cases hlt2 : lt p.1 to with
            | true =>
              have hb2 : Op.bytesLess p.1.toList to.toList = true := by rw [less_lt]; exact hlt2
              have HX2 : Hid ((kv.take (i + 1)).filter (inR fr to) = q ++ [p]) := by show _ = _; rw [HX.out]; simp [inR, okR, hlt, hlt2]
              go_wp2_with (at_builtin; refine wpList_append_ex (by rfl) (.tmp 54) (.tmp 62) 37 (by rfl) _ _ (by rfl) (by rfl) hA ?_; rintro v7 w7 ⟨hO7, hB7⟩)
              go_roundw
              case rel => exact ⟨i + 1, q ++ [p], by simp, ⟨by omega, HX2.out.symm, by simp; omega⟩, hO7, hB7⟩
              case measure => simp only [intOf]; omega
            | false =>
              have hb2 : Op.bytesLess p.1.toList to.toList = false := by rw [less_lt]; exact hlt2
              have HX2 : Hid ((kv.take (i + 1)).filter (inR fr to) = q) := by show _ = _; rw [HX.out]; simp [inR, okR, hlt, hlt2, hz]
              go_wp2_with fail
              go_roundw
              case rel => exact ⟨i + 1, q, by simp, ⟨by omega, HX2.out.symm, HI.out.2.2⟩, hq.out, hB.out⟩
              case measure => simp only [intOf]; omega
      · have HG : Hid (RgPost w (rangeP kv fr to mo) (.returned (.slice av q.length cv)) wr) := HE.out (.inr (by omega))
        clear HE
        go_wp2
        go_ret
        exact HG.out
    · have h1 : ¬ (i : Int) < (n : Int) := by omega
      have HG : Hid (RgPost w (rangeP kv fr to mo) (.returned (.slice av q.length cv)) wr) := HE.out (.inl (by omega))
      clear HE
      go_wp2
      go_ret
      exact HG.out
end Go.Proofs.Ytgimjjlkniplnaa
