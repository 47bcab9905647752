/- The document's Floor. -/
import Derived.Test.YtgimjjlkniplnaaUc
namespace Go.Proofs.Ytgimjjlkniplnaa
open Go.RowKit Go.Shelf
set_option maxRecDepth 100000
theorem floor_more {kv : List Pr} {i : Nat} {p : Pr} (k : ByteArray) (hp : kv[i]? = some p) : floorP (kv.take (i + 1)) k = if lt k p.1 then floorP (kv.take i) k else some p := by
  unfold floorP le
  rw [filter_more _ hp]
  cases h : lt k p.1 <;> simp
set_option maxHeartbeats 1000000 in
theorem rfloor15 {w : World} {r : Nat} {a : Option Addr} {c : Nat} {kv : List Pr} (hr : RI w r a c kv) (hl : kv.length ≤ 1000) (k : ByteArray) : Calls Try.prog 15 #[.pointer (some ⟨r, 0, none⟩), .string k] w (FPost w (floorP kv k)) := by
  have hB0 := bal (al w (.cells #[.string ⟨#[]⟩, .string ⟨#[]⟩] 33)) (.cells #[.string ⟨#[]⟩, .string ⟨#[]⟩] 33)
  have hbk := (blk_new w [.string ⟨#[]⟩, .string ⟨#[]⟩] 33).below (al _ (.cells #[.string ⟨#[]⟩, .string ⟨#[]⟩] 33))
  have hbk2 := blk_at (w.alloc (.cells #[.string ⟨#[]⟩, .string ⟨#[]⟩] 33)) [.string ⟨#[]⟩, .string ⟨#[]⟩] 33 (g := w.heap.size + 1) (by simp)
  have HI0 : Hid (Below w.heap.size w ((w.alloc (.cells #[.string ⟨#[]⟩, .string ⟨#[]⟩] 33)).alloc (.cells #[.string ⟨#[]⟩, .string ⟨#[]⟩] 33)) ∧ Blk ((w.alloc (.cells #[.string ⟨#[]⟩, .string ⟨#[]⟩] 33)).alloc (.cells #[.string ⟨#[]⟩, .string ⟨#[]⟩] 33)) w.heap.size [.string ⟨#[]⟩, .string ⟨#[]⟩] 33 ∧ Blk ((w.alloc (.cells #[.string ⟨#[]⟩, .string ⟨#[]⟩] 33)).alloc (.cells #[.string ⟨#[]⟩, .string ⟨#[]⟩] 33)) (w.heap.size + 1) [.string ⟨#[]⟩, .string ⟨#[]⟩] 33) := ⟨hB0, hbk, hbk2⟩
  have HR : Hid (RI w r a c kv) := hr
  have HC : Hid (∀ W, Below w.heap.size w W → W.cell? ⟨r, 0, none⟩ = some (.slice a kv.length c)) := fun W k => (hr.blk.below k).cell 0
  generalize hN : kv.length = n at *
  have HN : Hid (kv.length = n) := hN
  clear hr hN hB0 hbk hbk2
  go_enter Try.func15, Try.ntmps15
  go_wp2_with fail
  go_loopw [7, 8] (fun ff fi wr => ∃ (i : Nat) (P : Pr) (b : Bool), ff = .bool b ∧ fi = .int .i64 (i : Int) ∧ Hid (i ≤ n ∧ b = (floorP (kv.take i) k).isSome ∧ P = (floorP (kv.take i) k).getD noP) ∧ Hid (Below w.heap.size w wr ∧ Blk wr w.heap.size [.string ⟨#[]⟩, .string ⟨#[]⟩] 33 ∧ Blk wr (w.heap.size + 1) [.string P.1, .string P.2] 33)) (fun _ fi _ => ((n : Int) - intOf fi).toNat)
  case atStart => exact ⟨0, noP, false, rfl, rfl, ⟨Nat.zero_le _, rfl, rfl⟩, HI0.out⟩
  case round =>
    obtain ⟨i, P, b, rfl, rfl, hi, hB⟩ := hrel
    have e0 := HC.out _ hB.out.1
    obtain ⟨z0, z1, f0, f1⟩ := Blk.c2 hB.out.2.1
    obtain ⟨y0, y1, g0, g1⟩ := Blk.c2 hB.out.2.2
    by_cases hin : i < n
    · have h1 : (i : Int) < (n : Int) := by omega
      have h0 : (0 : Int) ≤ (i : Int) := by omega
      have hw : wrap64 ((i : Int) + 1) = (i : Int) + 1 := IntWalk.wrap64_in _ (by omega)
      obtain ⟨p, hp⟩ : ∃ p, kv[i]? = some p := ⟨_, List.getElem?_eq_getElem (by rw [HN.out]; omega)⟩
      obtain ⟨g, o, ha, d0, d1⟩ := EP.cell (by have := (HR.out.below hB.out.1).lv; rw [HN.out] at this; exact this) hp
      subst ha
      have HFM : Hid (floorP (kv.take (i + 1)) k = if lt k p.1 then floorP (kv.take i) k else some p) := floor_more k hp
      clear hp
      cases hq : lt k p.1 with
      | true =>
        have hb1 : Op.bytesLess p.1.toList k.toList = false := by rw [less_lt]; exact lt_not hq
        have hb2 : (p.1.toList == k.toList) = false := by rw [eq_str]; simpa using (lt_ne hq).symm
        have HG : Hid (floorP (kv.take (i + 1)) k = floorP (kv.take i) k) := by show _ = _; rw [HFM.out, hq]; rfl
        clear hq
        go_wp2_with fail
        go_roundw
        case rel => exact ⟨i + 1, P, b, rfl, by simp, ⟨by omega, by rw [HG.out]; exact hi.out.2.1, by rw [HG.out]; exact hi.out.2.2⟩, hB.out⟩
        case measure => simp only [intOf]; omega
      | false =>
        have hcase : (Op.bytesLess p.1.toList k.toList = true ∧ (p.1.toList == k.toList) = false) ∨ (Op.bytesLess p.1.toList k.toList = false ∧ (p.1.toList == k.toList) = true) := by
          rw [less_lt, eq_str]
          rcases lt_three p.1 k with h | h | h
          · left; exact ⟨h, by simpa using lt_ne h⟩
          · right; subst h; exact ⟨lt_irrefl _, by simp⟩
          · rw [hq] at h; cases h
        have HG : Hid (floorP (kv.take (i + 1)) k = some p) := by show _ = _; rw [HFM.out, hq]; rfl
        clear hq
        rcases hcase with ⟨hb1, hb2⟩ | ⟨hb1, hb2⟩
        all_goals (
          go_wp2_with fail
          go_roundw
          case rel => exact ⟨i + 1, p, true, rfl, by simp, ⟨by omega, by rw [HG.out]; rfl, by rw [HG.out]; rfl⟩, bset (bset hB.out.1 (p := ⟨w.heap.size + 1, 0, none⟩) (Nat.le_succ _) _) (p := ⟨w.heap.size + 1, 1, none⟩) (Nat.le_succ _) _, Blk.other (Blk.other hB.out.2.1 (p := ⟨w.heap.size + 1, 0, none⟩) (by simp) _) (p := ⟨w.heap.size + 1, 1, none⟩) (by simp) _, Blk.set (o := 1) (Blk.set (o := 0) hB.out.2.2 _) _⟩
          case measure => simp only [intOf]; omega)
    · have h1 : ¬ (i : Int) < (n : Int) := by omega
      have HG : Hid (floorP (kv.take i) k = floorP kv k) := by show _ = _; rw [List.take_of_length_le (by rw [HN.out]; omega)]
      have HH : Hid (opV (floorP kv k) = .tuple #[.agg #[.string P.1, .string P.2], .bool b]) := by
        show _ = _
        rw [← HG.out, hi.out.2.1, hi.out.2.2]
      go_wp2
      exact bodyPost_ret (results_cell2 rfl _ _ _ w.heap.size [.string P.1, .string P.2] 33 (Blk.set (o := 1) (Blk.set (o := 0) hB.out.2.1 _) _) rfl _ Try.underlying33 rfl (by kernel_rfl)) rfl ⟨by rw [HH.out]; rfl, bset (bset hB.out.1 (Nat.le_refl _) _) (Nat.le_refl _) _⟩
end Go.Proofs.Ytgimjjlkniplnaa
