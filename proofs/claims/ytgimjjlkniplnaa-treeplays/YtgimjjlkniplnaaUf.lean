/- The document's Next, Floor, Count. -/
import Derived.Test.YtgimjjlkniplnaaUc
namespace Go.Proofs.Ytgimjjlkniplnaa
open Go.RowKit Go.Shelf
set_option maxRecDepth 100000
theorem find_at {f : Pr → Bool} : ∀ {l : List Pr} {i : Nat} {p : Pr}, l[i]? = some p → f p = true → (∀ j q, l[j]? = some q → j < i → f q = false) → (l.filter f).head? = some p
  | [], i, p, h, _, _ => by simp at h
  | a :: l, 0, p, h, hf, _ => by
    simp at h
    subst h
    rw [List.filter_cons, if_pos hf]; rfl
  | a :: l, i + 1, p, h, hf, hn => by
    have ha := hn 0 a rfl (by omega)
    rw [List.filter_cons, if_neg (by rw [ha]; simp)]
    exact find_at (by simpa using h) hf (fun j q hj hji => hn (j + 1) q (by simpa using hj) (by omega))
set_option maxHeartbeats 1000000 in
theorem rnext13 {w : World} {r : Nat} {a : Option Addr} {c : Nat} {kv : List Pr} (hr : RI w r a c kv) (hl : kv.length ≤ 1000) (k : ByteArray) : Calls Try.prog 13 #[.pointer (some ⟨r, 0, none⟩), .string k] w (FPost w (nextP kv k)) := by
  have hB0 := al w (.cells #[.string ⟨#[]⟩, .string ⟨#[]⟩] 33)
  have hbk := blk_new w [.string ⟨#[]⟩, .string ⟨#[]⟩] 33
  have HI0 : Hid (Below w.heap.size w (w.alloc (.cells #[.string ⟨#[]⟩, .string ⟨#[]⟩] 33)) ∧ Blk (w.alloc (.cells #[.string ⟨#[]⟩, .string ⟨#[]⟩] 33)) w.heap.size [.string ⟨#[]⟩, .string ⟨#[]⟩] 33) := ⟨hB0, hbk⟩
  have HR : Hid (RI w r a c kv) := hr
  have HC : Hid (∀ W, Below w.heap.size w W → W.cell? ⟨r, 0, none⟩ = some (.slice a kv.length c)) := fun W k => (hr.blk.below k).cell 0
  generalize hN : kv.length = n at *
  have HN : Hid (kv.length = n) := hN
  clear hr hN hB0 hbk
  go_enter Try.func13, Try.ntmps13
  go_wp2_with fail
  go_loopw [6] (fun fi wr => ∃ (i : Nat), fi = .int .i64 (i : Int) ∧ Hid (i ≤ n ∧ ∀ j q, kv[j]? = some q → j < i → lt k q.1 = false) ∧ Hid (Below w.heap.size w wr ∧ Blk wr w.heap.size [.string ⟨#[]⟩, .string ⟨#[]⟩] 33)) (fun fi _ => ((n : Int) - intOf fi).toNat)
  case atStart => exact ⟨0, rfl, ⟨Nat.zero_le _, fun j q _ h => by omega⟩, HI0.out⟩
  case round =>
    obtain ⟨i, rfl, hi, hB⟩ := hrel
    have e0 := HC.out _ hB.out.1
    obtain ⟨z0, z1, f0, f1⟩ := Blk.c2 hB.out.2
    by_cases hin : i < n
    · have h1 : (i : Int) < (n : Int) := by omega
      have h0 : (0 : Int) ≤ (i : Int) := by omega
      have hw : wrap64 ((i : Int) + 1) = (i : Int) + 1 := IntWalk.wrap64_in _ (by omega)
      obtain ⟨p, hp⟩ : ∃ p, kv[i]? = some p := ⟨_, List.getElem?_eq_getElem (by rw [HN.out]; omega)⟩
      obtain ⟨g, o, ha, d0, d1⟩ := EP.cell (by have := (HR.out.below hB.out.1).lv; rw [HN.out] at this; exact this) hp
      subst ha
      have HP : Hid (kv[i]? = some p) := hp
      clear hp
      cases hq : lt k p.1 with
      | true =>
        have hb1 : Op.bytesLess p.1.toList k.toList = false := by rw [less_lt]; exact lt_not hq
        have hb2 : (p.1.toList == k.toList) = false := by rw [eq_str]; simpa using (lt_ne hq).symm
        have HG : Hid (nextP kv k = some p) := find_at HP.out hq hi.out.2
        clear hq
        go_wp2
        exact bodyPost_ret (results_cell2 rfl _ _ _ w.heap.size [.string p.1, .string p.2] 33 (Blk.set (o := 1) (Blk.set (o := 0) hB.out.2 _) _) rfl _ Try.underlying33 rfl (by kernel_rfl)) rfl ⟨by rw [HG.out]; rfl, bset (bset hB.out.1 (Nat.le_refl _) _) (Nat.le_refl _) _⟩
      | false =>
        have hcase : (Op.bytesLess p.1.toList k.toList = true ∧ (p.1.toList == k.toList) = false) ∨ (Op.bytesLess p.1.toList k.toList = false ∧ (p.1.toList == k.toList) = true) := by
          rw [less_lt, eq_str]
          rcases lt_three p.1 k with h | h | h
          · left; exact ⟨h, by simpa using lt_ne h⟩
          · right; subst h; exact ⟨lt_irrefl _, by simp⟩
          · rw [hq] at h; cases h
        have HQ : Hid (lt k p.1 = false) := hq
        clear hq
        rcases hcase with ⟨hb1, hb2⟩ | ⟨hb1, hb2⟩
        all_goals (
          go_wp2_with fail
          go_roundw
          case rel =>
            refine ⟨i + 1, by simp, ⟨by omega, fun j q hj hji => ?_⟩, hB.out⟩
            by_cases e : j = i
            · subst e; rw [HP.out] at hj; cases hj; exact HQ.out
            · exact hi.out.2 j q hj (by omega)
          case measure => simp only [intOf]; omega)
    · have h1 : ¬ (i : Int) < (n : Int) := by omega
      have HG : Hid (nextP kv k = none) := by
        show _ = _
        unfold nextP Ytgimjjlkniplnaa.hi
        rw [filter_none fun x hx => ?_]
        · rfl
        · obtain ⟨j, hj⟩ := List.getElem?_of_mem hx
          have := (List.getElem?_eq_some_iff.1 hj).1
          exact hi.out.2 j x hj (by rw [HN.out] at this; omega)
      go_wp2
      exact bodyPost_ret (results_cell2 rfl _ _ _ w.heap.size [.string ⟨#[]⟩, .string ⟨#[]⟩] 33 (Blk.set (o := 1) (Blk.set (o := 0) hB.out.2 _) _) rfl _ Try.underlying33 rfl (by kernel_rfl)) rfl ⟨by rw [HG.out]; rfl, bset (bset hB.out.1 (Nat.le_refl _) _) (Nat.le_refl _) _⟩
theorem lo_more {a b : ByteArray} (h : lt b a = false) : ∀ kv : List Pr, (lo kv b).length = (lo kv a).length + (kv.filter fun p => lt p.1 b && !lt p.1 a).length
  | [] => rfl
  | p :: l => by
    have ih := lo_more h l
    unfold lo at ih ⊢
    simp only [List.filter_cons]
    cases h1 : lt p.1 a with
    | true =>
      have h2 : lt p.1 b = true := lt_nlt h1 h
      simp [h2, ih]; omega
    | false =>
      cases h2 : lt p.1 b with
      | true => simp [ih]; omega
      | false => simp [ih]
theorem lo_ge_len (kv : List Pr) (a : ByteArray) : (lo kv a).length + (ge kv a).length = kv.length := by
  unfold lo ge
  induction kv with
  | nil => rfl
  | cons p l ih =>
    simp only [List.filter_cons]
    cases h1 : lt p.1 a <;> simp <;> omega
theorem count_range (kv : List Pr) (a b : ByteArray) : (rangeP kv a b (kv.length : Int)).length = countP kv a b := by
  rw [range_eq, List.length_take, Int.toNat_natCast, Nat.min_eq_right (List.length_filter_le _ _)]
  unfold countP
  by_cases hb : b.size = 0
  · rw [if_pos hb]
    have e : kv.filter (inR a b) = ge kv a := by
      unfold ge
      congr 1
      funext p
      unfold inR okR
      rw [decide_eq_true hb]; rfl
    rw [e]
    have := lo_ge_len kv a
    omega
  · rw [if_neg hb]
    have e : kv.filter (inR a b) = kv.filter fun p => lt p.1 b && !lt p.1 a := by
      congr 1
      funext p
      unfold inR okR
      rw [decide_eq_false hb]; rfl
    rw [e]
    cases h : lt b a with
    | false => have := lo_more h kv; omega
    | true =>
      have h1 := lo_more (lt_not h) kv
      rw [filter_none (f := fun p : Pr => lt p.1 b && !lt p.1 a) fun p _ => ?_]
      · simp only [List.length_nil]; omega
      · cases h2 : lt p.1 b with
        | false => rfl
        | true => rw [lt_trans h2 h]; rfl
set_option maxHeartbeats 400000 in
theorem rcount20 {w : World} {r : Nat} {a : Option Addr} {c : Nat} {kv : List Pr} (hr : RI w r a c kv) (hl : kv.length ≤ 1000) (fr to : ByteArray) : Calls Try.prog 20 #[.pointer (some ⟨r, 0, none⟩), .string fr, .string to] w fun e w' => e = .returned (.int .i64 (countP kv fr to : Int)) ∧ Below w.heap.size w w' := by
  have k28 := rlen28 hr
  have k18 := rrange18 hr hl fr to (kv.length : Int)
  have k18' : Calls Try.prog 18 #[.pointer (some ⟨r, 0, none⟩), .string fr, .string to, .int .i64 (kv.length : Int)] w fun e w' => ∃ a c, e = .returned (.slice a (countP kv fr to) c) ∧ Below w.heap.size w w' := k18.mono fun e w' ⟨v, he, hv, hB⟩ => by
    obtain ⟨a, c, rfl⟩ := hv.form
    rw [count_range] at he
    exact ⟨a, c, he, hB⟩
  generalize countP kv fr to = m at *
  generalize kv.length = n at *
  clear hr k18
  go_enter Try.func20, Try.ntmps20
  go_wp2_with (first
    | (go_at_call 28; (with_reducible refine k28.mono ?_); rintro e w1 ⟨rfl, rfl⟩)
    | (go_at_call 18; (with_reducible refine k18'.mono ?_); rintro e w2 ⟨a1, c1, rfl, hB⟩))
  go_ret
  exact ⟨rfl, hB⟩
end Go.Proofs.Ytgimjjlkniplnaa
