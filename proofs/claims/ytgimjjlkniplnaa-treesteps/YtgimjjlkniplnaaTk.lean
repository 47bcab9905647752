/- The law TreeSteps. -/
import Derived.Test.YtgimjjlkniplnaaTh
import Derived.Test.YtgimjjlkniplnaaTg
namespace Go.Proofs.Ytgimjjlkniplnaa
open Go.RowKit Go.Shelf
set_option maxRecDepth 100000
theorem le_hi : ∀ {kv : List Pr} (k : ByteArray), Srt kv → kv = le kv k ++ hi kv k
  | [], k, _ => rfl
  | a :: l, k, hs => by
    obtain ⟨ha, hl⟩ := List.pairwise_cons.1 hs
    have ih := le_hi k hl
    cases hz : lt k a.1 with
    | true =>
      have e1 : le (a :: l) k = [] := filter_none fun x hx => by
        rcases List.mem_cons.1 hx with rfl | hx
        · rw [hz]; rfl
        · rw [lt_trans hz (ha x hx)]; rfl
      have e2 : hi (a :: l) k = a :: l := filter_all fun x hx => by
        rcases List.mem_cons.1 hx with rfl | hx
        · exact hz
        · exact lt_trans hz (ha x hx)
      rw [e1, e2]; rfl
    | false =>
      have e1 : le (a :: l) k = a :: le l k := by unfold le; rw [List.filter_cons, if_pos (by simp [hz])]
      have e2 : hi (a :: l) k = hi l k := by unfold hi; rw [List.filter_cons, if_neg (by simp [hz])]
      rw [e1, e2, List.cons_append, ← ih]
theorem step_none {kv : List Pr} {k : ByteArray} (hs : Srt kv) (h : nextP kv k = none) : (le kv k).length = kv.length := by
  have e := le_hi k hs
  have : hi kv k = [] := by unfold nextP at h; exact List.head?_eq_none_iff.1 h
  rw [this, List.append_nil] at e
  rw [← e]
theorem step_some {kv : List Pr} {k : ByteArray} {p : Pr} (hs : Srt kv) (h : nextP kv k = some p) : lt k p.1 = true ∧ (le kv p.1).length = (le kv k).length + 1 ∧ floorP kv p.1 = some p ∧ (le kv k).length + 1 ≤ kv.length := by
  have e := le_hi k hs
  obtain ⟨rest, hr⟩ : ∃ rest, hi kv k = p :: rest := by
    unfold nextP at h
    cases hq : hi kv k with
    | nil => rw [hq] at h; cases h
    | cons a l => rw [hq] at h; cases h; exact ⟨l, rfl⟩
  have hkp : lt k p.1 = true := by
    have : p ∈ hi kv k := by rw [hr]; exact List.mem_cons_self
    exact (List.mem_filter.1 this).2
  have hle : ∀ x ∈ le kv k, lt k x.1 = false := fun x hx => by have := (List.mem_filter.1 hx).2; simpa using this
  generalize le kv k = A at *
  rw [hr] at e
  have hs2 := hs
  rw [e] at hs2
  obtain ⟨_, h2, _⟩ := Srt.append.1 hs2
  have h3 := (List.pairwise_cons.1 h2).1
  have e2 : le kv p.1 = A ++ [p] := by
    rw [e]
    unfold le
    rw [List.filter_append, filter_all (l := A) fun x hx => ?_, List.filter_cons, if_pos (by simp [lt_irrefl]), filter_none (l := rest) fun x hx => ?_]
    · rw [h3 x hx]; rfl
    · cases hq : lt p.1 x.1 with
      | false => rfl
      | true => have := lt_trans hkp hq; rw [hle x hx] at this; cases this
  refine ⟨hkp, by rw [e2]; simp, by unfold floorP; rw [e2]; simp, by rw [e]; simp⟩
theorem le_empty {kv : List Pr} (hs : Srt kv) : (le kv ⟨#[]⟩).length = (has kv ⟨#[]⟩).toNat := by
  have h1 := part_len hs ⟨#[]⟩
  have h2 : lo kv ⟨#[]⟩ = [] := by
    have h3 := ge_empty kv
    unfold lo
    refine filter_none fun x hx => ?_
    rw [← h3] at hx
    have := (List.mem_filter.1 hx).2
    simpa using this
  have h4 := congrArg List.length (le_hi ⟨#[]⟩ hs)
  rw [List.length_append] at h4
  rw [h2] at h1
  simp only [List.length_nil] at h1
  omega
set_option maxHeartbeats 2000000 in
theorem steps5 {W : World} {v : Value} {xs : List (Int × Pr)} (hv : DRow W v xs) : Calls Try.prog 5 #[v] W fun e w' => e = .returned (.bool true) ∧ Below W.heap.size W w' := by
  have k7 := play7 hv
  obtain ⟨a, c, rfl⟩ := hv.form
  generalize xs.length = N0 at *
  clear hv
  unfold PyPost at k7
  go_enter Try.func5, Try.ntmps5
  go_wp2_with (first
    | (go_at_call 7; (with_reducible refine k7.mono ?_); rintro e w1 ⟨x, r, kv, rfl, T1, l1, B1⟩; have HT1 : Hid (Two w1 W.heap.size x r kv) := T1; clear T1)
    | (go_at_call 8; (with_reducible refine (live8 _).mono ?_); rintro e w2 ⟨rfl, B2⟩; have HT2 : Hid (Two w2 W.heap.size x r kv) := HT1.out.below B2; have kg := get10 HT2.out.tt ⟨#[]⟩; unfold GetPost at kg; have hgh := get_has HT2.out.tt.srt ⟨#[]⟩; have hle := le_empty HT2.out.tt.srt)
    | (go_at_call 10; (with_reducible refine kg.mono ?_); rintro e w3 ⟨rfl, B3⟩; clear kg; rw [hgh]; generalize has kv ⟨#[]⟩ = hb at hgh hle; cases hb))
  all_goals (
    have HT3 : Hid (Two w3 W.heap.size x r kv) := HT2.out.below B3
    have HB3 : Hid (Below W.heap.size W w3) := bmore (bmore B1 B2) B3
    have HLE : Hid ((le kv ⟨#[]⟩).length = _) := hle
    have HS : Hid (Srt kv) := HT3.out.tt.srt
    have HL : Hid (kv.length ≤ 120) := l1
    clear hle hgh HT1 HT2 B1 B2 B3 l1 k7
    obtain ⟨N, hN⟩ : ∃ N, kv.length = N := ⟨_, rfl⟩
    have HN : Hid (kv.length = N) := hN
    clear hN
    go_loopw [6, 7, 10] (fun fn fa fi wr => ∃ (n i : Nat) (at_ : ByteArray), fn = .int .i64 (n : Int) ∧ fa = .string at_ ∧ fi = .int .i64 (i : Int) ∧ Hid (i ≤ n ∧ n = (le kv at_).length) ∧ Hid (Two wr W.heap.size x r kv) ∧ Hid (Below W.heap.size W wr)) (fun _ _ fi _ => ((N : Int) + 1 - intOf fi).toNat)
    case atStart => first
      | exact ⟨0, 0, ⟨#[]⟩, rfl, rfl, rfl, ⟨Nat.le_refl _, HLE.out.symm⟩, HT3.out, HB3.out⟩
      | exact ⟨1, 0, ⟨#[]⟩, rfl, rfl, rfl, ⟨by omega, HLE.out.symm⟩, HT3.out, HB3.out⟩
    case round =>
      obtain ⟨n, i, at_, rfl, rfl, rfl, hi, hT, hB⟩ := hrel
      obtain ⟨ra, rc, hri⟩ := hT.out.ri
      have k28 := rlen28 hri
      obtain ⟨hh, hn0, hx0, htp⟩ := hT.out.tt.tp
      have k12 := next12 htp at_
      unfold FPost at k12
      have hnN : n ≤ N := by
        have := congrArg List.length (le_hi at_ HS.out)
        rw [List.length_append, HN.out, ← hi.out.2] at this
        omega
      have hNb : N ≤ 120 := by have := HL.out; rw [HN.out] at this; exact this
      have hin : i ≤ n := hi.out.1
      have hq0 : (i : Int) ≤ (N : Int) := by omega
      rw [HN.out] at k28
      have HRI : Hid (RI wr r ra rc kv) := hri
      clear htp hri
      cases hnx : nextP kv at_ with
      | none =>
        have hnn : n = N := by have := step_none HS.out hnx; rw [← hi.out.2, HN.out] at this; exact this
        rw [hnx] at k12
        have H28 : Hid (∀ W', Below wr.heap.size wr W' → Calls Try.prog 28 #[.pointer (some ⟨r, 0, none⟩)] W' fun e w' => e = .returned (.int .i64 (N : Int)) ∧ W' = w') := fun W' hW => by have := rlen28 (HRI.out.below hW); rw [HN.out] at this; exact this
        subst hnn
        clear hnx
        go_wp2_with (first
          | (go_at_call 28; (with_reducible refine k28.mono ?_); rintro e w4 ⟨rfl, rfl⟩; clear k28)
          | (go_at_call 12; (with_reducible refine k12.mono ?_); rintro e w5 ⟨rfl, B5⟩; have B6 := bmore B5 (al _ (.cells #[.string ⟨#[]⟩, .string ⟨#[]⟩] 33)))
          | (go_at_call 28; (with_reducible refine (H28.out _ B6).mono ?_); rintro e w7 ⟨rfl, rfl⟩))
        go_ret
        exact ⟨by first | rfl | simp, bmore hB.out B6⟩
      | some p =>
        obtain ⟨s1, s2, s3, s4⟩ := step_some HS.out hnx
        rw [hnx] at k12
        have HST : Hid ((le kv p.1).length = n + 1 ∧ n + 1 ≤ N) := ⟨by rw [s2, hi.out.2], by rw [HN.out, ← hi.out.2] at s4; exact s4⟩
        have hq1 : Op.bytesLess p.1.toList at_.toList = false := by rw [less_lt]; exact lt_not s1
        have hq2 : (p.1.toList == at_.toList) = false := by rw [eq_str]; simpa using (lt_ne s1).symm
        have H14 : Hid (∀ W', Below wr.heap.size wr W' → Calls Try.prog 14 #[.pointer (some ⟨x, 0, none⟩), .string p.1] W' fun e w' => e = .returned (.tuple #[.agg #[.string p.1, .string p.2], .bool true]) ∧ Below W'.heap.size W' w') := fun W' hW => by
          have := floor14 (hT.out.tt.below hW) p.1
          unfold FPost at this
          rw [s3] at this
          exact this
        have hw1 : wrap64 ((n : Int) + 1) = (n : Int) + 1 := IntWalk.wrap64_in _ (by omega)
        have hw2 : wrap64 ((i : Int) + 1) = (i : Int) + 1 := IntWalk.wrap64_in _ (by omega)
        clear s1 s2 s3 s4 hnx
        go_wp2_with (first
          | (go_at_call 28; (with_reducible refine k28.mono ?_); rintro e w4 ⟨rfl, rfl⟩; clear k28)
          | (go_at_call 12; (with_reducible refine k12.mono ?_); rintro e w5 ⟨rfl, B5⟩; have B6 := bmore B5 (al _ (.cells #[.string p.1, .string p.2] 33)); have b6 := blk_new w5 [.string p.1, .string p.2] 33; have HB6 : Hid (Blk (w5.alloc (.cells #[.string p.1, .string p.2] 33)) w5.heap.size [.string p.1, .string p.2] 33) := b6; clear b6)
          | (go_at_call 14; (with_reducible refine (H14.out _ B6).mono ?_); rintro e w7 ⟨rfl, B7⟩; have B8 := bmore B7 (al _ (.cells #[.string p.1, .string p.2] 33)); obtain ⟨z0, z1, _, _⟩ := Blk.c2 (HB6.out.below B8); obtain ⟨y0, y1, _, _⟩ := Blk.c2 (blk_new w7 [.string p.1, .string p.2] 33)))
        go_roundw
        case rel => exact ⟨n + 1, i + 1, p.1, by simp, rfl, by simp, ⟨by omega, HST.out.1.symm⟩, hT.out.below (bmore B6 B8), bmore hB.out (bmore B6 B8)⟩
        case measure => simp only [intOf]; have := HST.out.2; omega)
end Go.Proofs.Ytgimjjlkniplnaa
