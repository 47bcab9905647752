/- The law TreePlays. -/
import Derived.Test.YtgimjjlkniplnaaUf
import Derived.Test.YtgimjjlkniplnaaUg
import Derived.Test.YtgimjjlkniplnaaTg
namespace Go.Proofs.Ytgimjjlkniplnaa
open Go.RowKit Go.Shelf
set_option maxRecDepth 100000
/-- What both tell of a key. -/
structure Tells (w : World) (x r : Nat) (k : ByteArray) (s : ByteArray) (b b2 b3 : Bool) (P Q : Pr) : Prop where
  g : ∀ W, Below w.heap.size w W → Calls Try.prog 10 #[.pointer (some ⟨x, 0, none⟩), .string k] W fun e w' => e = .returned (.tuple #[.string s, .bool b]) ∧ Below W.heap.size W w'
  rg : ∀ W, Below w.heap.size w W → Calls Try.prog 11 #[.pointer (some ⟨r, 0, none⟩), .string k] W fun e w' => e = .returned (.tuple #[.string s, .bool b]) ∧ Below W.heap.size W w'
  n : ∀ W, Below w.heap.size w W → Calls Try.prog 12 #[.pointer (some ⟨x, 0, none⟩), .string k] W fun e w' => e = .returned (.tuple #[.agg #[.string P.1, .string P.2], .bool b2]) ∧ Below W.heap.size W w'
  rn : ∀ W, Below w.heap.size w W → Calls Try.prog 13 #[.pointer (some ⟨r, 0, none⟩), .string k] W fun e w' => e = .returned (.tuple #[.agg #[.string P.1, .string P.2], .bool b2]) ∧ Below W.heap.size W w'
  f : ∀ W, Below w.heap.size w W → Calls Try.prog 14 #[.pointer (some ⟨x, 0, none⟩), .string k] W fun e w' => e = .returned (.tuple #[.agg #[.string Q.1, .string Q.2], .bool b3]) ∧ Below W.heap.size W w'
  rf : ∀ W, Below w.heap.size w W → Calls Try.prog 15 #[.pointer (some ⟨r, 0, none⟩), .string k] W fun e w' => e = .returned (.tuple #[.agg #[.string Q.1, .string Q.2], .bool b3]) ∧ Below W.heap.size W w'
theorem tells {w : World} {B x r : Nat} {kv : List Pr} (h : Two w B x r kv) (k : ByteArray) : ∃ s b b2 b3 P Q, Tells w x r k s b b2 b3 P Q := by
  obtain ⟨a, c, hri⟩ := h.ri
  have hl : kv.length ≤ 1000 := Nat.le_trans h.tt.few (by decide)
  refine ⟨(getP kv k).getD ⟨#[]⟩, (getP kv k).isSome, (nextP kv k).isSome, (floorP kv k).isSome, (nextP kv k).getD noP, (floorP kv k).getD noP, ?_, ?_, ?_, ?_, ?_, ?_⟩
  · exact fun W hW => get10 (h.tt.below hW) k
  · exact fun W hW => rget11 (hri.below hW) h.tt.srt hl k
  · exact fun W hW => by obtain ⟨_, _, _, htp⟩ := (h.tt.below hW).tp; exact next12 htp k
  · exact fun W hW => rnext13 (hri.below hW) hl k
  · exact fun W hW => floor14 (h.tt.below hW) k
  · exact fun W hW => rfloor15 (hri.below hW) hl k
set_option maxHeartbeats 4000000 in
theorem plays3 {W : World} {v : Value} {xs : List (Int × Pr)} (hv : DRow W v xs) (k0 k1 : ByteArray) (mo : Int) : Calls Try.prog 3 #[v, .agg #[.string k0, .string k1], .int .i64 mo] W fun e w' => e = .returned (.bool true) ∧ Below W.heap.size W w' := by
  have hA := al W (.cells #[.string k0, .string k1] 23)
  have b0 := blk_new W [.string k0, .string k1] 23
  have HA : Hid (Below W.heap.size W (W.alloc (.cells #[.string k0, .string k1] 23))) := hA
  have k7 := play7 (hv.below hA)
  obtain ⟨a, c, rfl⟩ := hv.form
  generalize xs.length = N0 at *
  have HK : Hid (∀ W', Below (W.alloc (.cells #[.string k0, .string k1] 23)).heap.size (W.alloc (.cells #[.string k0, .string k1] 23)) W' → W'.cell? ⟨W.heap.size, 0, none⟩ = some (.string k0) ∧ W'.cell? ⟨W.heap.size, 1, none⟩ = some (.string k1)) := fun W' k => by
    have hb : Blk (W.alloc (.cells #[.string k0, .string k1] 23)) W.heap.size [.string k0, .string k1] 23 := b0
    exact ⟨(hb.below k).cell 0, (hb.below k).cell 1⟩
  clear hv hA b0
  unfold PyPost at k7
  go_enter Try.func3, Try.ntmps3
  go_wp2_with (first
    | (go_at_call 7; (with_reducible refine k7.mono ?_); rintro e w1 ⟨x, r, kv, rfl, T1, l1, B1⟩; have HT1 : Hid (Two w1 (W.alloc (.cells #[.string k0, .string k1] 23)).heap.size x r kv) := T1; clear T1)
    | (go_at_call 8; (with_reducible refine (live8 _).mono ?_); rintro e w2 ⟨rfl, B2⟩)
    | (go_at_call 9; (with_reducible refine (same9 (HT1.out.below B2)).mono ?_); rintro e w3 ⟨rfl, B3⟩))
  have HT : Hid (Two w3 (W.alloc (.cells #[.string k0, .string k1] 23)).heap.size x r kv) := HT1.out.below (bmore B2 B3)
  have F3 := bmore (bmore B1 B2) B3
  have HKW : Hid (∀ W', Below w3.heap.size w3 W' → W'.cell? ⟨W.heap.size, 0, none⟩ = some (.string k0) ∧ W'.cell? ⟨W.heap.size, 1, none⟩ = some (.string k1)) := fun W' k => HK.out _ (bmore F3 k)
  have HBW : Hid (Below W.heap.size W w3) := bmore HA.out F3
  clear HT1 B1 B2 B3 k7 HK F3 HA
  generalize (W.alloc (.cells #[.string k0, .string k1] 23)).heap.size = BB at *
  obtain ⟨s0, p1, p2, p3, P0, Q0, T0⟩ := tells HT.out k0
  obtain ⟨s1, r1, r2, r3, P1, Q1, T1⟩ := tells HT.out k1
  have HT0 : Hid (Tells w3 x r k0 s0 p1 p2 p3 P0 Q0) := T0
  have HT1 : Hid (Tells w3 x r k1 s1 r1 r2 r3 P1 Q1) := T1
  clear T0 T1
  go_loopw [10] (fun fi wr => ∃ (i : Int), fi = .int .i64 i ∧ Hid (i = 0 ∨ i = 1 ∨ i = 2) ∧ Hid (Below w3.heap.size w3 wr)) (fun fi _ => (2 - intOf fi).toNat)
  case atStart => exact ⟨0, rfl, .inl rfl, Below.refl _ _⟩
  case round =>
    obtain ⟨i, rfl, hi, hB⟩ := hrel
    rcases hi.out with rfl | rfl | rfl
    · obtain ⟨q0, q1⟩ := HKW.out _ hB.out
      clear hi
      go_wp2_with (first
        | (go_at_call 10; (with_reducible refine (HT0.out.g _ hB.out).mono ?_); rintro e w4 ⟨rfl, B4⟩; have F4 := bmore hB.out B4; clear q0 q1; obtain ⟨q0, q1⟩ := HKW.out _ F4)
        | (go_at_call 11; (with_reducible refine (HT0.out.rg _ F4).mono ?_); rintro e w5 ⟨rfl, B5⟩; have F5 := bmore F4 B5; clear q0 q1; obtain ⟨q0, q1⟩ := HKW.out _ F5)
        | (go_at_call 12; (with_reducible refine (HT0.out.n _ F5).mono ?_); rintro e w6 ⟨rfl, B6⟩; have D6 := blk_new w6 [.string P0.1, .string P0.2] 33; have HD6 : Hid (Blk (w6.alloc (.cells #[.string P0.1, .string P0.2] 33)) w6.heap.size [.string P0.1, .string P0.2] 33) := D6; have F6 := bmore F5 (bmore B6 (al _ (.cells #[.string P0.1, .string P0.2] 33))); clear q0 q1 D6; obtain ⟨q0, q1⟩ := HKW.out _ F6)
        | (go_at_call 13; (with_reducible refine (HT0.out.rn _ F6).mono ?_); rintro e w7 ⟨rfl, B7⟩; have D7 := blk_new w7 [.string P0.1, .string P0.2] 33; have HD7 : Hid (Blk (w7.alloc (.cells #[.string P0.1, .string P0.2] 33)) w7.heap.size [.string P0.1, .string P0.2] 33) := D7; have E7 := bmore B7 (al _ (.cells #[.string P0.1, .string P0.2] 33)); have F7 := bmore F6 E7; clear q0 q1 D7; obtain ⟨q0, q1⟩ := HKW.out _ F7)
        | (go_at_call 14; (with_reducible refine (HT0.out.f _ F7).mono ?_); rintro e w8 ⟨rfl, B8⟩; have D8 := blk_new w8 [.string Q0.1, .string Q0.2] 33; have HD8 : Hid (Blk (w8.alloc (.cells #[.string Q0.1, .string Q0.2] 33)) w8.heap.size [.string Q0.1, .string Q0.2] 33) := D8; have E8 := bmore B8 (al _ (.cells #[.string Q0.1, .string Q0.2] 33)); have F8 := bmore F7 E8; clear q0 q1 D8; obtain ⟨q0, q1⟩ := HKW.out _ F8)
        | (go_at_call 15; (with_reducible refine (HT0.out.rf _ F8).mono ?_); rintro e w9 ⟨rfl, B9⟩; have E9 := bmore B9 (al _ (.cells #[.string Q0.1, .string Q0.2] 33)); have F9 := bmore F8 E9; obtain ⟨m0, m1, _, _⟩ := Blk.c2 (HD8.out.below E9); obtain ⟨m2, m3, _, _⟩ := Blk.c2 (HD7.out.below (bmore E8 E9)); obtain ⟨m4, m5, _, _⟩ := Blk.c2 (HD6.out.below (bmore (bmore E7 E8) E9)); obtain ⟨m6, m7, _, _⟩ := Blk.c2 (blk_new w9 [.string Q0.1, .string Q0.2] 33); clear q0 q1; obtain ⟨q0, q1⟩ := HKW.out _ F9))
      go_roundw
      case rel => exact ⟨1, rfl, .inr (.inl rfl), F9⟩
      case measure => simp [intOf]
    · obtain ⟨q0, q1⟩ := HKW.out _ hB.out
      clear hi
      go_wp2_with (first
        | (go_at_call 10; (with_reducible refine (HT1.out.g _ hB.out).mono ?_); rintro e w4 ⟨rfl, B4⟩; have F4 := bmore hB.out B4; clear q0 q1; obtain ⟨q0, q1⟩ := HKW.out _ F4)
        | (go_at_call 11; (with_reducible refine (HT1.out.rg _ F4).mono ?_); rintro e w5 ⟨rfl, B5⟩; have F5 := bmore F4 B5; clear q0 q1; obtain ⟨q0, q1⟩ := HKW.out _ F5)
        | (go_at_call 12; (with_reducible refine (HT1.out.n _ F5).mono ?_); rintro e w6 ⟨rfl, B6⟩; have D6 := blk_new w6 [.string P1.1, .string P1.2] 33; have HD6 : Hid (Blk (w6.alloc (.cells #[.string P1.1, .string P1.2] 33)) w6.heap.size [.string P1.1, .string P1.2] 33) := D6; have F6 := bmore F5 (bmore B6 (al _ (.cells #[.string P1.1, .string P1.2] 33))); clear q0 q1 D6; obtain ⟨q0, q1⟩ := HKW.out _ F6)
        | (go_at_call 13; (with_reducible refine (HT1.out.rn _ F6).mono ?_); rintro e w7 ⟨rfl, B7⟩; have D7 := blk_new w7 [.string P1.1, .string P1.2] 33; have HD7 : Hid (Blk (w7.alloc (.cells #[.string P1.1, .string P1.2] 33)) w7.heap.size [.string P1.1, .string P1.2] 33) := D7; have E7 := bmore B7 (al _ (.cells #[.string P1.1, .string P1.2] 33)); have F7 := bmore F6 E7; clear q0 q1 D7; obtain ⟨q0, q1⟩ := HKW.out _ F7)
        | (go_at_call 14; (with_reducible refine (HT1.out.f _ F7).mono ?_); rintro e w8 ⟨rfl, B8⟩; have D8 := blk_new w8 [.string Q1.1, .string Q1.2] 33; have HD8 : Hid (Blk (w8.alloc (.cells #[.string Q1.1, .string Q1.2] 33)) w8.heap.size [.string Q1.1, .string Q1.2] 33) := D8; have E8 := bmore B8 (al _ (.cells #[.string Q1.1, .string Q1.2] 33)); have F8 := bmore F7 E8; clear q0 q1 D8; obtain ⟨q0, q1⟩ := HKW.out _ F8)
        | (go_at_call 15; (with_reducible refine (HT1.out.rf _ F8).mono ?_); rintro e w9 ⟨rfl, B9⟩; have E9 := bmore B9 (al _ (.cells #[.string Q1.1, .string Q1.2] 33)); have F9 := bmore F8 E9; obtain ⟨m0, m1, _, _⟩ := Blk.c2 (HD8.out.below E9); obtain ⟨m2, m3, _, _⟩ := Blk.c2 (HD7.out.below (bmore E8 E9)); obtain ⟨m4, m5, _, _⟩ := Blk.c2 (HD6.out.below (bmore (bmore E7 E8) E9)); obtain ⟨m6, m7, _, _⟩ := Blk.c2 (blk_new w9 [.string Q1.1, .string Q1.2] 33); clear q0 q1; obtain ⟨q0, q1⟩ := HKW.out _ F9))
      go_roundw
      case rel => exact ⟨2, rfl, .inr (.inr rfl), F9⟩
      case measure => simp [intOf]
    · clear hi
      have hl : kv.length ≤ 1000 := Nat.le_trans HT.out.tt.few (by decide)
      obtain ⟨ra, rc, hri⟩ := HT.out.ri
      have H17 : Hid (∀ W', Below w3.heap.size w3 W' → Calls Try.prog 17 #[.pointer (some ⟨x, 0, none⟩), .string k0, .string k1, .int .i64 mo] W' fun e w' => ∃ v, e = .returned v ∧ LV EP w' v (rangeP kv k0 k1 mo) ∧ Below W'.heap.size W' w') := fun W' hW => by obtain ⟨_, _, _, htp⟩ := (HT.out.tt.below hW).tp; exact range17 htp k0 k1 mo
      have H18 : Hid (∀ W', Below w3.heap.size w3 W' → Calls Try.prog 18 #[.pointer (some ⟨r, 0, none⟩), .string k0, .string k1, .int .i64 mo] W' fun e w' => ∃ v, e = .returned v ∧ LV EP w' v (rangeP kv k0 k1 mo) ∧ Below W'.heap.size W' w') := fun W' hW => rrange18 (hri.below hW) hl k0 k1 mo
      have H19 : Hid (∀ W', Below w3.heap.size w3 W' → Calls Try.prog 19 #[.pointer (some ⟨x, 0, none⟩), .string k0, .string k1] W' fun e w' => e = .returned (.int .i64 (countP kv k0 k1 : Int)) ∧ Below W'.heap.size W' w') := fun W' hW => count19 (HT.out.tt.below hW) k0 k1
      have H20 : Hid (∀ W', Below w3.heap.size w3 W' → Calls Try.prog 20 #[.pointer (some ⟨r, 0, none⟩), .string k0, .string k1] W' fun e w' => e = .returned (.int .i64 (countP kv k0 k1 : Int)) ∧ Below W'.heap.size W' w') := fun W' hW => rcount20 (hri.below hW) hl k0 k1
      have HLn : Hid ((rangeP kv k0 k1 mo).length ≤ 1000) := Nat.le_trans (range_len _ _ _ _) hl
      generalize countP kv k0 k1 = CN at *
      generalize rangeP kv k0 k1 mo = RL at *
      clear hl hri
      have F0 : Below w3.heap.size w3 wr.drew := bmore hB.out (Below.refl _ _).drew
      have hS0 := HKW.out _ F0
      go_wp2_with fail
      go_region_held3 (fun w' => w'.cell? ⟨W.heap.size, 0, none⟩ = some (.string k0) ∧ w'.cell? ⟨W.heap.size, 1, none⟩ = some (.string k1)) (first | exact hS0 | exact HKW.out _ F8 | exact HKW.out _ F7 | exact HKW.out _ F6 | exact HKW.out _ F5 | exact HKW.out _ F4) (first
        | (go_at_call 17; (with_reducible refine (H17.out _ F0).mono ?_); rintro e w4 ⟨v4, rfl, L4, B4⟩; have F4 := bmore F0 B4; have HL4 : Hid (LV EP w4 v4 RL) := L4; clear L4)
        | (go_at_call 18; (with_reducible refine (H18.out _ F4).mono ?_); rintro e w5 ⟨v5, rfl, L5, B5⟩; have F5 := bmore F4 B5; have k16 := same16 (HL4.out.below B5) L5 HLn.out; clear L5)
        | (go_at_call 16; (with_reducible refine k16.mono ?_); rintro e w6 ⟨rfl, B6⟩; have F6 := bmore F5 B6; clear k16)
        | (go_at_call 19; (with_reducible refine (H19.out _ F6).mono ?_); rintro e w7 ⟨rfl, B7⟩; have F7 := bmore F6 B7)
        | (go_at_call 20; (with_reducible refine (H20.out _ F7).mono ?_); rintro e w8 ⟨rfl, B8⟩; have F8 := bmore F7 B8))
      go_wp2
      go_ret
      exact ⟨by first | rfl | simp, bmore HBW.out F8⟩
end Go.Proofs.Ytgimjjlkniplnaa
