/- The law IvalsPoints. -/
import Derived.Test.YtgglhicpfjihlaaPy
import Derived.Test.YtgglhicpfjihlaaSi
namespace Go.Proofs.Ytgglhicpfjihlaa
open Go.RowKit Go.Shelf
set_option maxRecDepth 100000
theorem filt_len {t : T} (h : Inv t) (p : St → Bool) : ((t.inord.filter p).map (·.i)).length ≤ 1000 := by
  rw [List.length_map]
  have := List.length_filter_le p t.inord
  have := h.sz
  rw [T.inord_length] at *
  omega
theorem stab_r {W : World} {x : Nat} {t : T} {p : Option Addr} (h : IV W x p t) (hi : Inv t) (a : Int) (ha : least ≤ a) : Calls Try.prog 19 #[.pointer (some ⟨x, 0, none⟩), .int .i64 a] W fun e w' => ∃ v, e = .returned v ∧ Hid (IR w' v ((t.inord.filter (met a a)).map (·.i))) ∧ Below W.heap.size W w' :=
  (stab19 h hi a ha).mono fun _ _ ⟨v, he, ho, b⟩ => ⟨v, he, IR.of_owns ho, b⟩
theorem over_r {W : World} {x : Nat} {t : T} {p : Option Addr} (h : IV W x p t) (hi : Inv t) (f to : Int) (hf : least ≤ f) (hft : f < to) (hto : to ≤ most) : Calls Try.prog 20 #[.pointer (some ⟨x, 0, none⟩), .agg #[.int .i64 f, .int .i64 to]] W fun e w' => ∃ v, e = .returned v ∧ Hid (IR w' v ((t.inord.filter (met f (to - 1))).map (·.i))) ∧ Below W.heap.size W w' :=
  (over20_yes h hi f to hf hft hto).mono fun _ _ ⟨v, he, ho, b⟩ => ⟨v, he, IR.of_owns ho, b⟩
theorem mem_met {t : T} {f to at' : Int} (h1 : f ≤ at') (h2 : at' < to) : ∀ z ∈ (t.inord.filter (met at' at')).map (·.i), z ∈ (t.inord.filter (met f (to - 1))).map (·.i) := by
  intro z hz
  simp only [List.mem_map, List.mem_filter] at hz ⊢
  obtain ⟨s, ⟨hs, hm⟩, rfl⟩ := hz
  refine ⟨s, ⟨hs, ?_⟩, rfl⟩
  simp [met] at hm ⊢
  omega
set_option maxHeartbeats 4000000 in
theorem points5 {W : World} {v : Value} {xs : List (Int × St)} {f to : Int} {n : Nat} (hv : DRow W v xs) (hb : LoB xs) (hf : least ≤ f ∧ f ≤ most) (ht : least ≤ to ∧ to ≤ most) (hn : n < 256) : Calls Try.prog 5 #[v, .agg #[.int .i64 f, .int .i64 to], .int .u8 (n : Int)] W fun e w' => e = .returned (.bool true) ∧ Below W.heap.size W w' := by
  have hA := al W (.cells #[.int .i64 f, .int .i64 to] 24)
  have b0 := blk_new W [.int .i64 f, .int .i64 to] 24
  change Blk (W.alloc (.cells #[.int .i64 f, .int .i64 to] 24)) _ _ _ at b0
  have k8 := play8 (hv.below hA) hb
  have HA : Hid _ := hA
  have HC : Hid (∀ w', Below (W.alloc (.cells #[.int .i64 f, .int .i64 to] 24)).heap.size (W.alloc (.cells #[.int .i64 f, .int .i64 to] 24)) w' → w'.cell? ⟨W.heap.size, 0, none⟩ = some (.int .i64 f) ∧ w'.cell? ⟨W.heap.size, 1, none⟩ = some (.int .i64 to)) := fun w' k => ⟨(b0.below k).cell 0, (b0.below k).cell 1⟩
  have HF : Hid _ := hf
  have HTo : Hid _ := ht
  clear hv hb b0 hA hf ht
  by_cases hr : -4611686018427387904 ≤ f ∧ f < 4611686018427387904 ∧ f < to
  · obtain ⟨r1, r2, r3⟩ := hr
    have r2' : ¬ 4611686018427387904 ≤ f := by omega
    have r1' : ¬ f < -4611686018427387904 := by omega
    have r3' : ¬ to ≤ f := by omega
    go_enter Try.func5, Try.ntmps5
    go_wp2_with fail
    generalize W.alloc (.cells #[.int .i64 f, .int .i64 to] 24) = W1 at *
    go_wp2_with (first
      | (go_at_call 8; (with_reducible refine k8.mono ?_); rintro e w1 ⟨x, r, t, rfl, HT, HZ, B1⟩)
      | (go_at_call 9; (with_reducible refine (live9 _).mono ?_); rintro e w2 ⟨rfl, B2⟩; obtain ⟨c0, c1⟩ := HC.out _ (bmore B1 B2)))
    have hIt := HT.out.inv
    obtain ⟨q, iq⟩ := HT.out.iv
    have HI : Hid (∀ w', Below w2.heap.size w2 w' → IV w' x q t) := fun w' k => iq.below (bmore B2 k)
    have HIt : Hid _ := hIt
    have HL : Hid (∀ w', Below w2.heap.size w2 w' → w'.cell? ⟨W.heap.size, 0, none⟩ = some (.int .i64 f) ∧ w'.cell? ⟨W.heap.size, 1, none⟩ = some (.int .i64 to)) := fun w' k => HC.out _ (bmore (bmore B1 B2) k)
    have HW : Hid (Below W.heap.size W w2) := bmore HA.out (bmore B1 B2)
    have K0 : Below w2.heap.size w2 w2.drew := (Below.refl _ _).drew
    have hw1 : IntKind.i64.wrap (f + 1) = f + 1 := (IntWalk.i64_left _).trans (IntWalk.wrap64_in _ (by omega))
    have hS0 := (HL.out _ K0).1
    have H20 : Hid (∀ w', Below w2.heap.size w2 w' → Calls Try.prog 20 #[.pointer (some ⟨x, 0, none⟩), .agg #[.int .i64 f, .int .i64 (f + 1)]] w' fun e w'' => ∃ v, e = .returned v ∧ Hid (IR w'' v ((t.inord.filter (met f f)).map (·.i))) ∧ Below w'.heap.size w' w'') := fun w' k => by
      have := over_r (HI.out _ k) HIt.out f (f + 1) HF.out.1 (by omega) (by unfold most; omega)
      rw [show f + 1 - 1 = f by omega] at this
      exact this
    clear hIt iq B1 B2 k8 c0 c1
    go_region_held3 (fun w' => w'.cell? ⟨W.heap.size, 0, none⟩ = some (.int .i64 f)) (first | exact hS0 | exact (HL.out _ K3).1 | exact (HL.out _ K2).1 | exact (HL.out _ K1).1) (first
      | (go_at_call 19; (with_reducible refine (stab_r (HI.out _ K0) HIt.out f HF.out.1).mono ?_); rintro e w3 ⟨va, rfl, hva, B3⟩; have K1 := bmore K0 B3)
      | (go_at_call 20; (with_reducible refine (H20.out _ K1).mono ?_); rintro e w4 ⟨vb, rfl, hvb, B4⟩; have K2 := bmore K1 B4)
      | (go_at_call 18; (with_reducible refine (sameInts18 (IR.below hva.out B4) hvb.out (Nat.le_trans (filt_len HIt.out _) (by decide))).mono ?_); rintro e w5 ⟨rfl, B5⟩; have K3 := bmore K2 B5))
    clear hS0 hva hvb B3 B4 B5 hw1 K0 K1 K2
    obtain ⟨c0, c1⟩ := HL.out _ K3
    have hsum : IntKind.i64.wrap (f + (n : Int)) = f + (n : Int) := (IntWalk.i64_left _).trans (IntWalk.wrap64_in _ (by omega))
    by_cases hat : f + (n : Int) < to
    · have hat' : ¬ to ≤ f + (n : Int) := by omega
      go_wp2_with fail
      have hmem := mem_met (t := t) (f := f) (to := to) (at' := f + (n : Int)) (by omega) hat
      have hlat : least ≤ f + (n : Int) := by unfold least; omega
      clear hsum hat hat' r1' r2' r3'
      generalize f + (n : Int) = at0 at *
      have L0 : Below w2.heap.size w2 w5.drew := bmore K3 ((Below.refl _ _).drew)
      have hS0 := HL.out _ L0
      clear c0 c1
      go_region_held3 (fun w' => w'.cell? ⟨W.heap.size, 0, none⟩ = some (.int .i64 f) ∧ w'.cell? ⟨W.heap.size, 1, none⟩ = some (.int .i64 to)) (first | exact hS0 | exact HL.out _ L2 | exact HL.out _ L1) (first
        | (go_at_call 19; (with_reducible refine (stab_r (HI.out _ L0) HIt.out at0 hlat).mono ?_); rintro e w6 ⟨va, rfl, hva, B6⟩; have L1 := bmore L0 B6)
        | (go_at_call 20; (with_reducible refine (over_r (HI.out _ L1) HIt.out f to HF.out.1 r3 HTo.out.2).mono ?_); rintro e w7 ⟨vb, rfl, hvb, B7⟩; have L2 := bmore L1 B7))
      have la := filt_len HIt.out (met at0 at0)
      have lb := filt_len HIt.out (met f (to - 1))
      have HVa : Hid _ := IR.below hva.out B7
      have HVb : Hid _ := hvb.out
      have HWe : Hid _ := bmore HW.out L2
      clear hS0 hva hvb B6 B7 L0 L1 L2 K3 HL HI HC HA HW HT HZ hlat
      generalize (List.filter (met at0 at0) t.inord).map (·.i) = xa at *
      generalize (List.filter (met f (to - 1)) t.inord).map (·.i) = xb at *
      obtain ⟨aa, ca, rfl, _⟩ := HVa.out
      obtain ⟨ab, cb, rfl, _⟩ := HVb.out
      obtain ⟨na, hna⟩ : ∃ m, xa.length = m := ⟨_, rfl⟩
      obtain ⟨nb, hnb⟩ : ∃ m, xb.length = m := ⟨_, rfl⟩
      have HNA : Hid _ := hna
      have HNB : Hid _ := hnb
      have HM : Hid _ := hmem
      rw [hna, hnb]
      rw [hna] at la
      rw [hnb] at lb
      clear hna hnb hmem
      go_wp2_with fail
      go_loopw [13] (fun fi wr => ∃ (k : Nat), fi = .int .i64 (k : Int) ∧ Hid (k ≤ na) ∧ Hid (Below w7.heap.size w7 wr)) (fun fi _ => ((na : Int) - intOf fi).toNat)
      case atStart => exact ⟨0, rfl, Nat.zero_le _, Below.refl _ _⟩
      case round =>
        obtain ⟨k, rfl, hk, hB⟩ := hrel
        by_cases hkN : k < na
        · have hki : (k : Int) < (na : Int) := by omega
          have hk0 : (0 : Int) ≤ (k : Int) := by omega
          obtain ⟨y, hy⟩ : ∃ y, xa[k]? = some y := ⟨_, List.getElem?_eq_getElem (by rw [HNA.out]; exact hkN)⟩
          have HMy : Hid (y ∈ xb) := HM.out y (List.mem_of_getElem? hy)
          obtain ⟨g, o, rfl, hg, d0⟩ := (IR.below HVa.out hB.out).at hy
          have HD : Hid (∀ w', Below wr.heap.size wr w' → w'.cell? ⟨g, o + k, none⟩ = some (.int .i64 y)) := fun w' kk => (kk.cell (p := ⟨g, _, none⟩) hg).trans d0
          clear hy hg d0
          go_wp2_with fail
          go_loopw [14, 15] (fun fin fk w8 => ∃ (j : Nat) (b : Bool), fin = .bool b ∧ fk = .int .i64 (j : Int) ∧ Hid (j ≤ nb ∧ b = decide (y ∈ xb.take j)) ∧ Hid (Below wr.heap.size wr w8)) (fun _ fk _ => ((nb : Int) - intOf fk).toNat)
          case atStart => exact ⟨0, false, rfl, rfl, ⟨Nat.zero_le _, by simp⟩, Below.refl _ _⟩
          case round =>
            obtain ⟨j, b, rfl, rfl, hj, hB2⟩ := hrel
            by_cases hjN : j < nb
            · have hji : (j : Int) < (nb : Int) := by omega
              have hj0 : (0 : Int) ≤ (j : Int) := by omega
              obtain ⟨z, hz⟩ : ∃ z, xb[j]? = some z := ⟨_, List.getElem?_eq_getElem (by rw [HNB.out]; exact hjN)⟩
              have HTk : Hid (xb.take (j + 1) = xb.take j ++ [z]) := by show _ = _; rw [List.take_add_one, hz]; rfl
              obtain ⟨g2, o2, rfl, _, d2⟩ := (IR.below HVb.out (bmore hB.out hB2.out)).at hz
              have d1 := HD.out _ hB2.out
              clear hz
              cases b with
              | true =>
                go_wp2_with fail
                go_big_quiet (fail)
                go_wp2_with fail
                go_roundw
                case rel => exact ⟨j + 1, true, rfl, by simp, ⟨by omega, by rw [HTk.out]; have := hj.out.2; simp at this; simp [this]⟩, bmore hB2.out ⟨rfl, rfl, rfl, Nat.le_refl _, fun _ _ => rfl⟩⟩
                case measure => simp only [intOf]; omega
              | false =>
                by_cases hyz : y = z
                · have he : (y == z) = true := by simpa using hyz
                  have HYZ : Hid _ := hyz
                  clear hyz
                  go_wp2_with fail
                  go_big_quiet (fail)
                  go_wp2_with fail
                  go_roundw
                  case rel => exact ⟨j + 1, true, rfl, by simp, ⟨by omega, by rw [HTk.out, show y = z from HYZ.out]; simp⟩, bmore hB2.out ⟨rfl, rfl, rfl, Nat.le_refl _, fun _ _ => rfl⟩⟩
                  case measure => simp only [intOf]; omega
                · have he : (y == z) = false := by simpa using hyz
                  have HYZ : Hid _ := hyz
                  clear hyz
                  go_wp2_with fail
                  go_big_quiet (fail)
                  go_wp2_with fail
                  go_roundw
                  case rel => exact ⟨j + 1, false, rfl, by simp, ⟨by omega, by rw [HTk.out]; have := hj.out.2; simp at this; have h2 : ¬ y = z := HYZ.out; simp [this, h2]⟩, bmore hB2.out ⟨rfl, rfl, rfl, Nat.le_refl _, fun _ _ => rfl⟩⟩
                  case measure => simp only [intOf]; omega
            · have hji : ¬ (j : Int) < (nb : Int) := by omega
              have hbt : b = true := by
                rw [hj.out.2, List.take_of_length_le (by rw [HNB.out]; omega)]
                simpa using HMy.out
              subst hbt
              clear hj
              go_wp2_with fail
              go_roundw
              case rel => exact ⟨k + 1, by simp, by show _ ≤ _; omega, bmore hB.out hB2.out⟩
              case measure => simp only [intOf]; omega
        · have hki : ¬ (k : Int) < (na : Int) := by omega
          go_wp2
          go_ret
          exact ⟨rfl, bmore HWe.out hB.out⟩
    · have hat' : to ≤ f + (n : Int) := by omega
      go_wp2_with fail
      go_ret
      exact ⟨rfl, bmore HW.out K3⟩
  · go_enter Try.func5, Try.ntmps5
    go_wp2_with fail
    generalize W.alloc (.cells #[.int .i64 f, .int .i64 to] 24) = W1 at *
    go_wp2_with (first
      | (go_at_call 8; (with_reducible refine k8.mono ?_); rintro e w1 ⟨x, r, t, rfl, HT, HZ, B1⟩)
      | (go_at_call 9; (with_reducible refine (live9 _).mono ?_); rintro e w2 ⟨rfl, B2⟩; obtain ⟨c0, c1⟩ := HC.out _ (bmore B1 B2)))
    all_goals first
      | (exfalso; omega)
      | (go_ret; exact ⟨rfl, bmore HA.out (bmore B1 B2)⟩)
end Go.Proofs.Ytgglhicpfjihlaa
