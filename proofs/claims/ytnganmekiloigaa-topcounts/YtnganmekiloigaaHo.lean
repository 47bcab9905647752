/- The law TopCounts. -/
import Derived.Test.YtnganmekiloigaaHn
import Derived.Deep.CutRange
import Derived.Deep.CutBlock
namespace Go.Proofs.Ytnganmekiloigaa
open Go.RowKit
set_option maxRecDepth 100000
variable {w w' : World} {B d s x : Nat} {D : Dk} {W : Wl} {G : List Nat}
/-- Lists of truths that came in. -/
def InKK (B0 : Nat) (W : World) (v : Value) (ks : List (List Bool)) : Prop := ∃ a c, v = .slice a ks.length c ∧ ks.length ≤ c ∧ (0 < ks.length → ∃ b o, a = some ⟨b, o, none⟩ ∧ b < B0 ∧ ∀ (i : Nat) (kl : List Bool), ks[i]? = some kl → ∃ vk, W.cell? ⟨b, o + i, none⟩ = some vk ∧ InK B0 W vk kl)
/-- Truths that a crash takes. -/
structure Kp (B0 : Nat) (W0 : World) (v : Value) (kl : List Bool) : Prop where
  form : ∃ a n c, v = .slice a n c
  kb : ∀ W, Below W0.heap.size W0 W → KB W v kl
  low : ∀ a n c, v = .slice (some a) n c → 0 < kl.length → a.block < B0
theorem Kp.nil (B0 : Nat) (W0 : World) : Kp B0 W0 (.slice none 0 0) [] := ⟨⟨none, 0, 0, rfl⟩, fun _ _ => .inl ⟨none, 0, rfl, rfl⟩, fun a n c e _ => by cases e⟩
theorem Kp.of {W0 : World} {v : Value} {kl : List Bool} (hk : InK W0.heap.size W0 v kl) : Kp W0.heap.size W0 v kl := by
  refine ⟨hk.form, fun W hB => ?_, fun a n c e h0 => ?_⟩
  · obtain ⟨a, c, rfl, h1, h2, h3⟩ := hk.below hB
    by_cases h0 : 0 < kl.length
    · obtain ⟨b, o, rfl, hb, hat⟩ := h3 h0
      exact .inr ⟨b, o, c, rfl, h0, hat⟩
    · have e : kl = [] := List.eq_nil_of_length_eq_zero (by omega)
      subst e
      exact .inl ⟨a, c, rfl, rfl⟩
  · obtain ⟨a', c', h1, _, _, h3⟩ := hk
    obtain ⟨b, o, e', hb, _⟩ := h3 h0
    rw [h1, e'] at e
    cases e
    exact hb
theorem meas_lt5 {m : Nat} (h : m < 4) : 5 - ((m : Int) + 1).toNat < 5 - ((m : Int)).toNat := by omega
set_option maxHeartbeats 4000000 in
theorem counts13 (W0 : World) (v0 : Value) (l : Bs) (hl : InB W0.heap.size W0 v0 l) (v1 : Value) (ks : List (List Bool)) (hks : InKK W0.heap.size W0 v1 ks) :
    Calls Try.prog 13 #[v0, v1] W0 fun e w' => e = .returned (.bool true) ∧ Below W0.heap.size W0 w' := by
  have c29 := new29 64 W0 (by omega) (by omega)
  obtain ⟨a0, c0, rfl, _, _, h0⟩ := hl
  obtain ⟨a1, c1, rfl, _, h1⟩ := hks
  have HL : Hid (∀ i, i < l.length → ∃ b o, a0 = some ⟨b, o, none⟩ ∧ ∃ z, z < 256 ∧ ∀ W, Below W0.heap.size W0 W → W.cell? ⟨b, o + i, none⟩ = some (.int .u8 ((z : Nat) : Int))) := fun i hi => by
    obtain ⟨b, o, ha, hb, hat⟩ := h0 (by omega)
    exact ⟨b, o, ha, (l.getD i 0).toNat, by have := (l.getD i 0).toNat_lt; omega, fun W k => (k.cell (p := ⟨b, o + i, none⟩) hb).trans (hat i hi)⟩
  have HK : Hid (∀ i, i < ks.length → ∃ b o, a1 = some ⟨b, o, none⟩ ∧ ∃ vk kl, Kp W0.heap.size W0 vk kl ∧ ∀ W, Below W0.heap.size W0 W → W.cell? ⟨b, o + i, none⟩ = some vk) := fun i hi => by
    obtain ⟨b, o, ha, hb, hat⟩ := h1 (by omega)
    obtain ⟨vk, hc, hk⟩ := hat i _ (List.getElem?_eq_getElem hi)
    exact ⟨b, o, ha, vk, _, Kp.of hk, fun W k => (k.cell (p := ⟨b, o + i, none⟩) hb).trans hc⟩
  generalize l.length = nl at *
  generalize ks.length = nk at *
  clear h0 h1
  go_enter Try.func13, Try.ntmps13
  go_wp2_with (first
    | (go_at_call 29; (refine c29.mono ?_; rintro e w1 ⟨rfl, hPD, B1⟩; have k35 := open_new (R := 32) (alone_new29 hPD B1) (by omega) (by omega)))
    | (go_at_call 35; (refine k35.mono ?_; rintro e w2 ⟨x, ua, uc, rfl, A2, -, B2⟩; have B12 := B1.trans (B2.mono B1.size))))
  have H0 : Hid (C13 W0 w2 (W0.heap.size + 1) W0.heap.size x 0 0 0) := C13.new A2 B12
  clear c29 k35 A2 B1 B2 B12 hPD
  go_loopw [6, 9, 10] (fun p6 p9 p10 wr => ∃ x nx i : Nat, p6 = .pointer (some ⟨x, 0, none⟩) ∧ p9 = .int .i64 (nx : Int) ∧ p10 = .int .i64 (i : Int) ∧ Hid (i ≤ 8) ∧ Hid (nx ≤ 4 * i) ∧ Hid (C13 W0 wr (W0.heap.size + 1) W0.heap.size x nx i 0)) (fun _ _ p10 _ => 8 - (intOf p10).toNat)
  case atStart => exact ⟨x, 0, 0, rfl, rfl, rfl, Nat.zero_le _, Nat.le_refl _, H0.out⟩
  case round =>
    clear H0
    obtain ⟨x1, nx, i, rfl, rfl, rfl, hi8, hnx, HC⟩ := hrel
    by_cases hlt : i < nl ∧ i < 8
    · obtain ⟨hln, hl8⟩ := hlt
      have b1 : (i : Int) < (nl : Int) := by omega
      have b2 : (i : Int) < 8 := by omega
      have b3 : decide ((i : Int) < (nl : Int)) = true := decide_eq_true b1
      have b4 : decide (i < nl) = true := decide_eq_true hln
      obtain ⟨bl, ol, rfl, z, hz, HZ0⟩ := HL.out i hln
      have HZ : Hid (∀ W, Below W0.heap.size W0 W → W.cell? ⟨bl, ol + i, none⟩ = some (.int .u8 ((z : Nat) : Int))) := HZ0
      clear HZ0
      have h0i : (0 : Int) ≤ (i : Int) := by omega
      go_upto_block 2 with fail
      go_cut [9, 11, 12, 13] from 33 to 139 (fun u9 u11 u12 u13 wx => ∃ n2 : Nat, u9 = .int .i64 (n2 : Int) ∧ Hid (n2 ≤ 4 * i + 4) ∧ Hid (C13 W0 wx (W0.heap.size + 1) W0.heap.size x1 n2 i 0))
      case first =>
        have h5 : ((z : Int)).tmod 5 = ((z % 5 : Nat) : Int) := by rw [Int.tmod_eq_emod_of_nonneg (by omega)]; omega
        have HZ5 : Hid (z % 5 ≤ 4) := by show _ ≤ _; omega
        generalize z % 5 = z5 at *
        go_wp2_with fail
        go_loopw [9, 11] (fun p9 p11 wq => ∃ n2 k : Nat, p9 = .int .i64 (n2 : Int) ∧ p11 = .int .i64 (k : Int) ∧ Hid (k ≤ 4) ∧ Hid (n2 ≤ 4 * i + k) ∧ Hid (C13 W0 wq (W0.heap.size + 1) W0.heap.size x1 n2 i 0)) (fun _ p11 _ => 5 - (intOf p11).toNat)
        case atStart => exact ⟨nx, 0, rfl, rfl, Nat.zero_le _, hnx.out, HC.out⟩
        case round =>
          clear HC hnx
          obtain ⟨n2, k, rfl, rfl, hk4, hn2, HC⟩ := hrel
          have yz := HZ.out _ HC.out.below
          by_cases hk : k < z5
          · have hki : (k : Int) < (z5 : Int) := by omega
            have hk7 : k < 4 := by have := HZ5.out; omega
            have hk7i : (k : Int) < 4 := by omega
            have hn32 : n2 ≤ 40 := by have := hn2.out; have := hk4.out; omega
            have hn32i : (n2 : Int) ≤ 40 := by omega
            obtain ⟨xb, hxb⟩ : ∃ xb : UInt8, xb.toNat = n2 := ⟨UInt8.ofNat n2, by rw [UInt8.toNat_ofNat']; omega⟩
            have hw8 : IntKind.u8.wrap (n2 : Int) = (xb.toNat : Int) := by rw [IntKind.wrap_u8, hxb]; omega
            have k42 := HC.out.append hi8.out (by omega) xb hxb
            have HNI : Hid (n2 + 1 ≤ 4 * i + (k + 1)) := by have := hn2.out; show _ ≤ _; omega
            have HN4 : Hid (n2 ≤ 4 * i + 4) := by have := hn2.out; show _ ≤ _; omega
            clear HC hxb hn2
            go_wp2_with (go_at_call 42; (refine k42.mono ?_; rintro e w6 (⟨rfl, h6⟩ | ⟨rfl, h6⟩) <;> have H6 : Hid _ := h6 <;> clear h6))
            · go_meet
              case rel => exact ⟨n2, rfl, HN4.out, H6.out⟩
            · go_roundw
              case rel => exact ⟨n2 + 1, k + 1, by simp, by simp, by show _ ≤ _; omega, HNI.out, H6.out⟩
              case measure => simp only [intOf]; exact meas_lt5 hk7
          · have hki : ¬ (k : Int) < (z5 : Int) := by omega
            have HN4 : Hid (n2 ≤ 4 * i + 4) := by have := hn2.out; have := hk4.out; show _ ≤ _; omega
            go_wp2_with fail
            go_meet
            case rel => exact ⟨n2, rfl, HN4.out, HC.out⟩
      case rest =>
        obtain ⟨n2, rfl, hn2, HC2⟩ := hcut
        rename_i K hK
        apply hK
        go_upto_if 74 with fail
        go_cut [14] from 33 to 139 (fun u14 wx => ∃ q : Nat, u14 = .int .i64 (q : Int) ∧ Hid (q ≤ n2) ∧ Hid (C13 W0 wx (W0.heap.size + 1) W0.heap.size x1 n2 i q))
        case first =>
          have k39 := HC2.out.flush
          obtain ho | ho : i % 2 = 0 ∨ i % 2 = 1 := by omega
          · have hb : ((i : Int) % 2 == 0) = true := by rw [beq_iff_eq]; omega
            clear ho
            go_wp2_with (go_at_call 39; (refine k39.mono ?_; rintro e w5 ⟨rfl, h5⟩; have H5 : Hid _ := h5; clear h5))
            go_meet
            case rel => exact ⟨n2, rfl, Nat.le_refl _, H5.out⟩
          · have hb : ((i : Int) % 2 == 0) = false := by rw [beq_eq_false_iff_ne]; omega
            clear ho k39
            go_wp2_with fail
            go_meet
            case rel => exact ⟨0, rfl, Nat.zero_le _, HC2.out⟩
        case rest =>
        clear HC2 HC hnx
        obtain ⟨q, rfl, hq, HC3⟩ := hcut
        rename_i K hK
        apply hK
        go_upto_if 82 with fail
        go_cut [15] from 33 to 139 (fun u15 wx => ∃ kl, Hid (Kp W0.heap.size W0 u15 kl) ∧ wx = wc)
        case first =>
          by_cases hk : i < nk
          · have hki : (i : Int) < (nk : Int) := by omega
            obtain ⟨bk, ok, rfl, vk, kl, hkp, hvk⟩ := HK.out i hk
            have HKP : Hid _ := hkp
            have yk := hvk _ HC3.out.below
            clear hkp hvk
            go_wp2_with fail
            go_meet
            case rel => exact ⟨kl, HKP.out, rfl⟩
          · have hki : ¬ (i : Int) < (nk : Int) := by omega
            go_wp2_with fail
            go_meet
            case rel => exact ⟨[], Kp.nil _ _, rfl⟩
        case rest =>
        obtain ⟨kl, HKP, rfl⟩ := hcut
        rename_i K hK
        apply hK
        obtain ⟨ka, kn, kc, rfl⟩ := HKP.out.form
        have k18 := HC3.out.crash hi8.out (HKP.out.kb _ HC3.out.below) HKP.out.low
        clear HC3 HKP
        go_wp2_with (first
          | (go_at_call 18; (refine k18.mono ?_; rintro e w7 ⟨rfl, h7⟩; have k35 := h7.opens; clear h7))
          | (go_at_call 35; (refine k35.mono ?_; rintro e w8 ⟨x2, ra, rc, n3, rfl, hq3, hn3, hr, h8⟩; have HR : Hid (RL w8 (.slice ra n3 rc) (numL n3)) := hr; have H8 : Hid _ := h8; have g1 : ¬ (n3 : Int) < (q : Int) := (by omega); have g1n : ¬ n3 < q := (by omega); have g2 : ¬ (n2 : Int) < (n3 : Int) := (by omega); have g2n : ¬ n2 < n3 := (by omega); have HN3 : Hid (n3 ≤ 4 * i + 4) := Nat.le_trans hn3 hn2.out; clear hr h8 hq3 hn3)))
        clear k18 k35
        go_loopw [19] (fun p19 wq => ∃ k : Nat, p19 = .int .i64 (k : Int) ∧ Hid (k ≤ n3) ∧ w8 = wq) (fun p19 _ => n3 - (intOf p19).toNat)
        case atStart => exact ⟨0, rfl, Nat.zero_le _, rfl⟩
        case round =>
          obtain ⟨k, rfl, hk3, rfl⟩ := hrel
          by_cases hk : k < n3
          · have hki : (k : Int) < (n3 : Int) := by omega
            have hk50 : k < 50 := by have := HN3.out; have := hi8.out; omega
            have hk50i : (k : Int) < 50 := by omega
            have h0k : (0 : Int) ≤ (k : Int) := by omega
            obtain ⟨gr, or, p0, kk, q0, rfl, hc, hlv⟩ := HR.out.at (numL_get hk)
            obtain rfl : kk = 1 := hlv.cap.1
            obtain ⟨g2, o2, rfl, hat⟩ := hlv.at (i := 0) (x := UInt8.ofNat k) rfl
            have hc2 : w8.cell? ⟨g2, o2, none⟩ = some (.int .u8 (k : Int)) := by
              have := hat 0 (by decide)
              simp only [Nat.zero_mul, Nat.add_zero] at this
              rw [this]
              show some (Value.int .u8 (((UInt8.ofNat k).toNat : Nat) : Int)) = _
              rw [UInt8.toNat_ofNat', Nat.mod_eq_of_lt (by omega)]
            have hw8 : IntKind.u8.wrap (k : Int) = (k : Int) := by rw [IntKind.wrap_u8]; omega
            have HK1 : Hid (k + 1 ≤ n3) := hk
            clear hat hlv
            go_wp2_with fail
            go_roundw
            case rel => exact ⟨k + 1, by simp, HK1.out, trivial⟩
            case measure => simp only [intOf]; exact meas_lt hk
          · have hki : ¬ (k : Int) < (n3 : Int) := by omega
            have HS : Hid (i + 1 ≤ 8 ∧ n3 ≤ 4 * (i + 1)) := ⟨by omega, by have := HN3.out; omega⟩
            go_wp2_with fail
            go_roundw
            case rel => exact ⟨x2, n3, i + 1, rfl, rfl, by simp, HS.out.1, HS.out.2, H8.out⟩
            case measure => simp only [intOf]; exact meas_lt hl8
    · have k46 := HC.out.len
      have HB : Hid (Below W0.heap.size W0 wr) := HC.out.below
      clear HC
      by_cases hln : i < nl
      · have hl8 : ¬ i < 8 := fun h => hlt ⟨hln, h⟩
        have b1 : (i : Int) < (nl : Int) := by omega
        have b2 : ¬ (i : Int) < 8 := by omega
        have b3 : decide ((i : Int) < (nl : Int)) = true := decide_eq_true b1
        have b4 : decide (i < nl) = true := decide_eq_true hln
        go_wp2_with (go_at_call 46; (refine k46.mono ?_; rintro e w6 ⟨rfl, rfl⟩))
        go_ret
        exact ⟨rfl, HB.out⟩
      · have b1 : ¬ (i : Int) < (nl : Int) := by omega
        have b3 : decide ((i : Int) < (nl : Int)) = false := decide_eq_false b1
        have b4 : decide (i < nl) = false := decide_eq_false hln
        go_wp2_with (go_at_call 46; (refine k46.mono ?_; rintro e w6 ⟨rfl, rfl⟩))
        go_ret
        exact ⟨rfl, HB.out⟩
end Go.Proofs.Ytnganmekiloigaa
