/- same. -/
import Derived.Test.YtgglhicpfjihlaaQe
import Derived.Test.YtgglhicpfjihlaaLo
namespace Go.Proofs.Ytgglhicpfjihlaa
open Go.RowKit Go.Shelf
set_option maxRecDepth 100000
def ov (L : List St) (f to : Int) : List Int := if f < to then (L.filter (met f (to - 1))).map (·.i) else []
theorem over_any {W : World} {x : Nat} {t : T} {p : Option Addr} (h : IV W x p t) (hi : Inv t) (f to : Int) (hf : least ≤ f) (hto : to ≤ most) : Calls Try.prog 20 #[.pointer (some ⟨x, 0, none⟩), .agg #[.int .i64 f, .int .i64 to]] W fun e w' => ∃ v, e = .returned v ∧ Hid (IR w' v (ov t.inord f to)) ∧ Below W.heap.size W w' := by
  unfold ov
  by_cases hft : f < to
  · rw [if_pos hft]; exact over_r h hi f to hf hft hto
  · rw [if_neg hft]
    exact (over20_no f to (by omega)).mono fun _ _ ⟨he, b⟩ => ⟨_, he, IR.nil _ _, b⟩
theorem rover_any {W : World} {r c : Nat} {a : Option Addr} {L : List St} (h : RI W r a c L) (hl : L.length ≤ 1000) (f to : Int) : Calls Try.prog 32 #[.pointer (some ⟨r, 0, none⟩), .agg #[.int .i64 f, .int .i64 to]] W fun e w' => ∃ v, e = .returned v ∧ Hid (IR w' v (ov L f to)) ∧ Below W.heap.size W w' := by
  unfold ov
  by_cases hft : f < to
  · rw [if_pos hft]; exact rover32 h hl f to hft
  · rw [if_neg hft]
    exact (rover_no hft).mono fun _ _ ⟨he, b⟩ => ⟨_, he, IR.nil _ _, b⟩
theorem ov_len {t : T} (h : Inv t) (f to : Int) : (ov t.inord f to).length ≤ 100000 := by
  unfold ov
  split
  · exact Nat.le_trans (filt_len h _) (by decide)
  · simp
theorem nearV_form (o : Option St) : ∃ f t z, nearV o = .tuple #[.agg #[.int .i64 f, .int .i64 t], .bool z] := by
  cases o with
  | none => exact ⟨0, 0, false, rfl⟩
  | some s => exact ⟨s.f, s.t, true, rfl⟩
theorem eql24 (f t : Int) (w : World) : (binOp .eql 24 (.agg #[.int .i64 f, .int .i64 t]) (.agg #[.int .i64 f, .int .i64 t])).run Try.prog w = .ok (.bool true) w := by
  rw [run_eql_struct, eq24h]
  simp
set_option maxHeartbeats 4000000 in
theorem same10 {W : World} {B x r : Nat} {t : T} (h : Two W B x r t) {f to : Int} (hf : least ≤ f ∧ f ≤ most) (ht : least ≤ to ∧ to ≤ most) : Calls Try.prog 10 #[.pointer (some ⟨x, 0, none⟩), .pointer (some ⟨r, 0, none⟩), .agg #[.int .i64 f, .int .i64 to]] W fun e w' => e = .returned (.bool true) ∧ Below W.heap.size W w' := by
  have hA := al W (.cells #[.int .i64 f, .int .i64 to] 24)
  have b0 := blk_new W [.int .i64 f, .int .i64 to] 24
  change Blk (W.alloc (.cells #[.int .i64 f, .int .i64 to] 24)) _ _ _ at b0
  obtain ⟨q, iq⟩ := h.iv
  obtain ⟨a, c, ir⟩ := h.ri
  have hinv := h.inv
  have hlen : t.inord.length ≤ 1000 := by have := hinv.sz; rw [T.inord_length]; omega
  have HI : Hid (∀ w', Below (W.alloc (.cells #[.int .i64 f, .int .i64 to] 24)).heap.size (W.alloc (.cells #[.int .i64 f, .int .i64 to] 24)) w' → IV w' x q t ∧ RI w' r a c t.inord ∧ w'.cell? ⟨W.heap.size, 0, none⟩ = some (.int .i64 f) ∧ w'.cell? ⟨W.heap.size, 1, none⟩ = some (.int .i64 to)) := fun w' k => ⟨iq.below (bmore hA k), ir.below (bmore hA k), (b0.below k).cell 0, (b0.below k).cell 1⟩
  have HInv : Hid _ := hinv
  have HLen : Hid _ := hlen
  have HA : Hid _ := hA
  have HF : Hid _ := hf
  have HTo : Hid _ := ht
  clear h iq ir hinv hlen b0 hA hf ht
  go_enter Try.func10, Try.ntmps10
  go_wp2_with fail
  generalize W.alloc (.cells #[.int .i64 f, .int .i64 to] 24) = W1 at *
  obtain ⟨nf, nt, nz, hnear⟩ := nearV_form (near f t.inord)
  have k24 : Hid (∀ w', Below W1.heap.size W1 w' → Calls Try.prog 24 #[.pointer (some ⟨x, 0, none⟩), .int .i64 f] w' fun e w'' => e = .returned (.tuple #[.agg #[.int .i64 nf, .int .i64 nt], .bool nz]) ∧ Below w'.heap.size w' w'') := fun w' k => by rw [← hnear]; exact nearest24 (HI.out _ k).1 HInv.out f
  have k28 : Hid (∀ w', Below W1.heap.size W1 w' → Calls Try.prog 28 #[.pointer (some ⟨r, 0, none⟩), .int .i64 f] w' fun e w'' => e = .returned (.tuple #[.agg #[.int .i64 nf, .int .i64 nt], .bool nz]) ∧ Below w'.heap.size w' w'') := fun w' k => by rw [← hnear]; exact rnearest28 (HI.out _ k).2.1 HLen.out f
  clear hnear
  go_wp2_with (first
    | (go_at_call 23; (with_reducible refine (items23 (HI.out _ (Below.refl _ _)).1 HInv.out).mono ?_); rintro e w1 ⟨va, vb, rfl, ha, hb, B1⟩; have Ha : Hid (SP w1 va t.inord) := ha; have Hb : Hid (IR w1 vb (t.inord.map (·.i))) := hb; clear ha hb)
    | (go_at_call 27; (with_reducible refine (ritems27 (HI.out _ B1).2.1 HLen.out).mono ?_); rintro e w2 ⟨vc, vd, rfl, hc, hd, B2⟩; have Hc : Hid (SP w2 vc t.inord) := hc; have Hd : Hid (IR w2 vd (t.inord.map (·.i))) := hd; have K2 := bmore B1 B2; clear hc hd; obtain ⟨_, _, s0, s1⟩ := HI.out _ K2)
    | (go_at_call 24; (with_reducible refine (k24.out _ K2).mono ?_); rintro e w3 ⟨rfl, B3⟩; have K3 := bmore (bmore K2 B3) (al w3 (.cells #[.int .i64 nf, .int .i64 nt] 24)); have HP3 : Hid (Blk (w3.alloc (.cells #[.int .i64 nf, .int .i64 nt] 24)) w3.heap.size [.int .i64 nf, .int .i64 nt] 24) := blk_new w3 [.int .i64 nf, .int .i64 nt] 24; clear s0 s1; obtain ⟨_, _, s0, s1⟩ := HI.out _ K3)
    | (go_at_call 28; (with_reducible refine (k28.out _ K3).mono ?_); rintro e w4 ⟨rfl, B4⟩))
  have HP4 : Hid (Blk (w4.alloc (.cells #[.int .i64 nf, .int .i64 nt] 24)) w4.heap.size [.int .i64 nf, .int .i64 nt] 24) := blk_new w4 [.int .i64 nf, .int .i64 nt] 24
  have hw5 := al w4 (.cells #[.int .i64 nf, .int .i64 nt] 24)
  have K5 := bmore (bmore K3 B4) hw5
  have HP3' : Hid _ := Blk.below HP3.out (bmore B4 hw5)
  have HK2 : Hid _ := bmore B2 (bmore (bmore B3 (al w3 (.cells #[.int .i64 nf, .int .i64 nt] 24))) (bmore B4 hw5))
  have HK3 : Hid _ := bmore (bmore B3 (al w3 (.cells #[.int .i64 nf, .int .i64 nt] 24))) (bmore B4 hw5)
  have Ha' : Hid (SP _ va t.inord) := SP.below Ha.out HK2.out
  have Hb' : Hid (IR _ vb (t.inord.map (·.i))) := IR.below Hb.out HK2.out
  have Hc' : Hid (SP _ vc t.inord) := SP.below Hc.out HK3.out
  have Hd' : Hid (IR _ vd (t.inord.map (·.i))) := IR.below Hd.out HK3.out
  clear Ha Hb Hc Hd HK2 HK3 HP3 B1 B2 B3 B4 hw5 K2 K3 s0 s1 k24 k28
  generalize w3.heap.size = p3 at *
  generalize hq4 : w4.heap.size = p4 at HP4 ⊢
  clear hq4
  generalize w4.alloc (.cells #[.int .i64 nf, .int .i64 nt] 24) = W5 at *
  have HS : Hid (∀ w', Below W5.heap.size W5 w' → w'.cell? ⟨W.heap.size, 0, none⟩ = some (.int .i64 f) ∧ w'.cell? ⟨W.heap.size, 1, none⟩ = some (.int .i64 to) ∧ w'.cell? ⟨p3, 0, none⟩ = some (.int .i64 nf) ∧ w'.cell? ⟨p3, 1, none⟩ = some (.int .i64 nt) ∧ w'.cell? ⟨p4, 0, none⟩ = some (.int .i64 nf) ∧ w'.cell? ⟨p4, 1, none⟩ = some (.int .i64 nt)) := fun w' k => ⟨(HI.out _ (bmore K5 k)).2.2.1, (HI.out _ (bmore K5 k)).2.2.2, (Blk.below HP3'.out k).cell 0, (Blk.below HP3'.out k).cell 1, (Blk.below HP4.out k).cell 0, (Blk.below HP4.out k).cell 1⟩
  have HX : Hid (∀ w', Below W5.heap.size W5 w' → IV w' x q t ∧ RI w' r a c t.inord) := fun w' k => ⟨(HI.out _ (bmore K5 k)).1, (HI.out _ (bmore K5 k)).2.1⟩
  have HW5 : Hid (Below W.heap.size W W5) := bmore HA.out K5
  have L0 : Below W5.heap.size W5 W5.drew := (Below.refl _ _).drew
  have hS0 := HS.out _ L0
  have hn := T.inord_length t
  have hInt : (t.inord.map (·.i)).length ≤ 100000 := by rw [List.length_map]; exact Nat.le_trans HLen.out (by decide)
  have k30 : Hid (∀ w', Below W5.heap.size W5 w' → Calls Try.prog 30 #[.pointer (some ⟨r, 0, none⟩)] w' fun e w'' => e = .returned (.int .i64 (t.size : Int)) ∧ w' = w'') := fun w' k => by rw [← hn]; exact rlen30 (HX.out _ k).2
  have HInt : Hid _ := hInt
  have HfL : Hid (((t.inord.filter (met f f)).map (·.i)).length ≤ 100000) := Nat.le_trans (filt_len HInv.out _) (by decide)
  have heq := fun w => eql24 nf nt w
  clear hn hInt K5 HP3' HP4 HI
  go_region_held3 (fun w' => w'.cell? ⟨W.heap.size, 0, none⟩ = some (.int .i64 f) ∧ w'.cell? ⟨W.heap.size, 1, none⟩ = some (.int .i64 to) ∧ w'.cell? ⟨p3, 0, none⟩ = some (.int .i64 nf) ∧ w'.cell? ⟨p3, 1, none⟩ = some (.int .i64 nt) ∧ w'.cell? ⟨p4, 0, none⟩ = some (.int .i64 nf) ∧ w'.cell? ⟨p4, 1, none⟩ = some (.int .i64 nt)) (first | exact hS0 | exact HS.out _ L8 | exact HS.out _ L7 | exact HS.out _ L6 | exact HS.out _ L5 | exact HS.out _ L4 | exact HS.out _ L3 | exact HS.out _ L2 | exact HS.out _ L1) (first
    | (go_at_call 29; (with_reducible refine (spans29 (SP.below Ha'.out L0) (SP.below Hc'.out L0) HLen.out).mono ?_); rintro e w6 ⟨rfl, B6⟩; have L1 := bmore L0 B6)
    | (go_at_call 18; (with_reducible refine (sameInts18 (IR.below Hb'.out L1) (IR.below Hd'.out L1) HInt.out).mono ?_); rintro e w7 ⟨rfl, B7⟩; have L2 := bmore L1 B7)
    | (go_at_call 16; (with_reducible refine (len16 (HX.out _ L2).1).mono ?_); rintro e w8 ⟨rfl, rfl⟩)
    | (go_at_call 30; (with_reducible refine (k30.out _ L2).mono ?_); rintro e w9 ⟨rfl, rfl⟩)
    | (go_at_call 19; (with_reducible refine (stab_r (HX.out _ L2).1 HInv.out f HF.out.1).mono ?_); rintro e w10 ⟨v19, rfl, h19, B10⟩; have L3 := bmore L2 B10)
    | (go_at_call 31; (with_reducible refine (rstab31 (HX.out _ L3).2 HLen.out f).mono ?_); rintro e w11 ⟨v31, rfl, h31, B11⟩; have L4 := bmore L3 B11; have h19' : Hid (IR w11 v19 ((t.inord.filter (met f f)).map (·.i))) := IR.below h19.out B11)
    | (go_at_call 18; (with_reducible refine (sameInts18 h19'.out h31.out HfL.out).mono ?_); rintro e w12 ⟨rfl, B12⟩; have L5 := bmore L4 B12)
    | (go_at_call 20; (with_reducible refine (over_any (HX.out _ L5).1 HInv.out f to HF.out.1 HTo.out.2).mono ?_); rintro e w13 ⟨v20, rfl, h20, B13⟩; have L6 := bmore L5 B13)
    | (go_at_call 32; (with_reducible refine (rover_any (HX.out _ L6).2 HLen.out f to).mono ?_); rintro e w14 ⟨v32, rfl, h32, B14⟩; have L7 := bmore L6 B14; have h20' : Hid (IR w14 v20 (ov t.inord f to)) := IR.below h20.out B14)
    | (go_at_call 18; (with_reducible refine (sameInts18 h20'.out h32.out (ov_len HInv.out f to)).mono ?_); rintro e w15 ⟨rfl, B15⟩; have L8 := bmore L7 B15))
  all_goals (
    go_wp2_with fail
    go_ret
    exact ⟨by simp, bmore HW5.out L8⟩)
end Go.Proofs.Ytgglhicpfjihlaa
