/- The law RowsTells. -/
import Derived.Test.YtpagnphabchfcaaGreatQq
namespace Go.Proofs.YtpagnphabchfcaaGreat
open Go.RowKit Go.Shelf
set_option maxRecDepth 100000
/-- Numbers that a call answers, as the walk takes them. -/
def JPost (w : World) (l : List Int) (e : Ending) (w' : World) : Prop := ∃ p c, e = .returned (.slice p l.length c) ∧ Hid (OwnI w' w.heap.size (.slice p l.length c) l) ∧ Below w.heap.size w w'
theorem IPost.j {w w' : World} {l : List Int} {e : Ending} (h : IPost w l e w') : JPost w l e w' := by
  obtain ⟨v, rfl, h1, h2⟩ := h
  obtain ⟨p, c, hf⟩ := ownI_form h1
  subst hf
  exact ⟨p, c, rfl, h1, h2⟩
theorem points_len (l : List Rw) : (pointsR l).length ≤ l.length * 2 := by
  unfold pointsR
  refine Nat.le_trans (Lib.compact_length_le _) ?_
  unfold sortI
  rw [List.length_mergeSort]
  unfold ptsL
  induction l with
  | nil => simp
  | cons r l ih =>
    simp only [List.flatMap_cons, List.length_append, List.length_cons]
    split <;> simp only [List.length_cons, List.length_nil] <;> omega
set_option maxHeartbeats 4000000 in
theorem rowsTells3 {w : World} {X : Nat → Prop} {va vb : Value} {ea eb : List El} {x : Vt} (ha : RL w X va ea) (hb : RL w X vb eb) (hca : CapOk va) (hcb : CapOk vb) (hva : ∀ e ∈ ea, CapOk e.1) (hvb : ∀ e ∈ eb, CapOk e.1) :
    Calls Tryz.prog 3 #[va, vb, V x] w fun e w' => e = .returned (.bool true) ∧ Below w.heap.size w w' := by
  have hw1 := box25 w x
  have b1 := blk_new w [.int .u8 x.1, .int .i64 x.2.1, .string x.2.2] 25
  change Blk (w.alloc (.cells #[.int .u8 x.1, .int .i64 x.2.1, .string x.2.2] 25)) _ _ _ at b1
  have k7 := few6 (RL.bound (ha.below hw1)) (fun b h => .inr h) hca hva
  have H7 : Hid (∀ W, Below (w.alloc (.cells #[.int .u8 x.1, .int .i64 x.2.1, .string x.2.2] 25)).heap.size (w.alloc (.cells #[.int .u8 x.1, .int .i64 x.2.1, .string x.2.2] 25)) W → Calls Tryz.prog 7 #[vb] W (LPost W (fewR (rws eb)))) := fun W k => few6 (RL.bound ((hb.below hw1).below k)) (fun b h => .inr h) hcb hvb
  obtain ⟨a0, n0, rfl⟩ := ha.form
  obtain ⟨a9, n9, rfl⟩ := hb.form
  obtain ⟨A, hA⟩ : ∃ A, A = fewR (rws ea) := ⟨_, rfl⟩
  obtain ⟨B, hB⟩ : ∃ B, B = fewR (rws eb) := ⟨_, rfl⟩
  rw [← hA] at k7
  rw [← hB] at H7
  have HA24 : Hid (A.length ≤ 24) := by rw [hA]; exact fewR_len _
  have HAv : Hid (∀ r ∈ A, r.1.length ≤ 1000) := by rw [hA]; exact fun r hr => Nat.le_trans (fewR_vals _ r hr) (by decide)
  have HB24 : Hid (B.length ≤ 24) := by rw [hB]; exact fewR_len _
  have HBv : Hid (∀ r ∈ B, r.1.length ≤ 1000) := by rw [hB]; exact fun r hr => Nat.le_trans (fewR_vals _ r hr) (by decide)
  have HW1 : Hid _ := hw1
  clear hA hB ha hb hca hcb hva hvb hw1
  go_enter Tryz.func3, Tryz.ntmps3
  go_wp2_with fail
  generalize w.alloc (.cells #[.int .u8 x.1, .int .i64 x.2.1, .string x.2.2] 25) = w1 at *
  go_at_call 7
  (with_reducible refine k7.mono ?_)
  rintro e w2 hL
  obtain ⟨p1, c1, x1, rfl, hR1, hE1, hB1⟩ := LPost.r hL
  clear hL k7
  have k7b := H7.out _ hB1
  go_wp2_with fail
  go_at_call 7
  (with_reducible refine k7b.mono ?_)
  rintro e w3 hL
  obtain ⟨p2, c2, x2, rfl, hR2, hE2, hB2⟩ := LPost.r hL
  clear hL k7b
  have hx1 : x1.length ≤ 24 := by have h1 := congrArg List.length hE1.out; have h2 := HA24.out; simp [rws] at h1; omega
  have hx2 : x2.length ≤ 24 := by have h1 := congrArg List.length hE2.out; have h2 := HB24.out; simp [rws] at h1; omega
  have hz1 : ∀ e ∈ x1, e.2.1.length ≤ 1000 := rws_vals hE1.out HAv.out
  have hz2 : ∀ e ∈ x2, e.2.1.length ≤ 1000 := rws_vals hE2.out HBv.out
  have HR1 : Hid (∀ W, Below w3.heap.size w3 W → RL W (fun _ => False) (.slice p1 x1.length c1) x1) := fun W k => (hR1.out.below hB2).below k
  have HR2 : Hid (∀ W, Below w3.heap.size w3 W → RL W (fun _ => False) (.slice p2 x2.length c2) x2) := fun W k => hR2.out.below k
  have H10 : Hid (∀ W, Below w3.heap.size w3 W → Calls Tryz.prog 10 #[.slice p1 x1.length c1] W (RPost W (sortR A))) := fun W k => by rw [← hE1.out]; exact (sorted17 (HR1.out _ k) (by omega) hz1).mono (fun _ _ h => SPost.r h)
  have H11 : Hid (∀ W, Below w3.heap.size w3 W → Calls Tryz.prog 11 #[.slice p1 x1.length c1] W (RPost W (sortR A))) := fun W k => by rw [← hE1.out]; exact (rsorted11 (HR1.out _ k) (by omega) hz1).mono (fun _ _ h => LPost.r h)
  have H12 : Hid (∀ W, Below w3.heap.size w3 W → Calls Tryz.prog 12 #[.slice p1 x1.length c1, .slice p2 x2.length c2] W fun e w' => e = .returned (.bool (decide (sortR A = sortR B))) ∧ Below W.heap.size W w') := fun W k => by
    have := same15 (HR1.out _ k) (HR2.out _ k) (by omega) (by omega) hz1 hz2
    rw [hE1.out, hE2.out] at this
    exact this
  have H13 : Hid (∀ W, Below w3.heap.size w3 W → Calls Tryz.prog 13 #[.slice p1 x1.length c1, .slice p2 x2.length c2] W fun e w' => e = .returned (.bool (decide (sortR A = sortR B))) ∧ Below W.heap.size W w') := fun W k => by
    have := rsame13 (HR1.out _ k) (HR2.out _ k) (by omega) (by omega) hz1 hz2
    rw [hE1.out, hE2.out] at this
    exact this
  have H12b : Hid (∀ W p c (y : List El), Below w3.heap.size w3 W → Hid (RL W (fun _ => False) (.slice p y.length c) y) → Hid (rws y = sortR A) → Calls Tryz.prog 12 #[.slice p1 x1.length c1, .slice p y.length c] W fun e w' => e = .returned (.bool true) ∧ Below W.heap.size W w') := fun W p c y k hy ey => by
    have hyl : y.length ≤ 24 := by have h1 := congrArg List.length ey.out; rw [sortR_len] at h1; have h2 := HA24.out; simp [rws] at h1; omega
    have := same15 (HR1.out _ k) hy.out (by omega) (by omega) hz1 (rws_vals ey.out (sortR_vals HAv.out))
    rw [hE1.out, ey.out, decide_eq_true ((sortR_eq _ _).2 (sortR_perm A).symm)] at this
    exact this
  have H14 : Hid (∀ W, Below w3.heap.size w3 W → Calls Tryz.prog 14 #[.slice p1 x1.length c1, .slice p2 x2.length c2] W (RPost W (lessR A B))) := fun W k => by rw [← hE1.out, ← hE2.out]; exact (less14 (HR1.out _ k) (HR2.out _ k) (by omega) (by omega) hz1 hz2).mono (fun _ _ h => LPost.r h)
  have H15 : Hid (∀ W, Below w3.heap.size w3 W → Calls Tryz.prog 15 #[.slice p1 x1.length c1, .slice p2 x2.length c2] W (RPost W (lessR A B))) := fun W k => by rw [← hE1.out, ← hE2.out]; exact (rless15 (HR1.out _ k) (HR2.out _ k) (by omega) (by omega) hz1 hz2).mono (fun _ _ h => LPost.r h)
  have H17 : Hid (∀ W, Below w3.heap.size w3 W → Calls Tryz.prog 17 #[.slice p1 x1.length c1] W (JPost W (pointsR A))) := fun W k => by rw [← hE1.out]; exact (points11 (HR1.out _ k) (by omega)).mono (fun _ _ h => IPost.j h)
  have H18 : Hid (∀ W, Below w3.heap.size w3 W → Calls Tryz.prog 18 #[.slice p1 x1.length c1] W (JPost W (pointsR A))) := fun W k => by rw [← hE1.out]; exact (rpoints18 (HR1.out _ k) (by omega)).mono (fun _ _ h => IPost.j h)
  have H19 : Hid (∀ W, Below w3.heap.size w3 W → Calls Tryz.prog 19 #[.slice p1 x1.length c1, V x] W (RPost W (sortR (keyedR x A)))) := fun W k => by rw [← hE1.out]; exact (keyed19 (HR1.out _ k) (by omega) hz1).mono (fun _ _ h => SPost.r h)
  have H20 : Hid (∀ W, Below w3.heap.size w3 W → Calls Tryz.prog 20 #[.slice p1 x1.length c1, V x] W (RPost W (sortR (keyedR x A)))) := fun W k => by rw [← hE1.out]; exact (rkeyed20 (HR1.out _ k) (by omega) hz1).mono (fun _ _ h => LPost.r h)
  have H22 : Hid (∀ W, Below w3.heap.size w3 W → Calls Tryz.prog 22 #[.slice p1 x1.length c1] W (KPost W (firsts A))) := fun W k => by rw [← hE1.out]; exact keys22 (HR1.out _ k) (by omega)
  have H23 : Hid (∀ W, Below w3.heap.size w3 W → Calls Tryz.prog 23 #[.slice p1 x1.length c1] W (KPost W (firsts A))) := fun W k => by rw [← hE1.out]; exact rkeys23 (HR1.out _ k) (by omega) hz1
  have HC1 : Hid ((sortR A).length ≤ 100000 ∧ ∀ r ∈ sortR A, r.1.length ≤ 1000) := ⟨by rw [sortR_len]; have := HA24.out; omega, sortR_vals HAv.out⟩
  have HC2 : Hid ((lessR A B).length ≤ 100000 ∧ ∀ r ∈ lessR A B, r.1.length ≤ 1000) := ⟨by have h1 := (lessL_sub (sortR A) (sortR B)).length_le; rw [sortR_len] at h1; have := HA24.out; exact Nat.le_trans h1 (by omega), fun r hr => HC1.out.2 r ((lessL_sub (sortR A) (sortR B)).mem hr)⟩
  have HC3 : Hid ((pointsR A).length ≤ 100000) := by have := points_len A; have := HA24.out; show _ ≤ _; omega
  have HC4 : Hid ((sortR (keyedR x A)).length ≤ 100000 ∧ ∀ r ∈ sortR (keyedR x A), r.1.length ≤ 1000) := ⟨by rw [sortR_len]; have h1 := keyedR_len x A; have h2 := HA24.out; omega, sortR_vals (keyedR_vals HAv.out)⟩
  have HS : Hid (∀ W, Below w3.heap.size w3 W → W.cell? ⟨w.heap.size, 0, none⟩ = some (.int .u8 x.1) ∧ W.cell? ⟨w.heap.size, 1, none⟩ = some (.int .i64 x.2.1) ∧ W.cell? ⟨w.heap.size, 2, none⟩ = some (.string x.2.2)) := fun W k => ⟨(b1.below (bmore (bmore hB1 hB2) k)).cell 0, (b1.below (bmore (bmore hB1 hB2) k)).cell 1, (b1.below (bmore (bmore hB1 hB2) k)).cell 2⟩
  have HB3 : Hid (Below w.heap.size w w3) := bmore HW1.out (bmore hB1 hB2)
  have K0 : Below w3.heap.size w3 w3.drew := (Below.refl _ _).drew
  have hS0 := HS.out _ K0
  have k8 := live13 w3.drew
  clear b1 hB1 hB2 hR1 hR2 hE1 hE2 hx1 hx2 hz1 hz2 H7 HR1 HR2
  generalize sortR A = SA at *
  generalize sortR B = SB at *
  generalize lessR A B = LA at *
  generalize pointsR A = PA at *
  generalize sortR (keyedR x A) = KA at *
  generalize firsts A = FA at *
  generalize decide (SA = SB) = bb at *
  go_wp2_with fail
  go_region_held3 (fun W => W.cell? ⟨w.heap.size, 0, none⟩ = some (.int .u8 x.1) ∧ W.cell? ⟨w.heap.size, 1, none⟩ = some (.int .i64 x.2.1) ∧ W.cell? ⟨w.heap.size, 2, none⟩ = some (.string x.2.2)) (first | exact hS0 | exact HS.out _ KK) (first
    | (go_at_call 8; (with_reducible refine k8.mono ?_); rintro e y1 ⟨rfl, C1⟩; have KK := bmore K0 C1; have k10 := H10.out _ KK; clear C1 K0 hS0 k8)
    | (go_at_call 10; (with_reducible refine k10.mono ?_); rintro e y2 ⟨p3, c3, x3, rfl, r3, e3, C1⟩; replace KK := bmore KK C1; have k11 := H11.out _ KK; clear C1 k10)
    | (go_at_call 11; (with_reducible refine k11.mono ?_); rintro e y3 ⟨p4, c4, x4, rfl, r4, e4, C1⟩; replace KK := bmore KK C1; have k9a := same9 r3 C1 r4 e3 e4 HC1.out.1 HC1.out.2; clear C1 k11)
    | (go_at_call 9; (with_reducible refine k9a.mono ?_); rintro e y4 ⟨rfl, C1⟩; replace KK := bmore KK C1; have k12 := H12.out _ KK; clear C1 k9a)
    | (go_at_call 12; (with_reducible refine k12.mono ?_); rintro e y5 ⟨rfl, C1⟩; replace KK := bmore KK C1; have k13 := H13.out _ KK; clear C1 k12)
    | (go_at_call 13; (with_reducible refine k13.mono ?_); rintro e y6 ⟨rfl, C1⟩; replace KK := bmore KK C1; have k10b := H10.out _ KK; clear C1 k13)
    | (go_at_call 10; (with_reducible refine k10b.mono ?_); rintro e y7 ⟨p5, c5, x5, rfl, r5, e5, C1⟩; replace KK := bmore KK C1; have k12b := H12b.out _ p5 c5 x5 KK r5 e5; clear C1 k10b)
    | (go_at_call 12; (with_reducible refine k12b.mono ?_); rintro e y8 ⟨rfl, C1⟩; replace KK := bmore KK C1; have k14 := H14.out _ KK; clear C1 k12b)
    | (go_at_call 14; (with_reducible refine k14.mono ?_); rintro e y9 ⟨p6, c6, x6, rfl, r6, e6, C1⟩; replace KK := bmore KK C1; have k15 := H15.out _ KK; clear C1 k14)
    | (go_at_call 15; (with_reducible refine k15.mono ?_); rintro e y10 ⟨p7, c7, x7, rfl, r7, e7, C1⟩; replace KK := bmore KK C1; have k9b := same9 r6 C1 r7 e6 e7 HC2.out.1 HC2.out.2; clear C1 k15)
    | (go_at_call 9; (with_reducible refine k9b.mono ?_); rintro e y11 ⟨rfl, C1⟩; replace KK := bmore KK C1; have k17 := H17.out _ KK; clear C1 k9b)
    | (go_at_call 17; (with_reducible refine k17.mono ?_); rintro e y12 ⟨p8, c8, rfl, r8, C1⟩; replace KK := bmore KK C1; have k18 := H18.out _ KK; clear C1 k17)
    | (go_at_call 18; (with_reducible refine k18.mono ?_); rintro e y13 ⟨p9, c9, rfl, r9, C1⟩; replace KK := bmore KK C1; have k16 := sameInts16 (r8.out.below C1) r9.out HC3.out; clear C1 k18)
    | (go_at_call 16; (with_reducible refine k16.mono ?_); rintro e y14 ⟨rfl, C1⟩; replace KK := bmore KK C1; have k19 := H19.out _ KK; clear C1 k16)
    | (go_at_call 19; (with_reducible refine k19.mono ?_); rintro e y15 ⟨p10, c10, x10, rfl, r10, e10, C1⟩; replace KK := bmore KK C1; have k20 := H20.out _ KK; clear C1 k19)
    | (go_at_call 20; (with_reducible refine k20.mono ?_); rintro e y16 ⟨p11, c11, x11, rfl, r11, e11, C1⟩; replace KK := bmore KK C1; have k9c := same9 r10 C1 r11 e10 e11 HC4.out.1 HC4.out.2; clear C1 k20)
    | (go_at_call 9; (with_reducible refine k9c.mono ?_); rintro e y17 ⟨rfl, C1⟩; replace KK := bmore KK C1; have k22 := H22.out _ KK; clear C1 k9c)
    | (go_at_call 22; (with_reducible refine k22.mono ?_); rintro e y18 ⟨p12, c12, L12, rfl, r12, e12, l12, C1⟩; replace KK := bmore KK C1; have k23 := H23.out _ KK; clear C1 k22)
    | (go_at_call 23; (with_reducible refine k23.mono ?_); rintro e y19 ⟨p13, c13, L13, rfl, r13, e13, l13, C1⟩; replace KK := bmore KK C1; have hLL := KeysOf.unique e12.out e13.out (fun _ => Iff.rfl); subst hLL; have k21 := sameVals21 (SV.below r12.out C1) r13.out l13.out; clear C1 k23)
    | (go_at_call 21; (with_reducible refine k21.mono ?_); rintro e y20 ⟨rfl, C1⟩; replace KK := bmore KK C1; clear C1 k21))
  go_wp2_with fail
  go_ret
  exact ⟨rfl, bmore HB3.out KK⟩
end Go.Proofs.YtpagnphabchfcaaGreat
