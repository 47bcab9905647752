/- The law RowsLess. -/
import Derived.Test.YtpagnphabchfcaaAp
namespace Go.Proofs.Ytpagnphabchfcaa
open Go.RowKit Go.Shelf
set_option maxRecDepth 100000
theorem few_of {A : List Rw} {l : List Rw} (hA : A = fewR l) {es : List El} {L : List Rw} (h : rws es = L) (hle : L.length ≤ A.length) (hm : ∀ z ∈ L, z ∈ A) : es.length ≤ 24 ∧ ∀ e ∈ es, e.2.1.length ≤ 1000 := by
  refine ⟨?_, fun e he => ?_⟩
  · have h1 := congrArg List.length h
    have h2 := fewR_len l
    rw [← hA] at h2
    simp [rws] at h1; omega
  · have h1 : e.2 ∈ A := hm _ (by rw [← h]; exact List.mem_map.2 ⟨e, he, rfl⟩)
    rw [hA] at h1
    have := fewR_vals l _ h1
    omega
theorem less_mem {A B : List Rw} : ∀ z ∈ lessR A B, z ∈ A := fun z hz => by
  have h1 := List.count_pos_iff.2 hz
  rw [lessR_count] at h1
  exact List.count_pos_iff.1 (by omega)
theorem wpList_append_w {P : Program} {ops : Array Oper} {rest : List Oper} {o : Oper} {a : Act} {w : World} {Q : Exit → Act → World → Prop} (hw : Region.wanted o (yielded ops a.tmps) = true) (s x : Operand) (t : TypeId)
    (ho : o.op = .call { callee := .builtin .append, args := #[s, x], argTypes := #[t, t] }) (v y : Value) (hs : a.eval s = v) (hx : a.eval x = y) (u : Value) (w' : World) (hrun : (Builtin.append_ #[t, t] o.type #[v, y]).run P w = .ok u w')
    (h : wpList P ops Q rest (a.put o.dst u) w') : wpList P ops Q (o :: rest) a w := by
  unfold wpList
  rw [if_pos hw]
  left
  unfold Oper.wp execOp
  simp only [ho, resolve, invoke, builtin, Sem.run_bind, Sem.run_pure, Result.andThen_ok, List.map_toArray, List.map_cons, List.map_nil, hs, hx, hrun]
  exact h
set_option maxHeartbeats 4000000 in
theorem rowsLess5 {w : World} {X : Nat → Prop} {va vb : Value} {ea eb : List El} (ha : RL w X va ea) (hb : RL w X vb eb) (hca : CapOk va) (hcb : CapOk vb) (hva : ∀ e ∈ ea, CapOk e.1) (hvb : ∀ e ∈ eb, CapOk e.1) :
    Calls Try.prog 5 #[va, vb] w fun e w' => e = .returned (.bool true) ∧ Below w.heap.size w w' := by
  have k6 := few6 (RL.bound ha) (fun b h => .inr h) hca hva
  have H6 : Hid (∀ W, Below w.heap.size w W → Calls Try.prog 6 #[vb] W (LPost W (fewR (rws eb)))) := fun W k => few6 (RL.bound (hb.below k)) (fun b h => .inr h) hcb hvb
  obtain ⟨a0, n0, rfl⟩ := ha.form
  obtain ⟨a1, n1, rfl⟩ := hb.form
  obtain ⟨A, hA⟩ : ∃ A, A = fewR (rws ea) := ⟨_, rfl⟩
  obtain ⟨B, hB⟩ : ∃ B, B = fewR (rws eb) := ⟨_, rfl⟩
  have HA : Hid (A = fewR (rws ea)) := hA
  have HB : Hid (B = fewR (rws eb)) := hB
  rw [← hA] at k6
  rw [← hB] at H6
  have hlp := (less_perm A B).length_eq
  rw [List.length_append] at hlp
  have HL : Hid ((lessR A B).length ≤ A.length ∧ (lessR A (lessR A B)).length ≤ A.length ∧ (lessR A B ++ lessR A (lessR A B)).length = A.length) := ⟨by omega, by omega, by rw [List.length_append]; omega⟩
  have HA24 : Hid (A.length ≤ 24) := by rw [hA]; exact fewR_len _
  clear hA hB ha hb hca hcb hva hvb hlp
  go_enter Try.func5, Try.ntmps5
  go_wp2_with fail
  go_at_call 6
  (with_reducible refine k6.mono ?_)
  rintro e w1 ⟨v1, x1, rfl, hO1, hE1, hB1⟩
  have k6b := H6.out _ hB1
  obtain ⟨p1, c1, hv1⟩ := (OwnR.rl hO1).form
  subst hv1
  go_wp2_with fail
  go_at_call 6
  (with_reducible refine k6b.mono ?_)
  rintro e w2 ⟨v2, x2, rfl, hO2, hE2, hB2⟩
  obtain ⟨p2, c2, hv2⟩ := (OwnR.rl hO2).form
  subst hv2
  have f1 := few_of HA.out hE1 (Nat.le_refl _) (fun z h => h)
  have f2 := few_of HB.out hE2 (Nat.le_refl _) (fun z h => h)
  have HR1 : Hid (∀ W, Below w2.heap.size w2 W → RL W (fun _ => False) (.slice p1 x1.length c1) x1) := fun W k => ((OwnR.rl hO1).below hB2).below k
  have HR2 : Hid (∀ W, Below w2.heap.size w2 W → RL W (fun _ => False) (.slice p2 x2.length c2) x2) := fun W k => (OwnR.rl hO2).below k
  have k14 := less14 (HR1.out _ (Below.refl _ _)) (HR2.out _ (Below.refl _ _)) (by omega) (by omega) f1.2 f2.2
  rw [hE1, hE2] at k14
  have B2 : Below w.heap.size w w2 := bmore hB1 hB2
  go_wp2_with fail
  go_at_call 14
  (with_reducible refine k14.mono ?_)
  rintro e w3 ⟨v3, x3, rfl, hO3, hE3, hB3⟩
  obtain ⟨p3, c3, hv3⟩ := (OwnR.rl hO3).form
  subst hv3
  have f3 := few_of HA.out hE3 HL.out.1 less_mem
  have HR3 : Hid (∀ W, Below w3.heap.size w3 W → RL W (fun _ => False) (.slice p3 x3.length c3) x3) := fun W k => (OwnR.rl hO3).below k
  have k14b := less14 (HR1.out _ hB3) (HR3.out _ (Below.refl _ _)) (by omega) (by omega) f1.2 f3.2
  rw [hE1, hE3] at k14b
  go_wp2_with fail
  go_at_call 14
  (with_reducible refine k14b.mono ?_)
  rintro e w4 ⟨v4, x4, rfl, hO4, hE4, hB4⟩
  obtain ⟨p4, c4, hv4⟩ := (OwnR.rl hO4).form
  subst hv4
  have f4 := few_of HA.out hE4 HL.out.2.1 less_mem
  have HR4 : Hid (∀ W, Below w4.heap.size w4 W → RL W (fun _ => False) (.slice p4 x4.length c4) x4) := fun W k => (OwnR.rl hO4).below k
  have hB24 := bmore hB3 hB4
  have k13 := live13 w4
  go_wp2_with fail
  go_at_call 13
  (with_reducible refine k13.mono ?_)
  rintro e w5 ⟨rfl, hB5⟩
  have hb0 := run_build0
  have hO6 := own_build0 w5
  have hal : Below w5.heap.size w5 (w5.alloc (.cells #[] 34)) := al _ _
  have hR3 : RL (w5.alloc (.cells #[] 34)) (fun b => w5.heap.size ≤ b) (.slice p3 x3.length c3) x3 := ((RL.bound (HR3.out _ (bmore hB4 hB5))).below hal).mono (fun b _ h => .inr h)
  obtain ⟨u7, w7, hr7, hO7, hB7⟩ := ownR_apps hO6 hR3 (fun b q => by simp [Value.ownBlock] at q; omega) (by simp; omega) (by simp)
  have K7 : Below w5.heap.size w5 w7 := hal.trans hB7
  have hR4 : RL w7 (fun b => w5.heap.size ≤ b) (.slice p4 x4.length c4) x4 := ((RL.bound (HR4.out _ hB5)).below K7).mono (fun b _ h => .inr h)
  obtain ⟨u8, w8, hr8, hO8, hB8⟩ := ownR_apps hO7 hR4 (fun b q => (hO7.row.lt b q).1) (by simp; omega) K7.size
  have K8 : Below w5.heap.size w5 w8 := K7.trans hB8
  rw [List.nil_append] at hO7 hO8
  have hE8 : rws (x3 ++ x4) = lessR A B ++ lessR A (lessR A B) := by rw [show rws (x3 ++ x4) = rws x3 ++ rws x4 by simp [rws], hE3, hE4]
  have f8 := few_of HA.out hE8 (Nat.le_of_eq HL.out.2.2) (fun z h => (List.mem_append.1 h).elim (less_mem z) (less_mem z))
  have B28 := bmore hB24 (bmore hB5 K8)
  have k15 := same15 (OwnR.rl hO8) (HR1.out _ B28) (by omega) (by omega) f8.2 f1.2
  rw [show decide (sortR (rws (x3 ++ x4)) = sortR (rws x1)) = true by rw [decide_eq_true_eq, hE8, hE1, sortR_eq]; exact less_perm A B] at k15
  have H14c : Hid (∀ W, Below w8.heap.size w8 W → Calls Try.prog 14 #[.slice p4 x4.length c4, .slice p2 x2.length c2] W fun e w' => (∃ a c, e = .returned (.slice a 0 c)) ∧ Below W.heap.size W w') := fun W k => (less14 (HR4.out _ (bmore (bmore hB5 K8) k)) (HR2.out _ (bmore B28 k)) (by omega) (by omega) f4.2 f2.2).mono (by
    rintro e w' ⟨v, x, rfl, h1, h2, h4⟩
    rw [hE4, hE2, less_both] at h2
    obtain rfl : x = [] := by cases x with | nil => rfl | cons y l => simp [rws] at h2
    obtain ⟨a, c, h⟩ := h1.rl.form
    exact ⟨⟨a, c, by rw [h]; rfl⟩, h4⟩)
  have H14d : Hid (∀ W, Below w8.heap.size w8 W → Calls Try.prog 14 #[.slice p1 x1.length c1, .slice p1 x1.length c1] W fun e w' => (∃ a c, e = .returned (.slice a 0 c)) ∧ Below W.heap.size W w') := fun W k => (less14 (HR1.out _ (bmore B28 k)) (HR1.out _ (bmore B28 k)) (by omega) (by omega) f1.2 f1.2).mono (by
    rintro e w' ⟨v, x, rfl, h1, h2, h4⟩
    rw [hE1, less_self] at h2
    obtain rfl : x = [] := by cases x with | nil => rfl | cons y l => simp [rws] at h2
    obtain ⟨a, c, h⟩ := h1.rl.form
    exact ⟨⟨a, c, by rw [h]; rfl⟩, h4⟩)
  have KW : Below w.heap.size w w8 := bmore B2 B28
  clear hR3 hR4 hO1 hO2 hO3 hO4 hO6 hO7 hO8 f1 f2 f3 f4 f8 k6 k6b k14 k14b k13 hE8
  go_wp2_with (first
    | (at_builtin; first | refine wpList_append_w (by rfl) (.tmp 19) (.tmp 20) 22 (by rfl) _ _ (by rfl) (by rfl) _ _ hr7 ?_ | refine wpList_append_w (by rfl) (.tmp 21) (.tmp 22) 22 (by rfl) _ _ (by rfl) (by rfl) _ _ hr8 ?_)
    | (go_at_call 15; (with_reducible refine k15.mono ?_); rintro e w9 ⟨rfl, hB9⟩)
    | (go_at_call 14; (with_reducible refine (H14c.out _ hB9).mono ?_); rintro e w10 ⟨⟨a10, c10, rfl⟩, hB10⟩; have B10 := bmore hB9 hB10)
    | (go_at_call 14; (with_reducible refine (H14d.out _ B10).mono ?_); rintro e w11 ⟨⟨a11, c11, rfl⟩, hB11⟩; have B11 := bmore B10 hB11))
  go_ret
  exact ⟨rfl, bmore KW B11⟩
end Go.Proofs.Ytpagnphabchfcaa
