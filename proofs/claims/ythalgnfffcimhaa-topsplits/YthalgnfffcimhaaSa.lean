/- Same. -/
import Derived.Test.YthalgnfffcimhaaSr
namespace Go.Proofs.Ythalgnfffcimhaa
open Go.Shelf Go.RowKit
set_option maxRecDepth 100000
theorem same32 {w : World} {X : Nat → Prop} {v v' : Value} {r r' : Rw} (ha : SV w X v r.1) (hb : SV w X v' r'.1) (hza : r.1.length ≤ 1000000) (hzb : r'.1.length ≤ 1000000) :
    Calls Try.prog 20 #[RV v r, RV v' r'] w fun e w' => e = .returned (.bool (decide (r = r'))) ∧ Below w.heap.size w w' := by
  have hd : decide (r = r') = (cmpR r r' == 0) := by
    rw [Bool.eq_iff_iff]
    simp only [decide_eq_true_eq, beq_iff_eq]
    exact (ordR.eq r r').symm
  rw [hd]
  obtain ⟨vs, f, t⟩ := r
  obtain ⟨vs', f', t'⟩ := r'
  simp only at ha hb hza hzb
  have hG : GB w ((w.alloc (.cells #[v, .int .i64 f, .int .i64 t] 30)).alloc (.cells #[v', .int .i64 f', .int .i64 t'] 30)) := (GB.al _ _).trans (GB.al _ _)
  have k30 := codec30 (r := (vs, f, t)) (r' := (vs', f', t')) (ha.below hG.b) (hb.below hG.b) hza hzb
  generalize cmpR (vs, f, t) (vs', f', t') = z at *
  have b0 := (blk_new w [v, .int .i64 f, .int .i64 t] 30).below (Ythalgnfffcimhaa.al _ (.cells #[v', .int .i64 f', .int .i64 t'] 30))
  have b1 := blk_at (w.alloc (.cells #[v, .int .i64 f, .int .i64 t] 30)) [v', .int .i64 f', .int .i64 t'] 30 (g := w.heap.size + 1) (by simp)
  change Blk ((w.alloc (.cells #[v, .int .i64 f, .int .i64 t] 30)).alloc (.cells #[v', .int .i64 f', .int .i64 t'] 30)) _ _ _ at b0 b1
  have x0 := b0.cell 0
  have x1 := b0.cell 1
  have x2 := b0.cell 2
  have y0 := b1.cell 0
  have y1 := b1.cell 1
  have y2 := b1.cell 2
  simp only [List.getElem?_cons_zero, List.getElem?_cons_succ] at x0 x1 x2 y0 y1 y2
  have HG : Hid _ := hG
  obtain ⟨pa, ca, hva⟩ := ha.form
  obtain ⟨pb, cb, hvb⟩ := hb.form
  subst hva hvb
  clear ha hb b0 b1 hG hd
  go_enter Try.func20, Try.ntmps20
  go_wp2_with (go_at_call 21; (with_reducible refine k30.mono ?_); rintro e w1 ⟨rfl, g1⟩)
  go_ret
  exact ⟨rfl, (HG.out.trans g1).b⟩
set_option maxHeartbeats 2000000 in
theorem equal31 {w : World} {X : Nat → Prop} {v v' : Value} {es es' : List El} (h : RL w X v es) (h' : RL w X v' es') (hl : es.length ≤ 1000) (hl' : es'.length ≤ 1000) (hv : ∀ e ∈ es, e.2.1.length ≤ 1000) (hv' : ∀ e ∈ es', e.2.1.length ≤ 1000) :
    Calls Try.prog 19 #[v, v', .func (.func 20) #[] #[]] w fun e w' => e = .returned (.bool (decide (rws es = rws es'))) ∧ Below w.heap.size w w' := by
  obtain ⟨a, c, rfl⟩ := h.form
  obtain ⟨a', c', rfl⟩ := h'.form
  obtain ⟨N, hN⟩ : ∃ N, es.length = N := ⟨_, rfl⟩
  obtain ⟨M, hM⟩ : ∃ M, es'.length = M := ⟨_, rfl⟩
  have HN : Hid _ := hN
  have HM : Hid _ := hM
  have HR : Hid (RL w X (.slice a es.length c) es) := h
  have HR' : Hid (RL w X (.slice a' es'.length c') es') := h'
  have HV : Hid _ := hv
  have HV' : Hid _ := hv'
  rw [hN] at hl ⊢
  rw [hM] at hl' ⊢
  by_cases hNM : N = M
  · subst hNM
    have HD : Hid ((rws es = rws es') ↔ rws (es.drop 0) = rws (es'.drop 0)) := by show _ ↔ _; simp
    clear h h' hN hM hv hv'
    go_enter Try.func19, Try.ntmps19
    go_wp2_with fail
    go_loopw [17] (fun fi wr => ∃ (k : Nat), fi = .int .i64 (k : Int) ∧ Hid (k ≤ N) ∧ Hid ((rws es = rws es') ↔ rws (es.drop k) = rws (es'.drop k)) ∧ Hid (Below w.heap.size w wr)) (fun fi _ => ((N : Int) - intOf fi).toNat)
    case atStart => exact ⟨0, rfl, Nat.zero_le _, HD.out, Below.refl _ _⟩
    case round =>
      obtain ⟨k, rfl, hk, hE, hB⟩ := hrel
      by_cases hkN : k < N
      · have hki : (k : Int) < (N : Int) := by omega
        have hk0 : (0 : Int) ≤ (k : Int) := by omega
        obtain ⟨e, he⟩ : ∃ e, es[k]? = some e := ⟨_, List.getElem?_eq_getElem (by rw [HN.out]; exact hkN)⟩
        obtain ⟨e', he'⟩ : ∃ e, es'[k]? = some e := ⟨_, List.getElem?_eq_getElem (by rw [HM.out]; exact hkN)⟩
        obtain ⟨g, o, rfl, _, _, d0, d1, d2⟩ := (RL.below HR.out hB.out).get he
        obtain ⟨g', o', rfl, _, _, p0, p1, p2⟩ := (RL.below HR'.out hB.out).get he'
        have HSV : Hid (SV wr X e.1 e.2.1) := (HR.out.vals e (List.mem_of_getElem? he)).below hB.out
        have HSV' : Hid (SV wr X e'.1 e'.2.1) := (HR'.out.vals e' (List.mem_of_getElem? he')).below hB.out
        have HL1 : Hid (e.2.1.length ≤ 1000000) := Nat.le_trans (HV.out e (List.mem_of_getElem? he)) (by decide)
        have HL2 : Hid (e'.2.1.length ≤ 1000000) := Nat.le_trans (HV'.out e' (List.mem_of_getElem? he')) (by decide)
        have HStep : Hid (rws (es.drop k) = rws (es'.drop k) ↔ e.2 = e'.2 ∧ rws (es.drop (k + 1)) = rws (es'.drop (k + 1))) := by
          show _ ↔ _
          obtain ⟨h1, h1'⟩ := List.getElem?_eq_some_iff.1 he
          obtain ⟨h2, h2'⟩ := List.getElem?_eq_some_iff.1 he'
          rw [List.drop_eq_getElem_cons h1, List.drop_eq_getElem_cons h2, h1', h2']
          simp [rws]
        have q0 := fun ob => ((Ythalgnfffcimhaa.al wr ob).cell (p := ⟨g', o' + k * 3, none⟩) (World.block_lt_of_cell? wr _ p0)).trans p0
        have q1 := fun ob => ((Ythalgnfffcimhaa.al wr ob).cell (p := ⟨g', o' + k * 3 + 1, none⟩) (World.block_lt_of_cell? wr _ p1)).trans p1
        have q2 := fun ob => ((Ythalgnfffcimhaa.al wr ob).cell (p := ⟨g', o' + k * 3 + 2, none⟩) (World.block_lt_of_cell? wr _ p2)).trans p2
        clear he he' p0 p1 p2
        obtain ⟨sv, vs, f, t⟩ := e
        obtain ⟨sv', vs', f', t'⟩ := e'
        simp only at d0 d1 d2 q0 q1 q2 HSV HSV' HL1 HL2
        obtain ⟨pa, ca, rfl⟩ := SV.form HSV.out
        obtain ⟨pb, cb, rfl⟩ := SV.form HSV'.out
        have hA : Below wr.heap.size wr ((wr.alloc (.cells #[.slice pa vs.length ca, .int .i64 f, .int .i64 t] 30)).alloc (.cells #[.slice pb vs'.length cb, .int .i64 f', .int .i64 t'] 30)) := bmore (al _ _) (al _ _)
        have k32 := same32 (r := (vs, f, t)) (r' := (vs', f', t')) (SV.below HSV.out hA) (SV.below HSV'.out hA) HL1.out HL2.out
        have HA : Hid _ := hA
        clear hA
        by_cases heq : (vs, f, t) = (vs', f', t')
        · rw [show decide ((vs, f, t) = (vs', f', t')) = true by simpa using heq] at k32
          have HEq : Hid _ := heq
          clear heq
          go_wp2_with (go_at_call 20; (with_reducible refine k32.mono ?_); rintro e w1 ⟨rfl, B1⟩)
          go_roundw
          case rel => exact ⟨k + 1, by simp, by show _ ≤ _; omega, by show _ ↔ _; rw [hE.out, HStep.out]; exact ⟨fun h => h.2, fun h => ⟨HEq.out, h⟩⟩, bmore (bmore hB.out HA.out) B1⟩
          case measure => simp only [intOf]; omega
        · rw [show decide ((vs, f, t) = (vs', f', t')) = false by simpa using heq] at k32
          have HNe : Hid (decide (rws es = rws es') = false) := by
            show _ = _
            rw [decide_eq_false_iff_not, hE.out, HStep.out]
            exact fun h => heq h.1
          clear heq
          go_wp2_with (go_at_call 20; (with_reducible refine k32.mono ?_); rintro e w1 ⟨rfl, B1⟩)
          go_ret
          exact ⟨by rw [HNe.out]; rfl, bmore (bmore hB.out HA.out) B1⟩
      · have hki : ¬ (k : Int) < (N : Int) := by omega
        have HT : Hid (decide (rws es = rws es') = true) := by
          show _ = _
          rw [decide_eq_true_eq, hE.out, List.drop_eq_nil_of_le (by rw [HN.out]; omega), List.drop_eq_nil_of_le (by rw [HM.out]; omega)]
        go_wp2
        go_ret
        exact ⟨by rw [HT.out]; rfl, hB.out⟩
  · have hne : ((N : Int) != (M : Int)) = true := by simp; omega
    have HNe : Hid (decide (rws es = rws es') = false) := by
      show _ = _
      rw [decide_eq_false_iff_not]
      intro h
      have := congrArg List.length h
      simp [rws] at this
      omega
    clear h h' hN hM hv hv'
    go_enter Try.func19, Try.ntmps19
    go_wp2
    go_ret
    exact ⟨by rw [HNe.out]; rfl, Below.refl _ _⟩
theorem rws_vals {es : List El} {l : List Rw} (h : rws es = l) {n : Nat} (hv : ∀ r ∈ l, r.1.length ≤ n) : ∀ e ∈ es, e.2.1.length ≤ n := fun e he => hv e.2 (by rw [← h]; exact List.mem_map.2 ⟨e, he, rfl⟩)
theorem sortR_len (l : List Rw) : (sortR l).length = l.length := (sortR_perm l).length_eq
theorem sortR_vals {l : List Rw} {n : Nat} (hv : ∀ r ∈ l, r.1.length ≤ n) : ∀ r ∈ sortR l, r.1.length ≤ n := fun r hr => hv r ((sortR_perm l).mem_iff.1 hr)
theorem sortR_eq (l m : List Rw) : sortR l = sortR m ↔ l.Perm m := ⟨fun h => (sortR_perm l).symm.trans (h ▸ sortR_perm m), fun h => rise_unique (sortR_rise l) (sortR_rise m) ((sortR_perm l).trans (h.trans (sortR_perm m).symm))⟩
set_option maxHeartbeats 1000000 in
theorem same15 {w : World} {X : Nat → Prop} {v v' : Value} {es es' : List El} (h : RL w X v es) (h' : RL w X v' es') (hl : es.length ≤ 1000) (hl' : es'.length ≤ 1000) (hv : ∀ e ∈ es, e.2.1.length ≤ 1000) (hv' : ∀ e ∈ es', e.2.1.length ≤ 1000) :
    Calls Try.prog 9 #[v, v'] w fun e w' => e = .returned (.bool (decide (sortR (rws es) = sortR (rws es')))) ∧ Below w.heap.size w w' := by
  have k1 := sorted17 h hl hv
  have H2 : Hid (∀ w1, Below w.heap.size w w1 → Calls Try.prog 11 #[v'] w1 (SPost w1 (sortR (rws es')))) := fun w1 k => sorted17 (h'.below k) hl' hv'
  have H3 : Hid (∀ w1 B B' u u' x x', OwnR w1 B u x → OwnR w1 B' u' x' → rws x = sortR (rws es) → rws x' = sortR (rws es') → Calls Try.prog 19 #[u, u', .func (.func 20) #[] #[]] w1 fun e w' => e = .returned (.bool (decide (sortR (rws es) = sortR (rws es')))) ∧ Below w1.heap.size w1 w') := fun w1 B B' u u' x x' o1 o2 e1 e2 => by
    have l1 : x.length = es.length := by have := congrArg List.length e1; rw [sortR_len] at this; simpa [rws] using this
    have l2 : x'.length = es'.length := by have := congrArg List.length e2; rw [sortR_len] at this; simpa [rws] using this
    have := equal31 o1.rl o2.rl (by omega) (by omega) (rws_vals e1 (sortR_vals (fun r hr => by obtain ⟨e, he, rfl⟩ := List.mem_map.1 hr; exact hv e he))) (rws_vals e2 (sortR_vals (fun r hr => by obtain ⟨e, he, rfl⟩ := List.mem_map.1 hr; exact hv' e he)))
    rw [e1, e2] at this
    exact this
  clear h h' hl hl' hv hv'
  go_enter Try.func9, Try.ntmps9
  go_wp2_with (first
    | (go_at_call 11; (with_reducible refine k1.mono ?_); rintro e w1 ⟨v1, x1, rfl, _, o1, e1, B1⟩; have HO1 : Hid (OwnR w1 w.heap.size v1 x1) := o1; have HE1 : Hid (rws x1 = sortR (rws es)) := e1; clear o1 e1)
    | (go_at_call 11; (with_reducible refine (H2.out _ B1).mono ?_); rintro e w2 ⟨v2, x2, rfl, _, o2, e2, B2⟩; have HO2 : Hid (OwnR w2 w1.heap.size v2 x2) := o2; have HE2 : Hid (rws x2 = sortR (rws es')) := e2; have HO1' : Hid (OwnR w2 w.heap.size v1 x1) := OwnR.below HO1.out B2; clear o2 e2)
    | (go_at_call 19; (with_reducible refine (H3.out _ _ _ _ _ _ _ HO1'.out HO2.out HE1.out HE2.out).mono ?_); rintro e w3 ⟨rfl, B3⟩))
  go_ret
  exact ⟨rfl, bmore (bmore B1 B2) B3⟩
end Go.Proofs.Ythalgnfffcimhaa
