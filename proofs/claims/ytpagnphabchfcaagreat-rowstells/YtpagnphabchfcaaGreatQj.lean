/- The document's Same and Less. -/
import Derived.Test.YtpagnphabchfcaaGreatQi
namespace Go.Proofs.YtpagnphabchfcaaGreat
open Go.RowKit Go.Shelf
set_option maxRecDepth 100000
theorem rsame13 {w : World} {X : Nat → Prop} {v v' : Value} {es es' : List El} (h : RL w X v es) (h' : RL w X v' es') (hl : es.length ≤ 1000) (hl' : es'.length ≤ 1000) (hv : ∀ e ∈ es, e.2.1.length ≤ 1000) (hv' : ∀ e ∈ es', e.2.1.length ≤ 1000) :
    Calls Tryz.prog 13 #[v, v'] w fun e w' => e = .returned (.bool (decide (sortR (rws es) = sortR (rws es')))) ∧ Below w.heap.size w w' := by
  have k1 := rsorted11 h hl hv
  have H2 : Hid (∀ w1, Below w.heap.size w w1 → Calls Tryz.prog 11 #[v'] w1 (LPost w1 (sortR (rws es')))) := fun w1 k => rsorted11 (h'.below k) hl' hv'
  have HV : Hid (∀ r ∈ sortR (rws es), r.1.length ≤ 1000) := sortR_vals (fun r hr => by obtain ⟨e, he, rfl⟩ := List.mem_map.1 hr; exact hv e he)
  have HV' : Hid (∀ r ∈ sortR (rws es'), r.1.length ≤ 1000) := sortR_vals (fun r hr => by obtain ⟨e, he, rfl⟩ := List.mem_map.1 hr; exact hv' e he)
  have HN : Hid ((sortR (rws es)).length ≤ 1000) := by show _ ≤ _; rw [sortR_len]; simpa [rws] using hl
  have HN' : Hid ((sortR (rws es')).length ≤ 1000) := by show _ ≤ _; rw [sortR_len]; simpa [rws] using hl'
  obtain ⟨pa, ca, rfl⟩ := h.form
  obtain ⟨pb, cb, rfl⟩ := h'.form
  clear h h' hl hl' hv hv'
  generalize sortR (rws es) = A at *
  generalize sortR (rws es') = B at *
  go_enter Tryz.func13, Tryz.ntmps13
  go_wp2_with fail
  go_at_call 11
  (with_reducible refine k1.mono ?_)
  rintro e w1 hL
  obtain ⟨p1, c1, x1, rfl, hR1, hE1, hB1⟩ := LPost.r hL
  have k2 := H2.out _ hB1
  clear hL
  go_wp2_with fail
  go_at_call 11
  (with_reducible refine k2.mono ?_)
  rintro e w2 hL
  obtain ⟨p2, c2, x2, rfl, hR2, hE2, hB2⟩ := LPost.r hL
  have q1 : x1.length ≤ 100000 := by have h1 := congrArg List.length hE1.out; have := HN.out; simp [rws] at h1; omega
  have q2 : x2.length ≤ 100000 := by have h1 := congrArg List.length hE2.out; have := HN'.out; simp [rws] at h1; omega
  have k := sameRows10 (hR1.out.below hB2) hR2.out (rws_vals hE1.out HV.out) (rws_vals hE2.out HV'.out) q1 q2
  rw [hE1.out, hE2.out] at k
  clear hL
  go_wp2_with (go_at_call 9; (with_reducible refine k.mono ?_); rintro e w3 ⟨rfl, hB3⟩)
  go_ret
  exact ⟨rfl, bmore (bmore hB1 hB2) hB3⟩
/-! ### plain -/
theorem erase_at {l : List Rw} {x : Rw} : ∀ {q : Nat}, l[q]? = some x → (∀ j, j < q → l[j]? ≠ some x) → l.erase x = l.take q ++ l.drop (q + 1) := by
  induction l with
  | nil => intro q h; simp at h
  | cons y l ih =>
    intro q h hn
    cases q with
    | zero =>
      simp at h
      subst h
      simp
    | succ q =>
      have hy : y ≠ x := fun e => hn 0 (by omega) (by simp [e])
      rw [List.erase_cons_tail (by simpa using hy), ih (q := q) (by simpa using h) (fun j hj => by have := hn (j + 1) (by omega); simpa using this)]
      rfl
theorem not_mem_of {l : List Rw} {x : Rw} (h : ∀ j, j < l.length → l[j]? ≠ some x) : x ∉ l := fun hx => by
  obtain ⟨j, hj⟩ := List.mem_iff_getElem?.1 hx
  exact h j (List.getElem?_eq_some_iff.1 hj).1 hj
theorem lessE_yes {x : Rw} {a l : List Rw} {q : Nat} (h : l[q]? = some x) (hn : ∀ j, j < q → l[j]? ≠ some x) : lessE (x :: a) l = lessE a (l.take q ++ l.drop (q + 1)) := by
  conv => lhs; unfold lessE
  rw [if_pos (List.mem_of_getElem? h), erase_at h hn]
theorem lessE_no {x : Rw} {a l : List Rw} (h : ∀ j, j < l.length → l[j]? ≠ some x) : lessE (x :: a) l = x :: lessE a l := by
  conv => lhs; unfold lessE
  rw [if_neg (not_mem_of h)]
/-- A list from a place on. -/
theorem RL.from {w : World} {X : Nat → Prop} {g o n c i : Nat} {es : List El} (h : RL w X (.slice (some ⟨g, o, none⟩) n c) es) (hc : n ≤ c) : RL w X (.slice (if c = i then some ⟨g, o, none⟩ else some ⟨g, o + i * 3, none⟩) (es.length - i) (c - i)) (es.drop i) := by
  obtain ⟨a', c', hv, hh⟩ := h.at'
  simp only [Value.slice.injEq] at hv
  obtain ⟨rfl, rfl, rfl⟩ := hv
  refine ⟨⟨_, _, by rw [List.length_drop], fun h0 => ?_⟩, fun e he => h.vals e (List.mem_of_mem_drop he)⟩
  rw [List.length_drop] at h0
  obtain ⟨g', o', hq, hg, hx, hce⟩ := hh (by omega)
  cases hq
  refine ⟨g, o + i * 3, by rw [if_neg (by omega)], hg, hx, fun j s hs => ?_⟩
  rw [List.getElem?_drop] at hs
  have := hce (i + j) s hs
  rw [show o + (i + j) * 3 = o + i * 3 + j * 3 by omega] at this
  exact this
structure LE (w2 wr : World) (fo fl : Value) (oe le : List El) : Prop where
  own : OwnR wr w2.heap.size fo oe
  rest : RL wr (fun b => fo.ownBlock = some b) fl le
  cap : CapOk fl
  len : ∀ e ∈ le, e.2.1.length ≤ 1000
  b : Below w2.heap.size w2 wr
theorem LE.below {w2 wr wr' : World} {fo fl : Value} {oe le : List El} (h : LE w2 wr fo fl oe le) (k : Below wr.heap.size wr wr') : LE w2 wr' fo fl oe le := ⟨h.own.below k, h.rest.below k, h.cap, h.len, bmore h.b k⟩
theorem LE.app {w2 w6 : World} {fo fl sv : Value} {oe le : List El} {vs : List Vt} {f t : Int} (h : LE w2 w6 fo fl oe le) (hn : oe.length ≤ 100000) (hsv : SV w6 (fun b => w2.heap.size ≤ b) sv vs) :
    ∃ v7 w7, (Builtin.append_ #[22, 22] 22 #[fo, .slice (some ⟨w6.heap.size, 0, none⟩) 1 1]).run Tryz.prog (w6.alloc (.cells #[sv, .int .i64 f, .int .i64 t] 64)) = .ok v7 w7 ∧ Hid (LE w2 w7 v7 fl (oe ++ [(sv, vs, f, t)]) le) := by
  have hal := al3 w6 sv f t
  have nb := blk_new w6 [sv, .int .i64 f, .int .i64 t] 64
  have hB := (bmore h.b hal).size
  have h6 := h.below hal
  obtain ⟨v7, w7, hr7, A7⟩ := OwnR.app h6.own hn hB 22 (gb := w6.heap.size) (c := 1) (e := (sv, vs, f, t)) ((SV.below hsv hal).mono (fun b _ q => (h6.own.row.lt b q).1)) (nb.cell 0) (nb.cell 1) (nb.cell 2)
  refine ⟨v7, w7, hr7, A7.own, h6.rest.keep (keep_of_grown A7.grown) (fun b hb q => (A7.new b q).elim id (fun h => by omega)), h.cap, h.len, (bmore h.b hal).trans (A7.below h6.own hB)⟩
theorem LE.cut {w2 wr : World} {fo : Value} {oe le : List El} {g o c q : Nat} (h : LE w2 wr fo (.slice (some ⟨g, o, none⟩) le.length c) oe le) (hq : q < le.length) (hn : le.length ≤ 1000) :
    ∃ u1 w8, (Builtin.append_ #[22, 22] 22 #[.slice (some ⟨wr.heap.size, 0, none⟩) 0 0, .slice (some ⟨g, o, none⟩) q c]).run Tryz.prog (wr.alloc (.cells #[] 64)).drew = .ok u1 w8 ∧ Hid (∃ u2 w9, (Builtin.append_ #[22, 22] 22 #[u1, .slice (if c = q + 1 then some ⟨g, o, none⟩ else some ⟨g, o + (q + 1) * 3, none⟩) (le.length - (q + 1)) (c - (q + 1))]).run Tryz.prog w8 = .ok u2 w9 ∧ Hid (LE w2 w9 fo u2 oe (le.take q ++ le.drop (q + 1)))) := by
  have hA := al wr (.cells #[] 64)
  have hD : Below (wr.alloc (.cells #[] 64)).heap.size (wr.alloc (.cells #[] 64)) (wr.alloc (.cells #[] 64)).drew := (Below.refl _ _).drew
  have h1 := h.below (bmore hA hD)
  have hcap := h.cap _ _ _ rfl
  have hlt := h.own.row.lt
  have hX : ∀ {Y : Nat → Prop}, RL (wr.alloc (.cells #[] 64)).drew Y (.slice (some ⟨g, o, none⟩) le.length c) le → True := fun _ => trivial
  obtain ⟨u1, w8, r1, o1, b1⟩ := ownR_apps (X := fun b => wr.heap.size ≤ b) (OwnR.below (own_build0 wr) hD) (RL.take ((RL.bound h.rest).below (bmore hA hD) |>.mono (fun b _ q => .inr q)) (Nat.le_of_lt hq)) (fun b hb => by cases hb; exact Nat.le_refl _) (by rw [List.length_take]; simp; omega) (bmore hA hD).size
  rw [List.nil_append] at o1
  refine ⟨u1, w8, r1, ?_⟩
  have B1 : Below wr.heap.size wr w8 := (bmore hA hD).trans b1
  obtain ⟨u2, w9, r2, o2, b2⟩ := ownR_apps (X := fun b => wr.heap.size ≤ b) o1 (RL.from (i := q + 1) ((RL.bound h.rest).below B1 |>.mono (fun b _ q => .inr q)) hcap) (fun b hb => (o1.row.lt b hb).1) (by rw [List.length_take, List.length_drop]; omega) B1.size
  refine ⟨u2, w9, r2, ?_⟩
  have B2 : Below wr.heap.size wr w9 := B1.trans b2
  have h2 := h.below B2
  refine ⟨h2.own, ?_, OwnR.cap o2, fun e he => ?_, h2.b⟩
  · have hr := OwnR.rl o2
    have hu : ∀ b, u2.ownBlock = some b → wr.heap.size ≤ b := fun b hb => (o2.row.lt b hb).1
    refine ⟨?_, fun e he => ?_⟩
    · obtain ⟨a', c', hv, hh⟩ := hr.at'
      refine ⟨a', c', hv, fun h0 => ?_⟩
      obtain ⟨g', o', rfl, k1, k2, k3⟩ := hh h0
      refine ⟨g', o', rfl, k1, fun hq2 => ?_, k3⟩
      have := hu g' (by rw [hv]; rfl)
      have := (hlt g' hq2).2
      omega
    · rcases List.mem_append.1 he with he | he
      · exact h2.rest.vals e (List.mem_of_mem_take he)
      · exact h2.rest.vals e (List.mem_of_mem_drop he)
  · rcases List.mem_append.1 he with he | he
    · exact h.len e (List.mem_of_mem_take he)
    · exact h.len e (List.mem_of_mem_drop he)
set_option maxHeartbeats 2000000 in
theorem rless15 {w : World} {X : Nat → Prop} {v v' : Value} {es es' : List El} (h : RL w X v es) (h' : RL w X v' es') (hl : es.length ≤ 1000) (hl' : es'.length ≤ 1000) (hv : ∀ e ∈ es, e.2.1.length ≤ 1000) (hv' : ∀ e ∈ es', e.2.1.length ≤ 1000) :
    Calls Tryz.prog 15 #[v, v'] w (LPost w (lessR (rws es) (rws es'))) := by
  have k1 := rsorted11 h' hl' hv'
  have H2 : Hid (∀ w1, Below w.heap.size w w1 → Calls Tryz.prog 11 #[v] w1 (LPost w1 (sortR (rws es)))) := fun w1 k => rsorted11 (h.below k) hl hv
  have HV : Hid (∀ r ∈ sortR (rws es), r.1.length ≤ 1000) := sortR_vals (fun r hr => by obtain ⟨e, he, rfl⟩ := List.mem_map.1 hr; exact hv e he)
  have HV' : Hid (∀ r ∈ sortR (rws es'), r.1.length ≤ 1000) := sortR_vals (fun r hr => by obtain ⟨e, he, rfl⟩ := List.mem_map.1 hr; exact hv' e he)
  have HNl : Hid ((sortR (rws es)).length ≤ 1000) := by show _ ≤ _; rw [sortR_len]; simpa [rws] using hl
  have HNl' : Hid ((sortR (rws es')).length ≤ 1000) := by show _ ≤ _; rw [sortR_len]; simpa [rws] using hl'
  have HLR : Hid (lessE (sortR (rws es)) (sortR (rws es')) = lessR (rws es) (rws es')) := lessE_eq _ _
  obtain ⟨pa, ca, rfl⟩ := h.form
  obtain ⟨pb, cb, rfl⟩ := h'.form
  clear h h' hl hl' hv hv'
  generalize sortR (rws es) = A at *
  generalize sortR (rws es') = Bl at *
  generalize lessR (rws es) (rws es') = LR at *
  go_enter Tryz.func15, Tryz.ntmps15
  go_wp2_with fail
  go_at_call 11
  (with_reducible refine k1.mono ?_)
  rintro e w1 ⟨v1, x1, rfl, o1, e1, B1⟩
  obtain ⟨p1, c1, hf1⟩ := (OwnR.rl o1).form
  subst hf1
  have k2 := H2.out _ B1
  go_wp2_with fail
  go_at_call 11
  (with_reducible refine k2.mono ?_)
  rintro e w2 ⟨v2, x2, rfl, o2, e2, B2⟩
  obtain ⟨p2, c2, hf2⟩ := (OwnR.rl o2).form
  subst hf2
  obtain ⟨N, hN⟩ : ∃ N, x2.length = N := ⟨_, rfl⟩
  have HN : Hid (x2.length = N) := hN
  have HR2 : Hid (RL w2 (fun b => w2.heap.size ≤ b) (.slice p2 x2.length c2) x2) := RL.old (OwnR.rl o2)
  have HE2 : Hid (rws x2 = A) := e2
  have hNl : N ≤ 1000 := by have h1 := congrArg List.length HE2.out; have h2 := HNl.out; simp [rws] at h1; omega
  have hl1 : x1.length ≤ 1000 := by have h1 := congrArg List.length e1; have h2 := HNl'.out; simp [rws] at h1; omega
  have HI0 : Hid (LE w2 w2 (.slice none 0 0) (.slice p1 x1.length c1) [] x1) := ⟨OwnR.nil _ _, ((OwnR.rl o1).below B2).mono (fun b _ q => by cases q), OwnR.cap o1, rws_vals e1 HV'.out, Below.refl _ _⟩
  have HE1 : Hid (rws x1 = Bl) := e1
  have HW2 : Hid (Below w.heap.size w w2) := bmore B1 B2
  rw [hN]
  rw [hN] at HR2
  clear hN k1 k2 B1 B2 o1 o2 e1 e2
  go_wp2_with fail
  go_loopw [5, 6, 8] (fun fo fl fi wr => ∃ (i : Nat) (oe le : List El), fi = .int .i64 (i : Int) ∧ Hid (i ≤ N ∧ oe.length ≤ i ∧ le.length ≤ 1000) ∧ Hid (LE w2 wr fo fl oe le) ∧ Hid (rws oe ++ lessE (A.drop i) (rws le) = LR)) (fun _ _ fi _ => ((N : Int) - intOf fi).toNat)
  case atStart => exact ⟨0, [], x1, rfl, ⟨Nat.zero_le _, by simp, hl1⟩, HI0.out, by show _ = _; rw [HE1.out, ← HLR.out]; simp [rws]⟩
  case round =>
    obtain ⟨i, oe, le, rfl, hi, hI, hE⟩ := hrel
    by_cases hiN : i < N
    · have hii : (i : Int) < (N : Int) := by omega
      have hi0 : (0 : Int) ≤ (i : Int) := by omega
      obtain ⟨e, he⟩ : ∃ e, x2[i]? = some e := ⟨_, List.getElem?_eq_getElem (by rw [HN.out]; exact hiN)⟩
      have HAi : Hid (A.drop i = e.2 :: A.drop (i + 1)) := by
        show _ = _
        rw [← HE2.out]
        obtain ⟨h1, h2⟩ := List.getElem?_eq_some_iff.1 he
        rw [List.drop_eq_getElem_cons (by simpa [rws] using h1)]
        congr 1
        simp [rws, h2]
      obtain ⟨g, o, rfl, _, _, _⟩ := (RL.below HR2.out hI.out.b).get he
      have HCi : Hid (∀ W, Below w2.heap.size w2 W → W.cell? ⟨g, o + i * 3, none⟩ = some e.1 ∧ W.cell? ⟨g, o + i * 3 + 1, none⟩ = some (.int .i64 e.2.2.1) ∧ W.cell? ⟨g, o + i * 3 + 2, none⟩ = some (.int .i64 e.2.2.2)) := fun W kk => RL.at3 (RL.below HR2.out kk) he
      have HSV : Hid (SV w2 (fun b => w2.heap.size ≤ b) e.1 e.2.1) := HR2.out.vals e (List.mem_of_getElem? he)
      have HLe : Hid (e.2.1.length ≤ 1000) := rws_vals HE2.out HV.out e (List.mem_of_getElem? he)
      have HYes : Hid (∀ q, (rws le)[q]? = some e.2 → (∀ j, j < q → (rws le)[j]? ≠ some e.2) → rws oe ++ lessE (A.drop (i + 1)) (rws (le.take q ++ le.drop (q + 1))) = LR) := fun q h1 h2 => by
        rw [← hE.out, HAi.out, lessE_yes h1 h2]
        simp [rws]
      have HNo : Hid ((∀ j, j < (rws le).length → (rws le)[j]? ≠ some e.2) → rws oe ++ e.2 :: lessE (A.drop (i + 1)) (rws le) = LR) := fun h1 => by
        rw [← hE.out, HAi.out, lessE_no h1]
      obtain ⟨sv, vs, f, t⟩ := e
      simp only at HCi HSV HLe HYes HNo
      obtain ⟨ps, cs, rfl⟩ := SV.form HSV.out
      obtain ⟨p6, c6, rfl⟩ := hI.out.rest.form
      obtain ⟨M, hM⟩ : ∃ M, le.length = M := ⟨_, rfl⟩
      have HM : Hid (le.length = M) := hM
      have HRM : Hid ((rws le).length = M) := by show _ = _; simpa [rws] using hM
      have hM1 : M ≤ 1000 := by have := hi.out; omega
      rw [hM]
      rw [hM] at hI
      obtain ⟨wa, hwa⟩ : ∃ wa, wa = wr := ⟨_, rfl⟩
      subst hwa
      clear he hM HAi
      go_wp2_with fail
      go_loopw [9, 10] (fun fs fk wr => ∃ (q k : Nat) (b : Bool), (fs = if b then .int .i64 (q : Int) else .int .i64 (-1)) ∧ fk = .int .i64 (k : Int) ∧ Hid (k ≤ M) ∧ Hid (b = false → ∀ j, j < k → (rws le)[j]? ≠ some (vs, f, t)) ∧ Hid (b = true → k = q + 1 ∧ (rws le)[q]? = some (vs, f, t) ∧ ∀ j, j < q → (rws le)[j]? ≠ some (vs, f, t)) ∧ Hid (Below wa.heap.size wa wr)) (fun _ fk _ => ((M : Int) - intOf fk).toNat)
      case atStart => exact ⟨0, 0, false, rfl, rfl, Nat.zero_le _, fun _ j hj => by omega, (fun h => by cases h), Below.refl _ _⟩
      case round =>
        obtain ⟨q, k, b, hfs, rfl, hk, hno, hyes, hB⟩ := hrel
        cases b with
        | false =>
          simp only [Bool.false_eq_true, if_false] at hfs
          subst hfs
          have Hno : Hid (∀ j, j < k → (rws le)[j]? ≠ some (vs, f, t)) := hno.out rfl
          clear hno hyes
          by_cases hkM : k < M
          · have hki : (k : Int) < (M : Int) := by omega
            have hk0 : (0 : Int) ≤ (k : Int) := by omega
            have hkd : decide ((k : Int) < (M : Int)) = true := decide_eq_true hki
            have HIw : Hid (LE w2 wr u5 (.slice p6 M c6) oe le) := LE.below hI.out hB.out
            obtain ⟨y, hy⟩ : ∃ y, le[k]? = some y := ⟨_, List.getElem?_eq_getElem (by rw [HM.out]; exact hkM)⟩
            obtain ⟨g6, o6, rfl, _⟩ := RL.get HIw.out.rest hy
            have HCk : Hid (∀ W, Below wr.heap.size wr W → W.cell? ⟨g6, o6 + k * 3, none⟩ = some y.1 ∧ W.cell? ⟨g6, o6 + k * 3 + 1, none⟩ = some (.int .i64 y.2.2.1) ∧ W.cell? ⟨g6, o6 + k * 3 + 2, none⟩ = some (.int .i64 y.2.2.2)) := fun W kk => RL.at3 (RL.below HIw.out.rest kk) hy
            have HSVk : Hid (SV wr (fun _ => False) y.1 y.2.1) := SV.mono (HIw.out.rest.vals y (List.mem_of_getElem? hy)) (fun _ _ h => h.elim)
            have HLk : Hid (y.2.1.length ≤ 1000) := HIw.out.len y (List.mem_of_getElem? hy)
            have HYk : Hid ((rws le)[k]? = some y.2) := by show _ = _; rw [rws, List.getElem?_map, hy]; rfl
            obtain ⟨sk, vk, fk, tk⟩ := y
            simp only at HCk HSVk HLk HYk
            obtain ⟨pk, ck, rfl⟩ := SV.form HSVk.out
            have HS : Hid (∀ W, Below wr.heap.size wr W → W.cell? ⟨g6, o6 + k * 3, none⟩ = some (.slice pk vk.length ck) ∧ W.cell? ⟨g6, o6 + k * 3 + 1, none⟩ = some (.int .i64 fk) ∧ W.cell? ⟨g6, o6 + k * 3 + 2, none⟩ = some (.int .i64 tk) ∧ W.cell? ⟨g, o + i * 3, none⟩ = some (.slice ps vs.length cs) ∧ W.cell? ⟨g, o + i * 3 + 1, none⟩ = some (.int .i64 f) ∧ W.cell? ⟨g, o + i * 3 + 2, none⟩ = some (.int .i64 t)) := fun W kk => by
              obtain ⟨z0, z1, z2⟩ := HCk.out W kk
              exact ⟨z0, z1, z2, HCi.out W (bmore HIw.out.b kk)⟩
            have K0 : Below wr.heap.size wr wr.drew := (Below.refl _ _).drew
            have hS0 := HS.out _ K0
            have k43 := sameRow22 (X := fun _ => False) (w := wr.drew) (r := (vk, fk, tk)) (r' := (vs, f, t)) (SV.below HSVk.out K0) ((SV.below HSV.out (bmore HIw.out.b K0)).mono (fun _ _ h => h.elim)) (Nat.le_trans HLk.out (by decide)) (Nat.le_trans HLe.out (by decide))
            clear hy HIw
            by_cases hq : (vk, fk, tk) = (vs, f, t)
            · rw [decide_eq_true hq] at k43
              have HYe : Hid ((rws le)[k]? = some (vs, f, t)) := by rw [← hq]; exact HYk.out
              clear hq HYk
              go_wp2_with fail
              go_region_held3 (fun W => W.cell? ⟨g6, o6 + k * 3, none⟩ = some (.slice pk vk.length ck) ∧ W.cell? ⟨g6, o6 + k * 3 + 1, none⟩ = some (.int .i64 fk) ∧ W.cell? ⟨g6, o6 + k * 3 + 2, none⟩ = some (.int .i64 tk) ∧ W.cell? ⟨g, o + i * 3, none⟩ = some (.slice ps vs.length cs) ∧ W.cell? ⟨g, o + i * 3 + 1, none⟩ = some (.int .i64 f) ∧ W.cell? ⟨g, o + i * 3 + 2, none⟩ = some (.int .i64 t)) (first | exact hS0 | exact HS.out _ K1) (first
                | (go_at_call 43; (with_reducible refine k43.mono ?_); rintro e w3 ⟨rfl, B3⟩; have K1 := bmore K0 B3))
              clear hS0
              go_wp2_with fail
              go_roundw
              case rel => exact ⟨k, k + 1, true, rfl, by simp, by show _ ≤ _; omega, (fun h => by cases h), fun _ => ⟨rfl, HYe.out, Hno.out⟩, bmore hB.out K1⟩
              case measure => simp only [intOf]; omega
            · rw [decide_eq_false hq] at k43
              have Hno' : Hid (∀ j, j < k + 1 → (rws le)[j]? ≠ some (vs, f, t)) := fun j hj => by
                by_cases hjk : j < k
                · exact Hno.out j hjk
                · rw [show j = k by omega, HYk.out]
                  intro z
                  exact hq (Option.some.inj z)
              clear hq HYk
              go_wp2_with fail
              go_region_held3 (fun W => W.cell? ⟨g6, o6 + k * 3, none⟩ = some (.slice pk vk.length ck) ∧ W.cell? ⟨g6, o6 + k * 3 + 1, none⟩ = some (.int .i64 fk) ∧ W.cell? ⟨g6, o6 + k * 3 + 2, none⟩ = some (.int .i64 tk) ∧ W.cell? ⟨g, o + i * 3, none⟩ = some (.slice ps vs.length cs) ∧ W.cell? ⟨g, o + i * 3 + 1, none⟩ = some (.int .i64 f) ∧ W.cell? ⟨g, o + i * 3 + 2, none⟩ = some (.int .i64 t)) (first | exact hS0 | exact HS.out _ K1) (first
                | (go_at_call 43; (with_reducible refine k43.mono ?_); rintro e w3 ⟨rfl, B3⟩; have K1 := bmore K0 B3))
              clear hS0
              go_wp2_with fail
              go_roundw
              case rel => exact ⟨0, k + 1, false, rfl, by simp, by show _ ≤ _; omega, fun _ => Hno'.out, (fun h => by cases h), bmore hB.out K1⟩
              case measure => simp only [intOf]; omega
          · have hki : ¬ (k : Int) < (M : Int) := by omega
            have hkd : decide ((k : Int) < (M : Int)) = false := decide_eq_false hki
            have HE' : Hid _ := HNo.out (by rw [HRM.out]; intro j hj; exact Hno.out j (by omega))
            obtain ⟨z0, z1, z2⟩ := HCi.out _ (bmore hI.out.b hB.out)
            have HApp := LE.app (f := f) (t := t) (LE.below hI.out hB.out) (by have := hi.out; omega) (SV.below HSV.out (bmore hI.out.b hB.out))
            go_wp2_with (at_builtin; refine wpList_append_ex (by rfl) (.tmp 43) (.tmp 48) 22 (by rfl) _ _ (by rfl) (by rfl) HApp ?_; rintro v7 w7 hI7)
            go_roundw
            case rel => exact ⟨i + 1, oe ++ [(Value.slice ps vs.length cs, vs, f, t)], le, by simp, ⟨by omega, by have := hi.out; simp; omega, hi.out.2.2⟩, hI7.out, by show _ = _; rw [← HE'.out]; simp [rws]⟩
            case measure => simp only [intOf]; omega
        | true =>
          simp only [if_true] at hfs
          subst hfs
          obtain ⟨hkq, hyq, hyn⟩ := hyes.out rfl
          have HE' : Hid _ := HYes.out q hyq hyn
          have hqM : q < M := by have := hk.out; omega
          have hq0 : (0 : Int) ≤ (q : Int) := by omega
          have hqn : ¬ (q : Int) < 0 := by omega
          have HIw : Hid (LE w2 wr u5 (.slice p6 M c6) oe le) := LE.below hI.out hB.out
          obtain ⟨y, hy⟩ : ∃ y, le[q]? = some y := ⟨_, List.getElem?_eq_getElem (by rw [HM.out]; exact hqM)⟩
          obtain ⟨g6, o6, rfl, _⟩ := RL.get HIw.out.rest hy
          have hcp : M ≤ c6 := HIw.out.cap _ _ _ rfl
          have hl1 : (q : Int) ≤ (c6 : Int) := by omega
          have hl2 : (q : Int) + 1 ≤ (M : Int) := by omega
          have hl3 : (0 : Int) ≤ (q : Int) + 1 := by omega
          have hl4 : (M : Int) ≤ (c6 : Int) := by omega
          have hl5 : IntKind.i64.wrap ((q : Int) + 1) = (q : Int) + 1 := wrap_small _ (by omega) (by omega)
          have HApp := LE.cut (q := q) (le := le) (by rw [HM.out]; exact HIw.out) (by rw [HM.out]; exact hqM) (by rw [HM.out]; exact hM1)
          rw [HM.out] at HApp
          have HLl : Hid ((le.take q ++ le.drop (q + 1)).length ≤ 1000) := by show _ ≤ _; rw [List.length_append, List.length_take, List.length_drop]; have := HM.out; omega
          have hb0 := fun w => run_build0 w
          clear hno hyes hyq hyn hy HIw HNo HYes
          subst hkq
          by_cases hkM : q + 1 < M
          · have hki : ((q + 1 : Nat) : Int) < (M : Int) := by omega
            have hkd : decide (((q + 1 : Nat) : Int) < (M : Int)) = true := decide_eq_true hki
            go_wp2_with fail
            go_region_held3 (fun _ => True) (exact trivial) (first
              | (refine step_append_ex (by rfl) (.tmp 50) (.tmp 53) 22 (by rfl) _ _ (by rfl) (by rfl) HApp ?_; rintro u1 w8 hA8; have HApp2 := hA8.out)
              | (refine step_append_ex (by rfl) (.tmp 54) (.tmp 58) 22 (by rfl) _ _ (by rfl) (by rfl) HApp2 ?_; rintro u2 w9 hI9))
            go_wp2_with fail
            go_roundw
            case rel => exact ⟨i + 1, oe, le.take q ++ le.drop (q + 1), by simp, ⟨by omega, by have := hi.out; omega, HLl.out⟩, hI9.out, HE'.out⟩
            case measure => simp only [intOf]; omega
          · have hki : ¬ ((q + 1 : Nat) : Int) < (M : Int) := by omega
            have hkd : decide (((q + 1 : Nat) : Int) < (M : Int)) = false := decide_eq_false hki
            go_wp2_with fail
            go_region_held3 (fun _ => True) (exact trivial) (first
              | (refine step_append_ex (by rfl) (.tmp 50) (.tmp 53) 22 (by rfl) _ _ (by rfl) (by rfl) HApp ?_; rintro u1 w8 hA8; have HApp2 := hA8.out)
              | (refine step_append_ex (by rfl) (.tmp 54) (.tmp 58) 22 (by rfl) _ _ (by rfl) (by rfl) HApp2 ?_; rintro u2 w9 hI9))
            go_wp2_with fail
            go_roundw
            case rel => exact ⟨i + 1, oe, le.take q ++ le.drop (q + 1), by simp, ⟨by omega, by have := hi.out; omega, HLl.out⟩, hI9.out, HE'.out⟩
            case measure => simp only [intOf]; omega
    · have hki : ¬ (i : Int) < (N : Int) := by omega
      have HF : Hid (rws oe = LR) := by
        show _ = _
        rw [← hE.out, List.drop_of_length_le (by have h1 := congrArg List.length HE2.out; have := HN.out; simp [rws] at h1; omega)]
        simp [lessE]
      go_wp2
      go_ret
      exact ⟨_, oe, rfl, hI.out.own.base HW2.out.size, HF.out, bmore HW2.out hI.out.b⟩
end Go.Proofs.YtpagnphabchfcaaGreat
