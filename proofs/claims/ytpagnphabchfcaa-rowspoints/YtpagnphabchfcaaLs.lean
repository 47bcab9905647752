/- Less. -/
import Derived.Test.YtpagnphabchfcaaLe
namespace Go.Proofs.Ytpagnphabchfcaa
open Go.Shelf Go.RowKit
set_option maxRecDepth 100000
def lenV : Value → Nat
  | .slice _ n _ => n
  | _ => 0
def CapOk (v : Value) : Prop := ∀ a n c, v = .slice a n c → n ≤ c
theorem SV.old {w : World} {v : Value} {vs : List Vt} (h : SV w (fun _ => False) v vs) : SV w (fun b => w.heap.size ≤ b) v vs := by
  obtain ⟨a, c, rfl, h⟩ := h
  refine ⟨a, c, rfl, fun h0 => ?_⟩
  obtain ⟨g, o, rfl, hg, _, hc⟩ := h h0
  exact ⟨g, o, rfl, hg, by omega, hc⟩
theorem RL.old {w : World} {v : Value} {es : List El} (h : RL w (fun _ => False) v es) : RL w (fun b => w.heap.size ≤ b) v es := by
  refine ⟨?_, fun e he => (h.vals e he).old⟩
  obtain ⟨a, c, rfl, hh⟩ := h.at'
  refine ⟨a, c, rfl, fun h0 => ?_⟩
  obtain ⟨g, o, rfl, hg, _, hc⟩ := hh h0
  exact ⟨g, o, rfl, hg, by omega, hc⟩
theorem OwnR.cap {w : World} {B : Nat} {v : Value} {es : List El} (h : OwnR w B v es) : CapOk v := by
  intro a n c hv
  obtain ⟨_, ⟨rfl, _⟩ | ⟨g, cap, cur, rfl, _, _, hnc, _⟩⟩ := h.row
  · cases hv; exact Nat.le_refl _
  · cases hv; exact hnc
/-- Without the first one. -/
theorem RL.tail {w : World} {X : Nat → Prop} {a : Option Addr} {n c : Nat} {e : El} {es : List El} (h : RL w X (.slice a n c) (e :: es)) (hc : n ≤ c) : n = es.length + 1 ∧ RL w X (.slice (if c = 1 then a else Option.map (fun x => x.add 3) a) (n - 1) (c - 1)) es := by
  obtain ⟨a', c', hv, hh⟩ := h.at'
  simp only [Value.slice.injEq, List.length_cons] at hv
  obtain ⟨rfl, rfl, rfl⟩ := hv
  refine ⟨rfl, ?_, fun x hx => h.vals x (by simp [hx])⟩
  refine ⟨if c = 1 then a else Option.map (fun x => x.add 3) a, c - 1, by rw [Nat.add_sub_cancel], fun h0 => ?_⟩
  obtain ⟨g, o, rfl, hg, hx, hce⟩ := hh (by simp)
  refine ⟨g, o + 3, by rw [if_neg (by omega), Option.map_some, Addr.add_mid], hg, hx, fun i s hs => ?_⟩
  have := hce (i + 1) s (by simpa using hs)
  rw [show o + (i + 1) * 3 = o + 3 + i * 3 by omega] at this
  exact this
theorem RL.head {w : World} {X : Nat → Prop} {a : Option Addr} {n c : Nat} {e : El} {es : List El} (h : RL w X (.slice a n c) (e :: es)) : ∃ g o, a = some ⟨g, o, none⟩ ∧ g < w.heap.size ∧ w.cell? ⟨g, o, none⟩ = some e.1 ∧ w.cell? ⟨g, o + 1, none⟩ = some (.int .i64 e.2.2.1) ∧ w.cell? ⟨g, o + 2, none⟩ = some (.int .i64 e.2.2.2) := by
  obtain ⟨g, o, h1, h2, _, h3, h4, h5⟩ := h.get (k := 0) rfl
  rw [Nat.zero_mul, Nat.add_zero] at h3 h4 h5
  exact ⟨g, o, h1, h2, h3, h4, h5⟩
theorem RL.tail' {w : World} {X : Nat → Prop} {g o n c : Nat} {e : El} {es : List El} (h : RL w X (.slice (some ⟨g, o, none⟩) n c) (e :: es)) (hc : n ≤ c) : RL w X (.slice (if c = 1 then some ⟨g, o, none⟩ else some ⟨g, o + 3, none⟩) es.length (c - 1)) es := by
  obtain ⟨h1, h2⟩ := RL.tail h hc
  rw [h1, Nat.add_sub_cancel, Option.map_some, Addr.add_mid] at h2
  exact h2
theorem al3 (w : World) (v : Value) (f t : Int) : Below w.heap.size w (w.alloc (.cells #[v, .int .i64 f, .int .i64 t] 34)) := al _ _
/-- The state of Less's loops. -/
structure LsI (w2 wr : World) (fo fr : Value) (oe re : List El) : Prop where
  own : OwnR wr w2.heap.size fo oe
  rest : RL wr (fun b => w2.heap.size ≤ b) fr re
  cap : CapOk fr
  len : ∀ e ∈ re, e.2.1.length ≤ 1000
  k : Below w2.heap.size w2 wr
theorem LsI.below {w2 wr w' : World} {fo fr : Value} {oe re : List El} (h : LsI w2 wr fo fr oe re) (k : Below wr.heap.size wr w') : LsI w2 w' fo fr oe re := ⟨h.own.below k, h.rest.below k, h.cap, h.len, bmore h.k k⟩
def LPost (w : World) (l : List Rw) (e : Ending) (w' : World) : Prop := ∃ v1 x1, e = .returned v1 ∧ OwnR w' w.heap.size v1 x1 ∧ rws x1 = l ∧ Below w.heap.size w w'
set_option maxHeartbeats 4000000 in
theorem less14 {w : World} {X : Nat → Prop} {v v' : Value} {es es' : List El} (h : RL w X v es) (h' : RL w X v' es') (hl : es.length ≤ 1000) (hl' : es'.length ≤ 1000) (hv : ∀ e ∈ es, e.2.1.length ≤ 1000) (hv' : ∀ e ∈ es', e.2.1.length ≤ 1000) :
    Calls Try.prog 14 #[v, v'] w (LPost w (lessR (rws es) (rws es'))) := by
  have k1 := sorted17 h' hl' hv'
  have H2 : Hid (∀ w1, Below w.heap.size w w1 → Calls Try.prog 17 #[v] w1 (SPost w1 (sortR (rws es)))) := fun w1 k => sorted17 (h.below k) hl hv
  have HV : Hid (∀ r ∈ sortR (rws es), r.1.length ≤ 1000) := sortR_vals (fun r hr => by obtain ⟨e, he, rfl⟩ := List.mem_map.1 hr; exact hv e he)
  have HV' : Hid (∀ r ∈ sortR (rws es'), r.1.length ≤ 1000) := sortR_vals (fun r hr => by obtain ⟨e, he, rfl⟩ := List.mem_map.1 hr; exact hv' e he)
  have HNl : Hid ((sortR (rws es)).length ≤ 1000) := by show _ ≤ _; rw [sortR_len]; simpa [rws] using hl
  have HLR : Hid (lessR (rws es) (rws es') = lessL (sortR (rws es)) (sortR (rws es'))) := rfl
  clear h h' hl hl' hv hv'
  generalize hA0 : sortR (rws es) = A at *
  generalize hB0 : sortR (rws es') = Bl at *
  generalize lessR (rws es) (rws es') = LR at *
  clear hA0 hB0
  go_enter Try.func14, Try.ntmps14
  go_wp2_with (first
    | (go_at_call 17; (with_reducible refine k1.mono ?_); rintro e w1 ⟨v1, x1, rfl, _, o1, e1, B1⟩; have HO1 : Hid (OwnR w1 w.heap.size v1 x1) := o1; have HE1 : Hid (rws x1 = Bl) := e1; clear o1 e1)
    | (go_at_call 17; (with_reducible refine (H2.out _ B1).mono ?_); rintro e w2 ⟨v2, x2, rfl, _, o2, e2, B2⟩; have HO2 : Hid (OwnR w2 w1.heap.size v2 x2) := o2; have HE2 : Hid (rws x2 = A) := e2; have HO1' : Hid (OwnR w2 w.heap.size v1 x1) := OwnR.below HO1.out B2; clear o2 e2; obtain ⟨a2, c2, hv2⟩ := (OwnR.rl HO2.out).form; subst hv2))
  all_goals skip
  obtain ⟨N, hN⟩ : ∃ N, x2.length = N := ⟨_, rfl⟩
  have HN : Hid _ := hN
  have HR2 : Hid (RL w2 (fun b => w2.heap.size ≤ b) (.slice a2 x2.length c2) x2) := RL.old (OwnR.rl HO2.out)
  have hNl : N ≤ 1000 := by have h1 := congrArg List.length HE2.out; have h2 := HNl.out; simp [rws] at h1; omega
  have HI0 : Hid (LsI w2 w2 (.slice none 0 0) v1 [] x1) := ⟨OwnR.nil _ _, RL.old (OwnR.rl HO1'.out), OwnR.cap HO1'.out, rws_vals HE1.out HV'.out, Below.refl _ _⟩
  have HW2 : Hid (Below w.heap.size w w2) := bmore B1 B2
  rw [hN]
  clear hN k1 B1 B2
  go_loopw [5, 6, 14] (fun fo fr fi wr => ∃ (k : Nat) (oe re : List El), fi = .int .i64 (k : Int) ∧ Hid (k ≤ N ∧ oe.length ≤ k) ∧ Hid (LsI w2 wr fo fr oe re) ∧ Hid (rws oe ++ lessL (A.drop k) (rws re) = LR)) (fun _ _ fi _ => ((N : Int) - intOf fi).toNat)
  case atStart => exact ⟨0, [], x1, rfl, ⟨Nat.zero_le _, by simp⟩, HI0.out, by show _ = _; rw [HLR.out, HE1.out]; simp [rws]⟩
  case round =>
    obtain ⟨k, oe, re, rfl, hk, hI, hE⟩ := hrel
    by_cases hkN : k < N
    · have hki : (k : Int) < (N : Int) := by omega
      have hk0 : (0 : Int) ≤ (k : Int) := by omega
      obtain ⟨e, he⟩ : ∃ e, x2[k]? = some e := ⟨_, List.getElem?_eq_getElem (by rw [HN.out]; exact hkN)⟩
      have HAk : Hid (A.drop k = e.2 :: A.drop (k + 1)) := by
        show _ = _
        rw [← HE2.out]
        obtain ⟨h1, h2⟩ := List.getElem?_eq_some_iff.1 he
        rw [List.drop_eq_getElem_cons (by simpa [rws] using h1)]
        congr 1
        simp [rws, h2]
      obtain ⟨g, o, rfl, _, _, d0, d1, d2⟩ := (RL.below HR2.out hI.out.k).get he
      have HSV : Hid (SV wr (fun b => w2.heap.size ≤ b) e.1 e.2.1) := (HR2.out.vals e (List.mem_of_getElem? he)).below hI.out.k
      have HLe : Hid (e.2.1.length ≤ 1000) := rws_vals HE2.out HV.out e (List.mem_of_getElem? he)
      obtain ⟨sv, vs, f, t⟩ := e
      simp only at d0 d1 d2 HSV HLe HAk
      obtain ⟨pa, ca, rfl⟩ := SV.form HSV.out
      have b8 := blk_new wr [.slice pa vs.length ca, .int .i64 f, .int .i64 t] 34
      have hA8 := al3 wr (.slice pa vs.length ca) f t
      change Blk (wr.alloc (.cells #[.slice pa vs.length ca, .int .i64 f, .int .i64 t] 34)) _ _ _ at b8
      have HI8 : Hid _ := LsI.below hI.out hA8
      have HSV8 : Hid _ := SV.below HSV.out hA8
      clear he
      go_wp2_with fail
      generalize wr.alloc (.cells #[.slice pa vs.length ca, .int .i64 f, .int .i64 t] 34) = W8 at *
      generalize wr.heap.size = bx at *
      have HC : Hid (∀ W', Below W8.heap.size W8 W' → W'.cell? ⟨bx, 0, none⟩ = some (.slice pa vs.length ca) ∧ W'.cell? ⟨bx, 1, none⟩ = some (.int .i64 f) ∧ W'.cell? ⟨bx, 2, none⟩ = some (.int .i64 t)) := fun W' k => ⟨(b8.below k).cell 0, (b8.below k).cell 1, (b8.below k).cell 2⟩
      clear b8 d0 d1 d2
      have HApp : Hid (∀ (w6 : World) (fr : Value) (re' : List El), Hid (LsI w2 w6 u5 fr oe re') → Hid (Below W8.heap.size W8 w6) → ∃ v7 w7, (Builtin.append_ #[22, 22] 22 #[u5, .slice (some ⟨w6.heap.size, 0, none⟩) 1 1]).run Try.prog (w6.alloc (.cells #[.slice pa vs.length ca, .int .i64 f, .int .i64 t] 34)) = .ok v7 w7 ∧ Hid (LsI w2 w7 v7 fr (oe ++ [(.slice pa vs.length ca, vs, f, t)]) re')) := fun w6 fr re' hI6 hB6 => by
        have hal := al3 w6 (.slice pa vs.length ca) f t
        have I6 := hI6.out.below hal
        have nb := blk_new w6 [.slice pa vs.length ca, .int .i64 f, .int .i64 t] 34
        have hsv : SV (w6.alloc (.cells #[.slice pa vs.length ca, .int .i64 f, .int .i64 t] 34)) (fun b => u5.ownBlock = some b) (.slice pa vs.length ca) vs := (SV.below (SV.below HSV8.out hB6.out) hal).mono (fun b _ q => (I6.own.row.lt b q).1)
        obtain ⟨v7, w7, hr7, A7⟩ := OwnR.app I6.own (by have := hk.out; omega) I6.k.size 22 (gb := w6.heap.size) (c := 1) (e := (.slice pa vs.length ca, vs, f, t)) hsv (nb.cell 0) (nb.cell 1) (nb.cell 2)
        refine ⟨v7, w7, hr7, A7.own, ?_, I6.cap, I6.len, I6.k.trans (A7.below I6.own I6.k.size)⟩
        exact I6.rest.keep ((keep_of_grown A7.grown).mono (fun b _ q => (I6.own.row.lt b q).1)) (fun _ _ h => h)
      go_loopw [6] (fun fr wr => ∃ re', Hid (LsI w2 wr u5 fr oe re') ∧ Hid (Below W8.heap.size W8 wr) ∧ Hid (lessL ((vs, f, t) :: A.drop (k + 1)) (rws re') = lessL ((vs, f, t) :: A.drop (k + 1)) (rws re))) (fun fr _ => lenV fr)
      case atStart => exact ⟨re, HI8.out, Below.refl _ _, rfl⟩
      case round =>
        obtain ⟨re', hIq, hBq, hEq⟩ := hrel
        obtain ⟨aq, cq, hvq⟩ := hIq.out.rest.form
        cases re' with
        | nil =>
          simp only [List.length_nil] at hvq
          subst hvq
          go_wp2_with fail
          go_big_quiet (fail)
          have Ky : Below wr.heap.size wr (wr.drewN nq) := ⟨rfl, rfl, rfl, Nat.le_refl _, fun _ _ => rfl⟩
          generalize wr.drewN nq = wy at *
          go_wp2_with fail
          go_big_quiet (fail)
          have Kz : Below wr.heap.size wr (wy.drewN nq) := bmore Ky ⟨rfl, rfl, rfl, Nat.le_refl _, fun _ _ => rfl⟩
          have HIz : Hid (LsI w2 (wy.drewN nq) u5 (.slice aq 0 cq) oe []) := LsI.below hIq.out Kz
          have HBz : Hid (Below W8.heap.size W8 (wy.drewN nq)) := bmore hBq.out Kz
          obtain ⟨z0, z1, z2⟩ := HC.out _ HBz.out
          generalize wy.drewN nq = wz at *
          go_wp2_with (at_builtin; refine wpList_append_ex (by rfl) (.tmp 44) (.tmp 46) 22 (by rfl) _ _ (by rfl) (by rfl) (HApp.out _ _ _ HIz HBz) ?_; rintro v7 w7 hI7)
          go_roundw
          case rel => exact ⟨k + 1, oe ++ [(Value.slice pa vs.length ca, vs, f, t)], [], by simp, ⟨by omega, by have := hk.out; simp; omega⟩, hI7.out, by show _ = _; rw [← hE.out, HAk.out, ← hEq.out, show rws ([] : List El) = [] from rfl, lessL_nil]; simp [rws]⟩
          case measure => simp only [intOf]; omega
        | cons y re'' =>
          subst hvq
          obtain ⟨g', o', rfl, hg', _, _, _⟩ := RL.head hIq.out.rest
          have HTail : Hid (∀ W', Below wr.heap.size wr W' → LsI w2 W' u5 (.slice (if cq = 1 then some ⟨g', o', none⟩ else some ⟨g', o' + 3, none⟩) re''.length (cq - 1)) oe re'') := fun W' kk => ⟨hIq.out.own.below kk, RL.tail' (RL.below hIq.out.rest kk) (hIq.out.cap _ _ _ rfl), fun a n c q => by
            simp only [Value.slice.injEq] at q
            have := hIq.out.cap _ _ _ rfl
            simp only [List.length_cons] at this
            omega, fun e he => hIq.out.len e (by simp [he]), bmore hIq.out.k kk⟩
          have HSVy : Hid (SV wr (fun b => w2.heap.size ≤ b) y.1 y.2.1) := hIq.out.rest.vals y (by simp)
          have HLy : Hid (y.2.1.length ≤ 1000) := hIq.out.len y (by simp)
          have HRy : Hid (∀ W', Below wr.heap.size wr W' → W'.cell? ⟨g', o', none⟩ = some y.1 ∧ W'.cell? ⟨g', o' + 1, none⟩ = some (.int .i64 y.2.2.1) ∧ W'.cell? ⟨g', o' + 2, none⟩ = some (.int .i64 y.2.2.2)) := fun W' kk => by
            obtain ⟨g2, o2, e2, _, r0, r1, r2⟩ := RL.head (RL.below hIq.out.rest kk)
            simp only [Option.some.injEq, Addr.mk.injEq] at e2
            obtain ⟨rfl, rfl, _⟩ := e2
            exact ⟨r0, r1, r2⟩
          obtain ⟨sy, vs', f', t'⟩ := y
          simp only at HSVy HLy HRy
          obtain ⟨pb, cb, rfl⟩ := SV.form HSVy.out
          have HS : Hid (∀ W', Below wr.heap.size wr W' → W'.cell? ⟨bx, 0, none⟩ = some (.slice pa vs.length ca) ∧ W'.cell? ⟨bx, 1, none⟩ = some (.int .i64 f) ∧ W'.cell? ⟨bx, 2, none⟩ = some (.int .i64 t) ∧ W'.cell? ⟨g', o', none⟩ = some (.slice pb vs'.length cb) ∧ W'.cell? ⟨g', o' + 1, none⟩ = some (.int .i64 f') ∧ W'.cell? ⟨g', o' + 2, none⟩ = some (.int .i64 t')) := fun W' kk => by
            obtain ⟨z0, z1, z2⟩ := HC.out _ (bmore hBq.out kk)
            exact ⟨z0, z1, z2, HRy.out W' kk⟩
          have H30 : Hid (∀ W', Below wr.heap.size wr W' → Calls Try.prog 30 #[RV (.slice pb vs'.length cb) (vs', f', t'), RV (.slice pa vs.length ca) (vs, f, t)] W' fun e w' => e = .returned (.int .i64 (cmpR (vs', f', t') (vs, f, t))) ∧ GB W' w') := fun W' kk => codec30 (r := (vs', f', t')) (r' := (vs, f, t)) (SV.below HSVy.out kk) (SV.below (SV.below HSV8.out hBq.out) kk) (Nat.le_trans HLy.out (by decide)) (Nat.le_trans HLe.out (by decide))
          have hc0 : (0 : Int) < ((re''.length : Int) + 1) := by omega
          have K0 : Below wr.heap.size wr wr.drew := (Below.refl _ _).drew
          have hS0 := HS.out _ K0
          have t3 := ordR.three (vs', f', t') (vs, f, t)
          have HEqR : Hid (cmpR (vs', f', t') (vs, f, t) = 0 ↔ (vs', f', t') = (vs, f, t)) := ordR.eq _ _
          have HDrop : Hid (cmpR (vs', f', t') (vs, f, t) = -1 → lessL ((vs, f, t) :: A.drop (k + 1)) ((vs', f', t') :: rws re'') = lessL ((vs, f, t) :: A.drop (k + 1)) (rws re'')) := fun h => lessL_drop h
          have HKeepL : Hid (cmpR (vs', f', t') (vs, f, t) = 1 → lessL ((vs, f, t) :: A.drop (k + 1)) ((vs', f', t') :: rws re'') = (vs, f, t) :: lessL (A.drop (k + 1)) ((vs', f', t') :: rws re'')) := fun h => lessL_ne (by omega) (fun e => by have := (ordR.eq _ _).2 e; omega)
          generalize cmpR (vs', f', t') (vs, f, t) = z at *
          have hcq : re''.length + 1 ≤ cq := by have := hIq.out.cap _ _ _ rfl; simpa using this
          have hcq' : (1 : Int) ≤ (cq : Int) := by omega
          simp only [List.length_cons] at *
          rcases t3 with hz | hz | hz
          · subst hz
            go_wp2_with fail
            go_region_held3 (fun W' => W'.cell? ⟨bx, 0, none⟩ = some (.slice pa vs.length ca) ∧ W'.cell? ⟨bx, 1, none⟩ = some (.int .i64 f) ∧ W'.cell? ⟨bx, 2, none⟩ = some (.int .i64 t) ∧ W'.cell? ⟨g', o', none⟩ = some (.slice pb vs'.length cb) ∧ W'.cell? ⟨g', o' + 1, none⟩ = some (.int .i64 f') ∧ W'.cell? ⟨g', o' + 2, none⟩ = some (.int .i64 t')) (first | exact hS0 | exact HS.out _ K1) (first
              | (go_at_call 30; (with_reducible refine (H30.out _ K0).mono ?_); rintro e w3 ⟨rfl, B3⟩; have K1 := bmore K0 B3.b))
            clear hS0
            go_wp2_with fail
            go_roundw
            case rel => exact ⟨re'', HTail.out _ K1, bmore hBq.out K1, by show _ = _; rw [← hEq.out]; exact (HDrop.out trivial).symm⟩
            case measure => simp [lenV]
          · subst hz
            go_wp2_with fail
            go_region_held3 (fun W' => W'.cell? ⟨bx, 0, none⟩ = some (.slice pa vs.length ca) ∧ W'.cell? ⟨bx, 1, none⟩ = some (.int .i64 f) ∧ W'.cell? ⟨bx, 2, none⟩ = some (.int .i64 t) ∧ W'.cell? ⟨g', o', none⟩ = some (.slice pb vs'.length cb) ∧ W'.cell? ⟨g', o' + 1, none⟩ = some (.int .i64 f') ∧ W'.cell? ⟨g', o' + 2, none⟩ = some (.int .i64 t')) (first | exact hS0 | exact HS.out _ K1) (first
              | (go_at_call 30; (with_reducible refine (H30.out _ K0).mono ?_); rintro e w3 ⟨rfl, B3⟩; have K1 := bmore K0 B3.b))
            clear hS0
            go_wp2_with fail
            have K2 : Below wr.heap.size wr w3.drew := bmore K1 ((Below.refl _ _).drew)
            have hS2 := HS.out _ K2
            go_region_held3 (fun W' => W'.cell? ⟨bx, 0, none⟩ = some (.slice pa vs.length ca) ∧ W'.cell? ⟨bx, 1, none⟩ = some (.int .i64 f) ∧ W'.cell? ⟨bx, 2, none⟩ = some (.int .i64 t) ∧ W'.cell? ⟨g', o', none⟩ = some (.slice pb vs'.length cb) ∧ W'.cell? ⟨g', o' + 1, none⟩ = some (.int .i64 f') ∧ W'.cell? ⟨g', o' + 2, none⟩ = some (.int .i64 t')) (first | exact hS2 | exact HS.out _ K3) (first
              | (go_at_call 30; (with_reducible refine (H30.out _ K2).mono ?_); rintro e w4 ⟨rfl, B4⟩; have K3 := bmore K2 B4.b))
            clear hS2
            go_wp2_with fail
            go_roundw
            case rel => exact ⟨k + 1, oe, re'', by simp, ⟨by omega, by have := hk.out; omega⟩, HTail.out _ K3, by show _ = _; rw [← hE.out, HAk.out, ← hEq.out, show rws ((Value.slice pb vs'.length cb, vs', f', t') :: re'') = (vs', f', t') :: rws re'' from rfl, HEqR.out.1 trivial, lessL_eq]⟩
            case measure => simp only [intOf]; omega
          · subst hz
            go_wp2_with fail
            go_region_held3 (fun W' => W'.cell? ⟨bx, 0, none⟩ = some (.slice pa vs.length ca) ∧ W'.cell? ⟨bx, 1, none⟩ = some (.int .i64 f) ∧ W'.cell? ⟨bx, 2, none⟩ = some (.int .i64 t) ∧ W'.cell? ⟨g', o', none⟩ = some (.slice pb vs'.length cb) ∧ W'.cell? ⟨g', o' + 1, none⟩ = some (.int .i64 f') ∧ W'.cell? ⟨g', o' + 2, none⟩ = some (.int .i64 t')) (first | exact hS0 | exact HS.out _ K1) (first
              | (go_at_call 30; (with_reducible refine (H30.out _ K0).mono ?_); rintro e w3 ⟨rfl, B3⟩; have K1 := bmore K0 B3.b))
            clear hS0
            go_wp2_with fail
            have K2 : Below wr.heap.size wr w3.drew := bmore K1 ((Below.refl _ _).drew)
            have hS2 := HS.out _ K2
            go_region_held3 (fun W' => W'.cell? ⟨bx, 0, none⟩ = some (.slice pa vs.length ca) ∧ W'.cell? ⟨bx, 1, none⟩ = some (.int .i64 f) ∧ W'.cell? ⟨bx, 2, none⟩ = some (.int .i64 t) ∧ W'.cell? ⟨g', o', none⟩ = some (.slice pb vs'.length cb) ∧ W'.cell? ⟨g', o' + 1, none⟩ = some (.int .i64 f') ∧ W'.cell? ⟨g', o' + 2, none⟩ = some (.int .i64 t')) (first | exact hS2 | exact HS.out _ K3) (first
              | (go_at_call 30; (with_reducible refine (H30.out _ K2).mono ?_); rintro e w4 ⟨rfl, B4⟩; have K3 := bmore K2 B4.b))
            clear hS2
            have HIz : Hid (LsI w2 w4 u5 (.slice (some ⟨g', o', none⟩) (re''.length + 1) cq) oe ((.slice pb vs'.length cb, vs', f', t') :: re'')) := LsI.below hIq.out K3
            have HBz : Hid (Below W8.heap.size W8 w4) := bmore hBq.out K3
            obtain ⟨z0, z1, z2⟩ := HC.out _ HBz.out
            go_wp2_with (at_builtin; refine wpList_append_ex (by rfl) (.tmp 44) (.tmp 46) 22 (by rfl) _ _ (by rfl) (by rfl) (HApp.out _ _ _ HIz HBz) ?_; rintro v7 w7 hI7)
            go_roundw
            case rel => exact ⟨k + 1, oe ++ [(Value.slice pa vs.length ca, vs, f, t)], (Value.slice pb vs'.length cb, vs', f', t') :: re'', by simp, ⟨by omega, by have := hk.out; simp; omega⟩, hI7.out, by show _ = _; rw [← hE.out, HAk.out, ← hEq.out, show rws ((Value.slice pb vs'.length cb, vs', f', t') :: re'') = (vs', f', t') :: rws re'' from rfl, HKeepL.out trivial]; simp [rws]⟩
            case measure => simp only [intOf]; omega
    · have hki : ¬ (k : Int) < (N : Int) := by omega
      have HF : Hid (rws oe = LR) := by show _ = _; rw [← hE.out, List.drop_eq_nil_of_le (by have h1 := congrArg List.length HE2.out; have := HN.out; simp [rws] at h1; omega)]; simp [lessL]
      go_wp2
      go_ret
      exact ⟨_, oe, rfl, hI.out.own.base HW2.out.size, HF.out, bmore HW2.out hI.out.k⟩
end Go.Proofs.Ytpagnphabchfcaa
