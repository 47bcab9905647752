/- The reference's Create, where a table is refused. -/
import Derived.Test.YtkoagjfbhkhfkaaDoorRg
import Derived.BigQuiet
namespace Go.Proofs.YtkoagjfbhkhfkaaDoor
open Go.RowKit Go.Lib
set_option maxRecDepth 100000
variable {w w' : World} {r : Nat} {lv : Value} {L : List Tv} {Q : Nat → Prop}
theorem rget_none (h : RCat Q w r lv L) (s : ByteArray) (hf : rfnd L (bs s) = none) :
    Calls Tryd.prog 28 #[.pointer (some ⟨r, 0, none⟩), .string s] w fun e w' => e = .returned (.tuple #[TB0, .bool false]) ∧ Below w.heap.size w w' :=
  (rget28 h s).mono fun e w' ⟨h1, h2⟩ => by
    rcases h2 with ⟨_, h3⟩ | ⟨x, va, vc, h3, _⟩
    · exact ⟨h3, h1⟩
    · rw [hf] at h3; cases h3
theorem rget_some (h : RCat Q w r lv L) (s : ByteArray) {x : Tv} (hf : rfnd L (bs s) = some x) :
    Calls Tryd.prog 28 #[.pointer (some ⟨r, 0, none⟩), .string s] w fun e w' => ∃ va vc, e = .returned (.tuple #[TB (str x.1.n) (.slice va x.1.cols.length vc) (str x.1.p) x.1.r, .bool true]) ∧ SCP (fun g => w.heap.size ≤ g) w' (.slice va x.1.cols.length vc) x.1.cols ∧ Below w.heap.size w w' :=
  (rget28 h s).mono fun e w' ⟨h1, h2⟩ => by
    rcases h2 with ⟨h3, _⟩ | ⟨y, va, vc, h3, h4, h5⟩
    · rw [hf] at h3; cases h3
    · rw [hf] at h3; cases h3; exact ⟨va, vc, h4, h5, h1⟩
theorem rfnd_mem {s : Bs} {x : Tv} (h : rfnd L s = some x) : x ∈ L ∧ x.1.n = s := by
  refine ⟨List.mem_of_find?_eq_some h, ?_⟩
  have := List.find?_some h
  simpa using this
def refuseR (L : List Tv) (t : Tb) : Int :=
  if rtB t.n t.cols t.p t.r = false then 3
  else if (rfnd L t.n).isSome then 6
  else if 3 ≤ L.length then 4
  else if t.p = [] then 0
  else match rfnd L t.p with
    | none => 5
    | some x => if kindAt t.cols t.r.toNat = kindAt x.1.cols 0 then 0 else 9
set_option maxHeartbeats 4000000 in
theorem rcreate_no (h : RCat Q w r lv L) (hg : Good w) (n p : ByteArray) (v : Value) (l : List Cl) (q : Int) (hv : SC w v l) (hl : l.length ≤ 1000) (hr : refuseR L ⟨bs n, l, bs p, q⟩ ≠ 0) :
    Calls Tryd.prog 21 #[.pointer (some ⟨r, 0, none⟩), TB n v p q] w fun e w' => e = .returned (.int .i64 (refuseR L ⟨bs n, l, bs p, q⟩)) ∧ Below w.heap.size w w' := by
  have H12 : Hid (∀ w1, Below w.heap.size w w1 → Calls Tryd.prog 12 #[TB n v p q] w1 fun e w' => e = .returned (.bool (rtB (bs n) l (bs p) q)) ∧ Below w1.heap.size w1 w') := fun w1 h1 => rright12 n p v l q w1 (hg.below h1) (hv.below h1) hl
  have HSC : Hid (∀ w1, Below w.heap.size w w1 → SC w1 v l) := fun w1 h1 => hv.below h1
  have HC : Hid (∀ w1, Below w.heap.size w w1 → RCat Q w1 r lv L) := fun w1 h1 => h.below h1
  obtain ⟨a, cp, rfl, _⟩ := hv
  obtain ⟨R, hR⟩ : ∃ R, refuseR L ⟨bs n, l, bs p, q⟩ = R := ⟨_, rfl⟩
  have HR : Hid (refuseR L ⟨bs n, l, bs p, q⟩ = R) := hR
  rw [hR] at hr ⊢
  clear hR
  obtain ⟨la, lc, rfl⟩ : ∃ la lc, lv = .slice la L.length lc := by obtain ⟨⟨la, lc, h1, _⟩, _⟩ := h.tl; exact ⟨la, lc, h1⟩
  have b0 := blk_new w [.string n, .slice a l.length cp, .string p, .int .i64 q] 32
  cases hrt : rtB (bs n) l (bs p) q
  · have HV : Hid (R = 3) := by show _ = _; rw [← HR.out]; simp [refuseR, hrt]
    rw [hrt] at H12
    go_enter Tryd.func21, Tryd.ntmps21
    go_wp2_with (go_at_call 12; refine (H12.out _ (al _ _)).mono ?_; rintro e w1 ⟨rfl, hb1⟩)
    go_ret
    exact ⟨by rw [HV.out]; rfl, bmore (al _ _) hb1⟩
  · rw [hrt] at H12
    cases hfn : rfnd L (bs n) with
    | some x =>
      have HV : Hid (R = 6) := by show _ = _; rw [← HR.out]; simp [refuseR, hrt, hfn]
      have HG : Hid (∀ w1, Below w.heap.size w w1 → _) := fun w1 h1 => rget_some (HC.out w1 h1) n hfn
      generalize str x.1.n = xn at *
      generalize str x.1.p = xp at *
      generalize x.1.cols.length = xl at *
      generalize x.1.r = xr at *
      go_enter Tryd.func21, Tryd.ntmps21
      go_wp2_with (first
        | (go_at_call 12; refine (H12.out _ (al _ _)).mono ?_; rintro e w1 ⟨rfl, hb1⟩; have F1 := bmore (al _ _) hb1; have e0 := (b0.below hb1).here (j := 0) rfl)
        | (go_at_call 28; refine (HG.out _ F1).mono ?_; rintro e w2 ⟨va, vc, rfl, _, hb2⟩))
      go_ret
      exact ⟨by rw [HV.out]; rfl, bmore F1 (bmore hb2 (al _ _))⟩
    | none =>
      have HG : Hid (∀ w1, Below w.heap.size w w1 → _) := fun w1 h1 => rget_none (HC.out w1 h1) n hfn
      by_cases h3 : 3 ≤ L.length
      · have h3i : (3 : Int) ≤ (L.length : Int) := by omega
        have HV : Hid (R = 4) := by show _ = _; rw [← HR.out]; simp [refuseR, hrt, hfn, h3]
        go_enter Tryd.func21, Tryd.ntmps21
        go_wp2_with (first
          | (go_at_call 12; refine (H12.out _ (al _ _)).mono ?_; rintro e w1 ⟨rfl, hb1⟩; have F1 := bmore (al _ _) hb1; have e0 := (b0.below hb1).here (j := 0) rfl)
          | (go_at_call 28; refine (HG.out _ F1).mono ?_; rintro e w2 ⟨rfl, hb2⟩; have F2 := bmore F1 hb2; have d0 := (HC.out _ F2).blk.here (j := 0) rfl; have d1 := (HC.out _ F2).blk.lt))
        go_ret
        exact ⟨by rw [HV.out]; rfl, bal F2 _⟩
      · have h3i : ¬ (3 : Int) ≤ (L.length : Int) := by omega
        have hp0 : bs p ≠ [] := fun e => by
          have hrt2 := hrt
          rw [e] at hrt2
          exact hr (by rw [← HR.out, e]; simp [refuseR, hrt2, hfn, h3])
        have hem : p.toList.isEmpty = false := by
          rw [toList_data]
          cases hb : bs p with
          | nil => exact absurd hb hp0
          | cons x t => rw [show p.data.toList = x :: t from hb]; rfl
        cases hfp : rfnd L (bs p) with
        | none =>
          have HV : Hid (R = 5) := by show _ = _; rw [← HR.out]; simp [refuseR, hrt, hfn, h3, hp0, hfp]
          have HP : Hid (∀ w1, Below w.heap.size w w1 → _) := fun w1 h1 => rget_none (HC.out w1 h1) p hfp
          go_enter Tryd.func21, Tryd.ntmps21
          go_wp2_with (first
            | (go_at_call 12; refine (H12.out _ (al _ _)).mono ?_; rintro e w1 ⟨rfl, hb1⟩; have F1 := bmore (al _ _) hb1; have e0 := (b0.below hb1).here (j := 0) rfl)
            | (go_at_call 28; (with_reducible refine (HG.out _ F1).mono ?_); rintro e w2 ⟨rfl, hb2⟩; have F2 := bmore F1 hb2; have d0 := (HC.out _ F2).blk.here (j := 0) rfl; have d1 := (HC.out _ F2).blk.lt; have d2 := ((b0.below hb1).below hb2).here (j := 2) rfl; have d3 := ((b0.below hb1).below hb2).lt)
            | (go_at_call 28; (with_reducible refine (HP.out _ (bal F2 _)).mono ?_); rintro e w3 ⟨rfl, hb3⟩))
          go_ret
          exact ⟨by rw [HV.out]; rfl, bmore (bal F2 _) (bmore hb3 (al _ _))⟩
        | some x =>
          have HP : Hid (∀ w1, Below w.heap.size w w1 → _) := fun w1 h1 => rget_some (HC.out w1 h1) p hfp
          have hxl1 := rtB_cols (h.ok x (rfnd_mem hfp).1)
          obtain ⟨qn, hqn, hql⟩ : ∃ qn : Nat, q = (qn : Int) ∧ qn < l.length := by
            have hrt' := hrt
            simp only [rtB, rpB, if_neg hp0, Bool.and_eq_true, decide_eq_true_eq] at hrt'
            obtain ⟨_, ⟨_, h6⟩, h7⟩ := hrt'
            exact ⟨q.toNat, by omega, by omega⟩
          subst hqn
          have HV : Hid (R = if kindAt l qn = kindAt x.1.cols 0 then 0 else 9) := by show _ = _; rw [← HR.out]; simp [refuseR, hrt, hfn, h3, hp0, hfp]
          have hkk : kindAt l qn ≠ kindAt x.1.cols 0 := fun e => hr (by rw [HV.out, if_pos e])
          rw [if_neg hkk] at HV
          have HX : Hid (∀ w1 va vc, SCP (fun _ => True) w1 (.slice va x.1.cols.length vc) x.1.cols → ∃ g o, va = some ⟨g, o, none⟩ ∧ g < w1.heap.size ∧ w1.cell? ⟨g, o + 1, none⟩ = some (.int .u8 (kindAt x.1.cols 0 : Int))) := fun w1 va vc hs => by
            obtain ⟨a', c', he, _, h5⟩ := hs
            cases he
            obtain ⟨g, o, h6, h7, _, h8⟩ := h5 (by omega)
            have h9 := (h8 0 _ (List.getElem?_eq_getElem (by omega))).2
            refine ⟨g, o, h6, h7, ?_⟩
            simp only [Nat.zero_mul, Nat.add_zero] at h9
            rw [h9]
            simp [kindAt, List.getD, List.getElem?_eq_getElem (show 0 < x.1.cols.length by omega)]
          have HQ : Hid (∀ w1, Below w.heap.size w w1 → ∃ g o, a = some ⟨g, o, none⟩ ∧ g < w1.heap.size ∧ w1.cell? ⟨g, o + qn * 2 + 1, none⟩ = some (.int .u8 (kindAt l qn : Int))) := fun w1 h1 => by
            obtain ⟨a', c', he, h5⟩ := HSC.out w1 h1
            cases he
            obtain ⟨g, o, h6, h7, h8⟩ := h5 (by omega)
            refine ⟨g, o, h6, h7, ?_⟩
            rw [(h8 qn _ (List.getElem?_eq_getElem hql)).2]
            simp [kindAt, List.getD, List.getElem?_eq_getElem hql]
          have hq0 : (0 : Int) ≤ (qn : Int) := by omega
          have hq1 : (qn : Int) < (l.length : Int) := by omega
          have hxl : (0 : Int) < (x.1.cols.length : Int) := by omega
          obtain ⟨ag, ao, rfl, _, _⟩ := HQ.out w (Below.refl _ _)
          generalize str x.1.n = xn at *
          generalize str x.1.p = xp at *
          generalize x.1.r = xr at *
          have hkb : ((kindAt x.1.cols 0 : Int) != (kindAt l qn : Int)) = true := by simp; omega
          generalize kindAt l qn = k1 at *
          generalize kindAt x.1.cols 0 = k2 at *
          go_enter Tryd.func21, Tryd.ntmps21
          go_wp2_with (first
            | (go_at_call 12; refine (H12.out _ (al _ _)).mono ?_; rintro e w1 ⟨rfl, hb1⟩; have F1 := bmore (al _ _) hb1; have e0 := (b0.below hb1).here (j := 0) rfl)
            | (go_at_call 28; (with_reducible refine (HG.out _ F1).mono ?_); rintro e w2 ⟨rfl, hb2⟩; have F2 := bmore F1 hb2; have d0 := (HC.out _ F2).blk.here (j := 0) rfl; have d1 := (HC.out _ F2).blk.lt; have d2 := ((b0.below hb1).below hb2).here (j := 2) rfl; have d3 := ((b0.below hb1).below hb2).lt)
            | (go_at_call 28; (with_reducible refine (HP.out _ (bal F2 _)).mono ?_); rintro e w3 ⟨va, vc, rfl, hscp, hb3⟩; have F3 := bmore (bal F2 _) hb3; obtain ⟨xg, xo, rfl, hxg, hxc⟩ := HX.out w3 va vc (hscp.imp (fun _ _ _ => trivial)); have b3 := (((b0.below hb1).below hb2).below (al _ _)).below hb3; have f1 := b3.here (j := 1) rfl; have f3 := b3.here (j := 3) rfl; have fl := b3.lt; obtain ⟨ag', ao', he', hag, hac⟩ := HQ.out w3 F3; cases he'))
          go_quiet (fail)
          go_wp2
          go_ret
          exact ⟨by rw [HV.out]; rfl, bdrewN (bal F3 _) _⟩
end Go.Proofs.YtkoagjfbhkhfkaaDoor
