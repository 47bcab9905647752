/- What is there behind a crash in the midst of an append, or of a switch, by plain data. · A range over a function, in a round of which the body may panic. · The pieces of a record, as pieces' function yields them; a round may panic. · write, on a disk that may go off. -/
import Derived.Test.YtnganmekiloigaaJg
import Derived.Test.YtnganmekiloigaaJv
import Derived.Test.YtnganmekiloigaaJd
import Derived.Test.YtnganmekiloigaaHg
/-! ### What is there behind a crash in the midst of an append, or of a switch, by plain data. -/
namespace Go.Proofs.Ytnganmekiloigaa
theorem waitOf_take : ∀ (X : List Bs) (b k : Nat), waitOf b (X.take k) = (waitOf b X).take k
  | [], b, k => by cases k <;> rfl
  | x :: X, b, 0 => rfl
  | x :: X, b, k + 1 => by rw [List.take_succ_cons, waitOf, waitOf_take X (b + 1) k, waitOf, List.take_succ_cons]
theorem land_none {keep : Nat → Bool} : ∀ (l : List (Nat × Bs)) (j : Nat) (s : List Bs), (∀ i, j ≤ i → keep i = false) → land keep j l s = s
  | [], _, _, _ => rfl
  | x :: l, j, s, h => by
    unfold land
    rw [if_neg (by rw [h j (Nat.le_refl _)]; simp)]
    exact land_none l (j + 1) s (fun i hi => h i (by omega))
/-- A beginning of what waits, as all of it with some kept less. -/
theorem land_take (keep : Nat → Bool) : ∀ (l : List (Nat × Bs)) (k j : Nat) (s : List Bs), land keep j (l.take k) s = land (fun i => keep i && decide (i < j + k)) j l s
  | [], k, j, s => by cases k <;> rfl
  | x :: l, 0, j, s => by
    rw [List.take_zero, land_none (x :: l) j s (fun i hi => by rw [decide_eq_false (by omega)]; simp)]
    rfl
  | x :: l, k + 1, j, s => by
    rw [List.take_succ_cons, land, land, land_take keep l k (j + 1)]
    have e : (fun i => keep i && decide (i < j + 1 + k)) = fun i => keep i && decide (i < j + (k + 1)) := by
      funext i
      rw [show j + 1 + k = j + (k + 1) by omega]
    rw [e]
    simp [show j < j + (k + 1) by omega]
theorem told_of {S : List Bs} {R h : Nat} {l : List Bs} {u e : Nat} (hS : S.length = 2 * R) (hf : forceP S = h) (hc : Chain (halfP S h) 0 0 l u e) (hE : Ends (halfP S h) u e) (hh : h = 0 ∨ h = 1) : (toldP S).map Rc.b = l := by
  have hl : (halfP S h).length = R := by rw [halfP_length (by omega)]; omega
  have hu := hc.room (Nat.zero_le _)
  have ht := chain_told hc hE (S.length / 2 + 1) (by omega)
  unfold toldP
  rw [hf]
  exact ht.1
section
variable {R h E cnt en u e1 : Nat} {D : Dk} {sure : List Bs}
/-- In the midst of an append: what was sure, and the record whole, or not at all. -/
theorem Inv.cutA (i : Inv R D h E cnt en u e1 sure []) (hR : R ≤ 60000) {b : Bs} (hb : 1 ≤ b.length ∧ b.length ≤ 3648) (hn : en + np b ≤ R) (keep : Nat → Bool) :
    (land keep 0 (waitOf (h * R + en) (layP E en b)) D.secs).length = 2 * R ∧ great (pcs (land keep 0 (waitOf (h * R + en) (layP E en b)) D.secs)) ≤ E ∧
      ((toldP (land keep 0 (waitOf (h * R + en) (layP E en b)) D.secs)).map Rc.b = sure ∨ (toldP (land keep 0 (waitOf (h * R + en) (layP E en b)) D.secs)).map Rc.b = sure ++ [b]) := by
  have hw : D.wait = [] := by rw [i.wait]; rfl
  have i2 := i.append hb hn rfl
  obtain ⟨j, u', e', hj, hch, he, hle, huu, hall, hlen, hp, m4, hoth, hf⟩ := i2.landed hR keep
  simp only [hw, List.nil_append] at hj hch he hlen hp hf
  refine ⟨hlen, great_bound _ 0 E (Nat.zero_le _) hp, ?_⟩
  rw [told_of hlen hf hch he i.half]
  have hj' : j = 0 ∨ j = 1 := by simp at hj; omega
  rcases hj' with rfl | rfl
  · exact .inl (by simp)
  · exact .inr rfl
/-- In the midst of a switch: its record alone, or what was ahead. -/
theorem Inv.cutS (i : Inv R D h E cnt en u e1 sure []) (hR : R ≤ 60000) (hE : E < 64990) {b : Bs} (hb : 1 ≤ b.length ∧ b.length ≤ 3648) (hn : np b ≤ R) (keep : Nat → Bool) :
    (land keep 0 (waitOf ((1 - h) * R) (layP (E + 1) 0 b)) D.secs).length = 2 * R ∧ great (pcs (land keep 0 (waitOf ((1 - h) * R) (layP (E + 1) 0 b)) D.secs)) ≤ E + 1 ∧
      ((toldP (land keep 0 (waitOf ((1 - h) * R) (layP (E + 1) 0 b)) D.secs)).map Rc.b = sure ∨ (toldP (land keep 0 (waitOf ((1 - h) * R) (layP (E + 1) 0 b)) D.secs)).map Rc.b = [b]) := by
  have hh := i.half
  have hlen := i.len
  have hlay : layAll (E + 1) 0 [b] = layP (E + 1) 0 b := by simp [layAll]
  obtain ⟨n1, n2, n3, n4⟩ := half_mixed (u := 0) (X := layP (E + 1) 0 b) (h := 1 - h) (keep := keep) hlen (by omega) (by rw [lay_length]; omega)
  rw [Nat.add_zero] at n1 n2 n3 n4
  have hhh : 1 - (1 - h) = h := by omega
  rw [hhh] at n4
  have hl2 : (land keep 0 (waitOf ((1 - h) * R) (layP (E + 1) 0 b)) D.secs).length = 2 * R := by rw [land_length, hlen]
  generalize land keep 0 (waitOf ((1 - h) * R) (layP (E + 1) 0 b)) D.secs = S2 at *
  have hHl : (halfP S2 (1 - h)).length = R := by rw [halfP_length (by omega), hl2]; omega
  have hnp : 1 ≤ np b ∧ np b ≤ 64 := by unfold np; omega
  have hold : ∀ (k : Nat) (x : Pc), (halfP D.secs (1 - h))[k]? = some x → x.e ≤ E := fun k x hx => i.all x (mem_half (List.mem_of_getElem? hx))
  have hsame : ∀ x ∈ halfP S2 h, x.e ≤ E := fun x hx => by rw [n4] at hx; exact i.all x (mem_half hx)
  have hmine : ∀ x ∈ halfP S2 (1 - h), x.e ≤ E + 1 := fun x hx => by
    obtain ⟨k, hk, rfl⟩ := List.mem_iff_getElem.1 hx
    have := n3 k
    rw [Nat.zero_add, List.getElem?_eq_getElem hk] at this
    split at this
    · rename_i hq
      rw [List.getElem?_eq_getElem hq.1, Option.map_some] at this
      rw [Option.some.inj this, lay_epoch (by omega) (List.getElem_mem _)]
      exact Nat.le_refl _
    · exact Nat.le_succ_of_le (hold k _ this.symm)
  have hgr : great (pcs S2) ≤ E + 1 := great_bound _ 0 _ (Nat.zero_le _) fun x hx => by
    rcases mem_halves hl2 hx with h1 | h1
    · rcases hh with rfl | rfl
      · exact Nat.le_succ_of_le (hsame x h1)
      · exact hmine x h1
    · rcases hh with rfl | rfl
      · exact hmine x h1
      · exact Nat.le_succ_of_le (hsame x h1)
  refine ⟨hl2, hgr, ?_⟩
  by_cases hk : ∀ k, k < np b → keep k = true
  · refine .inr ?_
    have hst : standP (halfP S2 (1 - h)) 0 = some ⟨E + 1, np b, b⟩ := stand_lay (by omega) (by omega) hb.1 hb.2 (by rw [hHl]; omega) (by rw [hHl]; omega) fun k hkn => by
      rw [n3 k, if_pos ⟨by rw [lay_length]; exact hkn, hk k hkn⟩]
    have hf : forceP S2 = 1 - h := force_of (by omega) hst (fun x hx => by rw [hhh] at hx; exact Nat.lt_succ_of_le (hsame x hx))
    refine told_of (u := np b) (e := E + 1) hl2 hf ?_ ?_ (by omega)
    · have := Chain.cons hst (Nat.zero_le _) (.nil _ _)
      simpa using this
    · intro r hr
      obtain ⟨f, h1, h2, _⟩ := stand_some hr
      have := n3 (np b)
      rw [Nat.zero_add, if_neg (by rw [lay_length]; omega)] at this
      rw [this] at h1
      have := hold _ f h1
      omega
  · refine .inl ?_
    obtain ⟨k0, hk0, hkf⟩ : ∃ k0, k0 < np b ∧ keep k0 = false := by
      simp only [Classical.not_forall] at hk
      obtain ⟨k0, h1, h2⟩ := hk
      exact ⟨k0, h1, by simpa using h2⟩
    have hfirst : ∀ r, standP (halfP S2 (1 - h)) 0 = some r → ∃ f ∈ halfP D.secs (1 - h), f.e = r.e ∧ 0 < r.e := fun r hr => by
      have hnw := not_whole (u := 0) (l := []) (E := E + 1) (by omega) hb.1 hb.2 (by omega) (by rw [hlay]; exact n3) (fun k x _ hx => Nat.lt_succ_of_le (hold k x hx)) hk0 hkf hr
      obtain ⟨f, h1, h2, _, h4, _⟩ := stand_some hr
      have := n3 0
      rw [Nat.zero_add, if_neg (by rw [hnw.1]; simp)] at this
      rw [this] at h1
      exact ⟨f, List.mem_of_getElem? h1, h2, h4⟩
    have hf : forceP S2 = h := by
      rcases i.other with ⟨r0, hr0, _, ho⟩ | ⟨_, rfl, ho⟩
      · have e0 : epoch0 (halfP S2 h) = r0.e := by rw [n4]; unfold epoch0; rw [hr0]
        have e1 : epoch0 (halfP S2 (1 - h)) < r0.e := by
          obtain ⟨f, h1, h2, h3, h4, _⟩ := stand_some hr0
          unfold epoch0
          split
          · exact h4
          · rename_i r hr
            obtain ⟨f, hfm, hfe, _⟩ := hfirst r hr
            have := ho f hfm
            omega
        unfold forceP
        rcases hh with rfl | rfl
        · rw [if_neg (by rw [e0]; simp only [Nat.sub_zero] at e1; omega)]
        · rw [if_pos (by rw [e0]; simp only [Nat.sub_self] at e1; omega)]
      · have e1 : epoch0 (halfP S2 1) = 0 := by
          unfold epoch0
          split
          · rfl
          · rename_i r hr
            obtain ⟨f, hfm, hfe, hfp⟩ := hfirst r hr
            have := ho f hfm
            omega
        unfold forceP
        rw [e1, if_neg (by omega)]
    exact told_of hl2 hf (by rw [n4]; exact i.chain) (by rw [n4]; exact i.ends) hh
end
/-- Sectors that are written one by one on a disk that is on. -/
def Dk.put (D : Dk) (b : Nat) (X : List Bs) : Dk := { D with wait := D.wait ++ waitOf b X, left := if D.cut then D.left - X.length else D.left }
/-- May so many more be done? -/
def Dk.can (D : Dk) (n : Nat) : Prop := D.cut = false ∨ (n : Int) ≤ D.left
theorem put_spend {D : Dk} {b : Nat} {X : List Bs} (hc : D.can (X.length + 1)) : (D.put b X).spend = (true, { D.put b X with left := if D.cut then D.left - X.length - 1 else D.left }) := by
  unfold Dk.spend Dk.put
  rcases hD : D.cut with _ | _
  · simp
  · simp only [if_true]
    rcases hc with hc | hc
    · rw [hD] at hc; cases hc
    · rw [if_neg (by omega)]
theorem put_reach {D : Dk} {b : Nat} {X : List Bs} (ho : D.off = false) (hb : b + X.length < D.secs.length) : (D.put b X).reach ((b + X.length : Nat) : Int) = 0 := by
  unfold Dk.reach Dk.put
  simp only [ho, Bool.false_eq_true, if_false]
  rw [if_pos ⟨by omega, by omega⟩]
theorem put_write {D : Dk} {b : Nat} {X : List Bs} {x : Bs} (ho : D.off = false) (hx : x.length = 64) (hb : b + X.length < D.secs.length) (hc : D.can (X.length + 1)) : (D.put b X).write ((b + X.length : Nat) : Int) x = (0, D.put b (X ++ [x])) := by
  unfold Dk.write
  rw [if_pos (put_reach ho hb), if_pos (by omega), put_spend hc]
  simp only [if_true]
  unfold Dk.put
  congr 1
  simp only [List.append_assoc, List.length_append, List.length_singleton, waitOf_append, waitOf, pad, hx]
  congr 1
  · simp; omega
  · split <;> omega
theorem put_write_no {D : Dk} {b : Nat} {X : List Bs} {x : Bs} (ho : D.off = false) (hx : x.length = 64) (hb : b + X.length < D.secs.length) (hc : D.cut = true) (hl : D.left = X.length) : (D.put b X).write ((b + X.length : Nat) : Int) x = (7, { D.put b X with off := true }) := by
  unfold Dk.write
  rw [if_pos (put_reach ho hb), if_pos (by omega)]
  have hs : (D.put b X).spend = (false, { D.put b X with off := true }) := by
    unfold Dk.spend Dk.put
    simp [hc, hl]
  rw [hs]
  simp
theorem put_crash {D : Dk} {b : Nat} {X : List Bs} (hw : D.wait = []) (keep : List Bool) (o : Bool) (k : Nat) : ({ D.put b (X.take k) with off := o }.crash keep).secs = land (fun i => keep.getD i false && decide (i < k)) 0 (waitOf b X) D.secs := by
  show land _ 0 (D.wait ++ waitOf b (X.take k)) D.secs = _
  rw [hw, List.nil_append, waitOf_take, land_take, Nat.zero_add]
end Go.Proofs.Ytnganmekiloigaa
/-! ### A range over a function, in a round of which the body may panic. -/
namespace Go.Proofs.Ytnganmekiloigaa
open Go.RowKit
set_option maxRecDepth 100000
section
variable {F : Fence} {n : Nat} {P : Program} {Q : Exit → Act → World → Prop} {f0 : Nat} {a : Act} {w : World}
/-- At a round's end, a panic too. -/
def roundPostP (P : Program) (l : Nat) (R : Ending → World → Prop) : Exit → Act → World → Prop
  | .panic ch, a, w => a.defers = [] ∧ R (.panicked ch) w
  | e, a, w => roundPost P l R e a w
theorem roundIn_of_wpInP {l f : Nat} {tmps : Array Value} {assign body : Code} {R : Ending → World → Prop} (hF : F.fn f) (hf : ∃ fn, P.funcs[f]? = some fn)
    (h : assign.wpIn (F.inRound l) n P (Exit.then (fun a₁ w₁ => ∃ w₂, (Instr.beginRound l).run P w₁ = .ok () w₂ ∧ body.wpIn (F.inRound l) n P (roundPostP P l R) a₁ w₂) (fun _ _ _ => False)) { tmps := tmps, defers := [] } w) :
    RoundIn F n P l f tmps assign body w R := by
  refine ⟨hF, fun c cs hr => ?_⟩
  obtain ⟨b, hb⟩ : ∃ b : Frame, b = { (default : Frame) with fn := f, kind := .normal, roundOf := some l } := ⟨_, rfl⟩
  have hb0 : Frame.round l f tmps assign body .normal = b.atR { tmps := tmps, defers := [] } [.code assign, .beginRound, .code body] := by
    rw [hb]
    simp [Frame.round, Frame.atR]
  have hbf : b.fn = f := by rw [hb]
  have hbk : b.kind = .normal := by rw [hb]
  have hbr : b.roundOf = some l := by rw [hb]
  have hr' : (F.inRound l).room ((c :: cs).length + 1 + n) := hr
  have hF' : (F.inRound l).fn b.fn := by rw [hbf]; exact hF
  obtain ⟨e, a₁, w₁, hq, harr⟩ := h b [.beginRound, .code body] (c :: cs) hbr hF' hr'
  rw [← hb0] at harr
  cases e with
  | normal =>
    obtain ⟨w₂, hbg, hbody⟩ := hq
    have s1 : StepsIn (Machine.fenced P (F.inRound l)) P (lone (b.atR a₁ [.beginRound, .code body]) (c :: cs) w₁) (lone (b.atR a₁ [.code body]) (c :: cs) w₂) :=
      .one (fenced_calm (fr := b.atR a₁ [.beginRound, .code body]) hF' hr' rfl) (stepR_beginRound hbr hbg)
    obtain ⟨e₂, a₂, w₃, hq₂, harr₂⟩ := hbody b [] (c :: cs) hbr hF' hr'
    cases e₂ with
    | normal =>
      obtain ⟨v, w₄, hend, hR⟩ := hq₂
      exact ⟨.returned v, w₄, hR, (StepsIn.trans harr s1).trans (StepsIn.trans harr₂ (.one (fenced_calm (fr := b.atR a₂ []) hF' hr' rfl) (stepR_round_end hbr hbk hend)))⟩
    | ret =>
      obtain ⟨v, w₄, hend, hR⟩ := hq₂
      obtain ⟨k₁, hs⟩ := harr₂.2 (by rw [hbr]; rfl)
      exact ⟨.returned v, w₄, hR, (StepsIn.trans harr s1).trans (StepsIn.trans hs (.one (fenced_calm (fr := b.atR a₂ (.code .ret :: k₁)) hF' hr' rfl) (stepR_round_ret hbr hbk hend)))⟩
    | exit id =>
      obtain ⟨v, w₄, hend, hR⟩ := hq₂
      obtain ⟨k₁, hk, hs⟩ := harr₂.2 (by rw [hbr]; rfl) rfl
      exact ⟨.returned v, w₄, hR, (StepsIn.trans harr s1).trans (StepsIn.trans hs (.one (fenced_calm (fr := b.atR a₂ (.code (.exit id) :: k₁)) hF' hr' rfl) (stepR_round_exit hbr hbk hk hend)))⟩
    | goto t =>
      obtain ⟨v, w₄, hend, hR⟩ := hq₂
      obtain ⟨k₁, hk, hs⟩ := harr₂.2 (by rw [hbr]; rfl) rfl
      exact ⟨.returned v, w₄, hR, (StepsIn.trans harr s1).trans (StepsIn.trans hs (.one (fenced_calm (fr := b.atR a₂ (.code (.goto t) :: k₁)) hF' hr' rfl) (stepR_round_goto hbr hbk hk hend)))⟩
    | panic chain =>
      obtain ⟨hd, hR⟩ := hq₂
      obtain ⟨todo, hs⟩ := harr₂
      have hleave : Frame.leaving P { b.atR a₂ todo with mode := .panicking chain } w₃ (.panicked chain) := ⟨rfl, hd, by show ∃ fn, P.funcs[b.fn]? = some fn; rw [hbf]; exact hf⟩
      exact ⟨.panicked chain, w₃, hR, (StepsIn.trans harr s1).trans (StepsIn.trans hs (.one (fenced_leaving (F := F.inRound l) hF' hr' hleave) (step_leave_panicked hleave)))⟩
    | outgrown => exact hq₂.elim
  | exit id => exact hq.elim
  | goto t => exact hq.elim
  | ret => exact hq.elim
  | panic chain => exact hq.elim
  | outgrown => exact hq.elim
/-- Code, as a frame of the function f0 goes through it. -/
def Code.wpAt (f0 : Nat) (P : Program) (c : Code) (Q : Exit → Act → World → Prop) (a : Act) (w : World) : Prop :=
  ∀ (b : Frame) (k : List Item) (cs : List Frame), b.fn = f0 → b.roundOf = none → ∃ e a' w', Q e a' w' ∧ ArrivesIn (Machine.fenced P Fence.wide) P (lone (b.atR a (.code c :: k)) cs w) b k cs e a' w'
theorem wpAt_of_wpIn {c : Code} (h : c.wpIn Fence.wide 0 P Q a w) : Code.wpAt f0 P c Q a w := fun b k cs _ hb => h b k cs hb trivial (room_wide _)
theorem wpAt_of_wp {c : Code} (h : c.wp P Q a w) : Code.wpAt f0 P c Q a w := wpAt_of_wpIn (wpIn_wide.2 h)
theorem wpAt_seq {x y : Code} (h : Code.wpAt f0 P x (Exit.then (Code.wpAt f0 P y Q) Q) a w) : Code.wpAt f0 P (.seq x y) Q a w := by
  intro b k cs hf hro
  have h0 : (lone (b.atR a (.code (.seq x y) :: k)) cs w).fenced P Fence.wide := fenced_calm (F := Fence.wide) (n := 0) trivial (room_wide _) rfl
  obtain ⟨e, a₁, w₁, hq, harr⟩ := h b (.code y :: k) cs hf hro
  cases e with
  | normal =>
    obtain ⟨e₂, a₂, w₂, hq₂, harr₂⟩ := hq b k cs hf hro
    exact ⟨e₂, a₂, w₂, hq₂, .of_steps (.head h0 stepR_seq harr) harr₂⟩
  | exit id => exact ⟨_, a₁, w₁, hq, .of_steps (.one h0 stepR_seq) (.pass (x := .code y) rfl (fun _ _ => .inl (by simp)) harr)⟩
  | goto l => exact ⟨_, a₁, w₁, hq, .of_steps (.one h0 stepR_seq) (.pass (x := .code y) rfl (fun _ _ => .inl (by simp)) harr)⟩
  | ret => exact ⟨_, a₁, w₁, hq, .of_steps (.one h0 stepR_seq) (.pass (x := .code y) rfl (fun _ _ => .inl (by simp)) harr)⟩
  | panic ch => exact ⟨_, a₁, w₁, hq, .of_steps (.one h0 stepR_seq) (.pass (x := .code y) rfl (fun _ _ => .inl (by simp)) harr)⟩
  | outgrown => exact ⟨_, a₁, w₁, hq, .of_steps (.one h0 stepR_seq) (.pass (x := .code y) rfl (fun _ _ => .inl (by simp)) harr)⟩
theorem wpAt_seq_k {x y : Code} (h : ∀ K : Act → World → Prop, (∀ a w, Code.wpAt f0 P y Q a w → K a w) → x.wp P (Exit.then K Q) a w) : Code.wpAt f0 P (.seq x y) Q a w := wpAt_seq (wpAt_of_wp (h _ fun _ _ h => h))
theorem wpAt_block {id : Nat} {c : Code} (h : Code.wpAt f0 P c (Exit.inBlock id Q) a w) : Code.wpAt f0 P (.block id c) Q a w := by
  intro b k cs hf hro
  have hb : Fence.wide.fn b.fn := trivial
  have hr : Fence.wide.room (cs.length + 1 + 0) := room_wide _
  have h0 : (lone (b.atR a (.code (.block id c) :: k)) cs w).fenced P Fence.wide := fenced_calm hb hr rfl
  obtain ⟨e, a₁, w₁, hq, harr⟩ := h b (.inBlock id :: k) cs hf hro
  cases e with
  | normal => exact ⟨.normal, a₁, w₁, hq, .head h0 stepR_block (StepsIn.trans harr (.one (fenced_calm hb hr rfl) stepR_inBlock))⟩
  | exit id' =>
    by_cases hid : id' = id
    · simp only [Exit.inBlock, hid, if_true] at hq
      exact ⟨.normal, a₁, w₁, hq, .head h0 stepR_block (harr.1 k (by simp [exitTo, hid]))⟩
    · simp only [Exit.inBlock, hid, if_false] at hq
      have this : (id == id') = false := by simp; exact fun h => hid h.symm
      have hx : exitTo id' (.inBlock id :: k) = exitTo id' k := by simp [exitTo, this]
      exact ⟨.exit id', a₁, w₁, hq, fun k' hk => .head h0 stepR_block (harr.1 k' (by rw [hx]; exact hk)),
        fun hr' hk => let ⟨k₁, h1, h2⟩ := harr.2 hr' (by rw [hx]; exact hk); ⟨k₁, h1, .head h0 stepR_block h2⟩⟩
  | goto l =>
    have hx : gotoIn l (.inBlock id :: k) = gotoIn l k := by simp [gotoIn]
    exact ⟨_, a₁, w₁, hq, fun k' hk => .head h0 stepR_block (harr.1 k' (by rw [hx]; exact hk)),
      fun hr' hk => let ⟨k₁, h1, h2⟩ := harr.2 hr' (by rw [hx]; exact hk); ⟨k₁, h1, .head h0 stepR_block h2⟩⟩
  | ret => exact ⟨_, a₁, w₁, hq, .of_steps (.one h0 stepR_block) harr⟩
  | panic ch => exact ⟨_, a₁, w₁, hq, .of_steps (.one h0 stepR_block) harr⟩
  | outgrown => exact ⟨_, a₁, w₁, hq, .of_steps (.one h0 stepR_block) harr⟩
theorem calls_of_wpAt {f : Nat} {fn : Func} {c : Code} {args : Array Value} {R : Ending → World → Prop} (hf : P.funcs[f]? = some fn) (hb : fn.body = some c)
    (h : Code.wpAt f P c (bodyPostM Fence.wide 0 P fn R) { tmps := args ++ Array.replicate (fn.ntmps - args.size) undef, defers := [] } w) : Calls P f args w R := by
  refine (callsIn_wide (n := 0)).1 ⟨trivial, fun cs hr => ?_⟩
  obtain ⟨b, hbd⟩ : ∃ b : Frame, b = { (default : Frame) with fn := f, kind := .normal, roundOf := none } := ⟨_, rfl⟩
  have hbf : b.fn = f := by rw [hbd]
  have hbk : b.kind = .normal := by rw [hbd]
  have hbr : b.roundOf = none := by rw [hbd]
  have henter : Frame.enter P f args .normal = b.atR { tmps := args ++ Array.replicate (fn.ntmps - args.size) undef, defers := [] } [.code c] := by
    rw [hbd]
    simp [Frame.enter, Frame.atR, hf, hb]
  obtain ⟨e, a', w', hq, harr⟩ := h b [] cs hbf hbr
  rw [← henter] at harr
  have hbf2 : P.funcs[b.fn]? = some fn := by rw [hbf]; exact hf
  cases e with
  | normal =>
    obtain ⟨e', w'', fr', hR, hs, hfn, hl⟩ := leaves_stepsInM a'.defers .returning w' { b.atR a' [] with mode := .returning } cs rfl rfl rfl hbf2 hbk trivial hr hq
    exact ⟨e', w'', fr', hR, ComesIn.of_steps (StepsIn.trans harr (.one (fenced_calm (fr := b.atR a' []) (F := Fence.wide) trivial hr rfl) (stepR_end hbr))) hs, hfn.trans hbf, hl⟩
  | ret =>
    obtain ⟨todo, hs₀⟩ := harr.1 hbr
    obtain ⟨e', w'', fr', hR, hs, hfn, hl⟩ := leaves_stepsInM a'.defers .returning w' { b.atR a' todo with mode := .returning } cs rfl rfl rfl hbf2 hbk trivial hr hq
    exact ⟨e', w'', fr', hR, ComesIn.of_steps hs₀ hs, hfn.trans hbf, hl⟩
  | panic chain =>
    obtain ⟨todo, hs₀⟩ := harr
    obtain ⟨e', w'', fr', hR, hs, hfn, hl⟩ := leaves_stepsInM a'.defers (.panicking chain) w' { b.atR a' todo with mode := .panicking chain } cs rfl rfl rfl hbf2 hbk trivial hr hq
    exact ⟨e', w'', fr', hR, ComesIn.of_steps hs₀ hs, hfn.trans hbf, hl⟩
  | exit id => exact hq.elim
  | goto l => exact hq.elim
  | outgrown => exact ⟨.outgrown, w', b, hq, harr.resolve_left (by rw [hbk]; simp), hbf, trivial⟩
theorem wpAt_rangeFunc {g : Operand} {ps : Array Tmp} {assign body : Code}
    (h : ∃ (l : Nat) (mark : List Deferred) (w₁ : World) (d : Deferred) (w₁' : World) (f : Nat) (args : Array Value) (w₂ : World),
      (Instr.enterLoop f0 a.tmps ps assign body none).run P w = .ok (l, mark) w₁ ∧
      (resolve a.eval (rangeCall g l) 0).run P w₁ = .ok d w₁' ∧
      (invoke d.target d.args).run P w₁' = .ok (.enter f args) w₂ ∧
      CallsIn Fence.wide 0 P f args w₂ (rangePost Fence.wide 0 P l Q { a with defers := mark ++ a.defers })) :
    Code.wpAt f0 P (Code.rangeFunc g ps assign body) Q a w := by
  intro b k cs hbf hro
  have hb : Fence.wide.fn b.fn := trivial
  have hr : Fence.wide.room (cs.length + 1 + 0) := room_wide _
  obtain ⟨l, mark, w₁, d, w₁', f, args, w₂, he, hres, hinv, hcall0⟩ := h
  have hF := hcall0.1
  have hcall := hcall0.2
  rw [← hro, ← hbf] at he
  have h0 : (lone (b.atR a (.code (.rangeFunc g ps assign body) :: k)) cs w).fenced P Fence.wide := by
    refine fenced_lone (.inl hb) (fun f' hf' => trivial) (Fence.room_le hr (by omega))
  have henter := stepR_rangeFunc (P := P) (b := b) (a := a) (k := k) (cs := cs) (w := w) he hres hinv
  have hroom : Fence.wide.room ((b.atR { a with defers := mark ++ a.defers } (.inRangeFunc l :: k) :: cs).length + 1 + 0) := room_wide _
  obtain ⟨e, w₃, fr, hR, hsteps, hfn, hleave⟩ := hcall (b.atR { a with defers := mark ++ a.defers } (.inRangeFunc l :: k) :: cs) hroom
  cases e with
  | outgrown =>
    obtain ⟨a₀, w₀, hq⟩ := hR
    exact ⟨.outgrown, a₀, w₀, hq, .inr (Outgrown.of_steps (.one henter) hsteps)⟩
  | returned v =>
    have hl : (lone fr (b.atR { a with defers := mark ++ a.defers } (.inRangeFunc l :: k) :: cs) w₃).fenced P Fence.wide := fenced_leaving (hfn ▸ hF) hroom hleave
    obtain ⟨jump, w₄, hend, hj⟩ := hR
    have sback : StepsIn (Machine.fenced P Fence.wide) P (lone (b.atR a (.code (.rangeFunc g ps assign body) :: k)) cs w) (lone (b.atR { a with defers := mark ++ a.defers } ((jump.map Item.code).toList ++ k)) cs w₄) := by
      refine .head h0 henter (StepsIn.trans hsteps (.head hl ?_ (.one (fenced_calm (fr := b.atR { a with defers := mark ++ a.defers } (.endRangeFunc l :: k)) hb hr rfl) (stepR_endRangeFunc hend))))
      rw [← finish_atR_inRangeFunc l v]; exact step_leave_returned hleave
    cases jump with
    | none => exact ⟨.normal, _, w₄, hj, sback⟩
    | some c =>
      obtain ⟨e', a'', w₅, hq, harr⟩ := hj b k cs hro hb hr
      exact ⟨e', a'', w₅, hq, .of_steps sback harr⟩
  | panicked chain =>
    have hl : (lone fr (b.atR { a with defers := mark ++ a.defers } (.inRangeFunc l :: k) :: cs) w₃).fenced P Fence.wide := fenced_leaving (hfn ▸ hF) hroom hleave
    refine ⟨.panic chain, _, w₃, hR, .inRangeFunc l :: k, .head h0 henter (StepsIn.trans hsteps (.one hl ?_))⟩
    rw [← Frame.raise_atR]; exact step_leave_panicked hleave
end
/-- What a round answers, a panic too. -/
def RndP {α : Type} (n : Nat) (J Jx : (Nat → Prop) → List α → World → Prop) (Jp : List PanicEntry → (Nat → Prop) → List α → World → Prop) (O : Nat → Prop) (pre : List α) (W : World) (e : Ending) (W' : World) : Prop :=
  Rnd n J Jx O pre W e W' ∨ ∃ ch, e = .panicked ch ∧ ∃ O', Jp ch O' pre W' ∧ GrewN n O O' ∧ Keep O W W'
/-- As Runs; a round may panic. -/
def RunsP {α : Type} (P : Program) (g : Nat) (lb : Array Value) (Enc : α → Value → World → Prop) (xs : List α) (G : Nat → Prop) (W : World) : Prop :=
  ∀ (l : Nat) (O : Nat → Prop) (J Jx : (Nat → Prop) → List α → World → Prop) (Jp : List PanicEntry → (Nat → Prop) → List α → World → Prop), (∀ b, O b → ¬ G b ∧ b < W.heap.size) → (∀ O pre W, J O pre W → ∀ b, O b → b < W.heap.size) → Abide W.heap.size J → Abide W.heap.size Jx → (∀ c, Abide W.heap.size (Jp c)) →
    (∀ O pre x v W1, J O pre W1 → Enc x v W1 → pre ++ [x] <+: xs → YieldAt Fence.wide 0 P l #[v] W1 (RndP W.heap.size J Jx Jp O (pre ++ [x]) W1)) → J O [] W →
    CallsIn Fence.wide 0 P g (#[.func (.yield l) #[] #[]] ++ lb) W fun e W' => ((∃ v, e = .returned v) ∧
      ((∃ O', J O' xs W' ∧ GrewN W.heap.size O O' ∧ Keep O W W') ∨ (∃ pre O', pre <+: xs ∧ Jx O' pre W' ∧ GrewN W.heap.size O O' ∧ Keep O W W'))) ∨
      ∃ ch, e = .panicked ch ∧ ∃ pre O', pre <+: xs ∧ Jp ch O' pre W' ∧ GrewN W.heap.size O O' ∧ Keep O W W'
/-- How the body of a round may be left, a panic too. -/
def PostP {α : Type} (n : Nat) (I : (Nat → Prop) → List α → World → Prop) (Ix : Code → (Nat → Prop) → List α → World → Prop) (Ip : List PanicEntry → (Nat → Prop) → List α → World → Prop) (O : Nat → Prop) (pre : List α) (W : World) : Exit → Act → World → Prop
  | .normal, _, W' => ∃ O', I O' pre W' ∧ GrewN n O O' ∧ Keep O W W'
  | .ret, _, W' => ∃ O', Ix .ret O' pre W' ∧ GrewN n O O' ∧ Keep O W W'
  | .exit id, _, W' => ∃ O', Ix (.exit id) O' pre W' ∧ GrewN n O O' ∧ Keep O W W'
  | .panic ch, a, W' => a.defers = [] ∧ ∃ O', Ip ch O' pre W' ∧ GrewN n O O' ∧ Keep O W W'
  | _, _, _ => False
set_option maxHeartbeats 1000000 in
/-- The statement: a loop over such a value, in a round of which the body may panic. -/
theorem wpAt_rangeP {α : Type} {P : Program} {g : Operand} {ps : Array Tmp} {assign body : Code} {Q : Exit → Act → World → Prop} {a : Act} {w : World} {gf f0 : Nat} {lb : Array Value} (hf0 : ∃ fn, P.funcs[f0]? = some fn)
    (hg : a.eval g = .func (.func gf) #[] lb) (eg : ∀ args w, (callFunc gf args).run P w = .ok (.enter gf args) w) (hps : ps.size = 1)
    {Enc : α → Value → World → Prop} (hEnc : ∀ x v W W', Enc x v W → Keep (fun b => ∃ r, W.heap[b]? = some (.loop r)) W W' → Enc x v W') {xs : List α} {G : Nat → Prop} (hseq : ∀ W1, Below w.heap.size w W1 → w.heap.size + 2 ≤ W1.heap.size → RunsP P gf lb Enc xs G W1) (hG : ∀ b, G b → b < w.heap.size)
    (I : (Nat → Prop) → List α → World → Prop) (Ix : Code → (Nat → Prop) → List α → World → Prop) (Ip : List PanicEntry → (Nat → Prop) → List α → World → Prop) (hIs : ∀ O pre W, I O pre W → ∀ b, O b → b < W.heap.size) (hI : Abide w.heap.size I) (hIx : ∀ c, Abide w.heap.size (Ix c)) (hIp : ∀ c, Abide w.heap.size (Ip c))
    (O : Nat → Prop) (hO : ∀ b, O b → ¬ G b ∧ b < w.heap.size) (h0 : I O [] w) (A : Value → Nat → Act) (cs : Value → List Value) (t : TypeId)
    (hassign : ∀ l x v W (K : Act → World → Prop), Enc x v W → (∀ Wa, Wa.heap[W.heap.size]? = some (.cells (cs v).toArray t (0, 0)) → Below W.heap.size W Wa → Wa.heap.size = W.heap.size + 1 → K (A v W.heap.size) Wa) → assign.wpIn (Fence.wide.inRound l) 0 P (Exit.then K (fun _ _ _ => False)) { tmps := (ps.zip #[v]).foldl (fun t (p, v) => t.setIfInBounds p v) a.tmps, defers := [] } W)
    (hbody : ∀ l O pre x v W b, I O pre W → Enc x v W → ¬ O b → w.heap.size ≤ b → w.heap.size + 2 ≤ W.heap.size → W.heap[b]? = some (.cells (cs v).toArray t (0, 0)) → pre ++ [x] <+: xs → body.wpIn (Fence.wide.inRound l) 0 P (PostP (w.heap.size + 2) I Ix Ip O (pre ++ [x]) W) (A v b) W)
    (hdone : ∀ D O' W', w.heap.size ≤ D → ¬ O' D → I O' xs W' → Grew O O' w → Keep O w W' → W'.heap[D]? = some (.deferred (some [])) → Q .normal { a with defers := { target := .collected D, args := #[] } :: a.defers } W')
    (hstop : ∀ D c O' pre W', w.heap.size ≤ D → ¬ O' D → pre <+: xs → Ix c O' pre W' → Grew O O' w → Keep O w W' → W'.heap[D]? = some (.deferred (some [])) → c.wpIn Fence.wide 0 P Q { a with defers := { target := .collected D, args := #[] } :: a.defers } W')
    (hpanic : ∀ D ch O' pre W', w.heap.size ≤ D → ¬ O' D → pre <+: xs → Ip ch O' pre W' → Grew O O' w → Keep O w W' → W'.heap[D]? = some (.deferred (some [])) → Q (.panic ch) { a with defers := { target := .collected D, args := #[] } :: a.defers } W') :
    Code.wpAt f0 P (Code.rangeFunc g ps assign body) Q a w := by
  refine wpAt_rangeFunc ?_
  obtain ⟨fn, hfn0⟩ : ∃ fn, f0 = fn := ⟨_, rfl⟩
  rw [hfn0] at hf0 ⊢
  obtain ⟨rec, hrec⟩ : ∃ rec : LoopState → Option Code → Loop, rec = fun st pe => { state := st, pending := pe, fn, tmps := a.tmps, params := ps, assign, body, defers := w.heap.size } := ⟨_, rfl⟩
  obtain ⟨W1, hW1⟩ : ∃ W1, (w.alloc (.deferred (some []))).alloc (.loop (rec .ready none)) = W1 := ⟨_, rfl⟩
  have bW1 : Below w.heap.size w W1 := by rw [← hW1]; exact bmore (al _ _) (al _ _)
  have sW1 : W1.heap.size = w.heap.size + 2 := by rw [← hW1]; simp
  have hL1 : W1.heap[w.heap.size + 1]? = some (.loop (rec .ready none)) := by
    rw [← hW1]; have := World.alloc_heap_new (w.alloc (.deferred (some []))) (.loop (rec .ready none)); rwa [World.size_alloc] at this
  have hD1 : W1.heap[w.heap.size]? = some (.deferred (some [])) := by
    rw [← hW1]; exact (Below.heap_alloc _ _ _ (by simp)).trans (World.alloc_heap_new w _)
  generalize hl : w.heap.size + 1 = l at *
  generalize hD : w.heap.size = D at *
  have bW1' : Below w.heap.size w W1 := by rw [hD]; exact bW1
  have hps1 : ∀ x, (#[x] : Array Value).size = ps.size := fun x => by simp [hps]
  refine ⟨l, [{ target := .collected D, args := #[] }], W1, { target := .fn (.func gf) lb, args := #[.func (.yield l) #[] #[]] }, W1, gf, #[.func (.yield l) #[] #[]] ++ lb, W1, ?_, ?_, ?_, ?_⟩
  · rw [← hW1, hrec, ← hl, ← hD]; exact run_enterLoop_outer _ _ _ _ _
  · simp only [resolve, hg]
    simp [go_sem]
  · simp [invoke, go_sem, eg]
  · refine (hseq W1 bW1 (by omega) l (fun b => O b ∨ b = l)
      (fun OO pre W => ∃ O1, (∀ b, OO b ↔ O1 b ∨ b = l) ∧ ¬ O1 l ∧ ¬ O1 D ∧ I O1 pre W ∧ W.heap[l]? = some (.loop (rec .ready none)) ∧ W.heap[D]? = some (.deferred (some [])) ∧ Grew O O1 w)
      (fun OO pre W => ∃ O1 c, (∀ b, OO b ↔ O1 b ∨ b = l) ∧ ¬ O1 l ∧ ¬ O1 D ∧ Ix c O1 pre W ∧ W.heap[l]? = some (.loop (rec .done (some c))) ∧ W.heap[D]? = some (.deferred (some [])) ∧ Grew O O1 w)
      (fun ch OO pre W => ∃ O1, (∀ b, OO b ↔ O1 b ∨ b = l) ∧ ¬ O1 l ∧ ¬ O1 D ∧ Ip ch O1 pre W ∧ l < W.heap.size ∧ W.heap[D]? = some (.deferred (some [])) ∧ Grew O O1 w)
      ?_ ?_ ?_ ?_ ?_ ?_ ?_).mono ?_
    · rintro b (h | rfl)
      · exact ⟨(hO b h).1, by have := (hO b h).2; omega⟩
      · exact ⟨fun h => by have := hG _ h; omega, by omega⟩
    · rintro OO pre W ⟨O1, e1, n1, n2, hi, h1, h2, hgr⟩ b hb
      rcases (e1 b).1 hb with h | rfl
      · exact hIs _ _ _ hi b h
      · exact (Array.getElem?_eq_some_iff.1 h1).1
    · rintro OO pre W W' ⟨O1, e1, n1, n2, hi, h1, h2, hgr⟩ hk
      have lw := (Array.getElem?_eq_some_iff.1 h1).1
      refine ⟨O1, e1, n1, n2, hI _ _ _ _ hi (hk.mono fun b _ hb => ⟨fun h => hb.1 ((e1 b).2 (.inl h)), by omega⟩), (hk.block l lw (fun h => h.1 ((e1 l).2 (.inr rfl)))).trans h1, (hk.block D (by omega) (fun h => by omega)).trans h2, hgr⟩
    · rintro OO pre W W' ⟨O1, c, e1, n1, n2, hi, h1, h2, hgr⟩ hk
      have lw := (Array.getElem?_eq_some_iff.1 h1).1
      refine ⟨O1, c, e1, n1, n2, hIx c _ _ _ _ hi (hk.mono fun b _ hb => ⟨fun h => hb.1 ((e1 b).2 (.inl h)), by omega⟩), (hk.block l lw (fun h => h.1 ((e1 l).2 (.inr rfl)))).trans h1, (hk.block D (by omega) (fun h => by omega)).trans h2, hgr⟩
    · rintro ch OO pre W W' ⟨O1, e1, n1, n2, hi, h1, h2, hgr⟩ hk
      exact ⟨O1, e1, n1, n2, hIp ch _ _ _ _ hi (hk.mono fun b _ hb => ⟨fun h => hb.1 ((e1 b).2 (.inl h)), by omega⟩), Nat.lt_of_lt_of_le h1 hk.size, (hk.block D (by omega) (fun h => by omega)).trans h2, hgr⟩
    · rintro OO pre x v W ⟨O1, e1, n1, n2, hi, h1, h2, hgr⟩ hE hpre
      have lw := (Array.getElem?_eq_some_iff.1 h1).1
      have hy := run_yield (P := P) (args := #[v]) h1 (by rw [hrec]; exact hps1 v)
      rw [hrec] at hy
      refine ⟨fn, _, assign, body, hy, roundIn_of_wpInP trivial hf0 (hassign l x v W _ hE ?_)⟩
      clear hy
      intro Wa hba hBa hsa
      have h1a : Wa.heap[l]? = some (.loop (rec .ready none)) := (hBa.block l lw).trans h1
      refine ⟨_, run_beginRound h1a (by rw [hrec]), ?_⟩
      obtain ⟨W2, hW2⟩ : ∃ W2, Wa.putObj l (.loop { rec .ready none with state := .busy }) = W2 := ⟨_, rfl⟩
      have k2 : Keep (fun b => b = l) W W2 := by rw [← hW2]; exact (Keep.of (F := fun b => b = l) hBa).put (.inr rfl) _
      have s2 : W2.heap.size = W.heap.size + 1 := by rw [← hW2]; simp [hsa]
      have l2 : W2.heap[l]? = some (.loop { rec .ready none with state := .busy }) := by rw [← hW2]; exact World.putObj_heap_same (by omega)
      have d2 : W2.heap[D]? = some (.deferred (some [])) := (k2.block D (by omega) (by omega)).trans h2
      have b2 : W2.heap[W.heap.size]? = some (.cells (cs v).toArray t (0, 0)) := by rw [← hW2, World.putObj_heap_other (by omega)]; exact hba
      have i2 := hI _ _ _ W2 hi (k2.mono fun b _ e => by subst e; exact ⟨n1, by omega⟩)
      have nb : ¬ O1 W.heap.size := fun h => by have := hIs _ _ _ hi _ h; omega
      have oo : ∀ b, O1 b → OO b := fun b h => (e1 b).2 (.inl h)
      rw [hW2]
      refine wpIn_mono (hbody l O1 pre x v W2 W.heap.size i2 (hEnc _ _ _ _ hE (k2.mono fun b _ e => by subst e; exact ⟨_, h1⟩)) nb (by omega) (by omega) b2 hpre) ?_
      have fin : ∀ (jump : Option Code) (O' : Nat → Prop) (W3 : World), GrewN (D + 2) O1 O' → Keep O1 W2 W3 →
          (Instr.endRound l jump).run P W3 = .ok (.bool jump.isNone) (W3.putObj l (.loop (rec (if jump.isNone then .ready else .done) jump))) ∧ ¬ O' l ∧ ¬ O' D ∧
          Keep (fun b => ¬ O' b ∧ D ≤ b) W3 (W3.putObj l (.loop (rec (if jump.isNone then .ready else .done) jump))) ∧
          (W3.putObj l (.loop (rec (if jump.isNone then .ready else .done) jump))).heap[l]? = some (.loop (rec (if jump.isNone then .ready else .done) jump)) ∧
          (W3.putObj l (.loop (rec (if jump.isNone then .ready else .done) jump))).heap[D]? = some (.deferred (some [])) ∧ Grew O O' w ∧
          GrewN W1.heap.size OO (fun b => O' b ∨ b = l) ∧ Keep OO W (W3.putObj l (.loop (rec (if jump.isNone then .ready else .done) jump))) := by
        intro jump O' W3 g3 k3
        have l3 : W3.heap[l]? = some (.loop { rec .ready none with state := .busy }) := (k3.block l (by omega) n1).trans l2
        have lw3 := (Array.getElem?_eq_some_iff.1 l3).1
        have r3 := run_endRound (P := P) jump l3
        rw [hrec] at r3
        have nl : ¬ O' l := fun h => (g3 l h).elim n1 (fun h => by omega)
        have nD : ¬ O' D := fun h => (g3 D h).elim n2 (fun h => by omega)
        refine ⟨by rw [hrec]; exact r3, nl, nD, (Keep.refl _ W3).put (.inr ⟨nl, by omega⟩) _, World.putObj_heap_same lw3, (World.putObj_heap_other (by omega)).trans ((k3.block D (by omega) n2).trans d2), ?_, ?_, ?_⟩
        · intro b hb
          rcases g3 b hb with h | h
          · exact hgr b h
          · exact .inr (by omega)
        · rintro b (hb | rfl)
          · rcases g3 b hb with h | h
            · exact .inl (oo b h)
            · exact .inr (by omega)
          · exact .inl ((e1 b).2 (.inr rfl))
        · exact Keep.put ((k2.mono (fun b _ e => (e1 b).2 (.inr e))).trans k3 (fun b _ h => oo b h)) (.inr ((e1 l).2 (.inr rfl))) _
      rintro e a3 W3 hp
      cases e with
      | normal =>
        obtain ⟨O', hi3, g3, k3⟩ := hp
        obtain ⟨hr, nl, nD, ka, hl4, hd4, gO, gg, kk⟩ := fin none O' W3 g3 k3
        exact ⟨_, _, hr, .inl (.inl ⟨rfl, _, ⟨O', fun b => Iff.rfl, nl, nD, hI _ _ _ _ hi3 ka, hl4, hd4, gO⟩, gg, kk⟩)⟩
      | ret =>
        obtain ⟨O', hi3, g3, k3⟩ := hp
        obtain ⟨hr, nl, nD, ka, hl4, hd4, gO, gg, kk⟩ := fin (some .ret) O' W3 g3 k3
        exact ⟨_, _, hr, .inl (.inr ⟨rfl, _, ⟨O', .ret, fun b => Iff.rfl, nl, nD, hIx _ _ _ _ _ hi3 ka, hl4, hd4, gO⟩, gg, kk⟩)⟩
      | exit id =>
        obtain ⟨O', hi3, g3, k3⟩ := hp
        obtain ⟨hr, nl, nD, ka, hl4, hd4, gO, gg, kk⟩ := fin (some (.exit id)) O' W3 g3 k3
        exact ⟨_, _, hr, .inl (.inr ⟨rfl, _, ⟨O', .exit id, fun b => Iff.rfl, nl, nD, hIx _ _ _ _ _ hi3 ka, hl4, hd4, gO⟩, gg, kk⟩)⟩
      | goto t => exact hp.elim
      | panic ch =>
        obtain ⟨hdf, O', hi3, g3, k3⟩ := hp
        have nl : ¬ O' l := fun h => (g3 l h).elim n1 (fun h => by omega)
        have nD : ¬ O' D := fun h => (g3 D h).elim n2 (fun h => by omega)
        refine ⟨hdf, .inr ⟨ch, rfl, _, ⟨O', fun b => Iff.rfl, nl, nD, hi3, by have := k3.size; omega, (k3.block D (by omega) n2).trans d2, fun b hb => ?_⟩, ?_, (k2.mono (fun b _ e => (e1 b).2 (.inr e))).trans k3 (fun b _ h => oo b h)⟩⟩
        · rcases g3 b hb with h | h
          · exact hgr b h
          · exact .inr (by omega)
        · rintro b (hb | rfl)
          · rcases g3 b hb with h | h
            · exact .inl (oo b h)
            · exact .inr (by omega)
          · exact .inl ((e1 b).2 (.inr rfl))
      | outgrown => exact hp.elim
    · exact ⟨O, fun b => Iff.rfl, fun h => by have := (hO _ h).2; omega, fun h => by have := (hO _ h).2; omega, hI _ _ _ _ h0 (Keep.of bW1'), hL1, hD1, Grew.refl _ _⟩
    · rintro e W2 (⟨⟨v, rfl⟩, (⟨OO, ⟨O1, e1, n1, n2, hi, h1, h2, hgr⟩, _, hk⟩ | ⟨pre, OO, hpre, ⟨O1, c, e1, n1, n2, hi, h1, h2, hgr⟩, _, hk⟩)⟩ | ⟨ch, rfl, pre, OO, hpre, ⟨O1, e1, n1, n2, hi, h1, h2, hgr⟩, _, hk⟩)
      · have lw := (Array.getElem?_eq_some_iff.1 h1).1
        have kw : Keep O w W2 := (Keep.of (F := O) bW1').trans hk (fun b hb h => h.elim id (fun e => by omega))
        exact ⟨none, _, by have := run_endLoop (P := P) h1 (by rw [hrec]; simp); rw [hrec] at this; exact this, hdone D O1 _ (Nat.le_refl _) n2 (hI _ _ _ _ hi ((Keep.refl _ W2).put (.inr ⟨n1, by omega⟩) _)) hgr (kw.put (.inl (by omega)) _) ((World.putObj_heap_other (by omega)).trans h2)⟩
      · have lw := (Array.getElem?_eq_some_iff.1 h1).1
        have kw : Keep O w W2 := (Keep.of (F := O) bW1').trans hk (fun b hb h => h.elim id (fun e => by omega))
        exact ⟨some c, _, by have := run_endLoop (P := P) h1 (by rw [hrec]; simp); rw [hrec] at this; exact this, hstop D c O1 pre _ (Nat.le_refl _) n2 hpre (hIx c _ _ _ _ hi ((Keep.refl _ W2).put (.inr ⟨n1, by omega⟩) _)) hgr (kw.put (.inl (by omega)) _) ((World.putObj_heap_other (by omega)).trans h2)⟩
      · have kw : Keep O w W2 := (Keep.of (F := O) bW1').trans hk (fun b hb h => h.elim id (fun e => by omega))
        exact hpanic D ch O1 pre W2 (Nat.le_refl _) n2 hpre hi hgr kw h2
/-- A function's end in a panic, where loops have left blocks for deferred calls. -/
theorem panic_marks {fn : Func} {tmps : Array Value} {R : Ending → World → Prop} {ch : List PanicEntry} : ∀ (Ds : List Nat) (w : World), (∀ w', Keep (· ∈ Ds) w w' → R (.panicked ch) w') → (∀ D ∈ Ds, w.heap[D]? = some (.deferred (some []))) → Ds.Nodup →
    LeavesInM Fence.wide 0 Try.prog fn tmps R (Ds.map mark) (.panicking ch) w
  | [], w, hR, _, _ => hR w (Keep.refl _ _)
  | D :: Ds, w, hR, hD, hn => by
    refine ⟨by simp, .inl ⟨D, _, rfl, run_takeDeferred (hD D (by simp)), ?_⟩⟩
    have k : Keep (· ∈ D :: Ds) w (w.putObj D (.deferred none)) := (Keep.refl _ w).put (.inr (by simp)) _
    refine panic_marks Ds _ (fun w' k' => hR w' (k.trans k' (fun _ _ h => by simp [h]))) (fun D' h' => ?_) (List.nodup_cons.1 hn).2
    have hne : D' ≠ D := fun e => (List.nodup_cons.1 hn).1 (by rw [← e]; exact h')
    rw [World.putObj_heap_other hne]
    exact hD D' (by simp [h'])
end Go.Proofs.Ytnganmekiloigaa
/-! ### The pieces of a record, as pieces' function yields them; a round may panic. -/
namespace Go.Proofs.Ytnganmekiloigaa
open Go.RowKit
set_option maxRecDepth 100000
attribute [local go_sem] Oper.semAt_some
variable {w w' : World}
set_option maxHeartbeats 2000000 in
theorem runs110P {W : World} {a : Option Addr} {n c q e p : Nat} {l : Bs} (hl : LV EB W (.slice a n c) l) (h00 : 0 < l.length) (hn : l.length ≤ 3648) (hp : p ≤ 1000) (h0 : Blk W q [.slice a n c] 33) (h1 : Blk W (q + 1) [.int .i64 (e : Int)] 3) (h2 : Blk W (q + 2) [.int .i64 (p : Int)] 3) :
    RunsP Try.prog 110 #[.pointer (some ⟨q, 0, none⟩), .pointer (some ⟨q + 1, 0, none⟩), .pointer (some ⟨q + 2, 0, none⟩)] EncP (piecesP l e p) (G3 a q) W := by
  intro l' O J Jx Jp hO hJs hJ hJx hJp hY hJ0
  have nO : ∀ g o, a = some ⟨g, o, none⟩ → ¬ O g := fun g o ha h => (hO g h).1 (.inl ⟨o, ha⟩)
  have n0 : ¬ O q := fun h => (hO q h).1 (.inr (.inl rfl))
  have n1 : ¬ O (q + 1) := fun h => (hO _ h).1 (.inr (.inr (.inl rfl)))
  have n2 : ¬ O (q + 2) := fun h => (hO _ h).1 (.inr (.inr (.inr rfl)))
  obtain ⟨_, _, hv0⟩ := hl.form
  have hnl : n = l.length := by simp only [Value.slice.injEq] at hv0; exact hv0.2.1
  have HK : Hid (∀ W', Keep O W W' → W'.cell? ⟨q, 0, none⟩ = some (.slice a n c) ∧ W'.cell? ⟨q + 1, 0, none⟩ = some (.int .i64 (e : Int)) ∧ W'.cell? ⟨q + 2, 0, none⟩ = some (.int .i64 (p : Int)) ∧ LV EB W' (.slice a n c) l) := fun W' k => ⟨(h0.keep k n0).cell 0, (h1.keep k n1).cell 0, (h2.keep k n2).cell 0, lv_keepAt hl fun g o ha => k.block g (lv_inside hl h00 ha) (nO g o ha)⟩
  have HN : Hid (np l = (n + 56) / 57 ∧ n = l.length) := ⟨by rw [hnl]; rfl, hnl⟩
  have hn' : n ≤ 3648 := by omega
  have k79 := fun W => pieces79 a n c (by omega) W
  have HJ : Hid _ := hJ
  have HY : Hid _ := hY
  have H0 : Hid _ := hJ0
  have HOs : Hid _ := hO
  have HJs : Hid _ := hJs
  obtain ⟨c0, c1, c2, _⟩ := HK.out W (Keep.refl _ _)
  clear hl h0 h1 h2 hO hJs hJ hJx hJp hY hJ0 nO n0 n1 n2 hv0 hnl hn
  obtain ⟨M, hM⟩ : ∃ M, (n + 56) / 57 = M := ⟨_, rfl⟩
  have hM64 : M ≤ 64 := by omega
  simp only [hM] at k79
  have HMn : Hid ((n + 56) / 57 = M) := hM
  have HM : Hid (np l = M) := by show _ = _; rw [HN.out.1]; exact hM
  clear hM
  refine callsIn_of_wp Try.func110 rfl trivial ?_ rfl
  simp only [Try.ntmps110, List.size_toArray, List.length_cons, List.length_nil, Nat.reduceAdd, Nat.reduceSub, Array.replicate_succ, Array.replicate_zero, List.push_toArray, List.append_toArray, List.nil_append, List.cons_append]
  gi_wp2
  refine ⟨trivial, rfl, ((callsIn_wide (n := 0)).2 (k79 _)).mono ?_⟩
  rintro e' w1 ⟨rfl, rfl⟩
  gi_wp2
  gi_loopw [9] (fun z wr => ∃ (j : Nat) (O' : Nat → Prop), z = .int .i64 (j : Int) ∧ Hid (j ≤ M) ∧ Hid (J O' ((piecesP l e p).take j) wr) ∧ Hid (GrewN w1.heap.size O O') ∧ Hid (Keep O w1 wr)) (fun z _ => M - (intOf z).toNat)
  case atStart => exact ⟨0, O, rfl, Nat.zero_le _, H0.out, GrewN.refl _ _, Keep.refl _ _⟩
  case round =>
    obtain ⟨j, O', rfl, hj, hJ', hgr, hk⟩ := hrel
    by_cases hjn : j < M
    · have hji : (j : Int) < (M : Int) := by omega
      obtain ⟨d0, d1, d2, hLV⟩ := HK.out wr hk.out
      have hwp : IntKind.i64.wrap ((p : Int) + (j : Int)) = (p : Int) + (j : Int) := by rw [IntKind.wrap_i64]; omega
      gi_wp2
      obtain ⟨cx, hcx⟩ : ∃ cx, encPc ⟨e, p + j, j, M, 0, []⟩ = cx := ⟨_, rfl⟩
      have hbx : Try.prog.built 141 [(0, .agg #[.int .i64 (e : Int), .int .i64 ((p : Int) + (j : Int)), .int .i64 (j : Int), .int .i64 (M : Int)])] = some cx.toArray := by rw [← hcx, ← hd62_enc]; exact built62 _ _ _ _
      have hcl : cx.length = 62 := by rw [← hcx]; exact encPc_length _
      have hco : ∀ u ∈ cx, u.oneCell' = true := by rw [← hcx]; exact encPc_one _
      have hpl : (encPc zPc).length = 62 := encPc_length _
      have hpi := info141a
      generalize encPc zPc = e0 at *
      have HSP : Hid (∀ W, Below wr.heap.size wr W → W.cell? ⟨q, 0, none⟩ = some (.slice a n c) ∧ W.cell? ⟨q + 1, 0, none⟩ = some (.int .i64 (e : Int)) ∧ W.cell? ⟨q + 2, 0, none⟩ = some (.int .i64 (p : Int))) := fun W k => by obtain ⟨x0, x1, x2, _⟩ := HK.out W (hk.out.trans (Keep.of k) (fun _ _ h => h)); exact ⟨x0, x1, x2⟩
      rename_i K hK
      suffices HR : Hid (∀ w6, Blk w6 wr.heap.size cx 141 → Below wr.heap.size wr w6 → w6.heap.size = wr.heap.size + 1 → K { tmps := #[Value.func (Fn.yield l') #[] #[], Value.pointer (some ⟨q, 0, none⟩), Value.pointer (some ⟨q + 1, 0, none⟩), Value.pointer (some ⟨q + 2, 0, none⟩), undef, Value.int IntKind.i64 (j : Int), Value.pointer (some ⟨wr.heap.size, 0, none⟩), Value.slice a n c, Value.int IntKind.i64 (M : Int), Value.int IntKind.i64 (j : Int), Value.bool true, Value.int IntKind.i64 (j : Int), Value.int IntKind.i64 (e : Int), Value.int IntKind.i64 (p : Int), Value.int IntKind.i64 (j : Int), Value.int IntKind.i64 ((p : Int) + (j : Int)), Value.int IntKind.i64 (j : Int), Value.slice a n c, Value.int IntKind.i64 (M : Int), Value.agg #[.int .i64 (e : Int), .int .i64 ((p : Int) + (j : Int)), .int .i64 (j : Int), .int .i64 (M : Int)], Value.agg cx.toArray, u21, u22, u23, u24, u25, u26, u27, u28, u29, u30, u31, u32, u33], defers := [] } w6) by
        refine wpIn_wide.2 (wp_mono (Q := Exit.then K (fun _ _ _ => False)) ?_ (fun e a w h => by cases e <;> first | exact h | exact h.elim))
        refine wp_region_held_drew (S := fun W => W.cell? ⟨q, 0, none⟩ = some (.slice a n c) ∧ W.cell? ⟨q + 1, 0, none⟩ = some (.int .i64 (e : Int)) ∧ W.cell? ⟨q + 2, 0, none⟩ = some (.int .i64 (p : Int))) (by kernel_rfl) ⟨d0, d1, d2⟩ (fun hS => ?_)
        refine wpAnyH_take' 0 (some 12) (.int .i64 (e : Int)) rfl rfl (by kernel_rfl) (by kernel_rfl) (by kernel_rfl) (fun _ _ _ h => h.elim) (Or.inl ⟨by rfl, fun w' hS => by obtain ⟨s0, s1, s2⟩ := hS; go_simp⟩) hS ?_
        simp only [Act.put, List.setIfInBounds_toArray, List.set_cons_zero, List.set_cons_succ]
        refine wpAnyH_take' 1 (some 13) (.int .i64 (p : Int)) rfl rfl (by kernel_rfl) (by kernel_rfl) (by kernel_rfl) (fun _ _ _ h => h.elim) (Or.inl ⟨by rfl, fun w' hS => by obtain ⟨s0, s1, s2⟩ := hS; go_simp⟩) hS ?_
        simp only [Act.put, List.setIfInBounds_toArray, List.set_cons_zero, List.set_cons_succ]
        refine wpAnyH_take' 2 (some 14) (.int .i64 (j : Int)) rfl rfl (by kernel_rfl) (by kernel_rfl) (by kernel_rfl) (fun _ _ _ h => h.elim) (Or.inl ⟨by rfl, fun w' hS => by obtain ⟨s0, s1, s2⟩ := hS; go_simp⟩) hS ?_
        simp only [Act.put, List.setIfInBounds_toArray, List.set_cons_zero, List.set_cons_succ]
        refine wpAnyH_take' 3 (some 15) (.int .i64 ((p : Int) + (j : Int))) rfl rfl (by kernel_rfl) (by kernel_rfl) (by kernel_rfl) (fun _ _ _ h => h.elim) (Or.inl ⟨by rfl, fun w' hS => by obtain ⟨s0, s1, s2⟩ := hS; go_simp⟩) hS ?_
        simp only [Act.put, List.setIfInBounds_toArray, List.set_cons_zero, List.set_cons_succ]
        refine wpAnyH_take' 4 (some 16) (.int .i64 (j : Int)) rfl rfl (by kernel_rfl) (by kernel_rfl) (by kernel_rfl) (fun _ _ _ h => h.elim) (Or.inl ⟨by rfl, fun w' hS => by obtain ⟨s0, s1, s2⟩ := hS; go_simp⟩) hS ?_
        simp only [Act.put, List.setIfInBounds_toArray, List.set_cons_zero, List.set_cons_succ]
        refine wpAnyH_take' 5 (some 17) (.slice a n c) rfl rfl (by kernel_rfl) (by kernel_rfl) (by kernel_rfl) (fun _ _ _ h => h.elim) (Or.inl ⟨by rfl, fun w' hS => by obtain ⟨s0, s1, s2⟩ := hS; go_simp⟩) hS ?_
        simp only [Act.put, List.setIfInBounds_toArray, List.set_cons_zero, List.set_cons_succ]
        refine wpAnyH_ready (rs := [6, 9]) (by kernel_rfl) (by simp) (AllReadyH.cons rfl (fun K2 hK2 => ?_) (AllReadyH.cons rfl (fun K2 hK2 => ?_) AllReadyH.nil))
        · go_simp
          refine (k79 _).mono ?_
          rintro e' w2 ⟨rfl, rfl⟩
          refine hK2.out _ _ hS (fun hS => ?_)
          clear hK2 K2
          refine wpAnyH_take' 7 (some 19) (Value.agg #[.int .i64 (e : Int), .int .i64 ((p : Int) + (j : Int)), .int .i64 (j : Int), .int .i64 (M : Int)]) rfl rfl (by kernel_rfl) (by kernel_rfl) (by kernel_rfl) (fun _ _ _ h => h.elim) (Or.inl ⟨by rfl, fun w' hS => by go_simp⟩) hS ?_
          simp only [Act.put, List.setIfInBounds_toArray, List.set_cons_zero, List.set_cons_succ]
          refine wpAnyH_take' 8 (some 20) (Value.agg cx.toArray) rfl rfl (by kernel_rfl) (by kernel_rfl) (by kernel_rfl) (fun _ _ _ h => h.elim) (Or.inl ⟨by rfl, fun w' hS => exec_build 141 _ rfl #[(0, Value.agg #[.int .i64 (e : Int), .int .i64 ((p : Int) + (j : Int)), .int .i64 (j : Int), .int .i64 (M : Int)])] (by simp [Act.eval]) cx hbx⟩) hS ?_
          simp only [Act.put, List.setIfInBounds_toArray, List.set_cons_zero, List.set_cons_succ]
          refine wpAnyH_ready (rs := [9]) (by kernel_rfl) (by simp) (AllReadyH.cons rfl (fun K2 hK2 => ?_) AllReadyH.nil)
          refine step_alloc_row rfl (some 6) rfl 141 rfl e0 hpi ?_
          intro w5 b5 k5 s5
          refine hK2.out _ _ (HSP.out _ (bmore (Below.refl _ wr).drew k5)) (fun hS => ?_)
          clear hK2 K2
          simp only [Act.put, List.setIfInBounds_toArray, List.set_cons_zero, List.set_cons_succ]
          refine wpAnyH_ready (rs := [10]) (by kernel_rfl) (by simp) (AllReadyH.cons rfl (fun K2 hK2 => ?_) AllReadyH.nil)
          refine step_store_whole rfl rfl 141 (.tmp 6) (.tmp 20) rfl wr.heap.size cx rfl rfl e0 141 b5 (by omega) (by rw [hcl]; exact info141s) hco ?_
          intro w6 b6 k6 s6
          have q6 : Below wr.heap.size wr w6 := kbel (bmore (Below.refl _ wr).drew k5) k6 (Nat.le_refl _) (Nat.le_refl _)
          refine hK2.out _ _ (HSP.out _ q6) (fun hS => ?_)
          clear hK2 K2
          refine wpAnyH_done (by kernel_rfl) ?_ _
          exact HR.out w6 b6 q6 (by simp at s5; omega)
        · refine step_alloc_row rfl (some 6) rfl 141 rfl e0 hpi ?_
          intro w5 b5 k5 s5
          refine hK2.out _ _ (HSP.out _ (bmore (Below.refl _ wr).drew k5)) (fun hS => ?_)
          clear hK2 K2
          simp only [Act.put, List.setIfInBounds_toArray, List.set_cons_zero, List.set_cons_succ]
          refine wpAnyH_ready (rs := [6]) (by kernel_rfl) (by simp) (AllReadyH.cons rfl (fun K2 hK2 => ?_) AllReadyH.nil)
          go_simp
          refine (k79 _).mono ?_
          rintro e' w2 ⟨rfl, rfl⟩
          refine hK2.out _ _ hS (fun hS => ?_)
          clear hK2 K2
          refine wpAnyH_take' 7 (some 19) (Value.agg #[.int .i64 (e : Int), .int .i64 ((p : Int) + (j : Int)), .int .i64 (j : Int), .int .i64 (M : Int)]) rfl rfl (by kernel_rfl) (by kernel_rfl) (by kernel_rfl) (fun _ _ _ h => h.elim) (Or.inl ⟨by rfl, fun w' hS => by go_simp⟩) hS ?_
          simp only [Act.put, List.setIfInBounds_toArray, List.set_cons_zero, List.set_cons_succ]
          refine wpAnyH_take' 8 (some 20) (Value.agg cx.toArray) rfl rfl (by kernel_rfl) (by kernel_rfl) (by kernel_rfl) (fun _ _ _ h => h.elim) (Or.inl ⟨by rfl, fun w' hS => exec_build 141 _ rfl #[(0, Value.agg #[.int .i64 (e : Int), .int .i64 ((p : Int) + (j : Int)), .int .i64 (j : Int), .int .i64 (M : Int)])] (by simp [Act.eval]) cx hbx⟩) hS ?_
          simp only [Act.put, List.setIfInBounds_toArray, List.set_cons_zero, List.set_cons_succ]
          refine wpAnyH_ready (rs := [10]) (by kernel_rfl) (by simp) (AllReadyH.cons rfl (fun K2 hK2 => ?_) AllReadyH.nil)
          refine step_store_whole rfl rfl 141 (.tmp 6) (.tmp 20) rfl wr.heap.size cx rfl rfl e0 141 b5 (by omega) (by rw [hcl]; exact info141s) hco ?_
          intro w6 b6 k6 s6
          have q6 : Below wr.heap.size wr w6 := kbel (bmore (Below.refl _ wr).drew k5) k6 (Nat.le_refl _) (Nat.le_refl _)
          refine hK2.out _ _ (HSP.out _ q6) (fun hS => ?_)
          clear hK2 K2
          refine wpAnyH_done (by kernel_rfl) ?_ _
          exact HR.out w6 b6 q6 (by simp at s5; omega)
      intro w6 b6 q6 s6
      apply hK
      obtain ⟨x0, _, _, hLV6⟩ := HK.out w6 (hk.out.trans (Keep.of q6) (fun _ _ h => h))
      have hjn2 : j * 57 < n := by have := HMn.out; omega
      obtain ⟨a', c', hsl, hcap, hat⟩ := hLV6
      simp only [Value.slice.injEq] at hsl
      obtain ⟨rfl, -, rfl⟩ := hsl
      obtain ⟨g, o, cs', t', rfl, hbk, hcc⟩ := hat (by have := HN.out.2; omega)
      have hpl2 : (partOf l j).length = min 57 (n - 57 * j) := by rw [part_length, HN.out.2]
      have hpl57 : (partOf l j).length ≤ 57 := by omega
      have HSRC : Hid (∀ W, Below w6.heap.size w6 W → ∀ k v, (cellsB (partOf l j))[k]? = some v → W.cell? ((⟨g, o + j * 57, none⟩ : Addr).add k) = some v) := fun W kW k v hv => by
        have hk' := (List.getElem?_eq_some_iff.1 hv).1
        rw [cellsB_length] at hk'
        rw [show (⟨g, o + j * 57, none⟩ : Addr).add k = ⟨g, o + j * 57 + k, none⟩ by unfold Addr.add; split <;> simp_all]
        refine ((hbk.below kW).cell _).trans ?_
        rw [Nat.add_assoc]
        refine hcc (j * 57 + k) v ?_
        rw [EB_cells, cellsB_get _ _ (by have := HN.out.2; omega)]
        rw [cellsB_get _ _ hk'] at hv
        rw [← hv]
        simp [partOf, List.getD_eq_getElem?_getD, List.getElem?_drop, Nat.mul_comm, show k < 57 by omega]
      have hwm : IntKind.i64.wrap ((j : Int) * 57) = (j : Int) * 57 := by rw [IntKind.wrap_i64]; omega
      have i1 : (0 : Int) ≤ (j : Int) * 57 := by omega
      have i2 : (j : Int) * 57 ≤ (n : Int) := by omega
      have i3 : ((j : Int) * 57).toNat = j * 57 := by omega
      have i4 : ¬ c = j * 57 := by have := HN.out.2; omega
      have i5 : j * 57 ≤ n := by omega
      have hcbl : (cellsB (partOf l j)).length = min 57 (n - 57 * j) := by rw [cellsB_length]; exact hpl2
      have hcbo := cellsB_one (partOf l j)
      have hP6 := b6.below (Below.refl _ _).drew
      have HSQ : Hid (∀ W l2, Blk W wr.heap.size l2 141 → l2.length = 62 → Below wr.heap.size wr W → W.cell? ⟨q, 0, none⟩ = some (.slice (some ⟨g, o, none⟩) n c) ∧ W.cell? ⟨wr.heap.size, 4, none⟩ = some (got W ⟨wr.heap.size, 4, none⟩) ∧ W.frozen? ⟨wr.heap.size, 4, none⟩ = false) := fun W l2 hb h62 kW => ⟨(HSP.out W kW).1, hb.got (by omega), hb.frozen 4⟩
      have hS0 := HSQ.out _ _ hP6 hcl (bmore q6 (Below.refl _ _).drew)
      gi_wp2
      rename_i K4 hK4
      refine wpIn_wide.2 (wp_mono (Q := Exit.then K4 (fun _ _ _ => False)) ?_ (fun e a w h => by cases e <;> first | exact h | exact h.elim))
      go_region_held3 (fun W => W.cell? ⟨q, 0, none⟩ = some (.slice (some ⟨g, o, none⟩) n c) ∧ W.cell? ⟨wr.heap.size, 4, none⟩ = some (got W ⟨wr.heap.size, 4, none⟩) ∧ W.frozen? ⟨wr.heap.size, 4, none⟩ = false) (first | exact hS0 | exact HSQ.out _ _ b8 l8 q8 | exact HSQ.out _ _ (b8.set (o := 4) _) (by simp [l8]) (bset q8 (Nat.le_refl _) _)) ((refine step_copy_splice rfl (.tmp 22) (.tmp 26) 33 33 rfl 5 Try.underlying33 info5s (some ⟨wr.heap.size, 5, none⟩) (some ⟨g, o + j * 57, none⟩) 57 57 (n - j * 57) (c - j * 57) (by rfl) (by rfl) wr.heap.size 5 cx 141 hP6 (cellsB (partOf l j)) (by rw [hcbl, Nat.mul_comm]; show _ = min _ _; omega) (fun _ => ⟨rfl, _, rfl, HSRC.out _ (Below.refl _ _).drew⟩) (by omega) hcbo wr.heap.size wr (bmore q6 (Below.refl _ _).drew) (Nat.le_refl _) ?_; intro w8 h8 q8; have b8 : Blk w8 wr.heap.size (splice cx 5 (cellsB (partOf l j))) 141 := h8.out; have l8 : (splice cx 5 (cellsB (partOf l j))).length = 62 := by rw [length_splice _ _ _ (by omega)]; exact hcl))
      have b9 : Blk (w8.setCell ⟨wr.heap.size, 4, none⟩ (.int .i64 ((min 57 (n - 57 * j) : Nat) : Int))) wr.heap.size (encPc (pieceP l e p j)) 141 := by
        have := b8.set (o := 4) (.int .i64 ((min 57 (n - 57 * j) : Nat) : Int))
        rw [← hpl2, ← hcx, piece_cells hpl57, ← HM.out] at this
        rw [← hpl2]
        exact this
      have q9 : Below wr.heap.size wr (w8.setCell ⟨wr.heap.size, 4, none⟩ (.int .i64 ((min 57 (n - 57 * j) : Nat) : Int))) := bset q8 (Nat.le_refl _) _
      generalize w8.setCell ⟨wr.heap.size, 4, none⟩ (.int .i64 ((min 57 (n - 57 * j) : Nat) : Int)) = w9 at *
      have hxl := encPc_length (pieceP l e p j)
      have hr9 := b9.whole
      have KW : Hid (Keep O w1 w9) := hk.out.trans (Keep.of q9) (fun _ _ h => h)
      have HTk : Hid ((piecesP l e p).take (j + 1) = (piecesP l e p).take j ++ [pieceP l e p j]) := pieces_take (by rw [HM.out]; exact hjn)
      have hYd := HY.out O' ((piecesP l e p).take j) (pieceP l e p j) (.agg (encPc (pieceP l e p j)).toArray) w9 (HJ.out _ _ _ _ hJ'.out (Keep.of q9)) rfl (by rw [← HTk.out]; exact List.take_prefix _ _)
      rw [← HTk.out] at hYd
      obtain ⟨fn, tmps, assign, body, hy, hRd⟩ := hYd
      have HRd : Hid _ := hRd
      clear hRd b8 b9 q8 h8 l8 hP6 b6 q6 s6 hS0 HSQ HSRC hcbl hcbo hbk hcc hat
      generalize encPc (pieceP l e p j) = px at *
      apply hK4
      gi_wp2_with (refine wpListIn_load_mid' rfl 141 (.tmp 6) rfl wr.heap.size 0 rfl px _ hr9 Try.underlying141 rfl (by rw [hxl]; exact info141s) ?_)
      refine ⟨rfl, RoundIn.mono HRd.out ?_⟩
      rintro e' W3 ((⟨rfl, O3, hj3, hg3, hk3⟩ | ⟨rfl, O3, hj3, hg3, hk3⟩) | ⟨ch, rfl, O3, hj3, hg3, hk3⟩)
      · have HG3 : Hid (GrewN w1.heap.size O O3) := hgr.out.trans hg3
        have HK3 : Hid (Keep O w1 W3) := KW.out.trans hk3 (fun z hz h => (hgr.out z h).elim id (fun h => by omega))
        have HJ3 : Hid _ := hj3
        clear hj3 hg3 hk3 hy
        gi_wp2
        exact ⟨⟨j + 1, O3, by simp, by show _ ≤ _; omega, HJ3.out, HG3.out, HK3.out⟩, by simp only [intOf]; omega⟩
      · have HG3 : Hid (GrewN w1.heap.size O O3) := hgr.out.trans hg3
        have HK3 : Hid (Keep O w1 W3) := KW.out.trans hk3 (fun z hz h => (hgr.out z h).elim id (fun h => by omega))
        have HJ3 : Hid _ := hj3
        have HPre : Hid ((piecesP l e p).take (j + 1) <+: piecesP l e p) := List.take_prefix _ _
        clear hj3 hg3 hk3 hy
        gi_wp2
        refine bodyPost_ret (results_none rfl _ _ _) rfl ?_
        exact .inl ⟨⟨_, rfl⟩, .inr ⟨_, O3, HPre.out, HJ3.out, HG3.out, HK3.out⟩⟩
      · have HG3 : GrewN w1.heap.size O O3 := hgr.out.trans hg3
        have HK3 : Keep O w1 W3 := KW.out.trans hk3 (fun z hz h => (hgr.out z h).elim id (fun h => by omega))
        have HPre : (piecesP l e p).take (j + 1) <+: piecesP l e p := List.take_prefix _ _
        exact ⟨rfl, .inr ⟨ch, rfl, _, O3, HPre, hj3, HG3, HK3⟩⟩
    · have hji : ¬ (j : Int) < (M : Int) := by omega
      obtain rfl : j = M := by have := hj.out; omega
      have HAll : Hid ((piecesP l e p).take j = piecesP l e p) := by show _ = _; rw [List.take_of_length_le (by simp [piecesP, HM.out])]
      gi_wp2
      go_end0
      exact .inl ⟨⟨_, rfl⟩, .inl ⟨O', HAll.out ▸ hJ'.out, hgr.out, hk.out⟩⟩
end Go.Proofs.Ytnganmekiloigaa
/-! ### write, on a disk that may go off. -/
namespace Go.Proofs.Ytnganmekiloigaa
open Go.RowKit
set_option maxRecDepth 100000
attribute [local go_sem] Oper.semAt_some
variable {w w' : World} {B d s x : Nat} {D : Dk} {W : Wl} {G : List Nat}
/-- What write's loop holds: the disk as it is by now. -/
structure IwD (B d s x : Nat) (D2 : Dk) (W : Wl) (q h : Nat) (O : Nat → Prop) (W' : World) (wv : Value) : Prop where
  apart : ∀ b, foot d s wv b → b ≠ x ∧ b ≠ q ∧ b ≠ q + 1
  own : ∀ b, O b ↔ foot d s wv b
  disk : PD W' d s wv D2
  low : ∀ b, foot d s wv b → B ≤ b
  wal : Blk W' x (wlC d W) 111
  bx : Blk W' q [.pointer (some ⟨x, 0, none⟩)] 57
  bh : Blk W' (q + 1) [.int .i64 (h : Int)] 3
section
variable {W1 W2 : World} {q h : Nat} {D2 : Dk} {O : Nat → Prop} {wv : Value}
theorem IwD.lt (i : IwD B d s x D2 W q h O W1 wv) : ∀ b, O b → b < W1.heap.size := fun b hb => i.disk.foot_lt b ((i.own b).1 hb)
theorem IwD.keep {N : Nat} (i : IwD B d s x D2 W q h O W1 wv) (hx : x < N) (hq : q + 1 < N) (kk : Keep (fun b => ¬ O b ∧ N ≤ b) W1 W2) : IwD B d s x D2 W q h O W2 wv := by
  refine ⟨i.apart, i.own, i.disk.keep kk (fun b hb h => h.1 ((i.own b).2 hb)), i.low, i.wal.keep kk (fun h => by have := h.2; omega), i.bx.keep kk (fun h => by have := h.2; omega), i.bh.keep kk (fun h => by have := h.2; omega)⟩
end
/-- Q at a common end, and at a panic. -/
def NrmP (Q : Exit → Act → World → Prop) : Exit → Act → World → Prop
  | .normal, a, w => Q .normal a w
  | .panic c, a, w => Q (.panic c) a w
  | _, _, _ => False
theorem NrmP.normal {Q : Exit → Act → World → Prop} {a : Act} {w : World} (h : Q .normal a w) : NrmP Q .normal a w := h
theorem NrmP.imp {Q : Exit → Act → World → Prop} : ∀ (e : Exit) (a : Act) (w : World), NrmP Q e a w → Q e a w := fun e a w h => by
  cases e <;> first | exact h | exact (h : False).elim
theorem put_nil (D : Dk) (b : Nat) : D.put b [] = D := by
  unfold Dk.put
  simp [waitOf]
set_option maxHeartbeats 2000000 in
theorem write82P {R h p n c : Nat} {a : Option Addr} {l : Bs} (hA : LG B w d s D x W G) (hleft : D.cut = true → 0 ≤ D.left) (hoff : D.off = false) (hw : D.wait.length ≤ 50000) (hS : D.secs.length = 2 * R) (hR : R ≤ 64) (hh : h = 0 ∨ h = 1) (he : W.e < 65536) (hlv : LV EB w (.slice a n c) l) (hl0 : 0 < l.length) (hl : l.length ≤ 3648) (hag : ∀ g o, a = some ⟨g, o, none⟩ → g ∈ G) (hG : ∀ g ∈ G, g < w.heap.size) (hfit : p + np l ≤ R) :
    Calls Try.prog 82 #[.pointer (some ⟨x, 0, none⟩), .int .i64 (h : Int), .int .i64 (p : Int), .slice a n c] w fun e w' => (e = .returned (.tuple #[]) ∧ D.can (np l) ∧ LG B w' d s (D.put (h * R + p) (layP W.e p l)) x W G ∧ Kept G w w' ∧ Below B w w') ∨ (∃ k : Nat, k < np l ∧ D.cut = true ∧ D.left = (k : Int) ∧ e = .panicked (GU 7) ∧ LG B w' d s { D.put (h * R + p) ((layP W.e p l).take k) with off := true } x W G ∧ Kept G w w' ∧ Below B w w') := by
  obtain ⟨wv, hPD, hfoot, hlow, hBz⟩ := hA.disk
  have hxl := hA.wal.lt
  have c2 := (hA.wal.below (bmore (al w (.cells #[.pointer (some ⟨x, 0, none⟩)] 57)) (al _ (.cells #[.int .i64 (h : Int)] 3)))).cell 2
  have HWE : (wlC d W)[2]? = some (.int .i64 (W.e : Int)) := rfl
  rw [HWE] at c2
  clear HWE
  refine calls_of_wpAt Try.func82 rfl ?_
  simp only [Try.ntmps82, List.size_toArray, List.length_cons, List.length_nil, Nat.reduceAdd, Nat.reduceSub, Array.replicate_succ, Array.replicate_zero, List.push_toArray, List.append_toArray, List.nil_append, List.cons_append]
  refine wpAt_seq_k (fun K hK => ?_)
  go_wp2
  refine wpAt_seq_k (fun K hK => ?_)
  go_wp2_with (go_at_call 102; (refine (pieces102 _ _ _ _ _ _).mono ?_; rintro e' w1 ⟨rfl, rfl⟩))
  refine wpAt_block ?_
  have sA : ((w.alloc (.cells #[.pointer (some ⟨x, 0, none⟩)] 57)).alloc (.cells #[.int .i64 (h : Int)] 3)).heap.size = w.heap.size + 1 + 1 := by simp
  have b0 := blk_new w [.pointer (some ⟨x, 0, none⟩)] 57
  have b1 := blk_new (w.alloc (.cells #[.pointer (some ⟨x, 0, none⟩)] 57)) [.int .i64 (h : Int)] 3
  have b2 := blk_new ((w.alloc (.cells #[.pointer (some ⟨x, 0, none⟩)] 57)).alloc (.cells #[.int .i64 (h : Int)] 3)) [.slice a n c] 33
  have b3 := blk_new (((w.alloc (.cells #[.pointer (some ⟨x, 0, none⟩)] 57)).alloc (.cells #[.int .i64 (h : Int)] 3)).alloc (.cells #[.slice a n c] 33)) [.int .i64 (W.e : Int)] 3
  have b4 := blk_new ((((w.alloc (.cells #[.pointer (some ⟨x, 0, none⟩)] 57)).alloc (.cells #[.int .i64 (h : Int)] 3)).alloc (.cells #[.slice a n c] 33)).alloc (.cells #[.int .i64 (W.e : Int)] 3)) [.int .i64 (p : Int)] 3
  have c0 := (((b0.below (al _ (.cells #[.int .i64 (h : Int)] 3))).below (al _ (.cells #[.slice a n c] 33))).below (al _ (.cells #[.int .i64 (W.e : Int)] 3))).below (al _ (.cells #[.int .i64 (p : Int)] 3))
  have c1 := ((b1.below (al _ (.cells #[.slice a n c] 33))).below (al _ (.cells #[.int .i64 (W.e : Int)] 3))).below (al _ (.cells #[.int .i64 (p : Int)] 3))
  have c3 := (b2.below (al _ (.cells #[.int .i64 (W.e : Int)] 3))).below (al _ (.cells #[.int .i64 (p : Int)] 3))
  have c4 := b3.below (al _ (.cells #[.int .i64 (p : Int)] 3))
  have B5 : Below w.heap.size w (((((w.alloc (.cells #[.pointer (some ⟨x, 0, none⟩)] 57)).alloc (.cells #[.int .i64 (h : Int)] 3)).alloc (.cells #[.slice a n c] 33)).alloc (.cells #[.int .i64 (W.e : Int)] 3)).alloc (.cells #[.int .i64 (p : Int)] 3)) := bmore (bmore (bmore (bmore (al _ _) (al _ _)) (al _ _)) (al _ _)) (al _ _)
  have s5 : (((((w.alloc (.cells #[.pointer (some ⟨x, 0, none⟩)] 57)).alloc (.cells #[.int .i64 (h : Int)] 3)).alloc (.cells #[.slice a n c] 33)).alloc (.cells #[.int .i64 (W.e : Int)] 3)).alloc (.cells #[.int .i64 (p : Int)] 3)).heap.size = w.heap.size + 5 := by simp
  simp only [World.size_alloc] at c1 c3 c4 b4
  clear b0 b1 b2 b3 c2 sA
  generalize ((((w.alloc (.cells #[.pointer (some ⟨x, 0, none⟩)] 57)).alloc (.cells #[.int .i64 (h : Int)] 3)).alloc (.cells #[.slice a n c] 33)).alloc (.cells #[.int .i64 (W.e : Int)] 3)).alloc (.cells #[.int .i64 (p : Int)] 3) = W5 at *
  have HS5 : Hid (W5.heap.size = w.heap.size + 5) := s5
  have HB5 : Hid (Below w.heap.size w W5) := B5
  have hlv5 := hlv.below B5
  have HI0 : Hid (IwD B d s x (D.put (h * R + p) ((layP W.e p l).take 0)) W w.heap.size h (foot d s wv) W5 wv) := ⟨fun b hb => ⟨fun e => (hfoot x (by simp)).1 (e ▸ hb), fun e => by have := hPD.foot_lt b hb; omega, fun e => by have := hPD.foot_lt b hb; omega⟩, fun b => Iff.rfl, by have := hPD.below B5; rw [List.take_zero, put_nil]; exact this, hlow, hA.wal.below B5, c0, c1⟩
  have HC : Hid (Blk W5 (w.heap.size + 1 + 1) [.slice a n c] 33 ∧ Blk W5 (w.heap.size + 1 + 1 + 1) [.int .i64 (W.e : Int)] 3 ∧ Blk W5 (w.heap.size + 1 + 1 + 2) [.int .i64 (p : Int)] 3 ∧ LV EB W5 (.slice a n c) l) := ⟨c3, c4, b4, hlv5⟩
  have HF : Hid (∀ b, foot d s wv b → b < w.heap.size ∧ ∀ o, a ≠ some ⟨b, o, none⟩) := fun b hb => ⟨hPD.foot_lt b hb, fun o ha => (hfoot b (by simp [hag b o ha])).1 hb⟩
  have HXL : Hid (x < w.heap.size) := hxl
  have HCAN0 : Hid (D.can 0) := by
    show D.can 0
    rcases hc : D.cut with _ | _
    · exact .inl hc
    · exact .inr (by have := hleft hc; simpa using this)
  have HEND : Hid (∀ D' O' W' D2 wv', W5.heap.size ≤ D' → ¬ O' D' → IwD B d s x D2 W w.heap.size h O' W' wv' → Grew (foot d s wv) O' W5 → Keep (foot d s wv) W5 W' → ∀ w'', Keep (· ∈ [D']) W' w'' → LG B w'' d s D2 x W G ∧ Kept G w w'' ∧ Below B w w'') := by
    rintro D' O' W' D2 wv' hD nD hI hgr hk w'' k
    have h5 := HS5.out
    have hdk := hI.disk
    have hnf : ∀ b, foot d s wv' b → ¬ b ∈ [D'] := fun b hb hm => by
      have : b = D' := by simpa using hm
      subst this
      exact nD ((hI.own b).2 hb)
    have hxD : ¬ x ∈ [D'] := by simp; have := HXL.out; omega
    have hkG : Kept (x :: G) w w'' := fun g hg => by
      have hgl : g < w.heap.size := by
        rcases List.mem_cons.1 hg with rfl | hg
        · exact hxl
        · exact hG g hg
      have hgD : ¬ g ∈ [D'] := by simp; omega
      exact ((k.block g (by have := hk.size; omega) hgD).trans (hk.block g (by omega) (hfoot g hg).1)).trans (HB5.out.block g hgl)
    refine ⟨⟨⟨wv', hdk.keep k (fun b hb h => hnf b hb h), fun g hg => ⟨fun hf => ?_, ?_⟩, hI.low, ?_⟩, hI.wal.keep k hxD, hA.nx, hA.bx⟩, fun g hg => hkG g (by simp [hg]), ?_⟩
    · rcases hgr g ((hI.own g).2 hf) with h1 | h1
      · exact (hfoot g hg).1 h1
      · have : g < w.heap.size := by
          rcases List.mem_cons.1 hg with rfl | hg
          · exact hxl
          · exact hG g hg
        omega
    · have : g < w.heap.size := by
        rcases List.mem_cons.1 hg with rfl | hg
        · exact hxl
        · exact hG g hg
      have := hk.size
      have := k.size
      omega
    · have := hk.size
      have := k.size
      omega
    · exact ((HB5.out.mono hBz).trans (hk.below (by omega) (fun b hb => hlow b hb))).trans (k.below (by have := hk.size; omega) (fun b hb => by
        have : b = D' := by simpa using hb
        omega))
  clear c0 c1 c3 c4 b4 B5 s5 hlv5 hlv
  refine wpAt_rangeP ⟨_, Try.func82⟩ (a := { tmps := #[Value.pointer (some ⟨x, 0, none⟩), Value.int IntKind.i64 (h : Int), Value.int IntKind.i64 (p : Int), Value.slice a n c, Value.pointer (some ⟨w.heap.size, 0, none⟩), Value.pointer (some ⟨w.heap.size + 1, 0, none⟩), undef, undef, undef, undef, Value.slice a n c, Value.pointer (some ⟨x, 0, none⟩), Value.pointer (some ⟨x, 0, none⟩), Value.pointer (some ⟨x, 2, none⟩), Value.int IntKind.i64 (W.e : Int), Value.int IntKind.i64 (p : Int), Value.func (Fn.func 110) #[] #[Value.pointer (some ⟨w.heap.size + 1 + 1, 0, none⟩), Value.pointer (some ⟨w.heap.size + 1 + 1 + 1, 0, none⟩), Value.pointer (some ⟨w.heap.size + 1 + 1 + 2, 0, none⟩)], undef, undef, undef, undef, undef, undef, undef, undef, undef, undef, undef, undef, undef, undef, undef, undef, undef, undef], defers := [] }) (gf := 110) (lb := #[.pointer (some ⟨w.heap.size + 1 + 1, 0, none⟩), .pointer (some ⟨w.heap.size + 1 + 1 + 1, 0, none⟩), .pointer (some ⟨w.heap.size + 1 + 1 + 2, 0, none⟩)]) rfl eg110 rfl (Enc := EncP) (fun r v W1 W2 h k => h) (xs := piecesP l W.e p) (G := G3 a (w.heap.size + 1 + 1))
    (fun W' k' _ => runs110P (HC.out.2.2.2.below k') hl0 hl (by omega) (HC.out.1.below k') (HC.out.2.1.below k') (HC.out.2.2.1.below k')) (fun b hb => ?inG)
    (fun O' pre W' => D.can pre.length ∧ ∃ wv', IwD B d s x (D.put (h * R + p) ((layP W.e p l).take pre.length)) W w.heap.size h O' W' wv') (fun _ _ _ _ => False) (fun ch O' pre W' => ch = GU 7 ∧ ∃ k wv', k < np l ∧ D.cut = true ∧ D.left = (k : Int) ∧ IwD B d s x { D.put (h * R + p) ((layP W.e p l).take k) with off := true } W w.heap.size h O' W' wv') (fun O' pre W' ⟨_, _, hv⟩ => hv.lt) (fun O' pre W1 W2 ⟨hc, _, hv⟩ k => ⟨hc, _, hv.keep (by have := HS5.out; have := HXL.out; omega) (by have := HS5.out; omega) k⟩) (fun c => fun O' pre W1 W2 h _ => h.elim) (fun ch => fun O' pre W1 W2 ⟨he, k0, _, h1, h2, h3, hv⟩ k => ⟨he, k0, _, h1, h2, h3, hv.keep (by have := HS5.out; have := HXL.out; omega) (by have := HS5.out; omega) k⟩)
    (foot d s wv) (fun b hb => ?inO) ⟨HCAN0.out, _, HI0.out⟩ (fun v blk => { tmps := #[Value.pointer (some ⟨x, 0, none⟩), Value.int IntKind.i64 (h : Int), Value.int IntKind.i64 (p : Int), Value.slice a n c, Value.pointer (some ⟨w.heap.size, 0, none⟩), Value.pointer (some ⟨w.heap.size + 1, 0, none⟩), undef, undef, Value.pointer (some ⟨blk, 0, none⟩), undef, Value.slice a n c, Value.pointer (some ⟨x, 0, none⟩), Value.pointer (some ⟨x, 0, none⟩), Value.pointer (some ⟨x, 2, none⟩), Value.int IntKind.i64 (W.e : Int), Value.int IntKind.i64 (p : Int), Value.func (Fn.func 110) #[] #[Value.pointer (some ⟨w.heap.size + 1 + 1, 0, none⟩), Value.pointer (some ⟨w.heap.size + 1 + 1 + 1, 0, none⟩), Value.pointer (some ⟨w.heap.size + 1 + 1 + 2, 0, none⟩)], v, undef, undef, undef, undef, undef, undef, undef, undef, undef, undef, undef, undef, undef, undef, undef, undef, undef], defers := [] }) (fun v => match v with | .agg a => a.toList | _ => []) 141 ?assign ?body ?done ?stop ?panic
  case inG =>
    have := HS5.out
    rcases hb with ⟨o, ha⟩ | rfl | rfl | rfl
    · exact lv_inside HC.out.2.2.2 hl0 ha
    · omega
    · omega
    · omega
  case inO =>
    have h5 := HS5.out
    obtain ⟨h1, h2⟩ := HF.out b hb
    refine ⟨?_, by omega⟩
    rintro (⟨o, ha⟩ | rfl | rfl | rfl)
    · exact h2 o ha
    · omega
    · omega
    · omega
  case stop =>
    rintro D' c O' pre W' hD nD hpre h hgr hk hd
    exact h.elim
  case assign =>
    intro l' xx v W' K hE hK
    have hv : v = .agg (encPc xx).toArray := hE
    subst hv
    have hzl : (encPc zPc).length = 62 := encPc_length _
    have hxl' : (encPc xx).length = 62 := encPc_length _
    have hxo := encPc_one xx
    have hpi := info141a
    generalize encPc zPc = e0 at *
    have HK : Hid (∀ Wa, Blk Wa W'.heap.size (encPc xx) 141 → Below W'.heap.size W' Wa → Wa.heap.size = W'.heap.size + 1 → K _ Wa) := fun Wa hb => hK Wa hb
    generalize encPc xx = px at *
    rw [foldl_one]
    simp only [List.setIfInBounds_toArray, List.set_cons_succ, List.set_cons_zero]
    gi_wp2_with (first
      | (refine wpListIn_of_step rfl (by intro c hc; cases hc) (fun K2 hK2 => ?_); refine step_alloc_row rfl (some 8) rfl 141 rfl e0 hpi ?_; intro w2 b2 k2 s2; have S2 : Hid (w2.heap.size = W'.heap.size + 1) := s2; clear s2; apply hK2)
      | (refine wpListIn_of_step rfl (by intro c hc; cases hc) (fun K2 hK2 => ?_); refine step_store_whole rfl rfl 141 (.tmp 8) (.tmp 17) rfl W'.heap.size px rfl rfl e0 141 b2 (by omega) (by rw [hxl']; exact info141s) hxo ?_; intro w3 b3 k3 s3; have HQ := HK.out w3 b3 (kbel k2 k3 (Nat.le_refl _) (Nat.le_refl _)) (by have := S2.out; omega); clear s3; apply hK2))
    exact HQ
  case done =>
    rintro D' O' W' hD nD ⟨hcn, wv', hI⟩ hgr hk hd
    have hlen : (piecesP l W.e p).length = np l := by simp [piecesP]
    have HF2 : Hid (∀ w'', Keep (· ∈ [D']) W' w'' → LG B w'' d s (D.put (h * R + p) (layP W.e p l)) x W G ∧ Kept G w w'' ∧ Below B w w'') := by
      have := HEND.out D' O' W' _ wv' hD nD hI hgr hk
      rw [hlen, List.take_of_length_le (by rw [lay_length]; omega)] at this
      exact this
    have HCAN : Hid (D.can (np l)) := by rw [hlen] at hcn; exact hcn
    have Hd : Hid _ := hd
    clear hI hgr hk hd nD
    dsimp only
    refine leave_marks [D'] _ (fun w'' k => ⟨by simp [results, Try.results82], .inl ⟨rfl, HCAN.out, HF2.out w'' k⟩⟩) (fun D'' h => by simp at h; subst h; exact Hd.out) (by simp)
  case panic =>
    rintro D' ch O' pre W' hD nD hpre ⟨rfl, k0, wv', h1, h2, h3, hI⟩ hgr hk hd
    have HF2 := HEND.out D' O' W' _ wv' hD nD hI hgr hk
    have Hd : Hid _ := hd
    have H123 : Hid (k0 < np l ∧ D.cut = true ∧ D.left = (k0 : Int)) := ⟨h1, h2, h3⟩
    clear hI hgr hk hd nD hpre h1 h2 h3
    exact panic_marks [D'] _ (fun w'' k => .inr ⟨k0, H123.out.1, H123.out.2.1, H123.out.2.2, rfl, HF2 w'' k⟩) (fun D'' h => by simp at h; subst h; exact Hd.out) (by simp)
  case body =>
    intro l' O' pre xx v W' blk hI hE hnb hle hsz hblk hpre
    obtain ⟨hcan, wv', hI⟩ := hI
    have hv : v = .agg (encPc xx).toArray := hE
    subst hv
    obtain ⟨hj, rfl⟩ := piece_of_prefix hpre
    have hlen1 : (pre ++ [pieceP l W.e p pre.length]).length = pre.length + 1 := by simp
    obtain ⟨PR, hPR⟩ : ∃ PR, pre ++ [pieceP l W.e p pre.length] = PR := ⟨_, rfl⟩
    rw [hPR] at hlen1 ⊢
    clear hpre hPR
    generalize pre.length = j at *
    have hblk' : Blk W' blk (encPc (pieceP l W.e p j)) 141 := hblk
    have hn64 : np l ≤ 64 := by unfold np; omega
    have hok : (pieceP l W.e p j).Ok := pieceP_ok he (by omega) hj hl
    have K103 : Hid (Calls Try.prog 103 #[.agg (encPc (pieceP l W.e p j)).toArray] W' fun e w' => e = .returned (.agg (cellsB (secX (pieceP l W.e p j))).toArray) ∧ Below W'.heap.size W' w') := sector103 hok
    have hsx : (secX (pieceP l W.e p j)).length = 64 := secX_length hok.b
    have hsl : (cellsB (secX (pieceP l W.e p j))).length = 64 := by rw [cellsB_length]; exact hsx
    have hso := cellsB_one (secX (pieceP l W.e p j))
    have hzi := info90y
    have hzl : (cellsB Z64).length = 64 := by rw [cellsB_length]; rfl
    have hxl := encPc_length (pieceP l W.e p j)
    have hr8 := hblk'.whole
    have hp1 : W'.cell? ⟨blk, 1, none⟩ = some (.int .i64 ((p + j : Nat) : Int)) := hblk'.cell 1
    have HFIN : Hid (∀ W2 g W3, Below W'.heap.size W' W2 → W2.heap.size ≤ g → Blk W3 g (cellsB (secX (pieceP l W.e p j))) 90 → Below W'.heap.size W' W3 → W3.heap.size = W2.heap.size + 1 → True) := fun _ _ _ _ _ _ _ _ => trivial
    generalize cellsB Z64 = z0 at *
    generalize hpx : encPc (pieceP l W.e p j) = px at *
    generalize hcx : cellsB (secX (pieceP l W.e p j)) = cx at *
    dsimp only
    gi_wp2_with (first
      | (refine wpListIn_load_mid' rfl 141 (.tmp 8) rfl blk 0 rfl px _ hr8 Try.underlying141 rfl (by rw [hxl]; exact info141s) ?_)
      | (refine ⟨trivial, rfl, (CallsIn.inRound l' (callsIn_wide.2 K103.out)).mono ?_⟩; rintro e' w1 ⟨rfl, B1⟩)
      | (refine wpListIn_of_step rfl (by intro c hc; cases hc) (fun K2 hK2 => ?_); refine step_alloc_row rfl (some 9) rfl 90 rfl z0 hzi ?_; intro w2 b2 k2 s2; have S2 : Hid (w2.heap.size = w1.heap.size + 1) := s2; clear s2; apply hK2)
      | (refine wpListIn_of_step rfl (by intro c hc; cases hc) (fun K2 hK2 => ?_); refine step_store_whole rfl rfl 90 (.tmp 9) (.tmp 19) rfl w1.heap.size cx rfl rfl z0 90 b2 (by omega) (by rw [hsl]; exact info90s) hso ?_; intro w3 b3 k3 s3; have S3 : Hid (w3.heap.size = w2.heap.size) := s3; clear s3; apply hK2))
    have hBW' : w.heap.size + 5 ≤ blk := by have := HS5.out; omega
    have q3 : Below W'.heap.size W' w3 := kbel (bmore B1 k2) k3 B1.size (Nat.le_refl _)
    have b4 := b3.below (Below.refl _ _).drew
    have q4 : Below W'.heap.size W' w3.drew := bmore q3 (Below.refl _ _).drew
    have HX : Hid (∀ W4, Keep O' W' W4 → W4.cell? ⟨w.heap.size, 0, none⟩ = some (.pointer (some ⟨x, 0, none⟩)) ∧ W4.cell? ⟨w.heap.size + 1, 0, none⟩ = some (.int .i64 (h : Int)) ∧ W4.cell? ⟨x, 0, none⟩ = some (.pointer (some ⟨d, 0, none⟩)) ∧ W4.cell? ⟨blk, 1, none⟩ = some (.int .i64 ((p + j : Nat) : Int))) := fun W4 k => by
      have nf : ∀ b, b = x ∨ b = w.heap.size ∨ b = w.heap.size + 1 → ¬ O' b := fun b hb hO => by
        have := hI.apart b ((hI.own b).1 hO)
        omega
      exact ⟨(hI.bx.keep k (nf _ (by omega))).cell 0, (hI.bh.keep k (nf _ (by omega))).cell 0, (hI.wal.keep k (nf _ (by omega))).cell 0, ((hblk'.keep k hnb).cell 1).trans ((hblk'.cell 1).symm.trans hp1)⟩
    have hPD4 := hI.disk.below q4
    have hwal4 := hI.wal.below q4
    have hB4 : B ≤ w3.drew.heap.size := Nat.le_trans (hI.low d (.inl rfl)) (Nat.le_of_lt (hPD4.foot_lt d (.inl rfl)))
    have hgf : ¬ foot d s wv' w1.heap.size := fun hf => by
      have := hI.disk.foot_lt _ hf
      have := B1.size
      omega
    have k80 := room80 (w := w3.drew) (B := B) (s := s) (D := D.put (h * R + p) ((layP W.e p l).take j)) (G := []) ⟨wv', hPD4, by simp, hI.low, hB4⟩ hwal4 (R := R) hS hR
    have htl : ((layP W.e p l).take j).length = j := by rw [List.length_take, lay_length]; omega
    have hhR : h * R ≤ R := by rcases hh with rfl | rfl <;> omega
    have hbnd : h * R + p + ((layP W.e p l).take j).length < D.secs.length := by
      rw [htl, hS]
      rcases hh with rfl | rfl <;> omega
    by_cases hc1 : D.can (j + 1)
    · have hmw := put_write (D := D) (b := h * R + p) (X := (layP W.e p l).take j) hoff hsx hbnd (by rw [htl]; exact hc1)
      rw [secX_piece] at hmw
      rw [← lay_take hj, htl] at hmw
      have hsb : SB w3.drew (.slice (some ⟨w1.heap.size, 0, none⟩) 64 64) (secOf W.e (p + j) j (np l) (partOf l j)) := by
        rw [← hcx, secX_piece] at b4
        exact sb_arr b4 (by rw [← secX_piece]; exact hsx)
      have k22 := write22 hPD4 (((h * R + p + j : Nat)) : Int) (.slice (some ⟨w1.heap.size, 0, none⟩) 64 64) (secOf W.e (p + j) j (np l) (partOf l j)) hsb (by intro a n c e _; cases e; exact hgf) (by show (D.wait ++ waitOf _ _).length ≤ 100000; rw [List.length_append, waitOf_length, htl]; omega)
      rw [hmw] at k22
      have HFIN : Hid (∀ w8, Left w3.drew d s wv' (D.put (h * R + p) ((layP W.e p l).take (j + 1))) w8 → ∃ O2, (∃ wv2, IwD B d s x (D.put (h * R + p) ((layP W.e p l).take (j + 1))) W w.heap.size h O2 w8 wv2) ∧ GrewN (W5.heap.size + 2) O' O2 ∧ Keep O' W' w8) := by
        rintro w8 ⟨wv2, hP8, hK8, hf8⟩
        have kk : Keep O' W' w8 := (Keep.of q4).trans hK8 (fun b _ hb => (hI.own b).2 hb)
        have nf : ∀ b, b = x ∨ b = w.heap.size ∨ b = w.heap.size + 1 → ¬ O' b := fun b hb hO => by
          have := hI.apart b ((hI.own b).1 hO)
          omega
        have hsz4 := q4.size
        have hxl' := hI.wal.lt
        have hql := hI.bx.lt
        have hhl := hI.bh.lt
        refine ⟨foot d s wv2, ⟨wv2, fun b hb => ?_, fun b => Iff.rfl, hP8, fun b hb => ?_, hI.wal.keep kk (nf _ (by omega)), hI.bx.keep kk (nf _ (by omega)), hI.bh.keep kk (nf _ (by omega))⟩, fun b hb => ?_, kk⟩
        · rcases hf8 b hb with h1 | h1
          · exact hI.apart b h1
          · omega
        · rcases hf8 b hb with h1 | h1
          · exact hI.low b h1
          · omega
        · rcases hf8 b hb with h1 | h1
          · exact .inl ((hI.own b).2 h1)
          · exact .inr (by omega)
      have HX4 := HX.out _ (Keep.of q4)
      have HL : Hid (PR.length = j + 1) := hlen1
      have HC1W : Hid (D.can PR.length) := by rw [hlen1]; exact hc1
      have HRj : Hid (h * R + p + j < 2 * R) := by rw [htl] at hbnd; show _ < _; omega
      have HR2 : Hid (R ≤ 64 ∧ h ≤ 1) := ⟨hR, by omega⟩
      have hmul : IntKind.i64.wrap ((h : Int) * (R : Int)) = ((h * R : Nat) : Int) := by
        rw [show ((h : Int) * (R : Int)) = ((h * R : Nat) : Int) by simp]
        exact wrap_small _ (by omega) (by omega)
      have hadd : IntKind.i64.wrap (((h * R : Nat) : Int) + ((p + j : Nat) : Int)) = ((h * R + p + j : Nat) : Int) := by
        rw [show ((h * R : Nat) : Int) + ((p + j : Nat) : Int) = ((h * R + p + j : Nat) : Int) by omega]
        exact wrap_small _ (by omega) (by omega)
      have k98 := accept98
      clear hcan hc1 hI hblk hblk' hr8 hxl hwal4 hPD4 hsb b4 b3 b2 k2 k3 hmw hok hhR hbnd htl hE hp1 hzi hzl hsl hso hcx hpx hlen1 hB4 hgf
      generalize h * R + p + j = pl at *
      obtain ⟨hr, HEQ⟩ : ∃ hr, h * R = hr := ⟨_, rfl⟩
      rw [HEQ] at hmul hadd
      clear HEQ
      generalize p + j = pj at *
      refine Code.wpIn_mono NrmP.imp ?_
      refine wpIn_region_held_round (S := fun W4 => W4.cell? ⟨w.heap.size, 0, none⟩ = some (.pointer (some ⟨x, 0, none⟩)) ∧ W4.cell? ⟨w.heap.size + 1, 0, none⟩ = some (.int .i64 (h : Int)) ∧ W4.cell? ⟨x, 0, none⟩ = some (.pointer (some ⟨d, 0, none⟩)) ∧ W4.cell? ⟨blk, 1, none⟩ = some (.int .i64 (pj : Int))) (by kernel_rfl) (by kernel_rfl) (fun ⟨_, _, h⟩ => h) HX4 (fun hS => ?_)
      refine wpAnyH_take' 0 (some 20) (.pointer (some ⟨x, 0, none⟩)) rfl rfl (by kernel_rfl) (by kernel_rfl) (by kernel_rfl) (fun _ _ _ h => h) (Or.inl ⟨by rfl, fun w' hS => by obtain ⟨s0, s1, s2, s3⟩ := hS; go_simp⟩) hS ?_
      simp only [Act.put, List.setIfInBounds_toArray, List.set_cons_zero, List.set_cons_succ]
      refine wpAnyH_take' 1 (some 21) (.pointer (some ⟨x, 0, none⟩)) rfl rfl (by kernel_rfl) (by kernel_rfl) (by kernel_rfl) (fun _ _ _ h => h) (Or.inl ⟨by rfl, fun w' hS => by obtain ⟨s0, s1, s2, s3⟩ := hS; go_simp⟩) hS ?_
      simp only [Act.put, List.setIfInBounds_toArray, List.set_cons_zero, List.set_cons_succ]
      refine wpAnyH_take' 2 (some 22) (.pointer (some ⟨x, 0, none⟩)) rfl rfl (by kernel_rfl) (by kernel_rfl) (by kernel_rfl) (fun _ _ _ h => h) (Or.inl ⟨by rfl, fun w' hS => by obtain ⟨s0, s1, s2, s3⟩ := hS; go_simp⟩) hS ?_
      simp only [Act.put, List.setIfInBounds_toArray, List.set_cons_zero, List.set_cons_succ]
      refine wpAnyH_take' 3 (some 23) (.pointer (some ⟨d, 0, none⟩)) rfl rfl (by kernel_rfl) (by kernel_rfl) (by kernel_rfl) (fun _ _ _ h => h) (Or.inl ⟨by rfl, fun w' hS => by obtain ⟨s0, s1, s2, s3⟩ := hS; go_simp⟩) hS ?_
      simp only [Act.put, List.setIfInBounds_toArray, List.set_cons_zero, List.set_cons_succ]
      refine wpAnyH_take' 4 (some 24) (.int .i64 (h : Int)) rfl rfl (by kernel_rfl) (by kernel_rfl) (by kernel_rfl) (fun _ _ _ h => h) (Or.inl ⟨by rfl, fun w' hS => by obtain ⟨s0, s1, s2, s3⟩ := hS; go_simp⟩) hS ?_
      simp only [Act.put, List.setIfInBounds_toArray, List.set_cons_zero, List.set_cons_succ]
      refine wpAnyH_take' 5 (some 25) (.pointer (some ⟨x, 0, none⟩)) rfl rfl (by kernel_rfl) (by kernel_rfl) (by kernel_rfl) (fun _ _ _ h => h) (Or.inl ⟨by rfl, fun w' hS => by obtain ⟨s0, s1, s2, s3⟩ := hS; go_simp⟩) hS ?_
      simp only [Act.put, List.setIfInBounds_toArray, List.set_cons_zero, List.set_cons_succ]
      refine wpAnyH_take' 8 (some 28) (.pointer (some ⟨blk, 0, none⟩)) rfl rfl (by kernel_rfl) (by kernel_rfl) (by kernel_rfl) (fun _ _ _ h => h) (Or.inl ⟨by rfl, fun w' hS => by obtain ⟨s0, s1, s2, s3⟩ := hS; go_simp⟩) hS ?_
      simp only [Act.put, List.setIfInBounds_toArray, List.set_cons_zero, List.set_cons_succ]
      refine wpAnyH_take' 9 (some 29) (.pointer (some ⟨blk, 1, none⟩)) rfl rfl (by kernel_rfl) (by kernel_rfl) (by kernel_rfl) (fun _ _ _ h => h) (Or.inl ⟨by rfl, fun w' hS => by obtain ⟨s0, s1, s2, s3⟩ := hS; go_simp⟩) hS ?_
      simp only [Act.put, List.setIfInBounds_toArray, List.set_cons_zero, List.set_cons_succ]
      refine wpAnyH_take' 10 (some 30) (.int .i64 (pj : Int)) rfl rfl (by kernel_rfl) (by kernel_rfl) (by kernel_rfl) (fun _ _ _ h => h) (Or.inl ⟨by rfl, fun w' hS => by obtain ⟨s0, s1, s2, s3⟩ := hS; go_simp⟩) hS ?_
      simp only [Act.put, List.setIfInBounds_toArray, List.set_cons_zero, List.set_cons_succ]
      refine wpAnyH_take' 12 (some 32) (.slice (some ⟨w1.heap.size, 0, none⟩) 64 64) rfl rfl (by kernel_rfl) (by kernel_rfl) (by kernel_rfl) (fun _ _ _ h => h) (Or.inl ⟨by rfl, fun w' hS => by obtain ⟨s0, s1, s2, s3⟩ := hS; go_simp⟩) hS ?_
      simp only [Act.put, List.setIfInBounds_toArray, List.set_cons_zero, List.set_cons_succ]
      refine wpAnyH_ready (rs := [6]) (by kernel_rfl) (by simp) (AllReadyH.cons rfl (fun K2 hK2 => ?_) AllReadyH.nil)
      go_simp
      refine k80.mono ?_
      rintro e' w6 ⟨rfl, rfl⟩
      refine hK2.out _ _ hS (fun hS => ?_)
      clear hK2 K2
      try simp only [Act.put, List.setIfInBounds_toArray, List.set_cons_zero, List.set_cons_succ]
      refine wpAnyH_take' 7 (some 27) (.int .i64 (hr : Int)) rfl rfl (by kernel_rfl) (by kernel_rfl) (by kernel_rfl) (fun _ _ _ h => h) (Or.inl ⟨by rfl, fun w' hS => by obtain ⟨s0, s1, s2, s3⟩ := hS; go_simp⟩) hS ?_
      simp only [Act.put, List.setIfInBounds_toArray, List.set_cons_zero, List.set_cons_succ]
      refine wpAnyH_take' 11 (some 31) (.int .i64 (pl : Int)) rfl rfl (by kernel_rfl) (by kernel_rfl) (by kernel_rfl) (fun _ _ _ h => h) (Or.inl ⟨by rfl, fun w' hS => by obtain ⟨s0, s1, s2, s3⟩ := hS; go_simp⟩) hS ?_
      simp only [Act.put, List.setIfInBounds_toArray, List.set_cons_zero, List.set_cons_succ]
      refine wpAnyH_ready (rs := [13]) (by kernel_rfl) (by simp) (AllReadyH.cons rfl (fun K2 hK2 => ?_) AllReadyH.nil)
      go_simp
      refine k22.mono ?_
      rintro e' w8 ⟨rfl, HL8⟩
      obtain ⟨O2, hI2, hg2, hk2⟩ := HFIN.out w8 HL8
      refine hK2.out _ _ (HX.out _ hk2) (fun hS => ?_)
      clear hK2 K2
      refine wpAnyH_ready (rs := [14]) (by kernel_rfl) (by simp) (AllReadyH.cons rfl (fun K2 hK2 => ?_) AllReadyH.nil)
      go_simp
      refine (k98 _).mono ?_
      rintro e' w9 ⟨rfl, rfl⟩
      refine hK2.out _ _ hS (fun hS => ?_)
      clear hK2 K2
      refine wpAnyH_done (by kernel_rfl) (NrmP.normal ?_) _
      rw [← HL.out] at hI2
      exact ⟨O2, ⟨HC1W.out, hI2⟩, hg2, hk2⟩
    · have hcutl : D.cut = true ∧ D.left = (j : Int) := by
        rcases hD : D.cut with _ | _
        · exact absurd (.inl hD) hc1
        · refine ⟨rfl, ?_⟩
          have h1 : ¬ ((j + 1 : Nat) : Int) ≤ D.left := fun h => hc1 (.inr h)
          have h2 : (j : Int) ≤ D.left := hcan.resolve_left (by simp [hD])
          omega
      have hmw := put_write_no (D := D) (b := h * R + p) (X := (layP W.e p l).take j) hoff hsx hbnd hcutl.1 (by rw [htl]; exact hcutl.2)
      rw [secX_piece, htl] at hmw
      have hsb : SB w3.drew (.slice (some ⟨w1.heap.size, 0, none⟩) 64 64) (secOf W.e (p + j) j (np l) (partOf l j)) := by
        rw [← hcx, secX_piece] at b4
        exact sb_arr b4 (by rw [← secX_piece]; exact hsx)
      have k22 := write22 hPD4 (((h * R + p + j : Nat)) : Int) (.slice (some ⟨w1.heap.size, 0, none⟩) 64 64) (secOf W.e (p + j) j (np l) (partOf l j)) hsb (by intro a n c e _; cases e; exact hgf) (by show (D.wait ++ waitOf _ _).length ≤ 100000; rw [List.length_append, waitOf_length, htl]; omega)
      rw [hmw] at k22
      have HFIN : Hid (∀ w8, Left w3.drew d s wv' { D.put (h * R + p) ((layP W.e p l).take j) with off := true } w8 → ∃ O2, (∃ wv2, IwD B d s x { D.put (h * R + p) ((layP W.e p l).take j) with off := true } W w.heap.size h O2 w8 wv2) ∧ GrewN (W5.heap.size + 2) O' O2 ∧ Keep O' W' w8) := by
        rintro w8 ⟨wv2, hP8, hK8, hf8⟩
        have kk : Keep O' W' w8 := (Keep.of q4).trans hK8 (fun b _ hb => (hI.own b).2 hb)
        have nf : ∀ b, b = x ∨ b = w.heap.size ∨ b = w.heap.size + 1 → ¬ O' b := fun b hb hO => by
          have := hI.apart b ((hI.own b).1 hO)
          omega
        have hsz4 := q4.size
        have hxl' := hI.wal.lt
        have hql := hI.bx.lt
        have hhl := hI.bh.lt
        refine ⟨foot d s wv2, ⟨wv2, fun b hb => ?_, fun b => Iff.rfl, hP8, fun b hb => ?_, hI.wal.keep kk (nf _ (by omega)), hI.bx.keep kk (nf _ (by omega)), hI.bh.keep kk (nf _ (by omega))⟩, fun b hb => ?_, kk⟩
        · rcases hf8 b hb with h1 | h1
          · exact hI.apart b h1
          · omega
        · rcases hf8 b hb with h1 | h1
          · exact hI.low b h1
          · omega
        · rcases hf8 b hb with h1 | h1
          · exact .inl ((hI.own b).2 h1)
          · exact .inr (by omega)
      have HX4 := HX.out _ (Keep.of q4)
      have HL : Hid (PR.length = j + 1) := hlen1
      have HRj : Hid (h * R + p + j < 2 * R) := by rw [htl] at hbnd; show _ < _; omega
      have HR2 : Hid (R ≤ 64 ∧ h ≤ 1) := ⟨hR, by omega⟩
      have hmul : IntKind.i64.wrap ((h : Int) * (R : Int)) = ((h * R : Nat) : Int) := by
        rw [show ((h : Int) * (R : Int)) = ((h * R : Nat) : Int) by simp]
        exact wrap_small _ (by omega) (by omega)
      have hadd : IntKind.i64.wrap (((h * R : Nat) : Int) + ((p + j : Nat) : Int)) = ((h * R + p + j : Nat) : Int) := by
        rw [show ((h * R : Nat) : Int) + ((p + j : Nat) : Int) = ((h * R + p + j : Nat) : Int) by omega]
        exact wrap_small _ (by omega) (by omega)
      have k98 := accept98_no 7 (by decide)
      have HJN : Hid (j < np l) := hj
      have HCL : Hid (D.cut = true ∧ D.left = (j : Int)) := hcutl
      clear hcan hc1 hcutl hI hblk hblk' hr8 hxl hwal4 hPD4 hsb b4 b3 b2 k2 k3 hmw hok hhR hbnd htl hE hp1 hzi hzl hsl hso hcx hpx hlen1 hB4 hgf
      generalize h * R + p + j = pl at *
      obtain ⟨hr, HEQ⟩ : ∃ hr, h * R = hr := ⟨_, rfl⟩
      rw [HEQ] at hmul hadd
      clear HEQ
      generalize p + j = pj at *
      refine Code.wpIn_mono NrmP.imp ?_
      refine wpIn_region_held_round (S := fun W4 => W4.cell? ⟨w.heap.size, 0, none⟩ = some (.pointer (some ⟨x, 0, none⟩)) ∧ W4.cell? ⟨w.heap.size + 1, 0, none⟩ = some (.int .i64 (h : Int)) ∧ W4.cell? ⟨x, 0, none⟩ = some (.pointer (some ⟨d, 0, none⟩)) ∧ W4.cell? ⟨blk, 1, none⟩ = some (.int .i64 (pj : Int))) (by kernel_rfl) (by kernel_rfl) (fun ⟨_, _, h⟩ => h) HX4 (fun hS => ?_)
      refine wpAnyH_take' 0 (some 20) (.pointer (some ⟨x, 0, none⟩)) rfl rfl (by kernel_rfl) (by kernel_rfl) (by kernel_rfl) (fun _ _ _ h => h) (Or.inl ⟨by rfl, fun w' hS => by obtain ⟨s0, s1, s2, s3⟩ := hS; go_simp⟩) hS ?_
      simp only [Act.put, List.setIfInBounds_toArray, List.set_cons_zero, List.set_cons_succ]
      refine wpAnyH_take' 1 (some 21) (.pointer (some ⟨x, 0, none⟩)) rfl rfl (by kernel_rfl) (by kernel_rfl) (by kernel_rfl) (fun _ _ _ h => h) (Or.inl ⟨by rfl, fun w' hS => by obtain ⟨s0, s1, s2, s3⟩ := hS; go_simp⟩) hS ?_
      simp only [Act.put, List.setIfInBounds_toArray, List.set_cons_zero, List.set_cons_succ]
      refine wpAnyH_take' 2 (some 22) (.pointer (some ⟨x, 0, none⟩)) rfl rfl (by kernel_rfl) (by kernel_rfl) (by kernel_rfl) (fun _ _ _ h => h) (Or.inl ⟨by rfl, fun w' hS => by obtain ⟨s0, s1, s2, s3⟩ := hS; go_simp⟩) hS ?_
      simp only [Act.put, List.setIfInBounds_toArray, List.set_cons_zero, List.set_cons_succ]
      refine wpAnyH_take' 3 (some 23) (.pointer (some ⟨d, 0, none⟩)) rfl rfl (by kernel_rfl) (by kernel_rfl) (by kernel_rfl) (fun _ _ _ h => h) (Or.inl ⟨by rfl, fun w' hS => by obtain ⟨s0, s1, s2, s3⟩ := hS; go_simp⟩) hS ?_
      simp only [Act.put, List.setIfInBounds_toArray, List.set_cons_zero, List.set_cons_succ]
      refine wpAnyH_take' 4 (some 24) (.int .i64 (h : Int)) rfl rfl (by kernel_rfl) (by kernel_rfl) (by kernel_rfl) (fun _ _ _ h => h) (Or.inl ⟨by rfl, fun w' hS => by obtain ⟨s0, s1, s2, s3⟩ := hS; go_simp⟩) hS ?_
      simp only [Act.put, List.setIfInBounds_toArray, List.set_cons_zero, List.set_cons_succ]
      refine wpAnyH_take' 5 (some 25) (.pointer (some ⟨x, 0, none⟩)) rfl rfl (by kernel_rfl) (by kernel_rfl) (by kernel_rfl) (fun _ _ _ h => h) (Or.inl ⟨by rfl, fun w' hS => by obtain ⟨s0, s1, s2, s3⟩ := hS; go_simp⟩) hS ?_
      simp only [Act.put, List.setIfInBounds_toArray, List.set_cons_zero, List.set_cons_succ]
      refine wpAnyH_take' 8 (some 28) (.pointer (some ⟨blk, 0, none⟩)) rfl rfl (by kernel_rfl) (by kernel_rfl) (by kernel_rfl) (fun _ _ _ h => h) (Or.inl ⟨by rfl, fun w' hS => by obtain ⟨s0, s1, s2, s3⟩ := hS; go_simp⟩) hS ?_
      simp only [Act.put, List.setIfInBounds_toArray, List.set_cons_zero, List.set_cons_succ]
      refine wpAnyH_take' 9 (some 29) (.pointer (some ⟨blk, 1, none⟩)) rfl rfl (by kernel_rfl) (by kernel_rfl) (by kernel_rfl) (fun _ _ _ h => h) (Or.inl ⟨by rfl, fun w' hS => by obtain ⟨s0, s1, s2, s3⟩ := hS; go_simp⟩) hS ?_
      simp only [Act.put, List.setIfInBounds_toArray, List.set_cons_zero, List.set_cons_succ]
      refine wpAnyH_take' 10 (some 30) (.int .i64 (pj : Int)) rfl rfl (by kernel_rfl) (by kernel_rfl) (by kernel_rfl) (fun _ _ _ h => h) (Or.inl ⟨by rfl, fun w' hS => by obtain ⟨s0, s1, s2, s3⟩ := hS; go_simp⟩) hS ?_
      simp only [Act.put, List.setIfInBounds_toArray, List.set_cons_zero, List.set_cons_succ]
      refine wpAnyH_take' 12 (some 32) (.slice (some ⟨w1.heap.size, 0, none⟩) 64 64) rfl rfl (by kernel_rfl) (by kernel_rfl) (by kernel_rfl) (fun _ _ _ h => h) (Or.inl ⟨by rfl, fun w' hS => by obtain ⟨s0, s1, s2, s3⟩ := hS; go_simp⟩) hS ?_
      simp only [Act.put, List.setIfInBounds_toArray, List.set_cons_zero, List.set_cons_succ]
      refine wpAnyH_ready (rs := [6]) (by kernel_rfl) (by simp) (AllReadyH.cons rfl (fun K2 hK2 => ?_) AllReadyH.nil)
      go_simp
      refine k80.mono ?_
      rintro e' w6 ⟨rfl, rfl⟩
      refine hK2.out _ _ hS (fun hS => ?_)
      clear hK2 K2
      try simp only [Act.put, List.setIfInBounds_toArray, List.set_cons_zero, List.set_cons_succ]
      refine wpAnyH_take' 7 (some 27) (.int .i64 (hr : Int)) rfl rfl (by kernel_rfl) (by kernel_rfl) (by kernel_rfl) (fun _ _ _ h => h) (Or.inl ⟨by rfl, fun w' hS => by obtain ⟨s0, s1, s2, s3⟩ := hS; go_simp⟩) hS ?_
      simp only [Act.put, List.setIfInBounds_toArray, List.set_cons_zero, List.set_cons_succ]
      refine wpAnyH_take' 11 (some 31) (.int .i64 (pl : Int)) rfl rfl (by kernel_rfl) (by kernel_rfl) (by kernel_rfl) (fun _ _ _ h => h) (Or.inl ⟨by rfl, fun w' hS => by obtain ⟨s0, s1, s2, s3⟩ := hS; go_simp⟩) hS ?_
      simp only [Act.put, List.setIfInBounds_toArray, List.set_cons_zero, List.set_cons_succ]
      refine wpAnyH_ready (rs := [13]) (by kernel_rfl) (by simp) (AllReadyH.cons rfl (fun K2 hK2 => ?_) AllReadyH.nil)
      go_simp
      refine k22.mono ?_
      rintro e' w8 ⟨rfl, HL8⟩
      obtain ⟨O2, hI2, hg2, hk2⟩ := HFIN.out w8 HL8
      refine hK2.out _ _ (HX.out _ hk2) (fun hS => ?_)
      clear hK2 K2
      refine wpAnyH_ready (rs := [14]) (by kernel_rfl) (by simp) (AllReadyH.cons rfl (fun K2 hK2 => ?_) AllReadyH.nil)
      go_simp
      refine (k98 _).mono ?_
      rintro e' w9 ⟨rfl, rfl⟩
      exact ⟨rfl, O2, ⟨rfl, j, _, HJN.out, HCL.out.1, HCL.out.2, hI2.choose_spec⟩, hg2, hk2⟩
end Go.Proofs.Ytnganmekiloigaa
