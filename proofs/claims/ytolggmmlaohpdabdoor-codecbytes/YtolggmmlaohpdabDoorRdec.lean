/- The reference of codec: Decode of every bytes. -/
import Derived.Test.YtolggmmlaohpdabDoorRenc
import Derived.Test.YtolggmmlaohpdabDoorGup3
namespace Go.Proofs.YtolggmmlaohpdabDoor
open Go.RowKit Go.Lib
set_option maxRecDepth 100000

/-- The reference's reader: the result's block, the row's, the values so far. -/
structure DS (w : World) (v : Value) (pre : List Vt) (x1 x2 : Value) (W : World) : Prop where
  res : Bx W w.heap.size (.slice none 0 0) (.int .i64 0) (.int .i64 0)
  row : Bx W (w.heap.size + 1) v x1 x2
  vals : VRow (w.heap.size + 2) v pre W
  bel : Below w.heap.size w W
variable {w : World} {v : Value} {pre : List Vt} {x1 x2 : Value} {W W' : World}
theorem DS.more (h : DS w v pre x1 x2 W) (hb : Below W.heap.size W W') : DS w v pre x1 x2 W' := ⟨h.res.below hb, h.row.below hb, h.vals.below hb, bmore h.bel hb⟩
theorem DS.size (h : DS w v pre x1 x2 W) : w.heap.size + 2 ≤ W.heap.size := by have := h.row.lt; omega
theorem DS.push (h : DS w v pre x1 x2 W) {u : Value} {y : Vt} (hu : VRow (w.heap.size + 2) u (pre ++ [y]) W') (hg : W.grownBy W' v.ownBlock) : DS w u (pre ++ [y]) x1 x2 (W'.setCell ⟨w.heap.size + 1, 0, none⟩ u) := by
  have hz := h.size
  have ho : ∀ k, k < w.heap.size + 2 → some k ≠ v.ownBlock := fun k hk e => by have := (World.ownsRow.lt h.vals k e.symm).1; omega
  have h3 := growV (B := w.heap.size + 2) (Below.refl _ W) h.vals hg hz
  have r1 := h.res.block (hg.block _ (by omega) (ho _ (by omega)))
  have r2 := h.row.block (hg.block _ (by omega) (ho _ (by omega)))
  refine ⟨r1.far (by omega), r2.set0 u, hu.far (by omega) u, ?_⟩
  exact (h.bel.trans (h3.1.mono (by omega))).setCell (by simp) u

theorem DS.set1 (h : DS w v pre x1 x2 W) (y : Value) : DS w v pre y x2 (W.setCell ⟨w.heap.size + 1, 1, none⟩ y) :=
  ⟨h.res.far (by omega), h.row.set1 y, h.vals.far (by omega) y, h.bel.setCell (by simp) y⟩
theorem DS.set2 (h : DS w v pre x1 x2 W) (y : Value) : DS w v pre x1 y (W.setCell ⟨w.heap.size + 1, 2, none⟩ y) :=
  ⟨h.res.far (by omega), h.row.set2 y, h.vals.far (by omega) y, h.bel.setCell (by simp) y⟩

/-- What Decode answers. -/
def DecP (w : World) (L : Bs) (e : Ending) (w' : World) : Prop :=
  (∃ vs f t u, rightRow vs f t = true ∧ (∀ x ∈ vs, inI64 x.2.1) ∧ L = encR vs f t ∧ e = .returned (.tuple #[RV u f t, .int .i64 0]) ∧ VRow w.heap.size u vs w' ∧ Below w.heap.size w w') ∨
  (NoRow L ∧ e = .returned (.tuple #[RV (.slice none 0 0) 0 0, .int .i64 3]) ∧ Below w.heap.size w w')

theorem noRow_stop {L l : Bs} {pre : List Vt} (hok : ∀ x ∈ pre, okV x = true ∧ inI64 x.2.1) (e : L = flat pre ++ l) (h : ∀ vs' q, (∀ x ∈ vs', okV x = true ∧ inI64 x.2.1) → pre.length + vs'.length ≤ 4 → q.length = 4 → l ≠ flat vs' ++ 0 :: q) : NoRow L := fun vs f t hr hi e2 => by
  obtain ⟨_, h4, hok2, _⟩ := rightRow_parts hr
  have e3 : flat pre ++ l = flat vs ++ 0 :: (two f ++ two t) := by rw [← e, e2]; unfold encR; simp
  obtain ⟨vs', e4, e5⟩ := flat_pre pre vs l _ hok (fun x hx => ⟨hok2 x hx, hi x hx⟩) e3
  refine h vs' _ (fun x hx => ?_) ?_ ?_ e5
  · exact ⟨hok2 x (by rw [e4]; simp [hx]), hi x (by rw [e4]; simp [hx])⟩
  · rw [e4, List.length_append] at h4; exact h4
  · simp [two]

theorem enc_four {pre : List Vt} {c1 c2 c3 c4 : UInt8} {vs : List Vt} {f t : Int} (hok : ∀ x ∈ pre, okV x = true ∧ inI64 x.2.1) (hr : rightRow vs f t = true) (hi : ∀ x ∈ vs, inI64 x.2.1) (h : flat pre ++ 0 :: [c1, c2, c3, c4] = encR vs f t) :
    pre = vs ∧ (c1.toNat : Int) * 256 + (c2.toNat : Int) - 1000 = f ∧ (c3.toNat : Int) * 256 + (c4.toNat : Int) - 1000 = t := by
  obtain ⟨_, h4, hok2, hs⟩ := rightRow_parts hr
  have hsp := spanR_parts hs
  have e3 : flat pre ++ 0 :: [c1, c2, c3, c4] = flat vs ++ 0 :: (two f ++ two t) := by rw [h]; unfold encR; simp
  obtain ⟨vs', e4, e5⟩ := flat_pre pre vs _ _ hok (fun x hx => ⟨hok2 x hx, hi x hx⟩) e3
  cases vs' with
  | cons y vs' =>
    obtain ⟨c', r', hc', h0'⟩ := flat_begins (hok2 y (by rw [e4]; simp))
    rw [flat_cons, hc'] at e5
    simp at e5
    rw [← e5.1] at h0'
    simp at h0'
  | nil =>
    obtain ⟨x, y, ex, hx⟩ := two_back (p := f) (by omega) (by omega)
    obtain ⟨x', y', ex', hx'⟩ := two_back (p := t) (by omega) (by omega)
    rw [ex, ex'] at e5
    simp [flat] at e5
    obtain ⟨rfl, rfl, rfl, rfl⟩ := e5
    exact ⟨by simpa using e4.symm, hx, hx'⟩

set_option maxHeartbeats 4000000 in
theorem decode22 (vb : Value) (L : Bs) (w : World) (hv : SB w vb L) (hl : L.length ≤ 1000) (hg : Good w) :
    Calls Tryd.prog 22 #[vb] w (DecP w L) := by
  obtain ⟨a, c, rfl, hform⟩ : ∃ a c, vb = .slice a L.length c ∧ (0 < L.length → ∃ bb bo, a = some ⟨bb, bo, none⟩ ∧ At w bb bo L ∧ L.length ≤ c ∧ c ≤ maxLen) := by
    rcases hv with ⟨a, c, rfl, rfl⟩ | ⟨b, o, c, rfl, h0, hc, hm, hat⟩
    · exact ⟨a, c, rfl, fun h => by simp at h⟩
    · exact ⟨_, c, rfl, fun _ => ⟨b, o, rfl, hat, hc, hm⟩⟩
  have HF : Hid (0 < L.length → ∃ bb bo, a = some ⟨bb, bo, none⟩ ∧ At w bb bo L ∧ L.length ≤ c ∧ c ≤ maxLen) := hform
  have hgb : ∀ W, Below w.heap.size w W → Good W := fun W h => hg.below h
  obtain ⟨N, hN⟩ : ∃ N, L.length = N := ⟨_, rfl⟩
  have HN : Hid (L.length = N) := hN
  rw [hN] at hl ⊢
  clear hv hform hg hN
  have hs0 : DS w (.slice none 0 0) [] (.int .i64 0) (.int .i64 0) ((w.alloc (.cells #[.slice none 0 0, .int .i64 0, .int .i64 0] 26)).alloc (.cells #[.slice none 0 0, .int .i64 0, .int .i64 0] 26)) :=
    ⟨⟨by simp, by simp, by simp, by simp, by simp, by simp⟩, ⟨by simp, by simp, by simp, by simp, by simp, by simp⟩, VRow.nil _ _, bmore (al _ _) (al _ _)⟩
  go_enter Tryd.func22, Tryd.ntmps22
  go_wp2_with fail
  go_loopw [5] (fun i wr => ∃ (pre : List Vt) (l : Bs) (u : Value), i = .int .i64 ((flat pre).length : Int) ∧ L = flat pre ++ l ∧ (∀ x ∈ pre, okV x = true ∧ inI64 x.2.1) ∧ pre.length ≤ 5 ∧ DS w u pre (.int .i64 0) (.int .i64 0) wr) (fun i _ => N - (Lib.intOf i).toNat)
  case atStart => exact ⟨[], L, _, rfl, rfl, fun x hx => by simp at hx, by simp, hs0⟩
  case round =>
    obtain ⟨pre, l, u, rfl, hLl, hok, hp5, hds⟩ := hrel
    clear hs0
    obtain ⟨ua, uc, rfl, _⟩ := sv_form hds.vals.sv
    obtain ⟨r0, r1, r2, r3, r4, r5⟩ := id hds.row
    obtain ⟨e0, e1, e2, e3, e4, e5⟩ := id hds.res
    have hsz := hds.size
    have hLN : (flat pre).length + l.length = N := by rw [← List.length_append, ← hLl]; exact HN.out
    have HE : Hid (L = flat pre ++ l) := hLl
    have HO : Hid (∀ x ∈ pre, okV x = true ∧ inI64 x.2.1) := hok
    clear hLl hok
    obtain ⟨K, hK⟩ : ∃ K, (flat pre).length = K := ⟨_, rfl⟩
    have HK : Hid ((flat pre).length = K) := hK
    rw [hK] at hLN ⊢
    clear hK
    cases l with
    | nil =>
      simp only [List.length_nil, Nat.add_zero] at hLN
      have hno : NoRow L := noRow_stop HO.out HE.out fun vs' q _ _ _ e => by cases vs' <;> simp [flat] at e
      have hkz : ¬ ((K : Int) < (N : Int)) := by omega
      have hk5 : (((N : Int) - (K : Int)) != 5) = true := by simp; omega
      clear HE HO HK HN HF
      go_wp2_with fail
      have qq := Bx.set2 (Bx.set1 (Bx.set0 hds.res (.slice none 0 0)) (.int .i64 0)) (.int .i64 0)
      exact bodyPost_ret (v := .tuple #[RV (.slice none 0 0) 0 0, .int .i64 3]) (by simp [results, Tryd.results22, go_sem, qq.c0, qq.c1, qq.c2]) rfl (.inr ⟨hno, rfl, set3 hds.bel _ _ _⟩)
    | cons ch r =>
      rw [List.length_cons] at hLN
      obtain ⟨bb, bo, rfl, hat, hNc, hcm⟩ := HF.out (by rw [HN.out]; omega)
      rw [HN.out] at hNc
      have hatr : At w bb (bo + K) (ch :: r) := by
        have h1 := hat.drop K
        rw [HE.out, List.drop_append_of_le_length (by rw [HK.out]; omega), List.drop_eq_nil_of_le (by rw [HK.out]; omega), List.nil_append] at h1
        exact h1
      have hatW : ∀ W, Below w.heap.size w W → ∀ i, i < (ch :: r).length → W.cell? ⟨bb, bo + K + i, none⟩ = some (.int .u8 (((ch :: r).getD i 0).toNat : Int)) := fun W h => hatr.below h
      have hbb : bb < w.heap.size := World.block_lt_of_cell? _ _ (hatr 0 (by simp))
      have hk1 : (K : Int) < (N : Int) := by omega
      have hk0 : (0 : Int) ≤ (K : Int) := by omega
      have hch := hatW _ hds.bel 0 (by simp)
      simp only [Nat.add_zero, List.getD_cons_zero] at hch
      clear HF
      by_cases hgo : ch ≠ 0 ∧ pre.length ≤ 4
      · obtain ⟨hc0, hp4⟩ := hgo
        have hchz : ((ch.toNat : Int) != 0) = true := by
          have : ch.toNat ≠ 0 := fun e => hc0 (UInt8.toNat_inj.1 (by rw [e]; rfl))
          simpa using this
        have hp4z : (pre.length : Int) ≤ 4 := by omega
        have hsb : ∀ W, Below w.heap.size w W → SB W (.slice (some ⟨bb, bo + K, none⟩) (N - K) (c - K)) (ch :: r) := fun W h => .inr ⟨bb, bo + K, c - K, by rw [List.length_cons, show N - K = r.length + 1 by omega], by simp, by rw [List.length_cons]; omega, by omega, hatr.below h⟩
        have k40 := fun W (h : Below w.heap.size w W) => read24 _ _ W (by rw [List.length_cons]; omega) (hsb W h) (hgb W h)
        have hKN : K ≤ N := by omega
        have hKc : K < c := by omega
        rcases rdV_inv (ch :: r) with hrv | ⟨x, hxo, hxi, hrv, hsplit⟩
        · have hno : NoRow L := noRow_stop HO.out HE.out fun vs' q hv _ _ e => by
            cases vs' with
            | nil => simp [flat] at e; exact hc0 e.1
            | cons y vs' =>
              have h1 : rdV (bytesT y ++ (flat vs' ++ 0 :: q)) = (y.1, y.2.1, bs y.2.2, (bytesT y).length, 0) := rdV_bytes (hv y (by simp)).1 (hv y (by simp)).2 _
              rw [← List.append_assoc, ← flat_cons, ← e, hrv] at h1
              simp at h1
          rw [hrv] at k40
          clear HE HO HK HN hrv hatr hatW hc0 hat hsb
          go_wp2_with (go_at_call 40; (refine (k40 _ hds.bel).mono ?_; clear k40; rintro e w5 ⟨rfl, hb5⟩; have hd5 := (hds.more hb5).more (al w5 (.cells #[.int .u8 0, .int .i64 0, .string (str [])] 46)); obtain ⟨s0, s1, s2, s3, s4, s5⟩ := hd5.res))
          have qq := Bx.set2 (Bx.set1 (Bx.set0 hd5.res (.slice none 0 0)) (.int .i64 0)) (.int .i64 0)
          exact bodyPost_ret (v := .tuple #[RV (.slice none 0 0) 0 0, .int .i64 3]) (by simp [results, Tryd.results22, go_sem, qq.c0, qq.c1, qq.c2]) rfl (.inr ⟨hno, rfl, set3 hd5.bel _ _ _⟩)
        · have hbl := bytesT_len hxo
          have hl2 : (bytesT x).length ≤ r.length + 1 := by have := congrArg List.length hsplit; rw [List.length_append, List.length_cons] at this; omega
          have HR : Hid (L = flat (pre ++ [x]) ++ (ch :: r).drop (bytesT x).length) := by
            show _ = _
            rw [flat_snoc, List.append_assoc, ← hsplit]; exact HE.out
          have HO2 : Hid (∀ y ∈ pre ++ [x], okV y = true ∧ inI64 y.2.1) := fun y hy => by
            rcases List.mem_append.1 hy with hy | hy
            · exact HO.out y hy
            · rw [List.mem_singleton.1 hy]; exact ⟨hxo, hxi⟩
          have HL2 : Hid ((flat (pre ++ [x])).length = K + (bytesT x).length) := by
            show _ = _
            rw [flat_snoc, List.length_append, HK.out]
          rw [hrv, str_bs] at k40
          clear HE HO HK HN hrv hatr hatW hc0 hat hsb hsplit hxo hxi
          obtain ⟨xk, xn, xs⟩ := x
          simp only at k40
          generalize (bytesT (xk, xn, xs)).length = M at *
          go_wp2_with (first
            | (go_at_call 40; (refine (k40 _ hds.bel).mono ?_; clear k40; rintro e w5 ⟨rfl, hb5⟩; have hd6 := ((hds.more hb5).more (al w5 (.cells #[.int .u8 xk, .int .i64 xn, .string xs] 46))).more (al _ (.cells #[.int .u8 xk, .int .i64 xn, .string xs] 46)); obtain ⟨s0, s1, s2, s3, s4, s5⟩ := ((hds.more hb5).more (al w5 (.cells #[.int .u8 xk, .int .i64 xn, .string xs] 46))).row; have hz6 := hd6.size))
            | (at_builtin; (refine push_val rfl (.tmp 40) (.tmp 42) rfl (w.heap.size + 2) _ _ (xk, xn, xs) rfl hd6.vals (w5.heap.size + 1) rfl ⟨by simp, by simp, by simp⟩ (by omega) hz6 ?_; intro u7 w7 hu7 hgrow; have hd7 := hd6.push hu7 hgrow; obtain ⟨ua7, uc7, rfl, _⟩ := sv_form hu7.sv; have hrow7 := hd6.row.block (hgrow.block _ (by omega) (fun e => by have := (World.ownsRow.lt hd6.vals _ e.symm).1; omega)); obtain ⟨p0, p1, p2, p3, p4, p5⟩ := hrow7)))
          go_roundw
          case rel => exact ⟨pre ++ [(xk, xn, xs)], _, _, by rw [HL2.out]; go_num, HR.out, HO2.out, by simp; omega, by have h := hd7; rw [show (pre ++ [(xk, xn, xs)]).length = pre.length + 1 by simp] at h; exact h⟩
          case measure => simp [Lib.intOf]; omega
      · by_cases hz : ch = 0
        · subst hz
          have hno4 : r.length ≠ 4 → NoRow L := fun h4 => noRow_stop HO.out HE.out fun vs' q hv _ hq e => by
            cases vs' with
            | nil => simp [flat] at e; rw [e] at h4; exact h4 hq
            | cons y vs' =>
              obtain ⟨c', r', hc', h0'⟩ := flat_begins (hv y (by simp)).1
              rw [flat_cons, hc'] at e
              simp at e
              rw [← e.1] at h0'
              simp at h0'
          by_cases h4 : r.length = 4
          · obtain ⟨c1, c2, c3, c4, rfl⟩ : ∃ c1 c2 c3 c4, r = [c1, c2, c3, c4] := by
              match r, h4 with
              | [c1, c2, c3, c4], _ => exact ⟨c1, c2, c3, c4, rfl⟩
            have h5 : (((N : Int) - (K : Int)) != 5) = false := by simp at hLN; simp; omega
            have h5' : (N : Int) - (K : Int) = 5 := by simp at hLN; omega
            have d1 := hatW _ hds.bel 1 (by simp)
            have d2 := hatW _ hds.bel 2 (by simp)
            have d3 := hatW _ hds.bel 3 (by simp)
            have d4 := hatW _ hds.bel 4 (by simp)
            simp only [List.getD_cons_succ, List.getD_cons_zero, Nat.add_assoc] at d1 d2 d3 d4
            have b1 := c1.toNat_lt
            have b2 := c2.toNat_lt
            have b3 := c3.toNat_lt
            have b4 := c4.toNat_lt
            have y1 : IntKind.i64.wrap (c1.toNat : Int) = c1.toNat := by simp [IntKind.wrap, IntKind.bits, IntKind.signed]; omega
            have y2 : IntKind.i64.wrap (c2.toNat : Int) = c2.toNat := by simp [IntKind.wrap, IntKind.bits, IntKind.signed]; omega
            have y3 : IntKind.i64.wrap (c3.toNat : Int) = c3.toNat := by simp [IntKind.wrap, IntKind.bits, IntKind.signed]; omega
            have y4 : IntKind.i64.wrap (c4.toNat : Int) = c4.toNat := by simp [IntKind.wrap, IntKind.bits, IntKind.signed]; omega
            have hF : (c1.toNat : Int) * 256 + (c2.toNat : Int) - 1000 = -1000 + 256 * (c1.toNat : Int) + (c2.toNat : Int) := by omega
            have hT : (c3.toNat : Int) * 256 + (c4.toNat : Int) - 1000 = -1000 + 256 * (c3.toNat : Int) + (c4.toNat : Int) := by omega
            have hd2 : DS w (.slice ua pre.length uc) pre (.int .i64 (-1000 + 256 * (c1.toNat : Int) + (c2.toNat : Int))) (.int .i64 (-1000 + 256 * (c3.toNat : Int) + (c4.toNat : Int))) (((wr.setCell ⟨w.heap.size + 1, 1, none⟩ (.int .i64 (-1000 + 256 * (c1.toNat : Int) + (c2.toNat : Int)))).setCell ⟨w.heap.size + 1, 2, none⟩ (.int .i64 (-1000 + 256 * (c3.toNat : Int) + (c4.toNat : Int)))).drew.drew) := ((hds.set1 _).set2 _).more ((Below.refl _ _).drew.drew)
            cases hfalse : rightRow pre ((c1.toNat : Int) * 256 + (c2.toNat : Int) - 1000) ((c3.toNat : Int) * 256 + (c4.toNat : Int) - 1000)
            · have hno : NoRow L := fun vs f t hr hi e => by
                obtain ⟨rfl, rfl, rfl⟩ := enc_four HO.out hr hi (HE.out.symm.trans e)
                rw [hfalse] at hr; cases hr
              rw [hF, hT] at hfalse
              have k20 := fun W (h : DS w (.slice ua pre.length uc) pre (.int .i64 (-1000 + 256 * (c1.toNat : Int) + (c2.toNat : Int))) (.int .i64 (-1000 + 256 * (c3.toNat : Int) + (c4.toNat : Int))) W) => encode20_no _ pre _ _ W h.vals.sv (by omega) (few_ok HO.out) hfalse (hgb W h.bel)
              clear HE HO HK HN hatr hatW hat hfalse hF hT hno4
              go_wp2_with fail
              go_region
              go_wp2_with fail
              go_region
              go_wp2_with (go_at_call 20; (refine (k20 _ hd2).mono ?_; rintro e w7 ⟨rfl, hb7⟩; have hd7 := hd2.more hb7; obtain ⟨q0, q1, q2, q3, q4, q5⟩ := hd7.res))
              have qq := Bx.set2 (Bx.set1 (Bx.set0 hd7.res (.slice none 0 0)) (.int .i64 0)) (.int .i64 0)
              exact bodyPost_ret (v := .tuple #[RV (.slice none 0 0) 0 0, .int .i64 3]) (by simp [results, Tryd.results22, go_sem, qq.c0, qq.c1, qq.c2]) rfl (.inr ⟨hno, rfl, set3 hd7.bel _ _ _⟩)
            · have heq : L = encR pre (-1000 + 256 * (c1.toNat : Int) + (c2.toNat : Int)) (-1000 + 256 * (c3.toNat : Int) + (c4.toNat : Int)) := by
                rw [← hF, ← hT, HE.out]
                unfold encR
                rw [two_two c1 c2, two_two c3 c4]
                simp
              rw [hF, hT] at hfalse
              have k20 := fun W (h : DS w (.slice ua pre.length uc) pre (.int .i64 (-1000 + 256 * (c1.toNat : Int) + (c2.toNat : Int))) (.int .i64 (-1000 + 256 * (c3.toNat : Int) + (c4.toNat : Int))) W) => encode20_yes _ pre _ _ W h.vals.sv (few_ok HO.out) hfalse (hgb W h.bel)
              rw [← heq] at k20
              have HQ : Hid (rightRow pre (-1000 + 256 * (c1.toNat : Int) + (c2.toNat : Int)) (-1000 + 256 * (c3.toNat : Int) + (c4.toNat : Int)) = true ∧ (∀ x ∈ pre, inI64 x.2.1) ∧ L = encR pre (-1000 + 256 * (c1.toNat : Int) + (c2.toNat : Int)) (-1000 + 256 * (c3.toNat : Int) + (c4.toNat : Int))) := ⟨hfalse, fun x hx => (HO.out x hx).2, heq⟩
              clear HE HO HK hatr hatW hfalse hF hT hno4 heq
              go_wp2_with fail
              go_region
              go_wp2_with fail
              go_region
              go_wp2_with (go_at_call 20; (refine (k20 _ hd2).mono ?_; rintro e w7 ⟨u7, rfl, hrow7, hb7⟩; have hd7 := hd2.more hb7; have cv1 := conv_own hrow7; have cv2 := conv_at (c := c) (hat.below (bmore hd2.bel hb7)); rw [HN.out] at cv2; obtain ⟨q0, q1, q2, q3, q4, q5⟩ := hd7.res; obtain ⟨m0, m1, m2, m3, m4, m5⟩ := hd7.row))
              have qq := Bx.set2 (Bx.set1 (Bx.set0 hd7.res (.slice ua pre.length uc)) (.int .i64 (-1000 + 256 * (c1.toNat : Int) + (c2.toNat : Int)))) (.int .i64 (-1000 + 256 * (c3.toNat : Int) + (c4.toNat : Int)))
              exact bodyPost_ret (v := .tuple #[RV (.slice ua pre.length uc) (-1000 + 256 * (c1.toNat : Int) + (c2.toNat : Int)) (-1000 + 256 * (c3.toNat : Int) + (c4.toNat : Int)), .int .i64 0]) (by simp [results, Tryd.results22, go_sem, qq.c0, qq.c1, qq.c2]) rfl (.inl ⟨pre, _, _, _, HQ.out.1, HQ.out.2.1, HQ.out.2.2, rfl, VRow.lower (B := w.heap.size + 2) (((hd7.vals.far (by omega) _).far (by omega) _).far (by omega) _) (by omega), set3 hd7.bel _ _ _⟩)
          · have hno := hno4 h4
            have h5 : (((N : Int) - (K : Int)) != 5) = true := by simp; omega
            clear HE HO HK HN hatr hatW hat hno4
            go_wp2_with fail
            have qq := Bx.set2 (Bx.set1 (Bx.set0 hds.res (.slice none 0 0)) (.int .i64 0)) (.int .i64 0)
            exact bodyPost_ret (v := .tuple #[RV (.slice none 0 0) 0 0, .int .i64 3]) (by simp [results, Tryd.results22, go_sem, qq.c0, qq.c1, qq.c2]) rfl (.inr ⟨hno, rfl, set3 hds.bel _ _ _⟩)
        · have hchz : ((ch.toNat : Int) != 0) = true := by
            have : ch.toNat ≠ 0 := fun e => hz (UInt8.toNat_inj.1 (by rw [e]; rfl))
            simpa using this
          have HP5 : Hid (pre.length = 5) := by
            show _ = _
            by_cases h : pre.length ≤ 4
            · exact absurd ⟨hz, h⟩ hgo
            · omega
          have hp4z : ¬ ((pre.length : Int) ≤ 4) := by have := HP5.out; omega
          have hno : NoRow L := noRow_stop HO.out HE.out fun vs' q hv h4 hq e => by have := HP5.out; omega
          by_cases h4 : r.length = 4
          · obtain ⟨c1, c2, c3, c4, rfl⟩ : ∃ c1 c2 c3 c4, r = [c1, c2, c3, c4] := by
              match r, h4 with
              | [c1, c2, c3, c4], _ => exact ⟨c1, c2, c3, c4, rfl⟩
            have h5 : (((N : Int) - (K : Int)) != 5) = false := by simp at hLN; simp; omega
            have h5' : (N : Int) - (K : Int) = 5 := by simp at hLN; omega
            have d1 := hatW _ hds.bel 1 (by simp)
            have d2 := hatW _ hds.bel 2 (by simp)
            have d3 := hatW _ hds.bel 3 (by simp)
            have d4 := hatW _ hds.bel 4 (by simp)
            simp only [List.getD_cons_succ, List.getD_cons_zero, Nat.add_assoc] at d1 d2 d3 d4
            have b1 := c1.toNat_lt
            have b2 := c2.toNat_lt
            have b3 := c3.toNat_lt
            have b4 := c4.toNat_lt
            have y1 : IntKind.i64.wrap (c1.toNat : Int) = c1.toNat := by simp [IntKind.wrap, IntKind.bits, IntKind.signed]; omega
            have y2 : IntKind.i64.wrap (c2.toNat : Int) = c2.toNat := by simp [IntKind.wrap, IntKind.bits, IntKind.signed]; omega
            have y3 : IntKind.i64.wrap (c3.toNat : Int) = c3.toNat := by simp [IntKind.wrap, IntKind.bits, IntKind.signed]; omega
            have y4 : IntKind.i64.wrap (c4.toNat : Int) = c4.toNat := by simp [IntKind.wrap, IntKind.bits, IntKind.signed]; omega
            have hF : (c1.toNat : Int) * 256 + (c2.toNat : Int) - 1000 = -1000 + 256 * (c1.toNat : Int) + (c2.toNat : Int) := by omega
            have hT : (c3.toNat : Int) * 256 + (c4.toNat : Int) - 1000 = -1000 + 256 * (c3.toNat : Int) + (c4.toNat : Int) := by omega
            have hd2 : DS w (.slice ua pre.length uc) pre (.int .i64 (-1000 + 256 * (c1.toNat : Int) + (c2.toNat : Int))) (.int .i64 (-1000 + 256 * (c3.toNat : Int) + (c4.toNat : Int))) (((wr.setCell ⟨w.heap.size + 1, 1, none⟩ (.int .i64 (-1000 + 256 * (c1.toNat : Int) + (c2.toNat : Int)))).setCell ⟨w.heap.size + 1, 2, none⟩ (.int .i64 (-1000 + 256 * (c3.toNat : Int) + (c4.toNat : Int)))).drew.drew) := ((hds.set1 _).set2 _).more ((Below.refl _ _).drew.drew)
            have hfalse : rightRow pre ((c1.toNat : Int) * 256 + (c2.toNat : Int) - 1000) ((c3.toNat : Int) * 256 + (c4.toNat : Int) - 1000) = false := by simp [rightRow, HP5.out]
            rw [hF, hT] at hfalse
            have k20 := fun W (h : DS w (.slice ua pre.length uc) pre (.int .i64 (-1000 + 256 * (c1.toNat : Int) + (c2.toNat : Int))) (.int .i64 (-1000 + 256 * (c3.toNat : Int) + (c4.toNat : Int))) W) => encode20_no _ pre _ _ W h.vals.sv (by omega) (few_ok HO.out) hfalse (hgb W h.bel)
            clear HE HO HK HN hatr hatW hat hfalse hF hT
            go_wp2_with fail
            go_region
            go_wp2_with fail
            go_region
            go_wp2_with (go_at_call 20; (refine (k20 _ hd2).mono ?_; rintro e w7 ⟨rfl, hb7⟩; have hd7 := hd2.more hb7; obtain ⟨q0, q1, q2, q3, q4, q5⟩ := hd7.res))
            have qq := Bx.set2 (Bx.set1 (Bx.set0 hd7.res (.slice none 0 0)) (.int .i64 0)) (.int .i64 0)
            exact bodyPost_ret (v := .tuple #[RV (.slice none 0 0) 0 0, .int .i64 3]) (by simp [results, Tryd.results22, go_sem, qq.c0, qq.c1, qq.c2]) rfl (.inr ⟨hno, rfl, set3 hd7.bel _ _ _⟩)
          · have h5 : (((N : Int) - (K : Int)) != 5) = true := by simp; omega
            clear HE HO HK HN hatr hatW hat
            go_wp2_with fail
            have qq := Bx.set2 (Bx.set1 (Bx.set0 hds.res (.slice none 0 0)) (.int .i64 0)) (.int .i64 0)
            exact bodyPost_ret (v := .tuple #[RV (.slice none 0 0) 0 0, .int .i64 3]) (by simp [results, Tryd.results22, go_sem, qq.c0, qq.c1, qq.c2]) rfl (.inr ⟨hno, rfl, set3 hds.bel _ _ _⟩)

end Go.Proofs.YtolggmmlaohpdabDoor
