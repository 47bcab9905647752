/- codec.Decode of bytes that are no row's. -/
import Derived.Test.YtolggmmlaohpdabDoorGup
import Derived.Test.YtolggmmlaohpdabDoorLivec
namespace Go.Proofs.YtolggmmlaohpdabDoor
open Go.RowKit Go.Lib
set_option maxRecDepth 100000

set_option maxHeartbeats 1000000 in
theorem values61_big (R b : Nat) (vs : List Vt) (p : Bs) (w0 w : World) (hR : b ≠ R) (hb : b < w.heap.size) (hRz : R < w.heap.size) (hok : ∀ x ∈ vs, okV x = true ∧ inI64 x.2.1) (hn : vs.length ≤ 990000) (hlen : (flat vs ++ 0 :: p).length ≤ 140737488355328) (hg : Good w0) (hw0 : Below w0.heap.size w0 w) (h0R : w0.heap.size ≤ R) (h : RD R b (flat vs ++ 0 :: p) w) :
    Calls Tryd.prog 61 #[.pointer (some ⟨R, 0, none⟩)] w fun e w' => ∃ u, e = .returned u ∧ VRow w.heap.size u vs w' ∧ RD R b p w' ∧ But R w w' := by
  have hgood : ∀ W, But R w W → Good W := fun W hW => hg.below (hw0.trans (hW.below h0R (by omega)))
  have HL : Hid ((flat vs ++ 0 :: p).length ≤ 140737488355328) := hlen
  have HO : Hid (∀ x ∈ vs, okV x = true ∧ inI64 x.2.1) := hok
  clear hlen hok hg hw0 h0R
  go_enter Tryd.func61, Tryd.ntmps61
  go_wp2_with fail
  go_loopw [3] (fun u wr => ∃ k : Nat, k ≤ vs.length ∧ VRow w.heap.size u (vs.take k) wr ∧ RD R b (flat (vs.drop k) ++ 0 :: p) wr ∧ But R w wr) (fun u _ => vs.length - lenOf u)
  case atStart => exact ⟨0, by omega, VRow.nil _ _, h, But.refl _ _⟩
  case round =>
    obtain ⟨k, hk, hu, hrd, hbut⟩ := hrel
    have hgw := hgood _ hbut
    have hsz := hbut.size
    by_cases hlt : k < vs.length
    · obtain ⟨x, hx⟩ : ∃ x, vs[k]? = some x := ⟨_, List.getElem?_eq_getElem hlt⟩
      have hk' := (List.getElem?_eq_some_iff.1 hx)
      have hd : vs.drop k = x :: vs.drop (k + 1) := by rw [List.drop_eq_getElem_cons hk'.1, hk'.2]
      have HT : Hid (vs.take (k + 1) = vs.take k ++ [x]) := by
        show _ = _
        rw [List.take_succ_eq_append_getElem hk'.1, hk'.2]
      obtain ⟨hxo, hxi⟩ := HO.out x (List.mem_of_getElem? hx)
      have hll : (bytesT x ++ (flat (vs.drop (k + 1)) ++ 0 :: p)).length ≤ 140737488355328 := by
        have h1 := HL.out
        have h2 : flat vs = flat (vs.take k) ++ flat (vs.drop k) := by unfold flat; rw [← List.flatMap_append, List.take_append_drop]
        rw [h2, hd, flat_cons] at h1
        simp at h1 ⊢
        omega
      rw [hd, flat_cons, List.append_assoc] at hrd
      have c68 := value68 R b x _ wr hR hxo hxi hll hgw hrd
      obtain ⟨ch, r, hcr, hch⟩ := flat_begins hxo
      rw [hcr, List.cons_append] at hrd
      have c67 := peek67 R b ch _ wr hrd
      have hchz : ((ch.toNat : Int) != 0) = true := by simpa using hch
      have hlu := hu.len
      rw [List.length_take] at hlu
      clear hcr hd hx hll hrd HL HO hch hk'
      obtain ⟨xk, xn, xs⟩ := x
      simp only at c68
      go_wp2_with (first
        | (go_at_call 67; (refine c67.mono ?_; rintro e w1 ⟨rfl, rfl⟩; clear c67))
        | (go_at_call 68; (refine c68.mono ?_; rintro e w2 ⟨rfl, hrd2, hbut2⟩; have hz2 := Nat.le_trans hsz hbut2.size; have hu2 := (hu.but hbut2 hRz).below (al w2 (.cells #[.int .u8 xk, .int .i64 xn, .string xs] 46))))
        | (at_builtin; (refine push_val rfl (.tmp 7) (.tmp 10) rfl w.heap.size _ _ (xk, xn, xs) rfl hu2 w2.heap.size rfl ⟨by simp, by simp, by simp⟩ (by rw [List.length_take]; omega) (by simp; omega) ?_; intro u3 w3 hu3 hgrow; have hrd3 := (hrd2.below (al w2 (.cells #[.int .u8 xk, .int .i64 xn, .string xs] 46))).grown hu2 hgrow hRz hb (by simp; omega); have hbut3 := ((hbut.trans hbut2).trans (But.of (al w2 (.cells #[.int .u8 xk, .int .i64 xn, .string xs] 46)))).grown hu2 hgrow)))
      go_roundw
      case rel => exact ⟨k + 1, by omega, by rw [HT.out]; exact hu3, hrd3, hbut3⟩
      case measure => have := hu3.len; simp at this; omega
    · have hkk : k = vs.length := by omega
      subst hkk
      rw [List.take_length] at hu
      rw [List.drop_length] at hrd
      have c67 := peek67 R b 0 p wr hrd
      have c69 := next69 R b 0 p wr hR hrd
      clear HL HO
      go_wp2_with (first
        | (go_at_call 67; (refine c67.mono ?_; rintro e w1 ⟨rfl, rfl⟩))
        | (go_at_call 69; (refine c69.mono ?_; rintro e w2 ⟨rfl, hrd2, hbut2⟩)))
      go_ret
      exact ⟨_, rfl, hu.but hbut2 hRz, hrd2, hbut.trans hbut2⟩


theorem noVals_of {L : Bs} (h : ¬ ∃ vs p, (∀ x ∈ vs, okV x = true ∧ inI64 x.2.1) ∧ L = flat vs ++ 0 :: p) : NoVals L := fun vs p hv e => h ⟨vs, p, hv, e⟩

theorem few_ok {vs : List Vt} (hok : ∀ x ∈ vs, okV x = true ∧ inI64 x.2.1) : Few vs := fun x hx => ⟨(hok x hx).2, by
  have h1 := bytesT_len (hok x hx).1
  rcases rightV_cases (hok x hx).1 with ⟨_, h⟩ | ⟨e, _, _⟩
  · have : x.2.2.size = 0 := by rw [← bs_length, h]; rfl
    omega
  · unfold bytesT at h1
    rw [e, bytesV_text] at h1
    simp only [List.length_cons, List.length_append, List.length_nil, bs_length] at h1
    omega⟩

theorem rowRight_big (v : Value) (vs : List Vt) (f t : Int) (w : World) (hsv : SV w v vs) (hz : vs.length ≤ 990000) (hok : ∀ x ∈ vs, okV x = true ∧ inI64 x.2.1) (hg : Good w) :
    Calls Tryd.prog 11 #[RV v f t] w fun e w' => e = .returned (.bool (rightRow vs f t)) ∧ Below w.heap.size w w' :=
  rowRight v vs f t w hsv (by omega) (few_ok hok) hg

set_option maxHeartbeats 1000000 in
theorem row52_no (R b : Nat) (L : Bs) (w0 w : World) (hR : b ≠ R) (hb : b < w.heap.size) (hRz : R < w.heap.size) (hno : NoRow L) (hlen : L.length ≤ 1900000) (hg : Good w0) (hw0 : Below w0.heap.size w0 w) (h0R : w0.heap.size ≤ R) (h : RD R b L w) :
    Calls Tryd.prog 52 #[.pointer (some ⟨R, 0, none⟩)] w fun e w' => e = .panicked GU ∧ But R w w' := by
  have hst : ∀ o1 o2 w1, But R ((w.alloc o1).alloc o2) w1 → But R w w1 := fun o1 o2 w1 h => (But.of (bmore (al w o1) (al _ o2))).trans h
  by_cases hV : ∃ vs p, (∀ x ∈ vs, okV x = true ∧ inI64 x.2.1) ∧ L = flat vs ++ 0 :: p
  · obtain ⟨vs, p, hok, rfl⟩ := hV
    have hge := flat_ge vs fun x hx => (hok x hx).1
    have hll : (flat vs ++ 0 :: p).length ≤ 140737488355328 := by omega
    have hvn : vs.length ≤ 990000 := by rw [List.length_append] at hlen; omega
    have c61 := fun o1 o2 => values61_big R b vs p w0 ((w.alloc o1).alloc o2) hR (by simp; omega) (by simp; omega) hok hvn hll hg (bmore (bmore hw0 (al w o1)) (al _ o2)) h0R (h.below (bmore (al w o1) (al _ o2)))
    have hgood : ∀ W, But R w W → Good W := fun W hW => hg.below (hw0.trans (hW.below h0R (by omega)))
    have q0 : ∀ w1 u, VRow (w.heap.size + 2) u vs w1 → But R ((w.alloc (.cells #[.slice none 0 0, .int .i64 0, .int .i64 0] 26)).alloc (.cells #[.slice none 0 0, .int .i64 0, .int .i64 0] 26)) w1 → RD R b p w1 →
        RS w R b (.slice none 0 0) (.int .i64 0) (.int .i64 0) u vs p w1 := fun w1 u hu hbut hrd =>
      ⟨Bx.block (W := (w.alloc (.cells #[.slice none 0 0, .int .i64 0, .int .i64 0] 26)).alloc (.cells #[.slice none 0 0, .int .i64 0, .int .i64 0] 26)) ⟨by simp, by simp, by simp, by simp, by simp, by simp⟩ (hbut.block _ (by simp; omega) (by omega)),
        Bx.block (W := (w.alloc (.cells #[.slice none 0 0, .int .i64 0, .int .i64 0] 26)).alloc (.cells #[.slice none 0 0, .int .i64 0, .int .i64 0] 26)) ⟨by simp, by simp, by simp, by simp, by simp, by simp⟩ (hbut.block _ (by simp) (by omega)), hrd, hu, hst _ _ _ hbut⟩
    by_cases hp2 : p.length < 2
    · have c62 := fun W h => point62_no R b p W hp2 hR h
      clear hno hlen hg hw0 h0R h hll hok hgood
      go_enter Tryd.func52, Tryd.ntmps52
      go_wp2_with (first
        | (go_at_call 61; (refine (c61 _ _).mono ?_; rintro e w1 ⟨u, rfl, hu, hrd1, hbut1⟩; obtain ⟨ua, uc, rfl, _⟩ := sv_form hu.sv; have q1 := q0 w1 _ (by simpa using hu) hbut1 hrd1; have q1' := q1.set0 hRz hb (.slice ua vs.length uc); obtain ⟨a0, a1, a2, a3, a4, a5⟩ := q1.row))
        | (go_at_call 62; (refine (c62 _ q1'.rd).mono ?_; rintro e w2 ⟨rfl, hbut2⟩)))
      exact ⟨rfl, rfl, q1'.but.trans hbut2⟩
    · match p, hp2 with
      | [], hp2 => simp at hp2
      | [_], hp2 => simp at hp2
      | x :: y :: p', _ =>
        have c62 := fun W h => point62 R b x y p' W hR h
        generalize hF : (x.toNat : Int) * 256 + (y.toNat : Int) - 1000 = F at *
        by_cases hp4 : p'.length < 2
        · have d62 := fun W h => point62_no R b p' W hp4 hR h
          clear hno hlen hg hw0 h0R h hll hok hgood hF hp2
          go_enter Tryd.func52, Tryd.ntmps52
          go_wp2_with (first
            | (go_at_call 61; (refine (c61 _ _).mono ?_; rintro e w1 ⟨u, rfl, hu, hrd1, hbut1⟩; obtain ⟨ua, uc, rfl, _⟩ := sv_form hu.sv; have q1 := q0 w1 _ (by simpa using hu) hbut1 hrd1; have q1' := q1.set0 hRz hb (.slice ua vs.length uc); obtain ⟨a0, a1, a2, a3, a4, a5⟩ := q1.row))
            | (go_at_call 62; (refine (c62 _ q1'.rd).mono ?_; clear c62; rintro e w2 ⟨rfl, hrd2, hbut2⟩; have q2 := q1'.next hRz hbut2 hrd2; have q2' := q2.set1 hRz hb (.int .i64 F); obtain ⟨b0, b1, b2, b3, b4, b5⟩ := q2.row))
            | (go_at_call 62; (refine (d62 _ q2'.rd).mono ?_; rintro e w3 ⟨rfl, hbut3⟩)))
          exact ⟨rfl, rfl, q2'.but.trans hbut3⟩
        · match p', hp4 with
          | [], hp4 => simp at hp4
          | [_], hp4 => simp at hp4
          | x' :: y' :: q, _ =>
            have d62 := fun W h => point62 R b x' y' q W hR h
            generalize hT : (x'.toNat : Int) * 256 + (y'.toNat : Int) - 1000 = T at *
            have c11 := fun u W (hu : SV W u vs) (hG : Good W) => rowRight_big u vs F T W hu hvn hok hG
            by_cases hq : q = []
            · subst hq
              have hfalse : rightRow vs F T = false := by rw [← hF, ← hT]; exact noRow_four hok hno
              rw [hfalse] at c11
              clear hno hlen hg hw0 h0R h hll hok hF hT hp2 hp4 hfalse
              go_enter Tryd.func52, Tryd.ntmps52
              go_wp2_with (first
                | (go_at_call 61; (refine (c61 _ _).mono ?_; rintro e w1 ⟨u, rfl, hu, hrd1, hbut1⟩; obtain ⟨ua, uc, rfl, _⟩ := sv_form hu.sv; have q1 := q0 w1 _ (by simpa using hu) hbut1 hrd1; have q1' := q1.set0 hRz hb (.slice ua vs.length uc); obtain ⟨a0, a1, a2, a3, a4, a5⟩ := q1.row))
                | (go_at_call 62; (refine (c62 _ q1'.rd).mono ?_; clear c62; rintro e w2 ⟨rfl, hrd2, hbut2⟩; have q2 := q1'.next hRz hbut2 hrd2; have q2' := q2.set1 hRz hb (.int .i64 F); obtain ⟨b0, b1, b2, b3, b4, b5⟩ := q2.row))
                | (go_at_call 62; (refine (d62 _ q2'.rd).mono ?_; rintro e w3 ⟨rfl, hrd3, hbut3⟩; have q3 := q2'.next hRz hbut3 hrd3; have q3' := q3.set2 hRz hb (.int .i64 T); obtain ⟨k0, k1, k2, k3, k4, k5⟩ := q3.row; obtain ⟨m0, m1, m2, m3, m4, m5⟩ := q3'.row; obtain ⟨ra, rc, r0, _⟩ := q3'.rd; simp only [List.length_nil] at r0))
                | (go_at_call 11; (refine (c11 _ _ q3'.vals.sv (hgood _ q3'.but)).mono ?_; rintro e w4 ⟨rfl, hb4⟩)))
              exact ⟨rfl, rfl, q3'.but.trans (But.of hb4)⟩
            · have hq0 : (0 : Int) < (q.length : Int) := by have := List.length_pos_iff.2 hq; omega
              clear hno hlen hg hw0 h0R h hll hok hF hT hp2 hp4 c11 hq
              generalize hQ : q.length = Q at *
              go_enter Tryd.func52, Tryd.ntmps52
              go_wp2_with (first
                | (go_at_call 61; (refine (c61 _ _).mono ?_; rintro e w1 ⟨u, rfl, hu, hrd1, hbut1⟩; obtain ⟨ua, uc, rfl, _⟩ := sv_form hu.sv; have q1 := q0 w1 _ (by simpa using hu) hbut1 hrd1; have q1' := q1.set0 hRz hb (.slice ua vs.length uc); obtain ⟨a0, a1, a2, a3, a4, a5⟩ := q1.row))
                | (go_at_call 62; (refine (c62 _ q1'.rd).mono ?_; clear c62; rintro e w2 ⟨rfl, hrd2, hbut2⟩; have q2 := q1'.next hRz hbut2 hrd2; have q2' := q2.set1 hRz hb (.int .i64 F); obtain ⟨b0, b1, b2, b3, b4, b5⟩ := q2.row))
                | (go_at_call 62; (refine (d62 _ q2'.rd).mono ?_; rintro e w3 ⟨rfl, hrd3, hbut3⟩; have q3 := q2'.next hRz hbut3 hrd3; have q3' := q3.set2 hRz hb (.int .i64 T); obtain ⟨k0, k1, k2, k3, k4, k5⟩ := q3.row; obtain ⟨m0, m1, m2, m3, m4, m5⟩ := q3'.row; obtain ⟨ra, rc, r0, _⟩ := q3'.rd; rw [hQ] at r0)))
              exact ⟨rfl, rfl, q3'.but⟩
  · have c61 := fun o1 o2 => values61_no R b L w0 ((w.alloc o1).alloc o2) hR (by simp; omega) (by simp; omega) (noVals_of hV) hlen hg (bmore (bmore hw0 (al w o1)) (al _ o2)) h0R (h.below (bmore (al w o1) (al _ o2)))
    clear hno hlen hg hw0 h0R h hV
    go_enter Tryd.func52, Tryd.ntmps52
    go_wp2_with (go_at_call 61; (refine (c61 _ _).mono ?_; rintro e w1 ⟨rfl, hbut1⟩))
    exact ⟨rfl, rfl, hst _ _ _ hbut1⟩

end Go.Proofs.YtolggmmlaohpdabDoor
