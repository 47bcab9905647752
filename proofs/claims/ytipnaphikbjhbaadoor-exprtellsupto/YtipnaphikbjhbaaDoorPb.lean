/- A condition, read: two within brackets. · A condition, read: a comparison. · A condition, read: a comparison. · A condition, read. · The document's Where. -/
import Derived.Test.YtipnaphikbjhbaaDoorPa
/-! ### A condition, read: two within brackets. -/
namespace Go.Proofs.YtipnaphikbjhbaaDoor
open Go.RowKit
set_option maxRecDepth 100000
variable {w0 w w' w1 w2 : World} {p c g cc B : Nat} {a : Option Addr} {L : List Tk} {s s' : Ps} {cs : List Cd}
theorem hit_kind {k : Nat} {t : Bs} (h : (lkP L g s).k ≠ k) : hitP L g k t s = false := by
  simp [hitP, h]
theorem CS.is_yes (h : CS w0 w p a c L g s cc B cs) {k : Nat} {t : Bs} {q : ByteArray} (hq : str t = q) (hk : k ≠ 0) (hh : hitP L g k t s = true) : Calls Tryd.prog 47 #[.pointer (some ⟨p, 0, none⟩), .int .u8 (k : Int), .string q] w fun e w' => e = .returned (.bool true) ∧ CL w0 w p a c L g s.up cc B cs w' := (is47_yes h.pt hq hk hh).mono (by
  rintro e w' ⟨rfl, hd⟩
  exact ⟨rfl, h.pd hd⟩)
theorem CS.is_no (h : CS w0 w p a c L g s cc B cs) {k : Nat} {t : Bs} {q : ByteArray} (hq : str t = q) (hh : hitP L g k t s = false) : Calls Tryd.prog 47 #[.pointer (some ⟨p, 0, none⟩), .int .u8 (k : Int), .string q] w fun e w' => e = .returned (.bool false) ∧ CL w0 w p a c L g s cc B cs w' := (is47_no h.pt hq hh).mono (by
  rintro e w' ⟨rfl, k⟩
  exact ⟨rfl, h.same k⟩)
theorem CS.must (h : CS w0 w p a c L g s cc B cs) {k : Nat} {t : Bs} {q : ByteArray} (hq : str t = q) (hk : k ≠ 0) : Calls Tryd.prog 49 #[.pointer (some ⟨p, 0, none⟩), .int .u8 (k : Int), .string q] w fun e w' => e = .returned (.tuple #[]) ∧ CL w0 w p a c L g (musP L g k t s) cc B cs w' := (must49 h.pt hq hk).mono (by
  rintro e w' ⟨rfl, hd⟩
  exact ⟨rfl, h.pd hd⟩)
set_option maxHeartbeats 4000000 in
theorem cond_par (h : CS w0 w p a c L g s cc B cs) (f : Nat) (lv : Int) (hlv : 0 ≤ lv ∧ lv ≤ 6) (hh : hitP L g 4 [40] s = true) (hfew : cs.length + 2 ^ (f + 1) ≤ 90000) (ih : IHc w0 p a c L g cc B f (lv + 1)) :
    Calls Tryd.prog 31 #[.pointer (some ⟨p, 0, none⟩), .pointer (some ⟨cc, 0, none⟩), .int .i64 lv] w (CPost w0 p a c L g cc B (f + 1) s cs w) := by
  obtain ⟨he, hk⟩ := hitk hh
  have hno : hitP L g 1 [110, 111, 116] s = false := hit_kind (by omega)
  have hp2 : 2 ^ (f + 1) = 2 * 2 ^ f := by rw [Nat.pow_succ, Nat.mul_comm]
  have hlen := condP_len (L := L) (g := g) f s.up cs
  obtain ⟨R, hR⟩ : ∃ R, condP L g f s.up cs = R := ⟨_, rfl⟩
  obtain ⟨r, s1, c1⟩ := R
  obtain ⟨s2, hs2⟩ : ∃ s2, (if hitP L g 1 [97, 110, 100] s1 = true then s1.up else musP L g 1 [111, 114] s1) = s2 := ⟨_, rfl⟩
  have hlen2 := condP_len (L := L) (g := g) f s2 c1
  obtain ⟨R2, hR2⟩ : ∃ R2, condP L g f s2 c1 = R2 := ⟨_, rfl⟩
  obtain ⟨q, s3, c2⟩ := R2
  have hcond : condP L g (f + 1) s cs = (c2.length, musP L g 4 [41] s3, c2 ++ [⟨if hitP L g 1 [97, 110, 100] s1 = true then 2 else 3, [], 0, 0, 0, [], [(r : Int), (q : Int)]⟩]) := by
    rw [condP, if_neg (by rw [he, hk]; simp), if_neg (by rw [hno]; simp), if_pos hh]
    simp only [hR, hs2, hR2]
  rw [hR] at hlen
  rw [hR2] at hlen2
  simp only at hlen hlen2
  have k44 := look44 h.pt
  have HC : Hid (∀ W, Below w.heap.size w W → W.cell? ⟨p, 3, none⟩ = some (.int .i64 0)) := fun W k => by
    have := (h.pt.below k).cells.2.1
    rw [he] at this
    exact this
  have HA : Hid (∀ W, Below w.heap.size w W → Calls Tryd.prog 47 #[.pointer (some ⟨p, 0, none⟩), .int .u8 1, .string ⟨#[110, 111, 116]⟩] W fun e w' => e = .returned (.bool false) ∧ CL w0 W p a c L g s cc B cs w') := fun W k => (h.below' k).is_no (k := 1) (t := [110, 111, 116]) rfl hno
  have HB : Hid (∀ W, CS w0 W p a c L g s cc B cs → Calls Tryd.prog 47 #[.pointer (some ⟨p, 0, none⟩), .int .u8 4, .string ⟨#[40]⟩] W fun e w' => e = .returned (.bool true) ∧ CL w0 W p a c L g s.up cc B cs w') := fun W k => k.is_yes (k := 4) (t := [40]) rfl (by decide) hh
  have HD : Hid (∀ W, CS w0 W p a c L g s.up cc B cs → Calls Tryd.prog 31 #[.pointer (some ⟨p, 0, none⟩), .pointer (some ⟨cc, 0, none⟩), .int .i64 (lv + 1)] W fun e w' => e = .returned (.int .i64 (r : Int)) ∧ CL w0 W p a c L g s1 cc B c1 w') := fun W hW => by
    have := ih W s.up cs hW (by omega)
    unfold CPost at this
    rw [hR] at this
    exact this
  have HE : Hid (∀ W, CS w0 W p a c L g s2 cc B c1 → Calls Tryd.prog 31 #[.pointer (some ⟨p, 0, none⟩), .pointer (some ⟨cc, 0, none⟩), .int .i64 (lv + 1)] W fun e w' => e = .returned (.int .i64 (q : Int)) ∧ CL w0 W p a c L g s3 cc B c2 w') := fun W hW => by
    have := ih W s2 c1 hW (by omega)
    unfold CPost at this
    rw [hR2] at this
    exact this
  have HF : Hid (∀ W, CS w0 W p a c L g s3 cc B c2 → Calls Tryd.prog 49 #[.pointer (some ⟨p, 0, none⟩), .int .u8 4, .string ⟨#[41]⟩] W fun e w' => e = .returned (.tuple #[]) ∧ CL w0 W p a c L g (musP L g 4 [41] s3) cc B c2 w') := fun W hW => hW.must (k := 4) (t := [41]) rfl (by decide)
  have HL : Hid (c2.length ≤ 99000) := by show _ ≤ _; omega
  obtain ⟨x, hx⟩ : ∃ x, lkP L g s = x := ⟨_, rfl⟩
  rw [hx] at k44 hk
  obtain ⟨xk, xt, xn, xa⟩ := x
  simp only at hk k44
  obtain ⟨m1, m2, m3, m4, m5⟩ := nz_facts (x := xk) (by omega)
  have hl1 : ¬ (6 : Int) < lv := by omega
  have hw1 : IntKind.i64.wrap (lv + 1) = lv + 1 := wrap_small _ (by omega) (by omega)
  have HCP : Hid (∀ (W : World) (e : Ending), e = .returned (.int .i64 (c2.length : Int)) → CL w0 w p a c L g (musP L g 4 [41] s3) cc B (c2 ++ [⟨if hitP L g 1 [97, 110, 100] s1 = true then 2 else 3, [], 0, 0, 0, [], [(r : Int), (q : Int)]⟩]) W → CPost w0 p a c L g cc B (f + 1) s cs w e W) := fun W e he hW => by
    unfold CPost
    rw [hcond]
    exact ⟨he, hW⟩
  generalize musP L g 4 [41] s3 = s4 at *
  cases han : hitP L g 1 [97, 110, 100] s1
  · rw [han] at HCP hs2
    simp only [Bool.false_eq_true, if_false] at HCP hs2
    have HG : Hid (∀ W, CS w0 W p a c L g s1 cc B c1 → Calls Tryd.prog 47 #[.pointer (some ⟨p, 0, none⟩), .int .u8 1, .string ⟨#[97, 110, 100]⟩] W fun e w' => e = .returned (.bool false) ∧ CL w0 W p a c L g s1 cc B c1 w') := fun W hW => hW.is_no (k := 1) (t := [97, 110, 100]) rfl han
    have HO : Hid (∀ W, CS w0 W p a c L g s1 cc B c1 → Calls Tryd.prog 49 #[.pointer (some ⟨p, 0, none⟩), .int .u8 1, .string ⟨#[111, 114]⟩] W fun e w' => e = .returned (.tuple #[]) ∧ CL w0 W p a c L g s2 cc B c1 w') := fun W hW => by rw [← hs2]; exact hW.must (k := 1) (t := [111, 114]) rfl (by decide)
    clear h hh hx he hk hlen hlen2 hcond ih hp2 hfew hno hR hR2 hs2 han
    go_enter Tryd.func31, Tryd.ntmps31
    go_wp2_with (first
      | (go_at_call 48; (refine Calls.mono k48 ?_; rintro e w8 ⟨rfl, h8⟩; have H8 : Hid (CL w0 w p a c L g s4 cc B (c2 ++ [⟨3, [], 0, 0, 0, [], [(r : Int), (q : Int)]⟩]) w8) := (HC7.out.more (T.al _ _)).and h8; clear h8))
      | (go_at_call 49; (refine k49.mono ?_; rintro e w7 ⟨rfl, h7⟩; have HC7 : Hid (CL w0 w p a c L g s4 cc B c2 w7) := HC6.out.and h7; have k48 : Calls Tryd.prog 48 #[.pointer (some ⟨cc, 0, none⟩), .agg #[.int .u8 3, .string ⟨#[]⟩, .int .u8 0, .int .u8 0, .int .i64 0, .string ⟨#[]⟩, .slice (some ⟨w7.heap.size, 0, none⟩) 2 2]] (w7.alloc (.cells #[.int .i64 (r : Int), .int .i64 (q : Int)] 3)) _ := (h7.st.below' (T.al w7 (.cells #[.int .i64 (r : Int), .int .i64 (q : Int)] 3))).add ⟨3, [], 0, 0, 0, [], [(r : Int), (q : Int)]⟩ (some ⟨w7.heap.size, 0, none⟩, 2, 2) (kv_two w7 (r : Int) (q : Int)) HL.out; clear h7 k49))
      | (go_at_call 31; (refine k31b.mono ?_; rintro e w6 ⟨rfl, h6⟩; have k49 := HF.out w6 h6.st; have HC6 : Hid (CL w0 w p a c L g s3 cc B c2 w6) := HC5.out.and h6; clear h6 k31b))
      | (go_at_call 49; (refine k49o.mono ?_; rintro e w5 ⟨rfl, h5⟩; have k31b := HE.out w5 h5.st; have HC5 : Hid (CL w0 w p a c L g s2 cc B c1 w5) := HC45.out.and h5; clear h5 k49o))
      | (go_at_call 47; (refine k47c.mono ?_; rintro e w45 ⟨rfl, h45⟩; have k49o := HO.out w45 h45.st; have HC45 : Hid (CL w0 w p a c L g s1 cc B c1 w45) := HC4.out.and h45; clear h45 k47c))
      | (go_at_call 31; (refine k31a.mono ?_; rintro e w4 ⟨rfl, h4⟩; have k47c := HG.out w4 h4.st; have HC4 : Hid (CL w0 w p a c L g s1 cc B c1 w4) := HC3.out.and h4; clear h4 k31a))
      | (go_at_call 47; (refine k47b.mono ?_; rintro e w3 ⟨rfl, h3⟩; have k31a := HD.out w3 h3.st; have HC3 : Hid (CL w0 w p a c L g s.up cc B cs w3) := HC2.out.and h3; clear h3 k47b))
      | (go_at_call 47; (refine k47a.mono ?_; rintro e w2 ⟨rfl, h2⟩; have k47b := HB.out w2 h2.st; have HC2 : Hid (CL w0 w p a c L g s cc B cs w2) := CL.pre HBB.out h2; clear h2 k47a))
      | (go_at_call 44; (refine k44.mono ?_; rintro e w1 ⟨rfl, B1⟩; have bb := T.bal B1 (tok4 xk xt xn xa); have c3 := HC.out _ bb; have k47a := HA.out _ bb; have HBB : Hid (Below w.heap.size w (w1.alloc (tok4 xk xt xn xa))) := bb; clear bb)))
    go_ret
    exact HCP.out _ _ rfl H8.out
  · rw [han] at HCP hs2
    simp only [if_true] at HCP hs2
    have HG : Hid (∀ W, CS w0 W p a c L g s1 cc B c1 → Calls Tryd.prog 47 #[.pointer (some ⟨p, 0, none⟩), .int .u8 1, .string ⟨#[97, 110, 100]⟩] W fun e w' => e = .returned (.bool true) ∧ CL w0 W p a c L g s2 cc B c1 w') := fun W hW => by rw [← hs2]; exact hW.is_yes (k := 1) (t := [97, 110, 100]) rfl (by decide) han
    clear h hh hx he hk hlen hlen2 hcond ih hp2 hfew hno hR hR2 hs2 han
    go_enter Tryd.func31, Tryd.ntmps31
    go_wp2_with (first
      | (go_at_call 48; (refine Calls.mono k48 ?_; rintro e w8 ⟨rfl, h8⟩; have H8 : Hid (CL w0 w p a c L g s4 cc B (c2 ++ [⟨2, [], 0, 0, 0, [], [(r : Int), (q : Int)]⟩]) w8) := (HC7.out.more (T.al _ _)).and h8; clear h8))
      | (go_at_call 49; (refine k49.mono ?_; rintro e w7 ⟨rfl, h7⟩; have HC7 : Hid (CL w0 w p a c L g s4 cc B c2 w7) := HC6.out.and h7; have k48 : Calls Tryd.prog 48 #[.pointer (some ⟨cc, 0, none⟩), .agg #[.int .u8 2, .string ⟨#[]⟩, .int .u8 0, .int .u8 0, .int .i64 0, .string ⟨#[]⟩, .slice (some ⟨w7.heap.size, 0, none⟩) 2 2]] (w7.alloc (.cells #[.int .i64 (r : Int), .int .i64 (q : Int)] 3)) _ := (h7.st.below' (T.al w7 (.cells #[.int .i64 (r : Int), .int .i64 (q : Int)] 3))).add ⟨2, [], 0, 0, 0, [], [(r : Int), (q : Int)]⟩ (some ⟨w7.heap.size, 0, none⟩, 2, 2) (kv_two w7 (r : Int) (q : Int)) HL.out; clear h7 k49))
      | (go_at_call 31; (refine k31b.mono ?_; rintro e w6 ⟨rfl, h6⟩; have k49 := HF.out w6 h6.st; have HC6 : Hid (CL w0 w p a c L g s3 cc B c2 w6) := HC5.out.and h6; clear h6 k31b))
      | (go_at_call 47; (refine k47c.mono ?_; rintro e w5 ⟨rfl, h5⟩; have k31b := HE.out w5 h5.st; have HC5 : Hid (CL w0 w p a c L g s2 cc B c1 w5) := HC4.out.and h5; clear h5 k47c))
      | (go_at_call 31; (refine k31a.mono ?_; rintro e w4 ⟨rfl, h4⟩; have k47c := HG.out w4 h4.st; have HC4 : Hid (CL w0 w p a c L g s1 cc B c1 w4) := HC3.out.and h4; clear h4 k31a))
      | (go_at_call 47; (refine k47b.mono ?_; rintro e w3 ⟨rfl, h3⟩; have k31a := HD.out w3 h3.st; have HC3 : Hid (CL w0 w p a c L g s.up cc B cs w3) := HC2.out.and h3; clear h3 k47b))
      | (go_at_call 47; (refine k47a.mono ?_; rintro e w2 ⟨rfl, h2⟩; have k47b := HB.out w2 h2.st; have HC2 : Hid (CL w0 w p a c L g s cc B cs w2) := CL.pre HBB.out h2; clear h2 k47a))
      | (go_at_call 44; (refine k44.mono ?_; rintro e w1 ⟨rfl, B1⟩; have bb := T.bal B1 (tok4 xk xt xn xa); have c3 := HC.out _ bb; have k47a := HA.out _ bb; have HBB : Hid (Below w.heap.size w (w1.alloc (tok4 xk xt xn xa))) := bb; clear bb)))
    go_ret
    exact HCP.out _ _ rfl H8.out
end Go.Proofs.YtipnaphikbjhbaaDoor
/-! ### A condition, read: a comparison. -/
namespace Go.Proofs.YtipnaphikbjhbaaDoor
open Go.RowKit
set_option maxRecDepth 100000
variable {w0 w w' w1 w2 : World} {p c g cc B : Nat} {a : Option Addr} {L : List Tk} {s s' : Ps} {cs : List Cd}
/-- The signs of comparisons, as they lie. -/
def opsC : List Value := [.string ⟨#[]⟩, .string ⟨#[61]⟩, .string ⟨#[60, 62]⟩, .string ⟨#[60]⟩, .string ⟨#[60, 61]⟩, .string ⟨#[62]⟩, .string ⟨#[62, 61]⟩]
theorem opsC_at {i : Nat} (h1 : 1 ≤ i) (h6 : i < 7) : ∃ t, opsL.drop (i - 1) = t :: opsL.drop i ∧ opsC[i]? = some (.string (str t)) := by
  obtain h | h | h | h | h | h : i = 1 ∨ i = 2 ∨ i = 3 ∨ i = 4 ∨ i = 5 ∨ i = 6 := by omega
  all_goals (subst h; exact ⟨_, rfl, rfl⟩)
/-- A part that is being read. -/
abbrev xC (nm : ByteArray) (o : Nat) : List Value := [.int .u8 1, .string nm, .int .u8 (o : Int), .int .u8 0, .int .i64 0, .string ⟨#[]⟩, .slice none 0 0]
/-- What holds ahead of each round. -/
structure LS (w : World) (p : Nat) (a : Option Addr) (c : Nat) (L : List Tk) (g : Nat) (xb ob : Nat) (nm : ByteArray) (R : Nat × Ps) (i o : Nat) (s : Ps) (wr : World) : Prop where
  pd : PD w p a c L g s wr
  x : T.Blk wr xb (xC nm o) 54
  ops : T.Blk wr ob opsC 9
  o6 : o ≤ 6
  rest : opF L g (opsL.drop (i - 1)) i (o, s) = R
  xp : xb ≠ p
  op : ob ≠ p
variable {xb ob i o : Nat} {nm : ByteArray} {R : Nat × Ps} {wr : World} {t : Bs}
theorem LS.skip (h : LS w p a c L g xb ob nm R i o s wr) (ht : opsL.drop (i - 1) = t :: opsL.drop i) (hn : ¬ (o = 0 ∧ hitP L g 4 t s = true)) (k : Below wr.heap.size wr w') : LS w p a c L g xb ob nm R (i + 1) o s w' := by
  refine ⟨h.pd.more k, h.x.below k, h.ops.below k, h.o6, ?_, h.xp, h.op⟩
  have := h.rest
  rw [ht, opF, if_neg hn] at this
  exact this
theorem LS.hit (h : LS w p a c L g xb ob nm R i 0 s wr) (ht : opsL.drop (i - 1) = t :: opsL.drop i) (hh : hitP L g 4 t s = true) (hi : i ≤ 6) (k : PD wr p a c L g s.up w1) (hpt : PT w p a c L g s') (hx : w.heap.size ≤ xb) (hxo : xb ≠ ob) : LS w p a c L g xb ob nm R (i + 1) i s.up (w1.setCell ⟨xb, 2, none⟩ (.int .u8 (i : Int))) := by
  have hx1 := h.x.block (k.kp.block xb h.x.lt h.xp)
  have ho1 := h.ops.block (k.kp.block ob h.ops.lt h.op)
  refine ⟨(h.pd.and k).box hpt hx, hx1.set (o := 2) _, ho1.other (p := ⟨xb, 2, none⟩) (fun e => hxo e.symm) _, hi, ?_, h.xp, h.op⟩
  have := h.rest
  rw [ht, opF, if_pos ⟨rfl, hh⟩] at this
  exact this
end Go.Proofs.YtipnaphikbjhbaaDoor
/-! ### A condition, read: a comparison. -/
namespace Go.Proofs.YtipnaphikbjhbaaDoor
open Go.RowKit
set_option maxRecDepth 100000
variable {w0 w w' w1 w2 : World} {p c g cc B : Nat} {a : Option Addr} {L : List Tk} {s s' : Ps} {cs : List Cd}
/-- The value of a part that is being read is put. -/
theorem bx7 {W : World} {b : Nat} {nm : ByteArray} {o : Nat} (h : T.Blk W b (xC nm o) 54) (v0 v1 v2 : Value) :
    (W.cell? ⟨b, 3, none⟩ = some (.int .u8 0) ∧ W.frozen? ⟨b, 3, none⟩ = false ∧ (W.setCell ⟨b, 3, none⟩ v0).cell? ⟨b, 4, none⟩ = some (.int .i64 0) ∧ (W.setCell ⟨b, 3, none⟩ v0).frozen? ⟨b, 4, none⟩ = false ∧ ((W.setCell ⟨b, 3, none⟩ v0).setCell ⟨b, 4, none⟩ v1).cell? ⟨b, 5, none⟩ = some (.string ⟨#[]⟩) ∧ ((W.setCell ⟨b, 3, none⟩ v0).setCell ⟨b, 4, none⟩ v1).frozen? ⟨b, 5, none⟩ = false) ∧
    T.Blk (((W.setCell ⟨b, 3, none⟩ v0).setCell ⟨b, 4, none⟩ v1).setCell ⟨b, 5, none⟩ v2) b [.int .u8 1, .string nm, .int .u8 (o : Int), v0, v1, v2, .slice none 0 0] 54 := by
  have h1 := h.set (o := 3) v0
  have h2 := h1.set (o := 4) v1
  have h3 := h2.set (o := 5) v2
  exact ⟨⟨h.cell 3, h.frozen 3, h1.cell 4, h1.frozen 4, h2.cell 5, h2.frozen 5⟩, h3⟩
theorem cells7 {W : World} {b : Nat} {t : TypeId} {v0 v1 v2 v3 v4 v5 v6 : Value} (h : T.Blk W b [v0, v1, v2, v3, v4, v5, v6] t) : W.cell? ⟨b, 0, none⟩ = some v0 ∧ W.cell? ⟨b, 1, none⟩ = some v1 ∧ W.cell? ⟨b, 2, none⟩ = some v2 ∧ W.cell? ⟨b, 3, none⟩ = some v3 ∧ W.cell? ⟨b, 4, none⟩ = some v4 ∧ W.cell? ⟨b, 5, none⟩ = some v5 ∧ W.cell? ⟨b, 6, none⟩ = some v6 :=
  ⟨h.cell 0, h.cell 1, h.cell 2, h.cell 3, h.cell 4, h.cell 5, h.cell 6⟩
set_option maxHeartbeats 8000000 in
theorem cond_cmp (h : CS w0 w p a c L g s cc B cs) (f : Nat) (lv : Int) (hlv : 0 ≤ lv ∧ lv ≤ 6) (he : s.e = 0) (hk : (lkP L g s).k ≠ 0) (hno : hitP L g 1 [110, 111, 116] s = false) (hpa : hitP L g 4 [40] s = false) (hfew : cs.length ≤ 90000) :
    Calls Tryd.prog 31 #[.pointer (some ⟨p, 0, none⟩), .pointer (some ⟨cc, 0, none⟩), .int .i64 lv] w (CPost w0 p a c L g cc B (f + 1) s cs w) := by
  have hcond : condP L g (f + 1) s cs = cmpC L g s cs := by
    rw [condP, if_neg (by simp [he, hk]), if_neg (by rw [hno]; simp), if_neg (by rw [hpa]; simp)]
  have k44 := look44 h.pt
  have HC : Hid (∀ W, Below w.heap.size w W → W.cell? ⟨p, 3, none⟩ = some (.int .i64 0)) := fun W k => by
    have := (h.pt.below k).cells.2.1
    rw [he] at this
    exact this
  have HA : Hid (∀ W, Below w.heap.size w W → Calls Tryd.prog 47 #[.pointer (some ⟨p, 0, none⟩), .int .u8 1, .string ⟨#[110, 111, 116]⟩] W fun e w' => e = .returned (.bool false) ∧ CL w0 W p a c L g s cc B cs w') := fun W k => (h.below' k).is_no (k := 1) (t := [110, 111, 116]) rfl hno
  have HB : Hid (∀ W, CS w0 W p a c L g s cc B cs → Calls Tryd.prog 47 #[.pointer (some ⟨p, 0, none⟩), .int .u8 4, .string ⟨#[40]⟩] W fun e w' => e = .returned (.bool false) ∧ CL w0 W p a c L g s cc B cs w') := fun W k => k.is_no (k := 4) (t := [40]) rfl hpa
  have HD : Hid (∀ W, CS w0 W p a c L g s cc B cs → Calls Tryd.prog 50 #[.pointer (some ⟨p, 0, none⟩)] W fun e w' => e = .returned (.string (str (nmV L g s))) ∧ CL w0 W p a c L g (nmP L g s) cc B cs w') := fun W k => (name50 k.pt k.gd).mono (by
    rintro e w' ⟨rfl, hd⟩
    exact ⟨rfl, k.pd hd⟩)
  have HCP : Hid (∀ (W : World) (e : Ending), e = .returned (.int .i64 (cs.length : Int)) → CL w0 w p a c L g (cmpC L g s cs).2.1 cc B (cmpC L g s cs).2.2 W → CPost w0 p a c L g cc B (f + 1) s cs w e W) := fun W e he hW => by
    unfold CPost
    rw [hcond]
    exact ⟨he, hW⟩
  unfold cmpC at HCP
  obtain ⟨sN, hsN⟩ : ∃ sN, nmP L g s = sN := ⟨_, rfl⟩
  obtain ⟨nv, hnv⟩ : ∃ nv, nmV L g s = nv := ⟨_, rfl⟩
  rw [hsN, hnv] at HD HCP
  have HR : Hid (opP L g sN = opF L g opsL 1 (0, sN)) := rfl
  obtain ⟨R, hR⟩ : ∃ R, opP L g sN = R := ⟨_, rfl⟩
  rw [hR] at HCP HR
  obtain ⟨x, hx⟩ : ∃ x, lkP L g s = x := ⟨_, rfl⟩
  rw [hx] at k44 hk
  obtain ⟨xk, xt, xn, xa⟩ := x
  simp only at hk k44
  obtain ⟨m1, m2, m3, m4, m5⟩ := nz_facts (x := xk) (by omega)
  have hl1 : ¬ (6 : Int) < lv := by omega
  have HFW : Hid (cs.length ≤ 90000) := hfew
  have HP : Hid (p < w.heap.size) := h.pt.blk.lt
  clear h hx he hk hno hpa hcond hfew hsN hnv hR
  go_enter Tryd.func31, Tryd.ntmps31
  go_wp2_with (first
    | (go_at_call 50; (refine k50.mono ?_; rintro e w4 ⟨rfl, h4⟩; have HC4 : Hid (CL w0 w p a c L g sN cc B cs w4) := HC3.out.and h4; clear h4 k50))
    | (go_at_call 47; (refine k47b.mono ?_; rintro e w3 ⟨rfl, h3⟩; have k50 := HD.out w3 h3.st; have HC3 : Hid (CL w0 w p a c L g s cc B cs w3) := HC2.out.and h3; clear h3 k47b))
    | (go_at_call 47; (refine k47a.mono ?_; rintro e w2 ⟨rfl, h2⟩; have k47b := HB.out w2 h2.st; have HC2 : Hid (CL w0 w p a c L g s cc B cs w2) := CL.pre HBB.out h2; clear h2 k47a))
    | (go_at_call 44; (refine k44.mono ?_; rintro e w1 ⟨rfl, B1⟩; have bb := T.bal B1 (tok4 xk xt xn xa); have c3 := HC.out _ bb; have k47a := HA.out _ bb; have HBB : Hid (Below w.heap.size w (w1.alloc (tok4 xk xt xn xa))) := bb; clear bb)))
  go_loopw [14] (fun q wr => ∃ (i o : Nat) (s' : Ps), q = .int .i64 (i : Int) ∧ Hid (1 ≤ i ∧ i ≤ 7) ∧ Hid (LS w4 p a c L g w4.heap.size (w4.heap.size + 1) (str nv) R i o s' wr)) (fun q _ => 7 - (RowKit.intOf q).toNat)
  case atStart =>
    refine ⟨1, 0, sN, rfl, ⟨by omega, by omega⟩, ?_⟩
    have hx := T.blk_new w4 (xC (str nv) 0) 54
    have hq := hx.below (T.al (w4.alloc (.cells #[.int .u8 1, .string (str nv), .int .u8 0, .int .u8 0, .int .i64 0, .string ⟨#[]⟩, .slice none 0 0] 54)) (.cells opsC.toArray 9))
    have ho := T.blk_new (w4.alloc (.cells #[.int .u8 1, .string (str nv), .int .u8 0, .int .u8 0, .int .i64 0, .string ⟨#[]⟩, .slice none 0 0] 54)) opsC 9
    rw [show (w4.alloc (.cells #[.int .u8 1, .string (str nv), .int .u8 0, .int .u8 0, .int .i64 0, .string ⟨#[]⟩, .slice none 0 0] 54)).heap.size = w4.heap.size + 1 by simp] at ho
    have hp : p < w4.heap.size := HC4.out.st.pt.blk.lt
    exact ⟨PD.same HC4.out.st.pt (T.bal (T.al w4 _) _), hq, ho, by omega, HR.out.symm, by omega, by omega⟩
  case round =>
    obtain ⟨i, o, s1, rfl, hi, hls⟩ := hrel
    obtain ⟨hi1, hi7⟩ := hi.out
    have hx2 := hls.out.x.cell 2
    have hf2 := hls.out.x.frozen 2
    simp only [List.getElem?_cons_zero, List.getElem?_cons_succ] at hx2
    by_cases hlt : i < 7
    · obtain ⟨t, ht, hop⟩ := opsC_at hi1 hlt
      have hlt' : (i : Int) < 7 := by omega
      have hw : IntKind.i64.wrap ((i : Int) + 1) = (i : Int) + 1 := wrap_small _ (by omega) (by omega)
      by_cases ho : o = 0
      · subst ho
        have hc := hls.out.ops.cell i
        rw [hop] at hc
        cases hh : hitP L g 4 t s1
        · have HS : Hid (∀ w', Below wr.heap.size wr w' → LS w4 p a c L g w4.heap.size (w4.heap.size + 1) (str nv) R (i + 1) 0 s1 w') := fun w' k => hls.out.skip ht (by rw [hh]; simp) k
          have k47 := is47_no hls.out.pd.pt (k := 4) (t := t) (q := str t) rfl hh
          clear hls hop ht hh hi hi1 hi7 hlt
          go_wp2_with (go_at_call 47; (refine k47.mono ?_; rintro e w5 ⟨rfl, B5⟩; have HS5 : Hid (LS w4 p a c L g w4.heap.size (w4.heap.size + 1) (str nv) R (i + 1) 0 s1 w5) := HS.out _ B5; clear B5 k47))
          go_roundw
          case rel => exact ⟨i + 1, 0, s1, by simp, ⟨by omega, by omega⟩, HS5.out⟩
          case measure => simp [RowKit.intOf]; omega
        · have HS : Hid (∀ w', PD wr p a c L g s1.up w' → LS w4 p a c L g w4.heap.size (w4.heap.size + 1) (str nv) R (i + 1) i s1.up (w'.setCell ⟨w4.heap.size, 2, none⟩ (.int .u8 (i : Int)))) := fun w' k => hls.out.hit ht hh (by omega) k HC4.out.st.pt (Nat.le_refl _) (by omega)
          have HX : Hid (∀ w', PD wr p a c L g s1.up w' → w'.cell? ⟨w4.heap.size, 2, none⟩ = some (.int .u8 0) ∧ w'.frozen? ⟨w4.heap.size, 2, none⟩ = false) := fun w' k => by
            have hx1 := hls.out.x.block (k.kp.block _ hls.out.x.lt hls.out.xp)
            exact ⟨hx1.cell 2, hx1.frozen 2⟩
          have k47 := is47_yes hls.out.pd.pt (k := 4) (t := t) (q := str t) rfl (by decide) hh
          have hw8 : IntKind.u8.wrap (i : Int) = (i : Int) := by
            have : i = 1 ∨ i = 2 ∨ i = 3 ∨ i = 4 ∨ i = 5 ∨ i = 6 := by omega
            rcases this with rfl | rfl | rfl | rfl | rfl | rfl <;> rfl
          clear hls hop ht hh hi hi1 hi7 hlt
          go_wp2_with (go_at_call 47; (refine k47.mono ?_; rintro e w5 ⟨rfl, h5⟩; obtain ⟨hx5, hf5⟩ := HX.out _ h5; have HS5 : Hid (LS w4 p a c L g w4.heap.size (w4.heap.size + 1) (str nv) R (i + 1) i s1.up (w5.setCell ⟨w4.heap.size, 2, none⟩ (.int .u8 (i : Int)))) := HS.out _ h5; clear h5 k47))
          go_roundw
          case rel => exact ⟨i + 1, i, s1.up, by simp, ⟨by omega, by omega⟩, HS5.out⟩
          case measure => simp [RowKit.intOf]; omega
      · have HS : Hid (LS w4 p a c L g w4.heap.size (w4.heap.size + 1) (str nv) R (i + 1) o s1 wr) := hls.out.skip ht (fun e => ho e.1) (Below.refl _ _)
        obtain ⟨q1, q2, q3, q4, q5⟩ := nz_facts ho
        clear hls hop ht hi hi1 hi7 hlt
        go_wp2
        go_roundw
        case rel => exact ⟨i + 1, o, s1, by simp, ⟨by omega, by omega⟩, HS.out⟩
        case measure => simp [RowKit.intOf]; omega
    · obtain rfl : i = 7 := by omega
      have HS := hls
      obtain rfl : (o, s1) = R := hls.out.rest
      have hnl : ¬ (7 : Int) < 7 := by omega
      have HLS : Hid (PD w4 p a c L g s1 wr) := hls.out.pd
      have HXB : Hid (T.Blk wr w4.heap.size (xC (str nv) o) 54) := hls.out.x
      have HXP : Hid (w4.heap.size ≠ p) := hls.out.xp
      obtain ⟨sX, hsX⟩ : ∃ sX, (if o = 0 then wrP L g s1 else s1) = sX := ⟨_, rfl⟩
      obtain ⟨sL, hsL⟩ : ∃ sL, litP L g sX = sL := ⟨_, rfl⟩
      obtain ⟨vk, vn, vt, hv⟩ : ∃ vk vn vt, litV L g sX = (vk, vn, vt) := ⟨_, _, _, rfl⟩
      have H51 : Hid (∀ W, PT W p a c L g sX → Calls Tryd.prog 51 #[.pointer (some ⟨p, 0, none⟩)] W fun e w' => e = .returned (.agg #[.int .u8 (vk : Int), .int .i64 vn, .string (str vt)]) ∧ PD W p a c L g sL w') := fun W k => by
        have := literal51 k
        rw [hv, hsL] at this
        exact this
      simp only [hsX, hsL, hv] at HCP
      clear hv hsL HS
      by_cases ho : o = 0
      · subst ho
        simp only [if_true] at hsX
        have H45 : Hid (∀ W, PT W p a c L g s1 → Calls Tryd.prog 45 #[.pointer (some ⟨p, 0, none⟩)] W fun e w' => e = .returned (.tuple #[]) ∧ PD W p a c L g sX w') := fun W k => by
          rw [← hsX]
          exact wrong45 k
        clear hsX hls hi hi1 hi7 hlt HR
        go_wp2_with (first
          | (go_at_call 48; (refine Calls.mono k48 ?_; rintro e w8 ⟨rfl, h8⟩; have H8 : Hid (CL w0 w p a c L g sL cc B (cs ++ [⟨1, nv, 0, vk, vn, vt, []⟩]) w8) := HC4.out.and (HCL7.out.and h8); clear h8))
          | (go_at_call 51; (refine (H51.out _ HP5.out.pt).mono ?_; rintro e w6 ⟨rfl, h6⟩; have hx6 := HX5.out.block (h6.kp.block _ HX5.out.lt HXP.out); obtain ⟨⟨x0, x1, x2, x3, x4, x5⟩, hx7⟩ := bx7 hx6 (.int .u8 (vk : Int)) (.int .i64 vn) (.string (str vt)); obtain ⟨r0, r1, r2, r3, r4, r5, r6⟩ := cells7 hx7; have HCL7 : Hid (CL w0 w4 p a c L g sL cc B cs (((w6.setCell ⟨w4.heap.size, 3, none⟩ (.int .u8 (vk : Int))).setCell ⟨w4.heap.size, 4, none⟩ (.int .i64 vn)).setCell ⟨w4.heap.size, 5, none⟩ (.string (str vt)))) := HC4.out.st.pd ((((HP5.out.and h6).box HC4.out.st.pt (Nat.le_refl _)).box HC4.out.st.pt (Nat.le_refl _)).box HC4.out.st.pt (Nat.le_refl _)); have k48 : Calls Tryd.prog 48 #[.pointer (some ⟨cc, 0, none⟩), .agg #[.int .u8 1, .string (str nv), .int .u8 0, .int .u8 (vk : Int), .int .i64 vn, .string (str vt), .slice none 0 0]] _ _ := HCL7.out.st.add ⟨1, nv, 0, vk, vn, vt, []⟩ (none, 0, 0) (.inl ⟨rfl, rfl⟩) (Nat.le_trans HFW.out (by decide)); clear hx6 hx7 h6))
          | (go_at_call 45; (refine (H45.out _ HLS.out.pt).mono ?_; rintro e w5 ⟨rfl, h5⟩; have HP5 : Hid (PD w4 p a c L g sX w5) := HLS.out.and h5; have HX5 : Hid (T.Blk w5 w4.heap.size (xC (str nv) 0) 54) := HXB.out.block (h5.kp.block _ HXB.out.lt HXP.out); clear h5)))
        go_ret
        exact HCP.out _ _ rfl H8.out
      · obtain ⟨q1, q2, q3, q4, q5⟩ := nz_facts ho
        rw [if_neg ho] at hsX
        subst hsX
        have HP5 := HLS
        have HX5 := HXB
        clear hls hi hi1 hi7 hlt HR HLS HXB
        go_wp2_with (first
          | (go_at_call 48; (refine Calls.mono k48 ?_; rintro e w8 ⟨rfl, h8⟩; have H8 : Hid (CL w0 w p a c L g sL cc B (cs ++ [⟨1, nv, o, vk, vn, vt, []⟩]) w8) := HC4.out.and (HCL7.out.and h8); clear h8))
          | (go_at_call 51; (refine (H51.out _ HP5.out.pt).mono ?_; rintro e w6 ⟨rfl, h6⟩; have hx6 := HX5.out.block (h6.kp.block _ HX5.out.lt HXP.out); obtain ⟨⟨x0, x1, x2, x3, x4, x5⟩, hx7⟩ := bx7 hx6 (.int .u8 (vk : Int)) (.int .i64 vn) (.string (str vt)); obtain ⟨r0, r1, r2, r3, r4, r5, r6⟩ := cells7 hx7; have HCL7 : Hid (CL w0 w4 p a c L g sL cc B cs (((w6.setCell ⟨w4.heap.size, 3, none⟩ (.int .u8 (vk : Int))).setCell ⟨w4.heap.size, 4, none⟩ (.int .i64 vn)).setCell ⟨w4.heap.size, 5, none⟩ (.string (str vt)))) := HC4.out.st.pd ((((HP5.out.and h6).box HC4.out.st.pt (Nat.le_refl _)).box HC4.out.st.pt (Nat.le_refl _)).box HC4.out.st.pt (Nat.le_refl _)); have k48 : Calls Tryd.prog 48 #[.pointer (some ⟨cc, 0, none⟩), .agg #[.int .u8 1, .string (str nv), .int .u8 (o : Int), .int .u8 (vk : Int), .int .i64 vn, .string (str vt), .slice none 0 0]] _ _ := HCL7.out.st.add ⟨1, nv, o, vk, vn, vt, []⟩ (none, 0, 0) (.inl ⟨rfl, rfl⟩) (Nat.le_trans HFW.out (by decide)); clear hx6 hx7 h6)))
        go_ret
        exact HCP.out _ _ rfl H8.out
end Go.Proofs.YtipnaphikbjhbaaDoor
/-! ### A condition, read. -/
namespace Go.Proofs.YtipnaphikbjhbaaDoor
open Go.RowKit
set_option maxRecDepth 100000
variable {w0 w w' w1 w2 : World} {p c g cc B : Nat} {a : Option Addr} {L : List Tk} {s s' : Ps} {cs : List Cd}
theorem cond31 : ∀ f, f ≤ 6 → IHc w0 p a c L g cc B f (7 - (f : Int))
  | 0, _ => by
    intro w s cs h hfew
    have e7 : (7 : Int) - ((0 : Nat) : Int) = 7 := rfl
    rw [e7]
    by_cases hc : s.e ≠ 0 ∨ (lkP L g s).k = 0
    · refine (cond_wr h 7 hc).mono ?_
      rintro e w' h1
      unfold CPost
      rw [condP_wr hc]
      exact h1
    · have he : s.e = 0 := by omega
      have hk : (lkP L g s).k ≠ 0 := fun e => hc (.inr e)
      refine (cond_deep h he hk).mono ?_
      rintro e w' h1
      unfold CPost
      rw [condP, if_neg hc]
      exact h1
  | f + 1, hf => by
    intro w s cs h hfew
    have ih : IHc w0 p a c L g cc B f (7 - (f : Int)) := cond31 f (by omega)
    rw [show (7 : Int) - (f : Int) = 7 - ((f + 1 : Nat) : Int) + 1 by omega] at ih
    by_cases hc : s.e ≠ 0 ∨ (lkP L g s).k = 0
    · refine (cond_wr h _ hc).mono ?_
      rintro e w' h1
      unfold CPost
      rw [condP_wr hc]
      exact h1
    · have he : s.e = 0 := by omega
      have hk : (lkP L g s).k ≠ 0 := fun e => hc (.inr e)
      cases hn : hitP L g 1 [110, 111, 116] s
      · cases hp : hitP L g 4 [40] s
        · exact cond_cmp h f _ ⟨by omega, by omega⟩ he hk hn hp (by have h1 : 1 ≤ 2 ^ (f + 1) := Nat.one_le_two_pow; omega)
        · exact cond_par h f _ ⟨by omega, by omega⟩ hp hfew ih
      · exact cond_not h f _ ⟨by omega, by omega⟩ hn hfew ih
end Go.Proofs.YtipnaphikbjhbaaDoor
/-! ### The document's Where. -/
namespace Go.Proofs.YtipnaphikbjhbaaDoor
open Go.RowKit
set_option maxRecDepth 100000
variable {w0 w w' w1 w2 : World} {p c g cc B : Nat} {a : Option Addr} {L : List Tk} {s s' : Ps} {cs : List Cd}
theorem toks_few (s : ByteArray) : (toks (bs s)).1.length ≤ 100 := by
  have := toks_ok (bs s)
  rcases this with ⟨_, h⟩ | ⟨h, _⟩
  · exact h.few
  · rw [h]; exact Nat.zero_le _
theorem of30 (t : ByteArray) (w : World) (hg : Good w) :
    Calls Tryd.prog 30 #[.string t] w fun e w' => ∃ p a c, e = .returned (.tuple #[.pointer (some ⟨p, 0, none⟩), .int .i64 ((toks (bs t)).2.1 : Nat), .int .i64 ((toks (bs t)).2.2 : Nat)]) ∧ w.heap.size ≤ p ∧ Below w.heap.size w w' ∧
      (t.size ≤ 400 → PT w' p a c (toks (bs t)).1 t.size ⟨0, 0, 0⟩) ∧ p < w'.heap.size ∧ (0 < (toks (bs t)).1.length → ∀ b, a = some ⟨b, 0, none⟩ → b < w'.heap.size) := by
  have k43 := rtokens10 t w hg
  have hfew := toks_few t
  have HF : Hid ((toks (bs t)).1.length ≤ 100) := hfew
  clear hfew
  generalize toks (bs t) = R at *
  obtain ⟨L, at', er⟩ := R
  simp only at k43 HF ⊢
  go_enter Tryd.func30, Tryd.ntmps30
  go_wp2_with (go_at_call 43; (refine k43.mono ?_; rintro e w1 ⟨v, rfl, HT, B1⟩; obtain ⟨a, c, rfl, hat⟩ := trow_at HT; have HA : Hid (∀ (i : Nat) (x : Tk), L[i]? = some x → ∃ g, a = some ⟨g, 0, none⟩ ∧ g < w1.heap.size ∧ TkAt w1 g i x) := hat; clear hat HT))
  refine bodyPost_ret (results_tmp3 rfl _ _ _) rfl ⟨w1.heap.size, a, c, rfl, B1.size, T.bal B1 _, fun hs => ?_, by simp, fun hL b hb => ?_⟩
  · refine ⟨T.blk_new w1 [.slice a L.length c, .int .i64 0, .int .i64 (t.size : Int), .int .i64 0, .int .i64 0] 83, fun i x hx => ?_, Nat.zero_le _, HF.out, hs⟩
    obtain ⟨g, e1, e2, e3⟩ := HA.out i x hx
    exact ⟨g, e1, by omega, by simp; omega, e3.below (T.al w1 _) e2⟩
  · obtain ⟨g, e1, e2, e3⟩ := HA.out 0 _ (List.getElem?_eq_getElem hL)
    rw [hb] at e1
    cases e1
    simp
    omega
/-- A condition's parts, or the place of the error, and the error. -/
def whereP (l : Bs) : List Cd × Nat × Nat :=
  if (toks l).2.2 ≠ 0 then ([], (toks l).2.1, (toks l).2.2)
  else
    let r := condP (toks l).1 l.length 6 ⟨0, 0, 0⟩ []
    let s := endP (toks l).1 l.length r.2.1
    if s.e ≠ 0 then ([], s.pl, s.e) else (r.2.2, 0, 0)
/-- Parts behind a slice. -/
def LCd (w : World) (u : Value) (cs : List Cd) : Prop := ∃ es, T.LV EC w u es ∧ es.map Prod.fst = cs ∧ ∀ e ∈ es, KV w e.2 e.1.kids
theorem LCd.nil (w : World) : LCd w (.slice none 0 0) [] := ⟨[], T.LV.nil _ _ _ _, rfl, fun e he => by simp at he⟩
theorem CT.lcd (h : CT w cc B cs) : ∃ n c b, LCd w (.slice b n c) cs ∧ w.cell? ⟨cc, 0, none⟩ = some (.slice b n c) := by
  obtain ⟨u, es, h1, h2, h3, h4⟩ := h.ex
  obtain ⟨b, c, rfl, _⟩ := h2.form
  exact ⟨_, c, b, ⟨es, h2.read, h3, h4⟩, h1.cell 0⟩
theorem few_toks (s : ByteArray) (h : (toks (bs s)).2.2 = 0) : s.size ≤ 400 := by
  unfold toks at h
  rw [bs_length] at h
  split at h
  · simp at h
  · omega
set_option maxHeartbeats 4000000 in
theorem where20 (t : ByteArray) (w : World) (hg : Good w) :
    Calls Tryd.prog 20 #[.string t] w fun e w' => ∃ u, e = .returned (.tuple #[u, .int .i64 ((whereP (bs t)).2.1 : Nat), .int .i64 ((whereP (bs t)).2.2 : Nat)]) ∧ LCd w' u (whereP (bs t)).1 ∧ Below w.heap.size w w' := by
  have k30 := of30 t w hg
  have h400 := few_toks t
  have HG : Hid (Good w) := hg
  unfold whereP
  rw [bs_length]
  generalize toks (bs t) = R at *
  obtain ⟨L, at', er⟩ := R
  simp only at k30 h400 ⊢
  by_cases her : er = 0
  · subst her
    rw [if_neg (by simp)]
    have h4 := h400 rfl
    have HS : Hid (t.size ≤ 400) := h4
    generalize t.size = g at *
    clear h400 h4 hg
    have HN : Hid (∀ (W0 W : World) (p : Nat) (a : Option Addr) (c cc B : Nat), CS W0 W p a c L g ⟨0, 0, 0⟩ cc B [] → Calls Tryd.prog 31 #[.pointer (some ⟨p, 0, none⟩), .pointer (some ⟨cc, 0, none⟩), .int .i64 1] W fun e w' => e = .returned (.int .i64 ((condP L g 6 ⟨0, 0, 0⟩ []).1 : Int)) ∧ CL W0 W p a c L g (condP L g 6 ⟨0, 0, 0⟩ []).2.1 cc B (condP L g 6 ⟨0, 0, 0⟩ []).2.2 w') := fun W0 W p a c cc B hW => cond31 6 (Nat.le_refl _) W ⟨0, 0, 0⟩ [] hW (by decide)
    generalize condP L g 6 ⟨0, 0, 0⟩ [] = R at *
    obtain ⟨r, s1, c1⟩ := R
    simp only at HN ⊢
    have HE : Hid (∀ (W0 W : World) (p : Nat) (a : Option Addr) (c cc B : Nat), CS W0 W p a c L g s1 cc B c1 → Calls Tryd.prog 32 #[.pointer (some ⟨p, 0, none⟩)] W fun e w' => e = .returned (.tuple #[]) ∧ CL W0 W p a c L g (endP L g s1) cc B c1 w') := fun W0 W p a c cc B hW => (end32 hW.pt).mono (by
      rintro e w' ⟨rfl, hd⟩
      exact ⟨rfl, hW.pd hd⟩)
    generalize endP L g s1 = s2 at *
    have HB : Hid (∀ (W : World) (p : Nat) (a : Option Addr) (c : Nat), w.heap.size ≤ p → Below w.heap.size w W → PT W p a c L g ⟨0, 0, 0⟩ → p < W.heap.size → (0 < L.length → ∀ b, a = some ⟨b, 0, none⟩ → b < W.heap.size) → CS w (W.alloc (.cells #[.slice none 0 0] 79)) p a c L g ⟨0, 0, 0⟩ W.heap.size W.heap.size []) := fun W p a c h1 h2 h3 h4 h5 =>
      ⟨h3.below (T.al W _), ⟨⟨_, [], T.blk_new W [.slice none 0 0] 79, T.RW.nil _ _ _, rfl, fun e he => by simp at he⟩, Nat.le_refl _⟩, h4, h5, by simp, HG.out, h1, T.bal h2 _⟩
    have HPOST : Hid (∀ (W W2 : World) (p : Nat) (a : Option Addr) (c cc B : Nat), CL w W p a c L g s2 cc B c1 W2 → W2.cell? ⟨p, 3, none⟩ = some (.int .i64 (s2.e : Int)) ∧ W2.cell? ⟨p, 4, none⟩ = some (.int .i64 (s2.pl : Int)) ∧ Below w.heap.size w W2 ∧ ∃ n c b, LCd W2 (.slice b n c) c1 ∧ W2.cell? ⟨cc, 0, none⟩ = some (.slice b n c)) := fun W W2 p a c cc B h => ⟨h.st.pt.cells.2.1, h.st.pt.cells.2.2.1, h.st.below, h.st.ct.lcd⟩
    by_cases he : s2.e = 0
    · rw [if_neg (by simp [he])]
      rw [he] at HPOST
      go_enter Tryd.func20, Tryd.ntmps20
      go_wp2_with (first
        | (go_at_call 32; (refine k32.mono ?_; rintro e w4 ⟨rfl, h4⟩; obtain ⟨c3, c4, B4, n, cp, b, hl, cl⟩ := HPOST.out _ _ _ _ _ _ _ h4; have HB4 : Hid (Below w.heap.size w w4) := B4; have HL4 : Hid (LCd w4 (.slice b n cp) c1) := hl; clear h4 hl B4 k32))
        | (go_at_call 31; (refine k31.mono ?_; rintro e w3 ⟨rfl, h3⟩; have k32 := HE.out _ _ _ _ _ _ _ h3.st; clear h3 k31))
        | (go_at_call 30; (refine k30.mono ?_; rintro e w1 ⟨p, a, c, rfl, h1, B1, hp, h5, h6⟩; have k31 := HN.out _ _ _ _ _ _ _ (HB.out w1 p a c h1 B1 (hp HS.out) h5 h6); clear h1 hp h5 h6 k30)))
      refine bodyPost_ret (results_tmp3 rfl _ _ _) rfl ⟨_, rfl, HL4.out, HB4.out⟩
    · rw [if_pos he]
      obtain ⟨n1, n2, n3, n4, n5⟩ := nz_facts he
      generalize s2.e = e2 at *
      generalize s2.pl = p2 at *
      go_enter Tryd.func20, Tryd.ntmps20
      go_wp2_with (first
        | (go_at_call 32; (refine k32.mono ?_; rintro e w4 ⟨rfl, h4⟩; obtain ⟨c3, c4, B4, n, cp, b, hl, cl⟩ := HPOST.out _ _ _ _ _ _ _ h4; have HB4 : Hid (Below w.heap.size w w4) := B4; clear h4 hl B4 k32))
        | (go_at_call 31; (refine k31.mono ?_; rintro e w3 ⟨rfl, h3⟩; have k32 := HE.out _ _ _ _ _ _ _ h3.st; clear h3 k31))
        | (go_at_call 30; (refine k30.mono ?_; rintro e w1 ⟨p, a, c, rfl, h1, B1, hp, h5, h6⟩; have k31 := HN.out _ _ _ _ _ _ _ (HB.out w1 p a c h1 B1 (hp HS.out) h5 h6); clear h1 hp h5 h6 k30)))
      go_quiet (fail)
      go_wp2_with fail
      refine bodyPost_ret (results_tmp3 rfl _ _ _) rfl ⟨_, rfl, LCd.nil _, belN HB4.out _⟩
  · rw [if_pos her]
    obtain ⟨n1, n2, n3, n4, n5⟩ := nz_facts her
    clear h400 hg HG
    go_enter Tryd.func20, Tryd.ntmps20
    go_wp2_with (go_at_call 30; (refine k30.mono ?_; rintro e w1 ⟨p, a, c, rfl, h1, B1, hp, h5, h6⟩; clear hp h5 h6))
    refine bodyPost_ret (results_tmp3 rfl _ _ _) rfl ⟨_, rfl, LCd.nil _, B1⟩
end Go.Proofs.YtipnaphikbjhbaaDoor
