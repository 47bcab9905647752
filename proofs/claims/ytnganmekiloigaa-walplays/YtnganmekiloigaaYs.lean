/- play, and the law WalPlays. · Deeds that came in, each with a number that is one. -/
import Derived.Test.YtnganmekiloigaaYo
import Derived.Test.YtnganmekiloigaaZm
import Derived.Test.YtnganmekiloigaaZy
import Derived.Test.YtnganmekiloigaaAq
/-! ### play, and the law WalPlays. -/
namespace Go.Proofs.Ytnganmekiloigaa
open Go.RowKit
set_option maxRecDepth 100000
variable {w w' w1 w2 : World} {B d s x r y q k : Nat} {D D' : Dk} {W W' : Wl}
/-- Deeds that came in, each with a number that is one. -/
def InDX (B0 : Nat) (W : World) (v : Value) (l : List WDeed) : Prop := InDW B0 W v l ∧ ∀ x ∈ l, -9223372036854775808 ≤ x.2.2.1 ∧ x.2.2.1 ≤ 9223372036854775807
theorem dx_of {W0 : World} {a : Option Addr} {n c : Nat} {l : List WDeed} (h : InDX W0.heap.size W0 (.slice a n c) l) {i : Nat} (hi : i < l.length) : ∃ b o, a = some ⟨b, o, none⟩ ∧ ∃ k N vb vk bs kl, DW W0 b (o + i * 4) k N vb vk bs kl ∧ -9223372036854775808 ≤ N ∧ N ≤ 9223372036854775807 := by
  obtain ⟨⟨a', c', hv, _, h3⟩, h4⟩ := h
  simp only [Value.slice.injEq] at hv
  obtain ⟨rfl, -, -⟩ := hv
  obtain ⟨b, o, ha, hb, hat⟩ := h3 (by omega)
  obtain ⟨vb, vk, ⟨c0, c1, c2, c3⟩, h5, h6⟩ := hat i _ (List.getElem?_eq_getElem hi)
  exact ⟨b, o, ha, _, _, vb, vk, _, _, ⟨fun W k => ⟨(k.cell (p := ⟨b, _, none⟩) hb).trans c0, (k.cell (p := ⟨b, _, none⟩) hb).trans c1, (k.cell (p := ⟨b, _, none⟩) hb).trans c2, (k.cell (p := ⟨b, _, none⟩) hb).trans c3⟩, h5, h6⟩, h4 _ (List.getElem_mem hi)⟩
/-- A new disk. -/
theorem dz_new : Dz 6 0 0 (newDk 12) := by
  have hp : ∀ x ∈ pcs (newDk 12).secs, x.e = 0 := fun x hx => by
    simp only [pcs, newDk, List.mem_map, List.mem_replicate] at hx
    obtain ⟨s, ⟨_, rfl⟩, rfl⟩ := hx
    rfl
  exact ⟨rfl, fun h => (by cases h), Nat.le_refl _, fun x hx h => (by rw [hp x hx] at h; omega), fun y hy => (by cases hy), fun x hx => Nat.le_of_eq (hp x hx), fun y hy => (by cases hy)⟩
/-- The pair at the round i. -/
def Pk (B q d s r i : Nat) (w : World) : Prop := ∃ D x y W, Pr B w q d s r D x y W ∧ Bd i D W
theorem po_new {W0 w1 w2 : World} (p1 : PD w1 (W0.heap.size + 1) W0.heap.size (.slice none 0 0) (newDk 12)) (b1 : Below W0.heap.size W0 w1)
    (p2 : RD w2 (w1.heap.size + 1) (.slice (some ⟨w1.heap.size, 0, none⟩) 12 12) (.slice none 0 0) (newDk 12)) (b2 : Below w1.heap.size w1 w2) :
    Po W0.heap.size (w2.alloc (.cells #[.pointer (some ⟨W0.heap.size + 1, 0, none⟩), .pointer none, .pointer (some ⟨w1.heap.size + 1, 0, none⟩), .pointer none] 60)) w2.heap.size (W0.heap.size + 1) W0.heap.size (w1.heap.size + 1) (newDk 12) := by
  have hs1 := b1.size
  have hs2 := b2.size
  have hr := p2.rlt
  have bq := blk_new w2 [.pointer (some ⟨W0.heap.size + 1, 0, none⟩), .pointer none, .pointer (some ⟨w1.heap.size + 1, 0, none⟩), .pointer none] 60
  have k2 := al w2 (.cells #[.pointer (some ⟨W0.heap.size + 1, 0, none⟩), .pointer none, .pointer (some ⟨w1.heap.size + 1, 0, none⟩), .pointer none] 60)
  have A := (alone_new29 p1 b1).adds (N := [w1.heap.size, w1.heap.size + 1, w2.heap.size]) (bmore b2 k2) (fun g hg => by
    have := bq.lt
    simp only [List.mem_cons, List.not_mem_nil, or_false] at hg
    rcases hg with rfl | rfl | rfl <;> omega)
  refine ⟨⟨_, _, bq⟩, by omega, _, _, p2.below k2, A.less (fun g hg => ?_), fun hf => ?_, fun g hg => ?_⟩
  · rcases mem_own3.1 hg with e | e | e | e
    · simp [e]
    · simp [e]
    · cases e; simp
    · cases e
  · rcases hf with e | e | e
    · omega
    · simp only [Value.ownBlock, Option.some.injEq] at e; omega
    · cases e
  · rcases mem_own3.1 hg with e | e | e | e
    · omega
    · omega
    · simp only [Value.ownBlock, Option.some.injEq] at e; omega
    · cases e
def PlPost (B : Nat) (w0 : World) (e : Ending) (w' : World) : Prop := ∃ q d s r k, e = .returned (.tuple #[.pointer (some ⟨q, 0, none⟩), .bool true]) ∧ Pk B q d s r k w' ∧ k ≤ 30 ∧ Below B w0 w'
theorem meas_lt30x {m k : Nat} (h : m < k) : k - ((m : Int) + 1).toNat < k - ((m : Int)).toNat := by omega
set_option maxHeartbeats 4000000 in
theorem play30 (W0 : World) (v0 : Value) (l : List WDeed) (hl : InDX W0.heap.size W0 v0 l) : Calls Try.prog 30 #[v0] W0 (PlPost W0.heap.size W0) := by
  have c29 := new29 12 W0 (by omega) (by omega)
  have c45 := fun w => rnew45 12 w (by omega) (by omega)
  obtain ⟨a0, c0, rfl, hmx, _⟩ := id hl.1
  have HD : Hid (∀ i, i < l.length → ∃ b o, a0 = some ⟨b, o, none⟩ ∧ ∃ k N vb vk bs kl, DW W0 b (o + i * 4) k N vb vk bs kl ∧ -9223372036854775808 ≤ N ∧ N ≤ 9223372036854775807) := fun i hi => dx_of hl hi
  generalize l.length = nl at *
  clear hl
  go_enter Try.func30, Try.ntmps30
  go_wp2_with (first
    | (go_at_call 29; (refine c29.mono ?_; rintro e w1 ⟨rfl, p1, B1⟩; have k45 := c45 w1))
    | (go_at_call 45; (refine k45.mono ?_; rintro e w2 ⟨rfl, p2, B2⟩; have hpo := po_new p1 B1 p2 B2; have H64 := hpo.opens (k := 0) (E := 0) rfl dz_new (Nat.le_refl _) (by omega); have HB3 : Hid (Below W0.heap.size W0 (w2.alloc (.cells #[.pointer (some ⟨W0.heap.size + 1, 0, none⟩), .pointer none, .pointer (some ⟨w1.heap.size + 1, 0, none⟩), .pointer none] 60))) := bmore (bmore B1 B2) (al _ _); have z0 : (w2.alloc (.cells #[.pointer (some ⟨W0.heap.size + 1, 0, none⟩), .pointer none, .pointer (some ⟨w1.heap.size + 1, 0, none⟩), .pointer none] 60)).cell? ⟨w2.heap.size, 0, none⟩ = some (.pointer (some ⟨W0.heap.size + 1, 0, none⟩)) := (blk_new w2 [.pointer (some ⟨W0.heap.size + 1, 0, none⟩), .pointer none, .pointer (some ⟨w1.heap.size + 1, 0, none⟩), .pointer none] 60).cell 0; clear hpo p1 p2 c29 c45 k45))
    | (go_at_call 64; (refine H64.mono ?_; rintro e w4 ⟨rfl, ⟨x, y, W, hP, hbd⟩, B4⟩; have q1 := hP.cells.1.1; have HP : Hid (Pk W0.heap.size w2.heap.size (W0.heap.size + 1) W0.heap.size (w1.heap.size + 1) 0 w4) := ⟨_, _, _, _, hP, hbd⟩; have HB4 : Hid (Below W0.heap.size W0 w4) := HB3.out.trans B4; clear hP hbd B4 H64)))
  obtain ⟨q, hq⟩ : ∃ q, w2.heap.size = q := ⟨_, rfl⟩
  obtain ⟨r, hr⟩ : ∃ r, w1.heap.size + 1 = r := ⟨_, rfl⟩
  rw [hq, hr] at HP
  rw [hq] at q1 z0 ⊢
  clear hq hr
  go_loopw [5] (fun p wr => ∃ i : Nat, p = .int .i64 (i : Int) ∧ Hid (i ≤ 30) ∧ Hid (Pk W0.heap.size q (W0.heap.size + 1) W0.heap.size r i wr ∧ Below W0.heap.size W0 wr)) (fun p _ => 30 - (intOf p).toNat)
  case atStart => exact ⟨0, rfl, Nat.zero_le _, HP.out, HB4.out⟩
  case round =>
    clear HP HB4 HB3 q1 z0
    obtain ⟨i, rfl, hi, HI⟩ := hrel
    by_cases hlt : i < nl ∧ i < 30
    · obtain ⟨hln, hl30⟩ := hlt
      have b1 : (i : Int) < (nl : Int) := by omega
      have b2 : (i : Int) < 30 := by omega
      have b3 : decide ((i : Int) < (nl : Int)) = true := decide_eq_true b1
      have b4 : decide (i < nl) = true := decide_eq_true hln
      have h0i : (0 : Int) ≤ (i : Int) := by omega
      obtain ⟨bl, ol, rfl, k, N, vb, vk, bs, ks, hdw, hN⟩ := HD.out i hln
      obtain ⟨z0, z1, z2, z3⟩ := hdw.cells _ HI.out.2
      have HBW : Hid (Below W0.heap.size W0 wr) := HI.out.2
      have HI1 : Hid (i + 1 ≤ 30) := hl30
      have hk30 : i ≤ 30 := by omega
      obtain ⟨D, x, y, W, hP, hbd⟩ := HI.out.1
      have k65 := do65 (kd := k) hP hbd hk30 (hdw.inb.below HI.out.2) (hdw.ink.below HI.out.2) hN
      obtain ⟨va, vn, vc, rfl⟩ := hdw.inb.form
      obtain ⟨ka, kn, kc, rfl⟩ := hdw.ink.form
      clear hdw hP hbd HI hN hk30
      go_wp2_with (first
        | (go_at_call 65; (refine k65.mono ?_; rintro e w5 ⟨rfl, ⟨D5, x5, y5, W5, p5, bd5⟩, B5⟩; have k66 := same66 p5 bd5.dz.len bd5.en; have HP5 : Hid (Pr W0.heap.size w5 q (W0.heap.size + 1) W0.heap.size r D5 x5 y5 W5) := p5; have HBD5 : Hid (Bd (i + 1) D5 W5) := bd5; have HB5 : Hid (Below W0.heap.size W0 w5) := HBW.out.trans B5; clear p5 bd5 B5 k65))
        | (go_at_call 66; (refine k66.mono ?_; rintro e w6 ⟨rfl, B6⟩; have HP6 : Hid (Pk W0.heap.size q (W0.heap.size + 1) W0.heap.size r (i + 1) w6) := ⟨_, _, _, _, HP5.out.below B6, HBD5.out⟩; have HB6 : Hid (Below W0.heap.size W0 w6) := HB5.out.trans (B6.mono HB5.out.size); clear B6 k66)))
      go_roundw
      case rel => exact ⟨i + 1, by simp, HI1.out, HP6.out, HB6.out⟩
      case measure => simp only [intOf]; exact meas_lt30x hl30
    · have HFIN : Hid (PlPost W0.heap.size W0 (.returned (.tuple #[.pointer (some ⟨q, 0, none⟩), .bool true])) wr) := ⟨_, _, _, _, _, rfl, HI.out.1, hi.out, HI.out.2⟩
      clear HI
      by_cases hln : i < nl
      · have hl30 : ¬ i < 30 := fun h => hlt ⟨hln, h⟩
        have b1 : (i : Int) < (nl : Int) := by omega
        have b2 : ¬ (i : Int) < 30 := by omega
        have b3 : decide ((i : Int) < (nl : Int)) = true := decide_eq_true b1
        have b4 : decide (i < nl) = true := decide_eq_true hln
        go_wp2_with fail
        go_ret2
        exact HFIN.out
      · have b1 : ¬ (i : Int) < (nl : Int) := by omega
        have b3 : decide ((i : Int) < (nl : Int)) = false := decide_eq_false b1
        have b4 : decide (i < nl) = false := decide_eq_false hln
        go_wp2_with fail
        go_ret2
        exact HFIN.out
theorem meas_lt12 {m k : Nat} (h : m < k) : k - ((m : Int) + 1).toNat < k - ((m : Int)).toNat := by omega
set_option maxHeartbeats 4000000 in
theorem plays8 (W0 : World) (v0 : Value) (l : List WDeed) (hl : InDX W0.heap.size W0 v0 l) :
    Calls Try.prog 8 #[v0] W0 fun e w' => e = .returned (.bool true) ∧ Below W0.heap.size W0 w' := by
  have k30 := play30 W0 v0 l hl
  have HL31 : Hid (∀ w, Calls Try.prog 31 #[] w fun e w' => e = .returned (.bool true) ∧ Below w.heap.size w w') := live31
  have HM33 : Hid (∀ w, Calls Try.prog 33 #[] w fun e w' => e = .returned (.int .i64 3648) ∧ w' = w) := most33
  have HM34 : Hid (∀ w, Calls Try.prog 34 #[] w fun e w' => e = .returned (.int .i64 3648) ∧ w' = w) := fun w => most34r
  obtain ⟨a0, c0, rfl, hmx, _⟩ := id hl.1
  generalize l.length = nl at *
  clear hl
  go_enter Try.func8, Try.ntmps8
  go_wp2_with (first
    | (go_at_call 30; (refine k30.mono ?_; rintro e w1 ⟨q, d, s, r, k, rfl, ⟨D, x, y, W, hP, hbd⟩, hk, B1⟩; have HP1 : Hid (Pr W0.heap.size w1 q d s r D x y W) := hP; have HB1 : Hid (Below W0.heap.size W0 w1) := B1; have HW : Hid (D.wait.length ≤ 1000) := by { have := hbd.dz.wait; show D.wait.length ≤ 1000; omega }; clear hP hbd hk B1 k30))
    | (go_at_call 31; (refine Calls.mono (HL31.out _) ?_; rintro e w3 ⟨rfl, B3⟩; have HP3 : Hid (Pr W0.heap.size w3 q d s r D x y W) := HP1.out.below B3; have HB3 : Hid (Below W0.heap.size W0 w3) := HB1.out.trans (B3.mono HB1.out.size); clear B3)))
  have HC : Hid (∀ w', Below w3.heap.size w3 w' → w'.cell? ⟨q, 0, none⟩ = some (.pointer (some ⟨d, 0, none⟩)) ∧ w'.cell? ⟨q, 2, none⟩ = some (.pointer (some ⟨r, 0, none⟩))) := fun w' k => (HP3.out.below k).cells.2
  have H19 : Hid (∀ w i, Below w3.heap.size w3 w → Calls Try.prog 19 #[.pointer (some ⟨d, 0, none⟩), .int .i64 i] w fun e w' => ∃ v, e = .returned (.tuple #[v, .int .i64 (D.read i).2]) ∧ Str w' v (D.read i).1 ∧ Below w.heap.size w w') := fun w i hB => by
    obtain ⟨lv, xv, h1, h2, ⟨⟨wv, p1, _⟩, _⟩, _⟩ := (HP3.out.below hB).ex
    exact pread p1 i HW.out
  have H32 : Hid (∀ w i, Below w3.heap.size w3 w → Calls Try.prog 32 #[.pointer (some ⟨r, 0, none⟩), .int .i64 i] w fun e w' => ∃ v, e = .returned (.tuple #[v, .int .i64 (D.read i).2]) ∧ Str w' v (D.read i).1 ∧ Below w.heap.size w w') := fun w i hB => by
    obtain ⟨lv, xv, h1, _⟩ := (HP3.out.below hB).ex
    exact rread h1 i HW.out
  obtain ⟨f, hf⟩ : ∃ f : Int → Bs × Int, ∀ i, D.read i = f i := ⟨D.read, fun _ => rfl⟩
  simp only [hf] at H19 H32
  clear hf HP1 HP3 HW
  go_loopw [5] (fun p wr => ∃ i : Nat, p = .int .i64 (i : Int) ∧ Hid (i ≤ 12) ∧ Hid (Below w3.heap.size w3 wr)) (fun p _ => 12 - (intOf p).toNat)
  case atStart => exact ⟨0, rfl, Nat.zero_le _, Below.refl _ _⟩
  case round =>
    obtain ⟨i, rfl, hi, HI⟩ := hrel
    by_cases hlt : i < 12
    · have b1 : (i : Int) < 12 := by omega
      have HI1 : Hid (i + 1 ≤ 12) := hlt
      have c19 := H19.out wr (i : Int) HI.out
      have q0 := (HC.out wr HI.out).1
      go_wp2_with (first
        | (go_at_call 19; (refine c19.mono ?_; rintro e w5 ⟨v5, rfl, S5, B5⟩; have F5 := bmore HI.out B5; have q2 := (HC.out w5 F5).2; have c32 := H32.out w5 (i : Int) F5))
        | (go_at_call 32; (refine c32.mono ?_; rintro e w6 ⟨v6, rfl, S6, B6⟩; have HF6 : Hid (Below w3.heap.size w3 w6) := bmore F5 B6; have cv5 := (S5.below B6).1 w6 (fun _ _ => rfl); have cv6 := S6.1 w6 (fun _ _ => rfl); clear S5 S6 B6)))
      go_roundw
      case rel => exact ⟨i + 1, by simp, HI1.out, HF6.out⟩
      case measure => simp only [intOf]; exact meas_lt12 hlt
    · have b1 : ¬ (i : Int) < 12 := by omega
      go_wp2_with (first
        | (go_at_call 33; (refine Calls.mono (HM33.out _) ?_; rintro e w9 ⟨rfl, h9⟩; replace h9 := h9.symm; subst h9))
        | (go_at_call 34; (refine Calls.mono (HM34.out _) ?_; rintro e w9 ⟨rfl, h9⟩; replace h9 := h9.symm; subst h9)))
      go_ret
      exact ⟨rfl, HB3.out.trans (HI.out.mono HB3.out.size)⟩
end Go.Proofs.Ytnganmekiloigaa
/-! ### Deeds that came in, each with a number that is one. -/
namespace Go.Proofs.Ytnganmekiloigaa
open Go.ChangeShapes Go.WideShapes Go.ChangeAt Go.RowKit Go.Joins Go.Deep
set_option maxRecDepth 100000
variable {H : Type} {enc : TypeId × Value → H} {W : World}
theorem deedx_cells {n : Nat} {cs : List Value} {x : DataW H × List MemPlace} (h : DataW.trod enc Try.prog W 0 (fun _ => true) true n 69 cs = some x) :
    ∃ (y : WDeed) (vb vk : Value), cs = [.int .i64 y.1, vb, .int .i64 y.2.2.1, vk] ∧ InB W.heap.size W vb y.2.1 ∧ InK W.heap.size W vk y.2.2.2 ∧ -9223372036854775808 ≤ y.2.2.1 ∧ y.2.2.1 ≤ 9223372036854775807 := by
  obtain ⟨y0, y1, y2, y3, m, _, hl, h0, h1, h2, h3⟩ := trod_struct4 Try.underlying69 h
  rw [cellsOf69] at hl
  match cs, hl with
  | [c0, c1, c2, c3], _ =>
    simp only [cellsOf3, cellsOf30, cellsOf33] at h0 h1 h2 h3
    obtain ⟨a, e0, _, _⟩ := DataW.trod_int Try.underlying3 h0
    obtain ⟨b, e1, _, wb⟩ := DataW.trod_int Try.underlying3 h2
    obtain ⟨l, hB⟩ := openB (c := c1) h1
    obtain ⟨kl, hK⟩ := openK (c := c3) h3
    simp at e0 e1
    subst e0 e1
    exact ⟨(a, l, b, kl), c1, c3, rfl, hB, hK, bounds_i64 wb⟩
theorem openDeedsX {base : Nat} {v : Value} {d : DataW H} {p : List MemPlace} (hv : Value.okWide Try.prog W .any base 53 v) (h : DataW.Trod enc Try.prog W 0 (fun _ => true) true 53 v d p) : ∃ l : List WDeed, InDX W.heap.size W v l := by
  obtain ⟨a0, len0, cap0, rfl⟩ := okWide_slice Try.underlying53 hv
  obtain ⟨fuel, hf⟩ := h
  rcases open_slice Try.underlying53 hf with ⟨hcs, _⟩ | ⟨a, len, cap, m, n, D, Pl, hcs, _, hl, hm, hme, _, hc⟩
  · simp [Value.cells] at hcs
    obtain ⟨rfl, rfl, rfl⟩ := hcs
    exact ⟨[], ⟨none, 0, rfl, by simp, fun h => by simp at h⟩, by simp⟩
  · simp [Value.cells] at hcs
    obtain ⟨rfl, rfl, rfl⟩ := hcs
    have hml : len0 ≤ m := by rw [hme]; simp; exact hl
    have hex : ∀ i, i < len0 → ∃ (y : WDeed) (vb vk : Value), W.cells? 0 (a.add (i * 4)) 4 = some [.int .i64 y.1, vb, .int .i64 y.2.2.1, vk] ∧ InB W.heap.size W vb y.2.1 ∧ InK W.heap.size W vk y.2.2.2 ∧ -9223372036854775808 ≤ y.2.2.1 ∧ y.2.2.1 ≤ 9223372036854775807 := by
      intro i hi
      obtain ⟨cs', hcc, ht⟩ := hc i (by omega)
      obtain ⟨y, vb, vk, rfl, hy⟩ := deedx_cells ht
      rw [cellsOf69] at hcc
      exact ⟨y, vb, vk, hcc, hy⟩
    obtain ⟨f, hf2⟩ : ∃ f : Nat → WDeed, ∀ i, i < len0 → ∃ vb vk : Value, W.cells? 0 (a.add (i * 4)) 4 = some [.int .i64 (f i).1, vb, .int .i64 (f i).2.2.1, vk] ∧ InB W.heap.size W vb (f i).2.1 ∧ InK W.heap.size W vk (f i).2.2.2 ∧ -9223372036854775808 ≤ (f i).2.2.1 ∧ (f i).2.2.1 ≤ 9223372036854775807 := by
      refine ⟨fun i => if hi : i < len0 then Classical.choose (hex i hi) else (0, [], 0, []), fun i hi => ?_⟩
      have := Classical.choose_spec (hex i hi)
      simp only [hi, dif_pos]
      exact this
    refine ⟨(List.range len0).map f, ⟨some a, cap0, by simp, by simp; unfold maxLen at hm; omega, fun h0 => ?_⟩, fun x hx => ?_⟩
    case refine_2 =>
      simp only [List.mem_map, List.mem_range] at hx
      obtain ⟨i, hi, rfl⟩ := hx
      obtain ⟨_, _, _, _, _, hh⟩ := hf2 i hi
      exact hh
    have h0' : 0 < len0 := by simpa using h0
    obtain ⟨b, off, spot⟩ := a
    have hspot : spot = none := by
      obtain ⟨vb, vk, hq0, _⟩ := hf2 0 h0'
      have hq := (World.cells?_some hq0).2.2 0 (by omega)
      have := World.cell?_spot (by simpa using hq)
      simpa [Addr.add] using this
    subst hspot
    have hcell : ∀ i, i < len0 → DeedAtW W.heap.size W b (off + i * 4) (f i) := fun i hi => by
      obtain ⟨vb, vk, hq, hB, hK, _⟩ := hf2 i hi
      have hs := World.cells?_some hq
      rw [Addr.add_mid] at hs
      refine ⟨vb, vk, ⟨?_, ?_, ?_, ?_⟩, hB, hK⟩
      · have := hs.2.2 0 (by omega)
        rw [Addr.add_mid] at this
        simpa using this
      · have := hs.2.2 1 (by omega)
        rw [Addr.add_mid] at this
        simpa using this
      · have := hs.2.2 2 (by omega)
        rw [Addr.add_mid] at this
        simpa using this
      · have := hs.2.2 3 (by omega)
        rw [Addr.add_mid] at this
        simpa using this
    refine ⟨b, off, rfl, ?_, fun j x hx => ?_⟩
    · obtain ⟨vb, vk, ⟨h1, _⟩, _⟩ := hcell 0 h0'
      exact World.block_lt_of_cell? W _ h1
    · have hj : j < len0 := by have := (List.getElem?_eq_some_iff.1 hx).1; simpa using this
      have hxe : f j = x := by simpa [hj] using hx
      subst hxe
      exact hcell j hj
end Go.Proofs.Ytnganmekiloigaa
