/- The law SchemaForks. -/
import Derived.Test.YtkoagjfbhkhfkaaDoorFl
import Derived.Test.YtkoagjfbhkhfkaaDoorLi
import Derived.Test.YtkoagjfbhkhfkaaDoorPy
namespace Go.Proofs.YtkoagjfbhkhfkaaDoor
open Go.RowKit Go.Lib
set_option maxRecDepth 100000
theorem RCat.imp {w : World} {r : Nat} {lv : Value} {L : List Tv} {Q Q' : Nat → Prop} (h : RCat Q w r lv L) (hQ : ∀ g, g < w.heap.size → Q g → Q' g) : RCat Q' w r lv L := ⟨h.blk, h.tl.imp (fun g hg ⟨h1, h2⟩ => ⟨h1, hQ g hg h2⟩), h.ok, h.few⟩
theorem Two.low {B c m r : Nat} {w w3 : World} {nv lv : Value} {E : List En} {L : List Tv} (h : Two B w c m nv E r lv L) (hb : Below w.heap.size w w3) : RCat (fun k => k < w.heap.size) w3 r lv L := (h.rc.imp (fun _ hg _ => hg)).below hb
theorem two_fork {B c m r f mf gf r' : Nat} {w w3 w4 : World} {nv lv lv' : Value} {E T : List En} {L : List Tv} (h : Two B w c m nv E r lv L) (hc : Cat w3 f mf (.slice (some ⟨gf, 0, none⟩) E.length E.length) T) (he : T.map (·.1) = E.map (·.1)) (hge : w.heap.size ≤ f ∧ w.heap.size ≤ mf ∧ w.heap.size ≤ gf) (hb : Below w.heap.size w w3)
    (hr : RCat (fun k => k < w.heap.size ∨ w3.heap.size ≤ k) w4 r' lv' L) (hr' : w3.heap.size ≤ r') (hb4 : Below w3.heap.size w3 w4) : Two w.heap.size w4 f mf (.slice (some ⟨gf, 0, none⟩) E.length E.length) T r' lv' L := by
  have hft : ∀ k, foot f mf (.slice (some ⟨gf, 0, none⟩) E.length E.length) k → w.heap.size ≤ k ∧ k < w3.heap.size := fun k hk => ⟨by
    rcases hk with rfl | rfl | hk
    · exact hge.1
    · exact hge.2.1
    · cases hk; exact hge.2.2, hc.lt (foot_cat hk)⟩
  refine ⟨hc.below hb4, hr.imp (fun g _ hq hf => by have := hft g hf; rcases hq with hq | hq <;> omega), ?_, ?_, fun k hk => ?_⟩
  · rw [he]; exact h.eq
  · have h1 := h.nd
    rw [show (E.map (·.1.n)) = (E.map (·.1)).map (·.n) by simp] at h1
    rw [show (T.map (·.1.n)) = (T.map (·.1)).map (·.n) by simp, he]
    exact h1
  · rcases hk with hk | rfl
    · exact (hft k hk).1
    · exact Nat.le_trans hb.size hr'
set_option maxHeartbeats 8000000 in
theorem forks6 (v v' : Value) (T00 T : List Tv) (w0 : World) (hg : Good w0) (hv : IT w0 v T00) (hv' : IT w0 v' T) :
    Calls Tryd.prog 6 #[v, v'] w0 fun e w' => e = .returned (.bool true) ∧ Below w0.heap.size w0 w' := by
  have H7 := play7 v T00 w0 hg hv
  obtain ⟨⟨⟨a0, cp0, rfl, _, _⟩, _⟩, _⟩ := hv
  generalize T00.length = N0 at *
  have HIT : Hid (∀ w1, Below w0.heap.size w0 w1 → IT w1 v' T) := fun w1 h1 => ⟨hv'.1.below h1, hv'.2⟩
  obtain ⟨a, cp, hv2⟩ : ∃ a cp, v' = .slice a T.length cp := by obtain ⟨⟨⟨a, cp, h1, _, _⟩, _⟩, _⟩ := hv'; exact ⟨a, cp, h1⟩
  subst hv2
  clear hv'
  obtain ⟨N, hN⟩ : ∃ N, T.length = N := ⟨_, rfl⟩
  have HNN : Hid (T.length = N) := hN
  rw [hN]
  clear hN
  have HG0 : Hid (Good w0) := hg
  have HQ : Hid (∀ e w1, PPost w0 e w1 → ∃ c m nv E r lv L, e = .returned (.tuple #[.pointer (some ⟨c, 0, none⟩), .pointer (some ⟨r, 0, none⟩), .bool true]) ∧ PS w0 w1 c m nv E r lv L) := fun e w1 h => h
  have HQ2 : Hid (∀ w2 E e w3, FPost w2 E e w3 → ∃ f mf g T, e = .returned (.pointer (some ⟨f, 0, none⟩)) ∧ Cat w3 f mf (.slice (some ⟨g, 0, none⟩) E.length E.length) T ∧ T.map (·.1) = E.map (·.1) ∧ (w2.heap.size ≤ f ∧ w2.heap.size ≤ mf ∧ w2.heap.size ≤ g) ∧ Below w2.heap.size w2 w3) := fun _ _ _ _ h => h
  have HQ3 : Hid (∀ Q w3 L e w4, RFPost Q w3 L e w4 → ∃ r lv, e = .returned (.pointer (some ⟨r, 0, none⟩)) ∧ RCat (fun k => Q k ∨ w3.heap.size ≤ k) w4 r lv L ∧ w3.heap.size ≤ r ∧ Below w3.heap.size w3 w4) := fun _ _ _ _ _ h => h
  go_enter Tryd.func6, Tryd.ntmps6
  go_wp2_with (first
    | (go_at_call 7; refine H7.mono ?_; intro e w1 hpost; obtain ⟨c0, m0, nv0, E0, r0, lv0, L0, rfl, hps⟩ := HQ.out _ _ hpost; have HPA : Hid _ := hps; clear hps hpost)
    | (go_at_call 8; refine (live8 w1).mono ?_; rintro e w ⟨rfl, hb2⟩; have HT2 : Hid _ := HPA.out.two.below hb2)
    | (go_at_call 17; refine (fork17 HT2.out.cat HT2.out.nd).mono ?_; intro e w3 hpost; obtain ⟨c, m, gf, Tf, rfl, hcf, hef, hge, hb3⟩ := HQ2.out _ _ _ _ hpost; have HCF : Hid _ := hcf; have HEF : Hid _ := hef; clear hcf hef hpost)
    | (go_at_call 19; refine (rfork19 (HT2.out.low hb3)).mono ?_; intro e w4 hpost; obtain ⟨r, lvf, rfl, hrc, hr, hb4⟩ := HQ3.out _ _ _ _ _ hpost; have HRC0 : Hid _ := hrc; clear hrc hpost))
  have HB0 : Hid (Below w0.heap.size w0 w) := bmore HPA.out.bel hb2
  have HT0 : Hid (∀ W, Below w.heap.size w W → Two w0.heap.size W c0 m0 nv0 E0 r0 lv0 L0) := fun W hW => HT2.out.below hW
  have HGD : Hid (Good w) := HG0.out.below HB0.out
  have HP0 : Hid (PS w w4 c m (.slice (some ⟨gf, 0, none⟩) E0.length E0.length) Tf r lvf L0) := ⟨two_fork HT2.out HCF.out HEF.out hge hb3 HRC0.out hr hb4, bmore hb3 hb4, HPA.out.ahead⟩
  have HA : Hid (0 < T.length → ∃ g o, a = some ⟨g, o, none⟩ ∧ g < w.heap.size ∧ True ∧ TabsAt w g o T) := fun h0 => by
    obtain ⟨⟨⟨a1, c1, h1, _, h2⟩, _⟩, _⟩ := HIT.out w HB0.out
    simp only [Value.slice.injEq] at h1
    obtain ⟨rfl, _, _⟩ := h1
    exact h2 h0
  have HF : Hid (∀ x ∈ T, ∀ w1, Below w.heap.size w w1 → Calls Tryd.prog 10 #[TB (str x.1.n) x.2 (str x.1.p) x.1.r] w1 fun e w' => ∃ va vc, e = .returned (TB (str x.1.n) (.slice va (x.1.cols.take 8).length vc) (str x.1.p) x.1.r) ∧ SC w' (.slice va (x.1.cols.take 8).length vc) (x.1.cols.take 8) ∧ Below w1.heap.size w1 w') := fun x hx w1 h1 => few10 _ _ _ _ _ w1 (((HIT.out w HB0.out).1.2 x hx).keep h1.size (fun k hk _ => h1.block k hk)) ((HIT.out w HB0.out).2 x hx)
  have HFM : Hid (∀ x ∈ T, ∃ xa xl xc, x.2 = .slice xa xl xc) := fun x hx => SV_one ((HIT.out w HB0.out).1.2 x hx)
  clear H7 HIT HQ HQ2 HQ3 HPA HT2 HCF HEF HRC0 hb2 hb3 hb4 hge hr HG0 hg
  go_loopw [10] (fun q wr => ∃ (k : Nat) (nv : Value) (E : List En) (lv : Value) (L : List Tv), k ≤ N ∧ k ≤ 4 ∧ q = .int .i64 (k : Int) ∧ Hid (PS w wr c m nv E r lv L)) (fun q _ => 4 - (RowKit.intOf q).toNat)
  case atStart => exact ⟨0, _, Tf, _, L0, by omega, by omega, rfl, HP0⟩
  case round =>
    obtain ⟨k, nv, E, lv, L, hk, hk8, rfl, HP⟩ := hrel
    by_cases hkn : k < N
    · have h1 : (k : Int) < (N : Int) := by omega
      by_cases hk2 : k < 4
      · have h2 : (k : Int) < 4 := by omega
        have hk0 : (0 : Int) ≤ (k : Int) := by omega
        obtain ⟨x, hx⟩ : ∃ x, T[k]? = some x := ⟨_, List.getElem?_eq_getElem (by rw [HNN.out]; exact hkn)⟩
        obtain ⟨g, o, rfl, hgl, _, hco⟩ := HA.out (by rw [HNN.out]; omega)
        have hxm := List.mem_of_getElem? hx
        have hx4 := hco k x hx
        have H10 := HF.out x hxm
        obtain ⟨xa, xl, xc, hx2⟩ := HFM.out x hxm
        rw [hx2] at hx4 H10
        have HS : Hid (∀ w1, Below w.heap.size w w1 → w1.cell? ⟨g, o + k * 4, none⟩ = some (.string (str x.1.n)) ∧ w1.cell? ⟨g, o + k * 4 + 1, none⟩ = some (.slice xa xl xc) ∧ w1.cell? ⟨g, o + k * 4 + 2, none⟩ = some (.string (str x.1.p)) ∧ w1.cell? ⟨g, o + k * 4 + 3, none⟩ = some (.int .i64 x.1.r)) := fun w1 hb => by
          obtain ⟨q0, q1, q2, q3⟩ := hx4
          exact ⟨(hb.cell (p := ⟨g, _, none⟩) hgl).trans q0, (hb.cell (p := ⟨g, _, none⟩) hgl).trans q1, (hb.cell (p := ⟨g, _, none⟩) hgl).trans q2, (hb.cell (p := ⟨g, _, none⟩) hgl).trans q3⟩
        have hc8 : (x.1.cols.take 8).length ≤ 1000 := by rw [List.length_take]; omega
        obtain ⟨M, hM⟩ : ∃ M, (x.1.cols.take 8).length = M := ⟨_, rfl⟩
        simp only [hM] at H10
        have HPC : Hid (∀ w1 va vc, Below wr.heap.size wr w1 → SC w1 (.slice va M vc) (x.1.cols.take 8) → Calls Tryd.prog 20 #[.pointer (some ⟨c, 0, none⟩), TB (str x.1.n) (.slice va M vc) (str x.1.p) x.1.r] w1 fun e w' => e = .returned (.int .i64 (refuse E ⟨x.1.n, x.1.cols.take 8, x.1.p, x.1.r⟩)) ∧ ∃ nv' E', Mid w.heap.size w' c m nv' E E' r lv L ⟨x.1.n, x.1.cols.take 8, x.1.p, x.1.r⟩ ∧ Below w.heap.size w1 w') := fun w1 va vc hb hs => by
          subst hM
          have := prog_create (HP.out.two.below hb) (Nat.le_trans HP.out.bel.size hb.size) (str x.1.n) (str x.1.p) _ _ x.1.r hs hc8
          simpa only [bs_str] using this
        have HRC : Hid (∀ w1 nv' E' va vc, Mid w.heap.size w1 c m nv' E E' r lv L ⟨x.1.n, x.1.cols.take 8, x.1.p, x.1.r⟩ → Below w.heap.size w w1 → SC w1 (.slice va M vc) (x.1.cols.take 8) → Calls Tryd.prog 21 #[.pointer (some ⟨r, 0, none⟩), TB (str x.1.n) (.slice va M vc) (str x.1.p) x.1.r] w1 fun e w' => e = .returned (.int .i64 (refuse E ⟨x.1.n, x.1.cols.take 8, x.1.p, x.1.r⟩)) ∧ ∃ nv' E' lv' L', PS w w' c m nv' E' r lv' L') := fun w1 nv' E' va vc hmid hb hs => by
          subst hM
          have := ref_create (str x.1.n) (str x.1.p) (x.1.cols.take 8) x.1.r (by simpa only [bs_str] using hmid) (HGD.out.below hb) hb.size _ hs hc8
          simp only [bs_str] at this
          refine this.mono fun e w' ⟨h1, lv', L', h2, h3, h4⟩ => ⟨h1, nv', E', lv', L', h2, hb.trans h3, h4 HP.out.ahead⟩
        have F0 : Below w.heap.size w wr.drew := HP.out.bel.drew
        have hS0 := HS.out _ F0
        have HT0 : Hid (Below wr.heap.size wr wr.drew) := (Below.refl _ _).drew
        have H10' : Hid _ := H10
        clear H10 hx4 hco hx hM
        generalize x.1.cols.take 8 = xc8 at *
        generalize refuse E ⟨x.1.n, x.1.cols.take 8, x.1.p, x.1.r⟩ = R at *
        go_wp2_with fail
        go_region_held3 (fun w' => w'.cell? ⟨g, o + k * 4, none⟩ = some (.string (str x.1.n)) ∧ w'.cell? ⟨g, o + k * 4 + 1, none⟩ = some (.slice xa xl xc) ∧ w'.cell? ⟨g, o + k * 4 + 2, none⟩ = some (.string (str x.1.p)) ∧ w'.cell? ⟨g, o + k * 4 + 3, none⟩ = some (.int .i64 x.1.r)) (first | exact hS0 | exact HS.out _ F1 | exact HS.out _ F2 | exact HS.out _ F3 | exact HS.out _ F4) (first
          | (go_at_call 10; (with_reducible refine (H10'.out _ F0).mono ?_); rintro e w1 ⟨va, vc, rfl, hsc1, hb1⟩; have F1 := F0.trans (hb1.mono F0.size); have G1 := bmore HT0.out hb1)
          | (go_at_call 20; (with_reducible refine (HPC.out _ _ _ G1 hsc1).mono ?_); rintro e w2 ⟨rfl, nv2, E2, hmid, hb2⟩; have F2 := F1.trans hb2)
          | (go_at_call 10; (with_reducible refine (H10'.out _ F2).mono ?_); rintro e w3 ⟨va3, vc3, rfl, hsc3, hb3⟩; have F3 := F2.trans (hb3.mono F2.size); have hmid3 := hmid.below hb3)
          | (go_at_call 21; (with_reducible refine (HRC.out _ _ _ _ _ hmid3 F3 hsc3).mono ?_); rintro e w4 ⟨rfl, nv4, E4, lv4, L4, hps4⟩; have F4 := hps4.bel; have HP4 : Hid _ := hps4; clear hps4))
        go_wp2
        go_roundw
        case rel => exact ⟨k + 1, nv4, E4, lv4, L4, by omega, by omega, by simp, HP4⟩
        case measure => simp [RowKit.intOf]; omega
      · have h2 : ¬ (k : Int) < 4 := by omega
        have HTC : Hid (∀ W, Below wr.heap.size wr W → Two w0.heap.size W c0 m0 nv0 E0 r0 lv0 L0) := fun W hW => HT0.out W (bmore HP.out.bel hW)
        have HTF : Hid (∀ W, Below wr.heap.size wr W → Two w.heap.size W c m nv E r lv L) := fun W hW => HP.out.two.below hW
        have hna : (⟨#[97]⟩ : ByteArray).size ≤ maxLen := by unfold maxLen; decide
        go_wp2_with (first
          | (go_at_call 22; (with_reducible refine (get22_nil _ _).mono ?_); rintro e w5 ⟨rfl, hb5⟩; have G5 := bal hb5 (.cells #[.string ⟨#[]⟩, .slice none 0 0, .string ⟨#[]⟩, .int .i64 0] 32))
          | (go_at_call 9; (with_reducible refine (same9 (HTC.out _ G5) _ hna).mono ?_); rintro e w6 ⟨rfl, hb6⟩; have G6 := bmore G5 hb6)
          | (go_at_call 9; (with_reducible refine (same9 (HTF.out _ G6) _ hna).mono ?_); rintro e w7 ⟨rfl, hb7⟩; have G7 := bmore G6 hb7)
          | (go_at_call 20; (with_reducible refine (create20_nil _).mono ?_); rintro e w8 ⟨rfl, hb8⟩; have G8 := bmore G7 hb8)
          | (go_at_call 23; (with_reducible refine (names23_nil _).mono ?_); rintro e w9 ⟨rfl, hb9⟩; have G9 := bmore G8 hb9)
          | (go_at_call 18; (with_reducible refine (tables18_nil _).mono ?_); rintro e w10 ⟨rfl, hb10⟩; have G10 := bmore G9 hb10)
          | (go_at_call 24; (with_reducible refine (kids24_nil _ _).mono ?_); rintro e w11 ⟨rfl, hb11⟩; have G11 := bmore G10 hb11)
          | (go_at_call 15; (with_reducible refine (same15_nil _).mono ?_); rintro e w12 ⟨rfl, hb12⟩; have G12 := bmore G11 hb12)
          | (go_at_call 17; (with_reducible refine (fork17_nil _).mono ?_); rintro e w13 ⟨rfl, hb13⟩; have G13 := bmore G12 hb13))
        go_ret
        exact ⟨rfl, HB0.out.trans ((bmore HP.out.bel G13).mono HB0.out.size)⟩
    · have h1 : ¬ (k : Int) < (N : Int) := by omega
      have HTC : Hid (∀ W, Below wr.heap.size wr W → Two w0.heap.size W c0 m0 nv0 E0 r0 lv0 L0) := fun W hW => HT0.out W (bmore HP.out.bel hW)
      have HTF : Hid (∀ W, Below wr.heap.size wr W → Two w.heap.size W c m nv E r lv L) := fun W hW => HP.out.two.below hW
      have hna : (⟨#[97]⟩ : ByteArray).size ≤ maxLen := by unfold maxLen; decide
      go_wp2_with (first
        | (go_at_call 22; (with_reducible refine (get22_nil _ _).mono ?_); rintro e w5 ⟨rfl, hb5⟩; have G5 := bal hb5 (.cells #[.string ⟨#[]⟩, .slice none 0 0, .string ⟨#[]⟩, .int .i64 0] 32))
        | (go_at_call 9; (with_reducible refine (same9 (HTC.out _ G5) _ hna).mono ?_); rintro e w6 ⟨rfl, hb6⟩; have G6 := bmore G5 hb6)
        | (go_at_call 9; (with_reducible refine (same9 (HTF.out _ G6) _ hna).mono ?_); rintro e w7 ⟨rfl, hb7⟩; have G7 := bmore G6 hb7)
        | (go_at_call 20; (with_reducible refine (create20_nil _).mono ?_); rintro e w8 ⟨rfl, hb8⟩; have G8 := bmore G7 hb8)
        | (go_at_call 23; (with_reducible refine (names23_nil _).mono ?_); rintro e w9 ⟨rfl, hb9⟩; have G9 := bmore G8 hb9)
        | (go_at_call 18; (with_reducible refine (tables18_nil _).mono ?_); rintro e w10 ⟨rfl, hb10⟩; have G10 := bmore G9 hb10)
        | (go_at_call 24; (with_reducible refine (kids24_nil _ _).mono ?_); rintro e w11 ⟨rfl, hb11⟩; have G11 := bmore G10 hb11)
        | (go_at_call 15; (with_reducible refine (same15_nil _).mono ?_); rintro e w12 ⟨rfl, hb12⟩; have G12 := bmore G11 hb12)
        | (go_at_call 17; (with_reducible refine (fork17_nil _).mono ?_); rintro e w13 ⟨rfl, hb13⟩; have G13 := bmore G12 hb13))
      go_ret
      exact ⟨rfl, HB0.out.trans ((bmore HP.out.bel G13).mono HB0.out.size)⟩
end Go.Proofs.YtkoagjfbhkhfkaaDoor
