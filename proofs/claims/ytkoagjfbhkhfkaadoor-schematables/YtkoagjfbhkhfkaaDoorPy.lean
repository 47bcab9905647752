/- play. -/
import Derived.Test.YtkoagjfbhkhfkaaDoorPm
namespace Go.Proofs.YtkoagjfbhkhfkaaDoor
open Go.RowKit Go.Lib
set_option maxRecDepth 100000
/-- Tables that came in. -/
def IT (w : World) (v : Value) (T : List Tv) : Prop := TL (fun _ => True) w v T ∧ ∀ x ∈ T, ∀ a k c, x.2 = .slice a k c → c ≤ maxLen
/-- What stands at each round of play. -/
structure PS (w wr : World) (c m : Nat) (nv : Value) (E : List En) (r : Nat) (lv : Value) (L : List Tv) : Prop where
  two : Two w.heap.size wr c m nv E r lv L
  bel : Below w.heap.size w wr
  ahead : Ahead (L.map (·.1))
def PPost (w : World) (e : Ending) (w' : World) : Prop := ∃ c m nv E r lv L, e = .returned (.tuple #[.pointer (some ⟨c, 0, none⟩), .pointer (some ⟨r, 0, none⟩), .bool true]) ∧ PS w w' c m nv E r lv L
set_option maxHeartbeats 4000000 in
theorem play7 (v : Value) (T : List Tv) (w : World) (hg : Good w) (hv : IT w v T) :
    Calls Tryd.prog 7 #[v] w (PPost w) := by
  obtain ⟨⟨⟨a, cp, rfl, _, hat⟩, hcols⟩, hmax⟩ := hv
  obtain ⟨N, hN⟩ : ∃ N, T.length = N := ⟨_, rfl⟩
  have HNN : Hid (T.length = N) := hN
  have HA : Hid (0 < T.length → ∃ g o, a = some ⟨g, o, none⟩ ∧ g < w.heap.size ∧ True ∧ TabsAt w g o T) := hat
  have HF : Hid (∀ x ∈ T, ∀ w1, Below w.heap.size w w1 → Calls Tryd.prog 10 #[TB (str x.1.n) x.2 (str x.1.p) x.1.r] w1 fun e w' => ∃ va vc, e = .returned (TB (str x.1.n) (.slice va (x.1.cols.take 8).length vc) (str x.1.p) x.1.r) ∧ SC w' (.slice va (x.1.cols.take 8).length vc) (x.1.cols.take 8) ∧ Below w1.heap.size w1 w') := fun x hx w1 h1 => few10 _ _ _ _ _ w1 ((hcols x hx).keep h1.size (fun k hk _ => h1.block k hk)) (hmax x hx)
  have HFM : Hid (∀ x ∈ T, ∃ xa xl xc, x.2 = .slice xa xl xc) := fun x hx => SV_one (hcols x hx)
  rw [hN]
  clear hN hat hcols hmax
  have H26 := rnew26 (fun _ => True)
  go_enter Tryd.func7, Tryd.ntmps7
  go_wp2_with (first
    | (go_at_call 25; refine (new4 _).mono ?_; rintro e w1 ⟨c, m, rfl, hcat, hc, hm, hb1⟩)
    | (go_at_call 26; refine (H26 _).mono ?_; rintro e w2 ⟨r, rfl, hrc, hr, hb2⟩))
  have HP0 : Hid (PS w w2 c m (.slice none 0 0) [] r (.slice none 0 0) []) := ⟨⟨hcat.below hb2, ⟨hrc.blk, ⟨⟨none, 0, rfl, Nat.le_refl _, fun h => by simp at h⟩, by simp⟩, by simp, by simp⟩, rfl, by simp, fun k hk => by
      rcases hk with (rfl | rfl | hk) | rfl
      · exact hc
      · exact hm
      · cases hk
      · exact Nat.le_trans hb1.size hr⟩, bmore hb1 hb2, fun i x hx => by simp at hx⟩
  clear hcat hc hm hb1 hrc hr hb2 H26
  go_loopw [7] (fun q wr => ∃ (k : Nat) (nv : Value) (E : List En) (lv : Value) (L : List Tv), k ≤ N ∧ k ≤ 8 ∧ q = .int .i64 (k : Int) ∧ Hid (PS w wr c m nv E r lv L)) (fun q _ => 8 - (RowKit.intOf q).toNat)
  case atStart => exact ⟨0, _, [], _, [], by omega, by omega, rfl, HP0⟩
  case round =>
    obtain ⟨k, nv, E, lv, L, hk, hk8, rfl, HP⟩ := hrel
    by_cases hkn : k < N
    · have h1 : (k : Int) < (N : Int) := by omega
      by_cases hk2 : k < 8
      · have h2 : (k : Int) < 8 := by omega
        have hk0 : (0 : Int) ≤ (k : Int) := by omega
        obtain ⟨x, hx⟩ : ∃ x, T[k]? = some x := ⟨_, List.getElem?_eq_getElem (by rw [HNN.out]; exact hkn)⟩
        obtain ⟨g, o, rfl, hgl, _, hco⟩ := HA.out (by rw [HNN.out]; omega)
        have hxm := List.mem_of_getElem? hx
        have hx4 := hco k x hx
        have H10 := HF.out x hxm
        obtain ⟨xa, xl, xc, hx2⟩ := HFM.out x hxm
        rw [hx2] at hx4 H10
        have HS : Hid (∀ w1, Below w.heap.size w w1 → w1.cell? ⟨g, o + k * 4, none⟩ = some (.string (str x.1.n)) ∧ w1.cell? ⟨g, o + k * 4 + 1, none⟩ = some (.slice xa xl xc) ∧ w1.cell? ⟨g, o + k * 4 + 2, none⟩ = some (.string (str x.1.p)) ∧ w1.cell? ⟨g, o + k * 4 + 3, none⟩ = some (.int .i64 x.1.r)) := fun w1 hb => by
          obtain ⟨q0, q1, q2, q3⟩ := hx4
          exact ⟨(hb.cell (p := ⟨g, _, none⟩) hgl).trans q0, (hb.cell (p := ⟨g, _, none⟩) hgl).trans q1, (hb.cell (p := ⟨g, _, none⟩) hgl).trans q2, (hb.cell (p := ⟨g, _, none⟩) hgl).trans q3⟩
        have hc8 : (x.1.cols.take 8).length ≤ 1000 := by rw [List.length_take]; omega
        obtain ⟨M, hM⟩ : ∃ M, (x.1.cols.take 8).length = M := ⟨_, rfl⟩
        simp only [hM] at H10
        have HPC : Hid (∀ w1 va vc, Below wr.heap.size wr w1 → SC w1 (.slice va M vc) (x.1.cols.take 8) → Calls Tryd.prog 20 #[.pointer (some ⟨c, 0, none⟩), TB (str x.1.n) (.slice va M vc) (str x.1.p) x.1.r] w1 fun e w' => e = .returned (.int .i64 (refuse E ⟨x.1.n, x.1.cols.take 8, x.1.p, x.1.r⟩)) ∧ ∃ nv' E', Mid w.heap.size w' c m nv' E E' r lv L ⟨x.1.n, x.1.cols.take 8, x.1.p, x.1.r⟩ ∧ Below w.heap.size w1 w') := fun w1 va vc hb hs => by
          subst hM
          have := prog_create (HP.out.two.below hb) (Nat.le_trans HP.out.bel.size hb.size) (str x.1.n) (str x.1.p) _ _ x.1.r hs hc8
          simpa only [bs_str] using this
        have HRC : Hid (∀ w1 nv' E' va vc, Mid w.heap.size w1 c m nv' E E' r lv L ⟨x.1.n, x.1.cols.take 8, x.1.p, x.1.r⟩ → Below w.heap.size w w1 → SC w1 (.slice va M vc) (x.1.cols.take 8) → Calls Tryd.prog 21 #[.pointer (some ⟨r, 0, none⟩), TB (str x.1.n) (.slice va M vc) (str x.1.p) x.1.r] w1 fun e w' => e = .returned (.int .i64 (refuse E ⟨x.1.n, x.1.cols.take 8, x.1.p, x.1.r⟩)) ∧ ∃ nv' E' lv' L', PS w w' c m nv' E' r lv' L') := fun w1 nv' E' va vc hmid hb hs => by
          subst hM
          have := ref_create (str x.1.n) (str x.1.p) (x.1.cols.take 8) x.1.r (by simpa only [bs_str] using hmid) (hg.below hb) hb.size _ hs hc8
          simp only [bs_str] at this
          refine this.mono fun e w' ⟨h1, lv', L', h2, h3, h4⟩ => ⟨h1, nv', E', lv', L', h2, hb.trans h3, h4 HP.out.ahead⟩
        have F0 : Below w.heap.size w wr.drew := HP.out.bel.drew
        have hS0 := HS.out _ F0
        have HT0 : Hid (Below wr.heap.size wr wr.drew) := (Below.refl _ _).drew
        have H10' : Hid _ := H10
        clear H10 hx4 hco hx hM
        generalize x.1.cols.take 8 = xc8 at *
        generalize refuse E ⟨x.1.n, x.1.cols.take 8, x.1.p, x.1.r⟩ = R at *
        go_wp2_with fail
        go_region_held3 (fun w' => w'.cell? ⟨g, o + k * 4, none⟩ = some (.string (str x.1.n)) ∧ w'.cell? ⟨g, o + k * 4 + 1, none⟩ = some (.slice xa xl xc) ∧ w'.cell? ⟨g, o + k * 4 + 2, none⟩ = some (.string (str x.1.p)) ∧ w'.cell? ⟨g, o + k * 4 + 3, none⟩ = some (.int .i64 x.1.r)) (first | exact hS0 | exact HS.out _ F1 | exact HS.out _ F2 | exact HS.out _ F3 | exact HS.out _ F4) (first
          | (go_at_call 10; (with_reducible refine (H10'.out _ F0).mono ?_); rintro e w1 ⟨va, vc, rfl, hsc1, hb1⟩; have F1 := F0.trans (hb1.mono F0.size); have G1 := bmore HT0.out hb1)
          | (go_at_call 20; (with_reducible refine (HPC.out _ _ _ G1 hsc1).mono ?_); rintro e w2 ⟨rfl, nv2, E2, hmid, hb2⟩; have F2 := F1.trans hb2)
          | (go_at_call 10; (with_reducible refine (H10'.out _ F2).mono ?_); rintro e w3 ⟨va3, vc3, rfl, hsc3, hb3⟩; have F3 := F2.trans (hb3.mono F2.size); have hmid3 := hmid.below hb3)
          | (go_at_call 21; (with_reducible refine (HRC.out _ _ _ _ _ hmid3 F3 hsc3).mono ?_); rintro e w4 ⟨rfl, nv4, E4, lv4, L4, hps4⟩; have F4 := hps4.bel; have HP4 : Hid _ := hps4; clear hps4))
        go_wp2
        go_roundw
        case rel => exact ⟨k + 1, nv4, E4, lv4, L4, by omega, by omega, by simp, HP4⟩
        case measure => simp [RowKit.intOf]; omega
      · have h2 : ¬ (k : Int) < 8 := by omega
        go_wp2
        go_ret3
        exact show PPost _ _ _ from ⟨c, m, nv, E, r, lv, L, rfl, HP.out⟩
    · have h1 : ¬ (k : Int) < (N : Int) := by omega
      go_wp2
      go_ret3
      exact show PPost _ _ _ from ⟨c, m, nv, E, r, lv, L, rfl, HP.out⟩
end Go.Proofs.YtkoagjfbhkhfkaaDoor
