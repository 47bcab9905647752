/- What chain's function yields. -/
import Derived.Test.YtnganmekiloigaaGu
import Derived.Test.YtnganmekiloigaaGv
namespace Go.Proofs.Ytnganmekiloigaa
open Go.RowKit
set_option maxRecDepth 100000
attribute [local go_sem] Oper.semAt_some
variable {w w' : World} {H L : List Pc}
/-- A later world that has the older one's blocks. -/
structure Ag (w0 W : World) : Prop where
  size : w0.heap.size ≤ W.heap.size
  block : ∀ k, k < w0.heap.size → W.heap[k]? = w0.heap[k]?
theorem Ag.keep {w0 W W' : World} {O : Nat → Prop} (h : Ag w0 W) (k : Keep O W W') (hO : ∀ j, j < w0.heap.size → ¬ O j) : Ag w0 W' := ⟨Nat.le_trans h.size k.size, fun j hj => (k.block j (by have := h.size; omega) (hO j hj)).trans (h.block j hj)⟩
theorem Ag.blk {w0 W : World} (h : Ag w0 W) {g : Nat} {l : List Value} {t : TypeId} (hb : Blk w0 g l t) : Blk W g l t := (h.block g hb.lt).trans hb
theorem Ag.lv {w0 W : World} (h : Ag w0 W) {α : Type} {E : Ety α} {v : Value} {L : List α} (hp : LV E w0 v L) : LV E W v L := hp.keep fun _ _ _ q => q.block (h.block _ q.lt)
theorem Blk.keep {O : Nat → Prop} {W W' : World} {b : Nat} {l : List Value} {t : TypeId} (h : Blk W b l t) (e : Keep O W W') (hn : ¬ O b) : Blk W' b l t := (e.block b h.lt hn).trans h
/-- A record as a value. -/
def EncR (N0 : Nat) (r : Rc) (v : Value) (W : World) : Prop := ∃ a n c, v = .agg #[.int .i64 (r.e : Int), .int .i64 (r.n : Int), .slice a n c] ∧ RW EB N0 W (.slice a n c) r.b
theorem EncR.keep {N0 : Nat} {r : Rc} {v : Value} {W W' : World} (h : EncR N0 r v W) (k : Keep (fun b => ∃ r, W.heap[b]? = some (.loop r)) W W') : EncR N0 r v W' := by
  obtain ⟨a, n, c, rfl, h⟩ := h
  refine ⟨a, n, c, rfl, ?_⟩
  obtain ⟨h1, h2 | ⟨g, cap, cur, hs, h3, h4, h5⟩⟩ := h
  · exact ⟨h1, .inl h2⟩
  · refine ⟨h1, .inr ⟨g, cap, cur, hs, h3, (k.block g (Array.getElem?_eq_some_iff.1 h4).1 ?_).trans h4, h5⟩⟩
    rintro ⟨r, hr⟩
    rw [h4] at hr
    cases hr
theorem EncR.below {N0 : Nat} {r : Rc} {v : Value} {W W' : World} (h : EncR N0 r v W) (k : Below W.heap.size W W') : EncR N0 r v W' := h.keep (Keep.of k)
def Gq (n b j : Nat) : Prop := j < n ∨ j = b
theorem eg101 : ∀ args w, (callFunc 101 args).run Try.prog w = .ok (.enter 101 args) w := enters_of Try.func101 (by kernel_rfl) rfl
theorem chain_step {H : List Pc} {g p e : Nat} {r : Rc} (hs : standP H p = some r) (he : ¬ r.e < e) : chainP H (g + 1) p e = r :: chainP H g (p + r.n) r.e := by rw [chainP, hs]; simp only; rw [if_neg he]
theorem chain_stop {H : List Pc} {g p e : Nat} (hs : standP H p = none) : chainP H (g + 1) p e = [] := by rw [chainP, hs]
theorem chain_stop2 {H : List Pc} {g p e : Nat} {r : Rc} (hs : standP H p = some r) (he : r.e < e) : chainP H (g + 1) p e = [] := by rw [chainP, hs]; simp only; rw [if_pos he]
set_option maxHeartbeats 2000000 in
theorem runs101 {N0 : Nat} {w0 W : World} {a : Option Addr} {n c b : Nat} (hl : LV EPc w0 (.slice a n c) H) (hH : H.length ≤ 64) (hok : ∀ x ∈ H, x.Ok) (hag : Ag w0 W) (hbq : Blk W b [.slice a n c] 106) (hN0 : N0 ≤ W.heap.size) :
    Runs Try.prog 101 #[.pointer (some ⟨b, 0, none⟩)] (EncR N0) (chainP H (H.length + 1) 0 0) (Gq w0.heap.size b) W := by
  intro l O J Jx hO hJs hJ hJx hY h0
  have nO : ∀ j, j < w0.heap.size → ¬ O j := fun j hj h => (hO j h).1 (.inl hj)
  have nb0 : ¬ O b := fun h => (hO b h).1 (.inr rfl)
  have HK : Hid (∀ W', Keep O W W' → W'.cell? ⟨b, 0, none⟩ = some (.slice a n c) ∧ ∀ p : Nat, Calls Try.prog 100 #[.slice a n c, .int .i64 (p : Int)] W' (SPost W' (standP H p))) := fun W' k => ⟨(hbq.keep k nb0).cell 0, fun p => standing100 ((hag.keep k nO).lv hl) hH hok p⟩
  have HP : Hid (∀ p r, standP H p = some r → 1 ≤ r.n ∧ p + r.n ≤ H.length ∧ r.e < 65536) := fun p r hs => by
    obtain ⟨f, h1, h2, h3, h4, h5, h6, h7, _⟩ := stand_some hs
    have := (hok f (List.mem_of_getElem? h1)).e
    exact ⟨h5, h7, by omega⟩
  have HJ : Hid _ := hJ
  have HY : Hid _ := hY
  have H0 : Hid _ := h0
  have HOs : Hid _ := hO
  have HJs : Hid _ := hJs
  clear hag hbq hO hJs hJ hJx hY h0 hl hok nO
  obtain ⟨xs, hxs⟩ : ∃ xs, chainP H (H.length + 1) 0 0 = xs := ⟨_, rfl⟩
  rw [hxs] at HY ⊢
  have HX : Hid (chainP H (H.length + 1) 0 0 = xs) := hxs
  clear hxs
  generalize H.length = M at *
  refine callsIn_of_wp Try.func101 rfl trivial ?_ rfl
  simp only [Try.ntmps101, List.size_toArray, List.length_cons, List.length_nil, Nat.reduceAdd, Nat.reduceSub, Array.replicate_succ, Array.replicate_zero, List.push_toArray, List.append_toArray, List.nil_append, List.cons_append]
  gi_wp2
  gi_loopw [3, 4] (fun q e wr => ∃ (p ep g : Nat) (pre : List Rc) (O' : Nat → Prop), q = .int .i64 (p : Int) ∧ e = .int .i64 (ep : Int) ∧ Hid (p ≤ M ∧ M - p < g ∧ ep < 65536) ∧ Hid (pre ++ chainP H g p ep = xs) ∧ Hid (J O' pre wr) ∧ Hid (GrewN W.heap.size O O') ∧ Hid (Keep O W wr)) (fun q _ _ => M + 1 - (intOf q).toNat)
  case atStart => exact ⟨0, 0, M + 1, [], O, rfl, rfl, ⟨Nat.zero_le _, by omega, by omega⟩, HX.out, H0.out, GrewN.refl _ _, Keep.refl _ _⟩
  case round =>
    obtain ⟨p, ep, g, pre, O', rfl, rfl, hb, hpre, hJ', hgr, hk⟩ := hrel
    obtain ⟨cb, k100⟩ := HK.out wr hk.out
    replace k100 := k100 p
    obtain ⟨hpM, hpg, hep⟩ := hb.out
    obtain ⟨g, rfl⟩ : ∃ g', g = g' + 1 := ⟨g - 1, by omega⟩
    cases hs : standP H p with
    | none =>
      rw [hs] at k100
      have hend := chain_stop (g := g) (e := ep) hs
      rw [hend, List.append_nil] at hpre
      gi_wp2
      refine ⟨trivial, rfl, ((callsIn_wide (n := 0)).2 k100).mono ?_⟩
      rintro e w1 ⟨hB1, rfl⟩
      simp only [noR]
      gi_wp2
      refine ⟨fun _ h => (by cases h), ?_⟩
      gi_wp2
      refine bodyPost_ret (results_none rfl _ _ _) rfl ?_
      exact ⟨⟨_, rfl⟩, .inl ⟨O', hpre.out ▸ HJ.out _ _ _ _ hJ'.out (Keep.of (bmore hB1 (al _ _))), hgr.out, hk.out.trans (Keep.of (bmore hB1 (al _ _))) (fun _ _ h => h)⟩⟩
    | some r =>
      rw [hs] at k100
      obtain ⟨hn1, hnM, he1⟩ := HP.out p r hs
      by_cases hre : r.e < ep
      · have hend := chain_stop2 (g := g) (e := ep) hs hre
        rw [hend, List.append_nil] at hpre
        have hre' : (r.e : Int) < (ep : Int) := by omega
        gi_wp2
        refine ⟨trivial, rfl, ((callsIn_wide (n := 0)).2 k100).mono ?_⟩
        rintro e w1 ⟨hB1, u, rfl, hu⟩
        obtain ⟨ua, uc, rfl, -⟩ := hu.form
        generalize r.b.length = un at *
        gi_wp2
        refine ⟨fun _ h => (by cases h), ?_⟩
        gi_wp2
        refine bodyPost_ret (results_none rfl _ _ _) rfl ?_
        exact ⟨⟨_, rfl⟩, .inl ⟨O', hpre.out ▸ HJ.out _ _ _ _ hJ'.out (Keep.of (bmore hB1 (al _ _))), hgr.out, hk.out.trans (Keep.of (bmore hB1 (al _ _))) (fun _ _ h => h)⟩⟩
      · have hend := chain_step (g := g) hs hre
        rw [hend] at hpre
        have hre' : ¬ (r.e : Int) < (ep : Int) := by omega
        gi_wp2
        refine ⟨trivial, rfl, ((callsIn_wide (n := 0)).2 k100).mono ?_⟩
        rintro e w1 ⟨hB1, u, rfl, hu⟩
        obtain ⟨ua, uc, rfl, -⟩ := hu.form
        obtain ⟨un, hun⟩ : ∃ un, r.b.length = un := ⟨_, rfl⟩
        have HE : Hid (∀ W', Below w1.heap.size w1 W' → EncR N0 r (.agg #[.int .i64 (r.e : Int), .int .i64 (r.n : Int), .slice ua un uc]) W') := fun W' k => by
          subst hun
          exact ⟨ua, _, uc, rfl, (hu.below k).lower (by have := hk.out.size; omega)⟩
        rw [hun]
        clear hu hun
        have hW1 := bmore hB1 (al w1 (.cells #[.int .i64 (r.e : Int), .int .i64 (r.n : Int), .slice ua un uc] 117))
        have KW : Hid (Keep O W (w1.alloc (.cells #[.int .i64 (r.e : Int), .int .i64 (r.n : Int), .slice ua un uc] 117))) := hk.out.trans (Keep.of hW1) (fun _ _ h => h)
        have HPre : Hid (pre ++ [r] <+: xs) := by show _ <+: _; rw [← hpre.out]; exact ⟨chainP H g (p + r.n) r.e, by simp⟩
        have hYd := HY.out O' pre r _ (w1.alloc (.cells #[.int .i64 (r.e : Int), .int .i64 (r.n : Int), .slice ua un uc] 117)) (HJ.out _ _ _ _ hJ'.out (Keep.of hW1)) (HE.out _ (al _ _)) HPre.out
        obtain ⟨fn, tmps, assign, body, hy, hRd⟩ := hYd
        have HRd : Hid _ := hRd
        have bR := blk_new w1 [.int .i64 (r.e : Int), .int .i64 (r.n : Int), .slice ua un uc] 117
        have HBR : Hid (¬ O' w1.heap.size) := fun h => by have := HJs.out _ _ _ hJ'.out _ h; have := hB1.size; omega
        clear hRd
        gi_wp2
        refine ⟨rfl, RoundIn.mono HRd.out ?_⟩
        rintro e W3 (⟨rfl, O3, hj3, hg3, hk3⟩ | ⟨rfl, O3, hj3, hg3, hk3⟩)
        · have b3 : Blk W3 w1.heap.size [.int .i64 (r.e : Int), .int .i64 (r.n : Int), .slice ua un uc] 117 := bR.keep hk3 HBR.out
          have d0 : W3.cell? ⟨w1.heap.size, 0, none⟩ = some (.int .i64 (r.e : Int)) := b3.cell 0
          have d1 : W3.cell? ⟨w1.heap.size, 1, none⟩ = some (.int .i64 (r.n : Int)) := b3.cell 1
          have HG3 : Hid (GrewN W.heap.size O O3) := hgr.out.trans hg3
          have HK3 : Hid (Keep O W W3) := KW.out.trans hk3 (fun q hq h => (hgr.out q h).elim id (fun h => by omega))
          have HJ3 : Hid _ := hj3
          clear hj3 hg3 hk3 hy
          have e0 : W3.drew.cell? ⟨w1.heap.size, 0, none⟩ = some (.int .i64 (r.e : Int)) := d0
          have e1 : W3.drew.cell? ⟨w1.heap.size, 1, none⟩ = some (.int .i64 (r.n : Int)) := d1
          gi_wp2
          gi_region
          all_goals (try gi_wp2)
          exact ⟨⟨p + r.n, r.e, g, pre ++ [r], O3, by simp, rfl, ⟨hnM, by omega, he1⟩, by show _ = _; rw [← hpre.out]; simp, HJ.out _ _ _ _ HJ3.out (Keep.of (Below.refl _ _).drew), HG3.out, HK3.out.drew⟩, by simp only [intOf]; omega⟩
        · have HG3 : Hid (GrewN W.heap.size O O3) := hgr.out.trans hg3
          have HK3 : Hid (Keep O W W3) := KW.out.trans hk3 (fun q hq h => (hgr.out q h).elim id (fun h => by omega))
          have HJ3 : Hid _ := hj3
          clear hj3 hg3 hk3 hy
          gi_wp2
          refine bodyPost_ret (results_none rfl _ _ _) rfl ?_
          exact ⟨⟨_, rfl⟩, .inr ⟨_, O3, HPre.out, HJ3.out, HG3.out, HK3.out⟩⟩
end Go.Proofs.Ytnganmekiloigaa
