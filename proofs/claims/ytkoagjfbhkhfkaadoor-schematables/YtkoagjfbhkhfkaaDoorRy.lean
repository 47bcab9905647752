/- The reference's Create, where a table is laid in. -/
import Derived.Test.YtkoagjfbhkhfkaaDoorRt
namespace Go.Proofs.YtkoagjfbhkhfkaaDoor
open Go.RowKit Go.Lib
set_option maxRecDepth 100000
variable {w w' : World} {r : Nat} {lv : Value} {L : List Tv} {Q : Nat → Prop}
theorem refuseR_ok {t : Tb} (h : refuseR L t = 0) : rtB t.n t.cols t.p t.r = true := by
  unfold refuseR at h
  split at h
  · cases h
  · rename_i h1
    simpa using h1
theorem refuseR_new {t : Tb} (h : refuseR L t = 0) : rfnd L t.n = none ∧ L.length < 3 := by
  unfold refuseR at h
  split at h
  · cases h
  · split at h
    · cases h
    · rename_i h2
      split at h
      · cases h
      · exact ⟨by simpa using h2, by omega⟩
/-- The catalog with one table more. -/
theorem rcat_more {W0 C : World} {B g cap : Nat} {x : Tv} (h : RCat Q W0 r lv L) (hC : Below W0.heap.size W0 C) (hrB : r < B) (hQ : ∀ k, B ≤ k → Q k) (hown : C.ownsRow B 32 4 (.slice (some ⟨g, 0, none⟩) (L.length + 1) cap) (L.length + 1) (cellsT (L ++ [x]))) (hB : B ≤ g) (hx : SCP (fun k => B ≤ k) C x.2 x.1.cols) (hr : rtB x.1.n x.1.cols x.1.p x.1.r = true) (hf : L.length < 3) :
    RCat Q (C.setCell ⟨r, 0, none⟩ (.slice (some ⟨g, 0, none⟩) (L.length + 1) cap)) r (.slice (some ⟨g, 0, none⟩) (L.length + 1) cap) (L ++ [x]) := by
  have hC' := h.below hC
  have h1 : TL (fun k => k ≠ r ∧ Q k) C (.slice (some ⟨g, 0, none⟩) (L.length + 1) cap) (L ++ [x]) := TL.own hown (fun g' hg' => by simp [Value.ownBlock] at hg'; subst hg'; exact ⟨by omega, hQ _ hB⟩) (fun y hy => by
    rcases List.mem_append.1 hy with hy | hy
    · exact hC'.tl.2 y hy
    · simp at hy
      subst hy
      exact hx.imp (fun k _ hk => ⟨by omega, hQ k hk⟩))
  refine ⟨hC'.blk.set _, h1.keep (by simp [World.setCell]) (fun k _ hk => Below.heap_setCell _ _ _ _ hk.1), ?_, by simp; omega⟩
  intro y hy
  rcases List.mem_append.1 hy with hy | hy
  · exact h.ok y hy
  · simp at hy
    subst hy
    exact hr
set_option maxHeartbeats 4000000 in
theorem rcreate_yes (h : RCat Q w r lv L) (hQ : ∀ k, w.heap.size ≤ k → Q k) (hg : Good w) (n p : ByteArray) (v : Value) (l : List Cl) (q : Int) (hv : SC w v l) (hl : l.length ≤ 1000) (hr : refuseR L ⟨bs n, l, bs p, q⟩ = 0) :
    Calls Tryd.prog 21 #[.pointer (some ⟨r, 0, none⟩), TB n v p q] w fun e w' => e = .returned (.int .i64 0) ∧ ∃ lv' v', RCat Q w' r lv' (L ++ [(⟨bs n, l, bs p, q⟩, v')]) ∧ Keep (fun k => k = r) w w' := by
  have H12 : Hid (∀ w1, Below w.heap.size w w1 → Calls Tryd.prog 12 #[TB n v p q] w1 fun e w' => e = .returned (.bool true) ∧ Below w1.heap.size w1 w') := fun w1 h1 => by
    have := rright12 n p v l q w1 (hg.below h1) (hv.below h1) hl
    rwa [refuseR_ok hr] at this
  have HO : Hid (∀ w1, Below w.heap.size w w1 → Calls Tryd.prog 42 #[TB n v p q] w1 fun e w' => ∃ va vc, e = .returned (TB n (.slice va l.length vc) p q) ∧ SCP (fun g => w1.heap.size ≤ g) w' (.slice va l.length vc) l ∧ Below w1.heap.size w1 w') := fun w1 h1 => own42 n p v l q w1 (hv.below h1) hl (rtB_cols (refuseR_ok hr)).1
  have HSC : Hid (∀ w1, Below w.heap.size w w1 → SC w1 v l) := fun w1 h1 => hv.below h1
  have HC : Hid (∀ w1, Below w.heap.size w w1 → RCat Q w1 r lv L) := fun w1 h1 => h.below h1
  obtain ⟨hfn, hf3⟩ := refuseR_new hr
  simp only at hfn
  have hrt := refuseR_ok hr
  simp only at hrt
  obtain ⟨a, cp, rfl, _⟩ := hv
  obtain ⟨la, lc, rfl⟩ : ∃ la lc, lv = .slice la L.length lc := by obtain ⟨⟨la, lc, h1, _⟩, _⟩ := h.tl; exact ⟨la, lc, h1⟩
  have b0 := blk_new w [.string n, .slice a l.length cp, .string p, .int .i64 q] 32
  have HG : Hid (∀ w1, Below w.heap.size w w1 → _) := fun w1 h1 => rget_none (HC.out w1 h1) n hfn
  have h3i : ¬ (3 : Int) ≤ (L.length : Int) := by omega
  have hrl := h.blk.lt
  by_cases hp0 : bs p = []
  · obtain rfl : p = ⟨#[]⟩ := by have := congrArg str hp0; rw [str_bs] at this; exact this
    go_enter Tryd.func21, Tryd.ntmps21
    go_wp2_with (first
      | (go_at_call 12; refine (H12.out _ (al _ _)).mono ?_; rintro e w1 ⟨rfl, hb1⟩; have F1 := bmore (al _ _) hb1; have e0 := (b0.below hb1).here (j := 0) rfl)
      | (go_at_call 28; (with_reducible refine (HG.out _ F1).mono ?_); rintro e w2 ⟨rfl, hb2⟩; have F2 := bmore F1 hb2; have d0 := (HC.out _ F2).blk.here (j := 0) rfl; have d1 := (HC.out _ F2).blk.lt; have d2 := ((b0.below hb1).below hb2).here (j := 2) rfl; have d3 := ((b0.below hb1).below hb2).lt))
    have bW := ((b0.below hb1).below hb2).below (al w2 (.cells #[.string ⟨#[]⟩, .slice none 0 0, .string ⟨#[]⟩, .int .i64 0] 32))
    have FW := bal F2 (.cells #[.string ⟨#[]⟩, .slice none 0 0, .string ⟨#[]⟩, .int .i64 0] 32)
    generalize w2.alloc (.cells #[.string ⟨#[]⟩, .slice none 0 0, .string ⟨#[]⟩, .int .i64 0] 32) = W at *
    clear d0 d1 d2 d3 e0 F1 F2 hb1 hb2
    have hrW : r < W.heap.size := Nat.lt_of_lt_of_le hrl FW.size
    have hwW := bW.lt
    have e0 := (HC.out _ FW).blk.here (j := 0) rfl
    have e1 := bW.here (j := 0) rfl
    have e2 := bW.here (j := 1) rfl
    have e3 := bW.here (j := 2) rfl
    have e4 := bW.here (j := 3) rfl
    have hC : Below W.heap.size W (W.alloc (.cells #[] 32)).drew := (al _ _).drew
    obtain ⟨u, w5, hr59, hU5, hgr5⟩ := run_app0 (HC.out _ (bmore FW hC)).tl (by omega) W.heap.size (by simp) ⟨W.heap.size, 0, none⟩ (Nat.le_refl _) (by simp)
    have hB5 : Below W.heap.size W w5 := hC.grown hgr5 (by simp) (fun k hk => by cases hk)
    have HR59 : Hid _ := hr59
    clear hr59
    have hrB : Hid (r < W.heap.size) := hrW
    have e05 := (HC.out _ (bmore FW hB5)).blk.here (j := 0) rfl
    have e15 := (bW.below hB5).here (j := 0) rfl
    have e25 := (bW.below hB5).here (j := 1) rfl
    have e35 := (bW.below hB5).here (j := 2) rfl
    have e45 := (bW.below hB5).here (j := 3) rfl
    have HF : Hid (∀ w6 va vc, SCP (fun g => w5.heap.size ≤ g) w6 (.slice va l.length vc) l → Below w5.heap.size w5 w6 → ∃ g cap w7, (Builtin.append_ #[22, 22] 22 #[u, .slice (some ⟨w6.heap.size, 0, none⟩) 1 1]).run Tryd.prog (w6.alloc (.cells #[.string n, .slice va l.length vc, .string ⟨#[]⟩, .int .i64 q] 32)) = .ok (.slice (some ⟨g, 0, none⟩) (L.length + 1) cap) w7 ∧ w7.cell? ⟨r, 0, none⟩ = some (.slice la L.length lc) ∧ w7.frozen? ⟨r, 0, none⟩ = false ∧ (∃ lv' v', RCat Q (w7.setCell ⟨r, 0, none⟩ (.slice (some ⟨g, 0, none⟩) (L.length + 1) cap)) r lv' (L ++ [(⟨bs n, l, (bs ⟨#[]⟩), q⟩, v')]) ∧ Keep (fun k => k = r) w (w7.setCell ⟨r, 0, none⟩ (.slice (some ⟨g, 0, none⟩) (L.length + 1) cap)))) := fun w6 va vc hs6 hb6 => by
      have hB6 : Below W.heap.size W (w6.alloc (.cells #[.string n, .slice va l.length vc, .string ⟨#[]⟩, .int .i64 q] 32)) := bmore (bmore hB5 hb6) (al _ _)
      have hU6 : RU W.heap.size (w6.alloc (.cells #[.string n, .slice va l.length vc, .string ⟨#[]⟩, .int .i64 q] 32)) u L := hU5.keep (bmore hb6 (al _ _)).size (fun k _ hk => (bmore hb6 (al _ _)).block k hk)
      have hb : Blk (w6.alloc (.cells #[.string n, .slice va l.length vc, .string ⟨#[]⟩, .int .i64 q] 32)) w6.heap.size (cellT (⟨bs n, l, (bs ⟨#[]⟩), q⟩, .slice va l.length vc)) 32 := by
        have := blk_new w6 [.string n, .slice va l.length vc, .string ⟨#[]⟩, .int .i64 q] 32
        simpa [cellT, str_bs] using this
      obtain ⟨g, cap, w7, h1, h2, h3, h4⟩ := run_app1 (x := (⟨bs n, l, (bs ⟨#[]⟩), q⟩, .slice va l.length vc)) hU6 (by omega) hB6.size ⟨_, _, _, rfl⟩ hb
      have hB7 : Below W.heap.size W w7 := hB6.grown h3 hB6.size (fun k hk => (hU5.at hk).1)
      have hs7 : SCP (fun g => W.heap.size ≤ g) w7 (.slice va l.length vc) l := by
        refine (hs6.keep (Nat.le_trans (al _ _).size h3.size) (fun k hk hk5 => ?_)).imp (fun k _ hk => Nat.le_trans hB5.size hk)
        rw [h3.block k (Nat.lt_of_lt_of_le hk (al _ _).size) (fun e => by have := (hU5.at e.symm).2; omega)]
        exact (al _ _).block k hk
      refine ⟨g, cap, w7, h1, (HC.out _ (bmore FW hB7)).blk.here (j := 0) rfl, (HC.out _ (bmore FW hB7)).blk.frozen 0, _, _, rcat_more (HC.out _ FW) hB7 hrB.out (fun k hk => hQ k (Nat.le_trans FW.size hk)) h2 h4 hs7 hrt (by omega), ?_⟩
      exact Keep.set (F := fun k => k = r) (Keep.of (bmore FW hB7)) (.inr rfl) _
    have HO5 : Hid _ := HO.out _ (bmore FW hB5)
    go_region_law (first
      | (refine step_append_run rfl (.tmp 54) (.tmp 58) 22 rfl _ _ rfl rfl _ _ HR59.out ?_)
      | (refine step_append_run rfl (.tmp 59) (.tmp 62) 22 rfl _ _ rfl rfl _ _ HR63.out ?_)
      | (go_simp; (refine Calls.mono HO5.out ?_); intro e w6 hq; obtain ⟨va, vc, he, hs6, hb6⟩ := hq; subst he; obtain ⟨g, cap, w7, hr63, hc7, hf7, hfin⟩ := HF.out w6 va vc hs6 hb6; (have HR63 : Hid _ := hr63); (have HFIN : Hid _ := hfin); clear hr63 hfin))
    all_goals (
      go_wp2
      go_ret
      obtain ⟨x1, x2, h1, h2⟩ := HFIN.out
      exact ⟨rfl, ⟨x1, x2, h1⟩, h2⟩)
  · have hem : p.toList.isEmpty = false := by
      rw [toList_data]
      cases hb : bs p with
      | nil => exact absurd hb hp0
      | cons x t => rw [show p.data.toList = x :: t from hb]; rfl
    obtain ⟨qn, hqn, hql⟩ : ∃ qn : Nat, q = (qn : Int) ∧ qn < l.length := by
      have hrt' := hrt
      simp only [rtB, rpB, if_neg hp0, Bool.and_eq_true, decide_eq_true_eq] at hrt'
      obtain ⟨_, ⟨_, h6⟩, h7⟩ := hrt'
      exact ⟨q.toNat, by omega, by omega⟩
    subst hqn
    obtain ⟨x, hfp, hkk⟩ : ∃ x, rfnd L (bs p) = some x ∧ kindAt l qn = kindAt x.1.cols 0 := by
      unfold refuseR at hr
      simp only [hrt, Bool.true_eq_false, if_false, hfn, Option.isSome_none, if_neg hp0, if_neg (show ¬ 3 ≤ L.length by omega)] at hr
      cases hf : rfnd L (bs p) with
      | none => rw [hf] at hr; simp at hr
      | some x =>
        rw [hf] at hr
        refine ⟨x, rfl, ?_⟩
        by_cases he : kindAt l qn = kindAt x.1.cols 0
        · exact he
        · simp [he] at hr
    have HP : Hid (∀ w1, Below w.heap.size w w1 → _) := fun w1 h1 => rget_some (HC.out w1 h1) p hfp
    have hxl1 := rtB_cols (h.ok x (rfnd_mem hfp).1)
    have HX : Hid (∀ w1 va vc, SCP (fun _ => True) w1 (.slice va x.1.cols.length vc) x.1.cols → ∃ g o, va = some ⟨g, o, none⟩ ∧ g < w1.heap.size ∧ w1.cell? ⟨g, o + 1, none⟩ = some (.int .u8 (kindAt x.1.cols 0 : Int))) := fun w1 va vc hs => by
      obtain ⟨a', c', he, _, h5⟩ := hs
      cases he
      obtain ⟨g, o, h6, h7, _, h8⟩ := h5 (by omega)
      have h9 := (h8 0 _ (List.getElem?_eq_getElem (by omega))).2
      refine ⟨g, o, h6, h7, ?_⟩
      simp only [Nat.zero_mul, Nat.add_zero] at h9
      rw [h9]
      simp [kindAt, List.getD, List.getElem?_eq_getElem (show 0 < x.1.cols.length by omega)]
    have HQ : Hid (∀ w1, Below w.heap.size w w1 → ∃ g o, a = some ⟨g, o, none⟩ ∧ g < w1.heap.size ∧ w1.cell? ⟨g, o + qn * 2 + 1, none⟩ = some (.int .u8 (kindAt x.1.cols 0 : Int))) := fun w1 h1 => by
      obtain ⟨a', c', he, h5⟩ := HSC.out w1 h1
      cases he
      obtain ⟨g, o, h6, h7, h8⟩ := h5 (by omega)
      refine ⟨g, o, h6, h7, ?_⟩
      rw [(h8 qn _ (List.getElem?_eq_getElem hql)).2, ← hkk]
      simp [kindAt, List.getD, List.getElem?_eq_getElem hql]
    have hq0 : (0 : Int) ≤ (qn : Int) := by omega
    have hq1 : (qn : Int) < (l.length : Int) := by omega
    have hxl : (0 : Int) < (x.1.cols.length : Int) := by omega
    obtain ⟨ag, ao, rfl, _, _⟩ := HQ.out w (Below.refl _ _)
    generalize str x.1.n = xn at *
    generalize str x.1.p = xp at *
    generalize x.1.r = xr at *
    clear hkk
    generalize kindAt x.1.cols 0 = k2 at *
    go_enter Tryd.func21, Tryd.ntmps21
    go_wp2_with (first
      | (go_at_call 12; refine (H12.out _ (al _ _)).mono ?_; rintro e w1 ⟨rfl, hb1⟩; have F1 := bmore (al _ _) hb1; have e0 := (b0.below hb1).here (j := 0) rfl)
      | (go_at_call 28; (with_reducible refine (HG.out _ F1).mono ?_); rintro e w2 ⟨rfl, hb2⟩; have F2 := bmore F1 hb2; have d0 := (HC.out _ F2).blk.here (j := 0) rfl; have d1 := (HC.out _ F2).blk.lt; have d2 := ((b0.below hb1).below hb2).here (j := 2) rfl; have d3 := ((b0.below hb1).below hb2).lt)
      | (go_at_call 28; (with_reducible refine (HP.out _ (bal F2 _)).mono ?_); rintro e w3 ⟨va, vc, rfl, hscp, hb3⟩; have F3 := bmore (bal F2 _) hb3; obtain ⟨xg, xo, rfl, hxg, hxc⟩ := HX.out w3 va vc (hscp.imp (fun _ _ _ => trivial)); have b3 := (((b0.below hb1).below hb2).below (al _ _)).below hb3; have f1 := b3.here (j := 1) rfl; have f3 := b3.here (j := 3) rfl; have fl := b3.lt; obtain ⟨ag', ao', he', hag, hac⟩ := HQ.out w3 F3; cases he'))
    go_quiet (fail)
    go_wp2
    obtain ⟨W, hW⟩ : ∃ W, (w3.alloc (.cells #[.string xn, .slice (some ⟨xg, xo, none⟩) x.1.cols.length vc, .string xp, .int .i64 xr] 32)).drewN nq = W := ⟨_, rfl⟩
    have bW : Blk W w.heap.size [.string n, .slice (some ⟨ag, ao, none⟩) l.length cp, .string p, .int .i64 (qn : Int)] 32 := by rw [← hW]; exact (b3.below (al _ _)).block rfl
    have FW : Below w.heap.size w W := by rw [← hW]; exact bdrewN (bal F3 _) _
    rw [hW]
    clear hW d0 d1 d2 d3 e0 F1 F2 F3 hb1 hb2 hb3 b3 f1 f3 fl hag hac hxg hxc hscp HX HQ HP
    have hrW : r < W.heap.size := Nat.lt_of_lt_of_le hrl FW.size
    have hwW := bW.lt
    have e0 := (HC.out _ FW).blk.here (j := 0) rfl
    have e1 := bW.here (j := 0) rfl
    have e2 := bW.here (j := 1) rfl
    have e3 := bW.here (j := 2) rfl
    have e4 := bW.here (j := 3) rfl
    have hC : Below W.heap.size W (W.alloc (.cells #[] 32)).drew := (al _ _).drew
    obtain ⟨u, w5, hr59, hU5, hgr5⟩ := run_app0 (HC.out _ (bmore FW hC)).tl (by omega) W.heap.size (by simp) ⟨W.heap.size, 0, none⟩ (Nat.le_refl _) (by simp)
    have hB5 : Below W.heap.size W w5 := hC.grown hgr5 (by simp) (fun k hk => by cases hk)
    have HR59 : Hid _ := hr59
    clear hr59
    have hrB : Hid (r < W.heap.size) := hrW
    have e05 := (HC.out _ (bmore FW hB5)).blk.here (j := 0) rfl
    have e15 := (bW.below hB5).here (j := 0) rfl
    have e25 := (bW.below hB5).here (j := 1) rfl
    have e35 := (bW.below hB5).here (j := 2) rfl
    have e45 := (bW.below hB5).here (j := 3) rfl
    have HF : Hid (∀ w6 va vc, SCP (fun g => w5.heap.size ≤ g) w6 (.slice va l.length vc) l → Below w5.heap.size w5 w6 → ∃ g cap w7, (Builtin.append_ #[22, 22] 22 #[u, .slice (some ⟨w6.heap.size, 0, none⟩) 1 1]).run Tryd.prog (w6.alloc (.cells #[.string n, .slice va l.length vc, .string p, .int .i64 (qn : Int)] 32)) = .ok (.slice (some ⟨g, 0, none⟩) (L.length + 1) cap) w7 ∧ w7.cell? ⟨r, 0, none⟩ = some (.slice la L.length lc) ∧ w7.frozen? ⟨r, 0, none⟩ = false ∧ (∃ lv' v', RCat Q (w7.setCell ⟨r, 0, none⟩ (.slice (some ⟨g, 0, none⟩) (L.length + 1) cap)) r lv' (L ++ [(⟨bs n, l, bs p, (qn : Int)⟩, v')]) ∧ Keep (fun k => k = r) w (w7.setCell ⟨r, 0, none⟩ (.slice (some ⟨g, 0, none⟩) (L.length + 1) cap)))) := fun w6 va vc hs6 hb6 => by
      have hB6 : Below W.heap.size W (w6.alloc (.cells #[.string n, .slice va l.length vc, .string p, .int .i64 (qn : Int)] 32)) := bmore (bmore hB5 hb6) (al _ _)
      have hU6 : RU W.heap.size (w6.alloc (.cells #[.string n, .slice va l.length vc, .string p, .int .i64 (qn : Int)] 32)) u L := hU5.keep (bmore hb6 (al _ _)).size (fun k _ hk => (bmore hb6 (al _ _)).block k hk)
      have hb : Blk (w6.alloc (.cells #[.string n, .slice va l.length vc, .string p, .int .i64 (qn : Int)] 32)) w6.heap.size (cellT (⟨bs n, l, bs p, (qn : Int)⟩, .slice va l.length vc)) 32 := by
        have := blk_new w6 [.string n, .slice va l.length vc, .string p, .int .i64 (qn : Int)] 32
        simpa [cellT, str_bs] using this
      obtain ⟨g, cap, w7, h1, h2, h3, h4⟩ := run_app1 (x := (⟨bs n, l, bs p, (qn : Int)⟩, .slice va l.length vc)) hU6 (by omega) hB6.size ⟨_, _, _, rfl⟩ hb
      have hB7 : Below W.heap.size W w7 := hB6.grown h3 hB6.size (fun k hk => (hU5.at hk).1)
      have hs7 : SCP (fun g => W.heap.size ≤ g) w7 (.slice va l.length vc) l := by
        refine (hs6.keep (Nat.le_trans (al _ _).size h3.size) (fun k hk hk5 => ?_)).imp (fun k _ hk => Nat.le_trans hB5.size hk)
        rw [h3.block k (Nat.lt_of_lt_of_le hk (al _ _).size) (fun e => by have := (hU5.at e.symm).2; omega)]
        exact (al _ _).block k hk
      refine ⟨g, cap, w7, h1, (HC.out _ (bmore FW hB7)).blk.here (j := 0) rfl, (HC.out _ (bmore FW hB7)).blk.frozen 0, _, _, rcat_more (HC.out _ FW) hB7 hrB.out (fun k hk => hQ k (Nat.le_trans FW.size hk)) h2 h4 hs7 hrt (by omega), ?_⟩
      exact Keep.set (F := fun k => k = r) (Keep.of (bmore FW hB7)) (.inr rfl) _
    have HO5 : Hid _ := HO.out _ (bmore FW hB5)
    go_region_law (first
      | (refine step_append_run rfl (.tmp 54) (.tmp 58) 22 rfl _ _ rfl rfl _ _ HR59.out ?_)
      | (refine step_append_run rfl (.tmp 59) (.tmp 62) 22 rfl _ _ rfl rfl _ _ HR63.out ?_)
      | (go_simp; (refine Calls.mono HO5.out ?_); intro e w6 hq; obtain ⟨va, vc, he, hs6, hb6⟩ := hq; subst he; obtain ⟨g, cap, w7, hr63, hc7, hf7, hfin⟩ := HF.out w6 va vc hs6 hb6; (have HR63 : Hid _ := hr63); (have HFIN : Hid _ := hfin); clear hr63 hfin))
    all_goals (
      go_wp2
      go_ret
      obtain ⟨x1, x2, h1, h2⟩ := HFIN.out
      exact ⟨rfl, ⟨x1, x2, h1⟩, h2⟩)
end Go.Proofs.YtkoagjfbhkhfkaaDoor
