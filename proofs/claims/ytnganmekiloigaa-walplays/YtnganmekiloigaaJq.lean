/- story.step. · The log that lives. -/
import Derived.Test.YtnganmekiloigaaJp
import Derived.Lib.SmallJoins
/-! ### story.step. -/
namespace Go.Proofs.Ytnganmekiloigaa
open Go.RowKit
set_option maxRecDepth 100000
variable {w w' : World} {B d s x q E : Nat}
theorem ru_addr {α : Type} {E : Ety α} {L : List α} {N : Nat} {u : Value} (h : RU E N w u L) : ∃ (ad : Addr) (n c : Nat), u = .slice (some ad) n c ∧ N ≤ ad.block ∧ ad.block < w.heap.size := by
  by_cases h0 : L = []
  · rcases h with ⟨_, b, h1, h2, h3⟩ | ⟨h1, _⟩
    · exact ⟨b, 0, 0, h1, h2, h3⟩
    · exact absurd h0 h1
  · obtain ⟨g, c, h1, h2, h3⟩ := ru_form h h0
    exact ⟨_, _, c, h1, h2, h3⟩
theorem rlg_rowA {G : List Nat} {L : List Bs} {ad : Addr} {n c : Nat} {vs : List Sl} (h : LV EV w (.slice (some ad) n c) vs) (hl : vs.length = L.length) (hel : ∀ (i : Nat) (y : Sl) (b : Bs), vs[i]? = some y → L[i]? = some b → LVG G EB w (slV y) b) : RLG (ad.block :: G) w (.slice (some ad) n c) L :=
  ⟨vs, ⟨h, fun a n c e _ => by cases e; simp⟩, hl, fun i y b hy hb => (hel i y b hy hb).mono (fun g hg => List.mem_cons_of_mem _ hg)⟩
/-- The story's cells are turned. -/
theorem Sy.put {w5 w6 : World} {D : Dk} {W : Wl} {H : List Nat} {u e1 : Nat} {S M : List Bs} {sv mv : Value} (A : LG B w5 d s D x W (q :: H)) (hq : q ∉ H) (hqB : B ≤ q) (I : Inv 6 D W.half W.e W.cnt W.en u e1 S M) (hbr : W.br = false) (he : W.e ≤ E) (hb : Blk w6 q [sv, mv] 67) (hS : RLG H w5 sv S) (hM : RLG H w5 mv M) (kk : Keep (fun b => b = q) w5 w6) : Sy B w6 d s x q E := by
  have KH : Kept H w5 w6 := fun g hg => kk.block g (A.glt g (by simp [hg])) (fun e => hq (e ▸ hg))
  exact ⟨D, W, H, u, e1, S, M, sv, mv, A.poke (by simp) kk, hq, hqB, I, hbr, he, hb, hS.kept KH, hM.kept KH⟩
/-- What a step leaves. -/
def StPost (B : Nat) (w0 : World) (d s x q E : Nat) (w' : World) : Prop := Sy B w' d s x q (E + 1) ∧ Below B w0 w'
set_option maxHeartbeats 2000000 in
theorem step36 {k N : Int} {vb vk : Value} {l : Bs} (h : Sy B w d s x q E) (hE : E ≤ 60000) (hv : InB B w vb l) :
    Calls Try.prog 36 #[.pointer (some ⟨q, 0, none⟩), .pointer (some ⟨x, 0, none⟩), .agg #[.int .i64 k, vb, .int .i64 N, vk]] w fun e w' => e = .returned (.bool true) ∧ StPost B w d s x q E w' := by
  obtain ⟨D, W, H0, u, e1, S, M, sv, mv, A0, hq0, hqB, I, hbr, he, hb0, hS0, hM0⟩ := h.ex
  have hsz : B ≤ w.heap.size := A0.size
  obtain ⟨a, c, rfl, hlc, hcm, hin⟩ := id hv
  generalize hn : l.length = n at *
  have bD := blk_new w [.int .i64 k, .slice a n c, .int .i64 N, vk] 69
  have k1 := al w (.cells #[.int .i64 k, .slice a n c, .int .i64 N, vk] 69)
  obtain ⟨w1, hw1⟩ : ∃ w1, w.alloc (.cells #[.int .i64 k, .slice a n c, .int .i64 N, vk] 69) = w1 := ⟨_, rfl⟩
  have bD' : Blk w1 w.heap.size [.int .i64 k, .slice a n c, .int .i64 N, vk] 69 := by rw [← hw1]; exact bD
  rw [hw1] at k1
  have k40 := short40 a n c hlc
  have hvb := inb_take (k := 400) ((hv).below (k1.mono hsz))
  obtain ⟨H, hH, hq, A, hlb⟩ := lg_bytes (A0.below k1) hq0 hqB hvb
  have hS := (hS0.below k1).mono hH
  have hM := (hM0.below k1).mono hH
  have hb := hb0.below k1
  obtain ⟨bs, hbs⟩ : ∃ bs, l.take 400 = bs := ⟨_, rfl⟩
  obtain ⟨m, hm⟩ : ∃ m, min n 400 = m := ⟨_, rfl⟩
  have hbl : bs.length = m := by rw [← hbs, List.length_take, ← hm, hn, Nat.min_comm]
  have hm400 : m ≤ 400 := by omega
  rw [hbs, hm] at hlb
  simp only [hm] at k40
  have hB1 : Below B w w1 := k1.mono hsz
  have HSAME : Hid (∀ w', Below w1.heap.size w1 w' → StPost B w d s x q E w') := fun w' k' => ⟨((h.below k1).below k').up (by omega), hB1.trans (k'.mono (Nat.le_trans hsz k1.size))⟩
  have y0 : w1.cell? ⟨w.heap.size, 0, none⟩ = some (.int .i64 k) := bD'.cell 0
  have y1 : w1.cell? ⟨w.heap.size, 1, none⟩ = some (.slice a n c) := bD'.cell 1
  have HW1 : Hid (w.alloc (.cells #[.int .i64 k, .slice a n c, .int .i64 N, vk] 69) = w1) := hw1
  have hen := I.room
  have hfew := I.few
  have hwl : D.wait.length ≤ 50000 := by rw [I.wait, waitOf_length]; have := I.en'; omega
  clear bD hw1 hv hvb hin hS0 hM0 hb0 A0 hq0 hbs hm hn bD'
  by_cases hk0 : k = 0
  · subst hk0
    by_cases hm0 : m < 1
    · -- a record of no byte
      have k42 := append42_range (n := m) (c := c) (a := a) A.wal hbr (.inl hm0)
      clear h A I hlb hS hM hb
      go_enter Try.func36, Try.ntmps36
      go_wp2_with (first
        | (go_at_call 40; (rw [HW1.out]; refine (k40 _).mono ?_; rintro e w9 ⟨rfl, h9⟩; replace h9 := h9.symm; subst h9))
        | (go_at_call 42; (refine k42.mono ?_; rintro e w3 ⟨rfl, B3⟩)))
      go_ret
      exact ⟨rfl, HSAME.out _ B3⟩
    · by_cases hf : 6 - W.en < (m + 56) / 57
      · have k42 := append42_full (R := 6) (n := m) (c := c) (a := a) A hbr I.len (by omega) hen (by omega) hf
        clear h A I hlb hS hM hb
        go_enter Try.func36, Try.ntmps36
        go_wp2_with (first
          | (go_at_call 40; (rw [HW1.out]; refine (k40 _).mono ?_; rintro e w9 ⟨rfl, h9⟩; replace h9 := h9.symm; subst h9))
          | (go_at_call 42; (refine k42.mono ?_; rintro e w3 ⟨rfl, B3⟩)))
        go_ret
        exact ⟨rfl, HSAME.out _ B3⟩
      · have hnp : np bs = (m + 56) / 57 := by rw [← hbl]; rfl
        have k42 := append42_ok (R := 6) (l := bs) A hbr I.cut I.off hwl I.len (by omega) I.half (by omega) (by rw [I.cnt']; omega) hlb.1 (by omega) (by omega) (fun g o ha => by subst ha; exact List.mem_cons_of_mem _ (hlb.2 _ _ _ rfl (by omega))) (by rw [hnp]; omega)
        rw [I.cnt'] at k42
        obtain ⟨sa, sc, rfl⟩ := hS.form
        obtain ⟨ma, mc, rfl⟩ := hM.form
        have I2 := I.append (b := bs) (by omega) (by rw [hnp]; omega) (D' := D.more (W.half * 6 + W.en) (layP W.e W.en bs)) rfl
        rw [I.cnt'] at I2
        have HFIN : Hid (∀ w2 w5 g5 n5 c5 vs, LG B w2 d s (D.more (W.half * 6 + W.en) (layP W.e W.en bs)) x ⟨W.half, W.e, S.length + M.length + 1, W.en + np bs, false⟩ (q :: H) → Kept (q :: H) w1 w2 → Below B w1 w2 → Below w2.heap.size w2 w5 → LV EV w5 (.slice (some ⟨g5, 0, none⟩) n5 c5) (vs ++ [(a, m, c)]) → w2.heap.size ≤ g5 → g5 < w5.heap.size →
            (vs.length = M.length ∧ ∀ (i : Nat) (y : Sl) (b : Bs), vs[i]? = some y → M[i]? = some b → LVG H EB w1 (slV y) b) → StPost B w d s x q E (w5.setCell ⟨q, 1, none⟩ (.slice (some ⟨g5, 0, none⟩) n5 c5))) := by
          intro w2 w5 g5 n5 c5 vs A2 K2 B2 B5 hl5 h51 h52 ⟨hvl, hve⟩
          have hqw := A2.glt q (by simp)
          have A5 := A2.add B5 h51 h52
          have kk : Keep (fun b => b = q) w5 (w5.setCell ⟨q, 1, none⟩ (.slice (some ⟨g5, 0, none⟩) n5 c5)) := (Keep.refl (fun b => b = q) w5).set (.inr rfl) _
          have A6 := A5.poke (q := q) (by simp) kk
          have hb5 := ((hb.block (K2 q (by simp))).below B5).set (o := 1) (.slice (some ⟨g5, 0, none⟩) n5 c5)
          have KH : Kept H w1 (w5.setCell ⟨q, 1, none⟩ (.slice (some ⟨g5, 0, none⟩) n5 c5)) := fun g hg => by
            have hgq : g ≠ q := fun e => hq (e ▸ hg)
            have hgl := A2.glt g (by simp [hg])
            exact ((kk.block g (Nat.lt_of_lt_of_le hgl B5.size) hgq).trans (B5.block g hgl)).trans (K2 g (by simp [hg]))
          have hg5q : g5 ≠ q := by omega
          have hl6 : LV EV (w5.setCell ⟨q, 1, none⟩ (.slice (some ⟨g5, 0, none⟩) n5 c5)) (.slice (some ⟨g5, 0, none⟩) n5 c5) (vs ++ [(a, m, c)]) := lv_keepAt hl5 fun g o hg => by cases hg; exact kk.block _ h52 hg5q
          refine ⟨⟨_, _, g5 :: H, _, _, S, M ++ [bs], _, _, A6.less (fun g hg => by simp only [List.mem_cons] at hg ⊢; rcases hg with h | h | h <;> simp [h]), fun hm => ?_, hqB, I2, rfl, by show W.e ≤ E + 1; omega, hb5, (hS.kept KH).mono (fun g hg => List.mem_cons_of_mem _ hg), ?_⟩, ((hB1.trans B2).trans (B5.mono A2.size)).trans (kk.below (Nat.le_trans A2.size B5.size) (fun i e => by omega))⟩
          · rcases List.mem_cons.1 hm with e | hm
            · exact hg5q e.symm
            · exact hq hm
          · refine rlg_row hl6 (by simp [hvl]) (els_app hvl (fun i y b hy hb => (hve i y b hy hb).kept KH) (els_one (y := (a, m, c)) (hlb.kept KH)))
        obtain ⟨vs, hv1, hvl, hve⟩ := id hM
        have HVS : Hid (vs.length = M.length ∧ ∀ (i : Nat) (y : Sl) (b : Bs), vs[i]? = some y → M[i]? = some b → LVG H EB w1 (slV y) b) := ⟨hvl, hve⟩
        have HMV : Hid (∀ w2, Kept (q :: H) w1 w2 → LVG H EV w2 (.slice ma M.length mc) vs) := fun w2 K2 => hv1.kept (fun g hg => K2 g (by simp [hg]))
        have HST : Hid (∀ w2, Kept (q :: H) w1 w2 → Blk w2 q [.slice sa S.length sc, .slice ma M.length mc] 67) := fun w2 K2 => hb.block (K2 q (by simp))
        have HVL : Hid (vs.length ≤ 6) := by show _ ≤ _; omega
        have hS6 : (S.length : Int) ≤ 6 := by omega
        have hM6 : (M.length : Int) ≤ 6 := by omega
        have hS0 : (0 : Int) ≤ (S.length : Int) := by omega
        have hM0 : (0 : Int) ≤ (M.length : Int) := by omega
        clear h A I I2 hlb hS hM hb hv1 hvl hve HSAME hnp hbl hwl hen hfew
        generalize S.length = nS at *
        generalize M.length = nM at *
        go_enter Try.func36, Try.ntmps36
        go_wp2_with (first
          | (go_at_call 40; (rw [HW1.out]; refine (k40 _).mono ?_; rintro e w9 ⟨rfl, h9⟩; replace h9 := h9.symm; subst h9))
          | (go_at_call 42; (refine k42.mono ?_; rintro e w2 ⟨rfl, A2, K2, B2⟩; have b2 := HST.out _ K2; have c0 := b2.cell 0; have c1 := b2.cell 1; simp only [List.getElem?_cons_zero, List.getElem?_cons_succ] at c0 c1)))
        have K4 : Kept (q :: H) w1 w2.drew := K2
        have A4 := A2.below (Below.refl _ w2).drew
        have B4 : Below B w1 w2.drew := B2.trans (Below.refl _ _).drew
        have s0 : w2.drew.cell? ⟨q, 0, none⟩ = some (.slice sa nS sc) := c0
        have s1 : w2.drew.cell? ⟨q, 1, none⟩ = some (.slice ma nM mc) := c1
        have b4 := HST.out _ K4
        clear A2 K2 B2 c0 c1 b2 k42
        have hwsum : IntKind.i64.wrap ((nS : Int) + (nM : Int)) = (nS : Int) + (nM : Int) := wrap_small _ (by omega) (by omega)
        go_region_held3 (fun W2 => W2.cell? ⟨q, 0, none⟩ = some (.slice sa nS sc) ∧ W2.cell? ⟨q, 1, none⟩ = some (.slice ma nM mc)) (exact ⟨s0, s1⟩) (fail)
        generalize w2.drew = w4 at *
        have v1 := (b4.below (al w4 (.cells #[] 33))).cell 1
        simp only [List.getElem?_cons_zero, List.getElem?_cons_succ] at v1
        go_wp2_with (first
          | (at_builtin; (refine wpList_append_ex (by rfl) (.tmp 39) (.tmp 43) 62 (by rfl) _ _ (by rfl) (by rfl) (run_app (ru_emptyE EV 33 (w := w4)) ((HMV.out _ K4).1.below (al w4 _)) (by simp; have := HVL.out; omega) (by simp)) ?_; rintro u5 w5 ⟨hu5, hg5⟩; rw [List.nil_append] at hu5; have B5 : Below w4.heap.size w4 w5 := (al w4 _).trans (grown_below (ru_emptyE EV 33 (w := w4)) hg5 (by simp)); clear hg5; obtain ⟨a5, c5, n5, rfl⟩ : ∃ a5 c5 n5, u5 = .slice a5 n5 c5 := (by obtain ⟨a5, c5, h5⟩ := hu5.read.form; exact ⟨a5, c5, _, h5⟩)))
          | (at_builtin; (refine wpList_append_ex (by rfl) (.tmp 44) (.tmp 46) 62 (by rfl) _ _ (by rfl) (by rfl) (run_app (hu5.below (al w5 _)) (lv_oneV (a, m, c)) (by simp; have := HVL.out; omega) (by simp; have := B5.size; omega)) ?_; rintro u6 w6 ⟨hu6, hg6⟩; have B6 : Below w4.heap.size w4 w6 := (B5.trans ((al w5 _).mono B5.size)).trans (grown_below (hu5.below (al w5 _)) hg6 (by simp; have := B5.size; omega)); clear hg6; obtain ⟨g6, c6, n6, rfl, h61, h62⟩ := ru_form3 hu6 (by simp); have b6 := ((HST.out _ K4).below B6); have y6 := b6.frozen 1; have z6 := b6.cell 1; have HF := HFIN.out w4 w6 g6 n6 c6 vs A4 K4 B4 B6 hu6.read h61 h62 HVS.out; clear hu6 hu5 B6 B5 b6)))
        go_ret
        exact ⟨rfl, HF⟩
  · by_cases hk1 : k = 1
    · subst hk1
      obtain ⟨f1, e', I2⟩ := I.flush (by omega)
      have k39 := flush39 A hbr f1 (by omega) A.glt
      obtain ⟨sa, sc, rfl⟩ := hS.form
      obtain ⟨ma, mc, rfl⟩ := hM.form
      obtain ⟨vs, hv1, hvl, hve⟩ := id hS
      obtain ⟨ws, hu1, hul, hue⟩ := id hM
      have HFIN : Hid (∀ w4 w6 ad n6 c6, LG B w4 d s D.flush.2 x W (q :: H) → Kept (q :: H) w1 w4 → Below B w1 w4 → Below w4.heap.size w4 w6 → LV EV w6 (.slice (some ad) n6 c6) (vs ++ ws) → w4.heap.size ≤ ad.block → ad.block < w6.heap.size → ∀ w7, w7 = (w6.setCell ⟨q, 0, none⟩ (.slice (some ad) n6 c6)).setCell ⟨q, 1, none⟩ (.slice none 0 0) → StPost B w d s x q E w7) := by
        rintro w4 w6 ad n6 c6 A4 K4 B4 B6 hl6 h61 h62 w7 rfl
        have hqw := A4.glt q (by simp)
        have kk : Keep (fun b => b = q) w6 ((w6.setCell ⟨q, 0, none⟩ (.slice (some ad) n6 c6)).setCell ⟨q, 1, none⟩ (.slice none 0 0)) := ((Keep.refl (fun b => b = q) w6).set (.inr rfl) _).set (.inr rfl) _
        have A6 := A4.add B6 h61 h62
        have hb6 := ((((hb.block (K4 q (by simp))).below B6).set (o := 0) (.slice (some ad) n6 c6)).set (o := 1) (.slice none 0 0))
        have KH : Kept H w1 w6 := fun g hg => (B6.block g (A4.glt g (by simp [hg]))).trans (K4 g (by simp [hg]))
        have hmem : ad.block ∉ H := fun hm => by have := A4.glt ad.block (by simp [hm]); omega
        refine ⟨Sy.put (H := ad.block :: H) (A6.less (fun g hg => by simp only [List.mem_cons] at hg ⊢; rcases hg with h | h | h <;> simp [h])) (fun hm => ?_) hqB I2 hbr (by omega) hb6 (rlg_rowA hl6 (by simp [hvl, hul]) (els_app hvl (fun i y b hy hb => (hve i y b hy hb).kept KH) (fun i y b hy hb => (hue i y b hy hb).kept KH))) (RLG.nil _ _) kk, ((hB1.trans B4).trans (B6.mono A4.size)).trans (kk.below (Nat.le_trans A4.size B6.size) (fun i e => by omega))⟩
        rcases List.mem_cons.1 hm with e | hm
        · omega
        · exact hq hm
      have HSV : Hid (∀ w2, Kept (q :: H) w1 w2 → LV EV w2 (.slice sa S.length sc) vs ∧ LV EV w2 (.slice ma M.length mc) ws) := fun w2 K2 => ⟨(hv1.kept (fun g hg => K2 g (by simp [hg]))).1, (hu1.kept (fun g hg => K2 g (by simp [hg]))).1⟩
      have HST : Hid (∀ w2, Kept (q :: H) w1 w2 → Blk w2 q [.slice sa S.length sc, .slice ma M.length mc] 67) := fun w2 K2 => hb.block (K2 q (by simp))
      have HVL : Hid (vs.length + ws.length ≤ 6) := by show _ ≤ _; omega
      clear h A I I2 hlb hS hM hb hv1 hvl hve hu1 hul hue HSAME hbl hwl hen hfew hk0
      generalize S.length = nS at *
      generalize M.length = nM at *
      go_enter Try.func36, Try.ntmps36
      go_wp2_with (first
        | (go_at_call 40; (rw [HW1.out]; refine (k40 _).mono ?_; rintro e w9 ⟨rfl, h9⟩; replace h9 := h9.symm; subst h9))
        | (go_at_call 39; (refine k39.mono ?_; rintro e w2 ⟨rfl, A2, K2, B2⟩)))
      have K4 : Kept (q :: H) w1 w2.drew := K2
      have A4 := A2.below (Below.refl _ w2).drew
      have B4 : Below B w1 w2.drew := B2.trans (Below.refl _ _).drew
      have HS4 : Hid (∀ W, Below w2.drew.heap.size w2.drew W → W.cell? ⟨q, 0, none⟩ = some (.slice sa nS sc) ∧ W.cell? ⟨q, 1, none⟩ = some (.slice ma nM mc)) := fun W k => ⟨((HST.out _ K4).below k).cell 0, ((HST.out _ K4).below k).cell 1⟩
      refine wp_region_L (fun W2 => W2.cell? ⟨q, 0, none⟩ = some (.slice sa nS sc) ∧ W2.cell? ⟨q, 1, none⟩ = some (.slice ma nM mc)) 14 (by kernel_rfl) ?_
      generalize w2.drew = w4 at *
      have HS0 := HS4.out _ (Below.refl _ w4)
      refine wpAnyL_take 0 (some 55) (.pointer (some ⟨q, 0, none⟩)) rfl rfl (by kernel_rfl) (by kernel_rfl) (by kernel_rfl) (by kernel_rfl) (fun _ _ _ h => h) (Or.inl ⟨by rfl, fun w2 hw2 => by obtain ⟨s0, s1⟩ := hw2; go_simp⟩) HS0 ?_
      simp only [Act.put, List.setIfInBounds_toArray, List.set_cons_zero, List.set_cons_succ]
      refine wpAnyL_take 2 (some 57) (.pointer (some ⟨q, 0, none⟩)) rfl rfl (by kernel_rfl) (by kernel_rfl) (by kernel_rfl) (by kernel_rfl) (fun _ _ _ h => h) (Or.inl ⟨by rfl, fun w2 hw2 => by obtain ⟨s0, s1⟩ := hw2; go_simp⟩) HS0 ?_
      simp only [Act.put, List.setIfInBounds_toArray, List.set_cons_zero, List.set_cons_succ]
      refine wpAnyL_take 3 (some 58) (.pointer (some ⟨q, 0, none⟩)) rfl rfl (by kernel_rfl) (by kernel_rfl) (by kernel_rfl) (by kernel_rfl) (fun _ _ _ h => h) (Or.inl ⟨by rfl, fun w2 hw2 => by obtain ⟨s0, s1⟩ := hw2; go_simp⟩) HS0 ?_
      simp only [Act.put, List.setIfInBounds_toArray, List.set_cons_zero, List.set_cons_succ]
      refine wpAnyL_take 4 (some 59) (.pointer (some ⟨q, 0, none⟩)) rfl rfl (by kernel_rfl) (by kernel_rfl) (by kernel_rfl) (by kernel_rfl) (fun _ _ _ h => h) (Or.inl ⟨by rfl, fun w2 hw2 => by obtain ⟨s0, s1⟩ := hw2; go_simp⟩) HS0 ?_
      simp only [Act.put, List.setIfInBounds_toArray, List.set_cons_zero, List.set_cons_succ]
      refine wpAnyL_take 5 (some 60) (.slice sa nS sc) rfl rfl (by kernel_rfl) (by kernel_rfl) (by kernel_rfl) (by kernel_rfl) (fun _ _ _ h => h) (Or.inl ⟨by rfl, fun w2 hw2 => by obtain ⟨s0, s1⟩ := hw2; go_simp⟩) HS0 ?_
      simp only [Act.put, List.setIfInBounds_toArray, List.set_cons_zero, List.set_cons_succ]
      refine wpAnyL_take 7 (some 62) (.pointer (some ⟨q, 0, none⟩)) rfl rfl (by kernel_rfl) (by kernel_rfl) (by kernel_rfl) (by kernel_rfl) (fun _ _ _ h => h) (Or.inl ⟨by rfl, fun w2 hw2 => by obtain ⟨s0, s1⟩ := hw2; go_simp⟩) HS0 ?_
      simp only [Act.put, List.setIfInBounds_toArray, List.set_cons_zero, List.set_cons_succ]
      refine wpAnyL_take 8 (some 63) (.pointer (some ⟨q, 0, none⟩)) rfl rfl (by kernel_rfl) (by kernel_rfl) (by kernel_rfl) (by kernel_rfl) (fun _ _ _ h => h) (Or.inl ⟨by rfl, fun w2 hw2 => by obtain ⟨s0, s1⟩ := hw2; go_simp⟩) HS0 ?_
      simp only [Act.put, List.setIfInBounds_toArray, List.set_cons_zero, List.set_cons_succ]
      refine wpAnyL_take 9 (some 64) (.pointer (some ⟨q, 1, none⟩)) rfl rfl (by kernel_rfl) (by kernel_rfl) (by kernel_rfl) (by kernel_rfl) (fun _ _ _ h => h) (Or.inl ⟨by rfl, fun w2 hw2 => by obtain ⟨s0, s1⟩ := hw2; go_simp⟩) HS0 ?_
      simp only [Act.put, List.setIfInBounds_toArray, List.set_cons_zero, List.set_cons_succ]
      refine wpAnyL_take 10 (some 65) (.slice ma nM mc) rfl rfl (by kernel_rfl) (by kernel_rfl) (by kernel_rfl) (by kernel_rfl) (fun _ _ _ h => h) (Or.inl ⟨by rfl, fun w2 hw2 => by obtain ⟨s0, s1⟩ := hw2; go_simp⟩) HS0 ?_
      simp only [Act.put, List.setIfInBounds_toArray, List.set_cons_zero, List.set_cons_succ]
      refine wpAnyL_ready (rs := [1]) (by kernel_rfl) (by simp) (AllReadyL.cons rfl (fun K hK => ?_) AllReadyL.nil)
      go_simp
      refine hK.out _ _ (fun _ => HS4.out _ (al w4 (.cells #[] 33))) ?_
      clear hK K
      try simp only [Act.put, List.setIfInBounds_toArray, List.set_cons_zero, List.set_cons_succ]
      obtain ⟨u5, w5, hr5, hu5, hg5⟩ := run_app (ru_emptyE EV 33 (w := w4)) ((HSV.out _ K4).1.below (al w4 (.cells #[] 33))) (by simp; have := HVL.out; omega) (by simp)
      rw [List.nil_append] at hu5
      have B5 : Below w4.heap.size w4 w5 := (al w4 _).trans (grown_below (ru_emptyE EV 33 (w := w4)) hg5 (by simp))
      obtain ⟨u6, w6, hr6, hu6, hg6⟩ := run_app hu5 ((HSV.out _ K4).2.below B5) (by have := HVL.out; omega) B5.size
      have B6 : Below w4.heap.size w4 w6 := B5.trans (grown_below hu5 hg6 B5.size)
      refine wpAnyL_ready (rs := [6]) (by kernel_rfl) (by simp) (AllReadyL.cons rfl (fun K hK => ?_) AllReadyL.nil)
      refine step_append_run rfl (.tmp 56) (.tmp 60) 62 rfl (.slice (some ⟨w4.heap.size, 0, none⟩) 0 0) (.slice sa nS sc) rfl rfl u5 w5 (by exact hr5) ?_
      refine hK.out _ _ (fun _ => HS4.out _ B5) ?_
      clear hK K
      try simp only [Act.put, List.setIfInBounds_toArray]
      refine wpAnyL_ready (rs := [11]) (by kernel_rfl) (by simp) (AllReadyL.cons rfl (fun K hK => ?_) AllReadyL.nil)
      refine step_append_run rfl (.tmp 61) (.tmp 65) 62 rfl u5 (.slice ma nM mc) rfl rfl u6 w6 (by exact hr6) ?_
      refine hK.out _ _ (fun _ => HS4.out _ B6) ?_
      clear hK K
      try simp only [Act.put]
      obtain ⟨ad, n6, c6, rfl, h61, h62⟩ := ru_addr hu6
      have HS6 := HS4.out _ B6
      have HF := HFIN.out w4 w6 ad n6 c6 A4 K4 B4 B6 hu6.read h61 h62 _ rfl
      have b6 := (HST.out _ K4).below B6
      have y0 := b6.cell 0
      have z0 := b6.frozen 0
      have b7 := b6.set (o := 0) (.slice (some ad) n6 c6)
      have y1 := b7.cell 1
      have z1 := b7.frozen 1
      simp only [List.getElem?_cons_zero, List.getElem?_cons_succ, List.set_cons_zero] at y0 y1
      clear hu5 hu6 hg5 hg6 hr5 hr6 B5 B6 b6 b7 A4 K4 B4 A2 K2 B2
      refine wpAnyL_ready (rs := [12]) (by kernel_rfl) (by simp) (AllReadyL.cons rfl (fun K hK => ?_) AllReadyL.nil)
      go_simp
      refine hK.out _ _ (fun _ => HS6) ?_
      clear hK K
      try simp only [Act.put, List.setIfInBounds_toArray, List.set_cons_zero, List.set_cons_succ]
      refine wpAnyL_ready (rs := [13]) (by kernel_rfl) (by simp) (AllReadyL.cons rfl (fun K hK => ?_) AllReadyL.nil)
      go_simp
      refine hK.out _ _ (fun _ => HS6) ?_
      clear hK K
      try simp only [Act.put, List.setIfInBounds_toArray, List.set_cons_zero, List.set_cons_succ]
      refine wpAnyL_ready (rs := [14]) (by kernel_rfl) (by simp) (AllReadyL.cons rfl (fun K hK => ?_) AllReadyL.nil)
      go_simp
      refine hK.out _ _ (fun h => absurd rfl h) ?_
      clear hK K
      refine wpAnyL_done (by kernel_rfl) ?_ _
      clear HS6 HS0
      go_wp2
      go_ret
      exact ⟨rfl, HF⟩
    · have hb0 : (k == 0) = false := by simpa using hk0
      have hb1 : (k == 1) = false := by simpa using hk1
      by_cases hk2 : k = 2
      · subst hk2
        by_cases hm0 : m < 1
        · have k41 := switch41_range (n := m) (c := c) (a := a) A.wal hbr (.inl hm0)
          clear h A I hlb hS hM hb hb0 hb1
          go_enter Try.func36, Try.ntmps36
          go_wp2_with (first
            | (go_at_call 40; (rw [HW1.out]; refine (k40 _).mono ?_; rintro e w9 ⟨rfl, h9⟩; replace h9 := h9.symm; subst h9))
            | (go_at_call 41; (refine k41.mono ?_; rintro e w3 ⟨rfl, B3⟩)))
          go_ret
          exact ⟨rfl, HSAME.out _ B3⟩
        · by_cases hf : 6 < (m + 56) / 57
          · have k41 := switch41_full (R := 6) (n := m) (c := c) (a := a) A hbr I.len (by omega) (by omega) hf
            clear h A I hlb hS hM hb hb0 hb1
            go_enter Try.func36, Try.ntmps36
            go_wp2_with (first
              | (go_at_call 40; (rw [HW1.out]; refine (k40 _).mono ?_; rintro e w9 ⟨rfl, h9⟩; replace h9 := h9.symm; subst h9))
              | (go_at_call 41; (refine k41.mono ?_; rintro e w3 ⟨rfl, B3⟩)))
            go_ret
            exact ⟨rfl, HSAME.out _ B3⟩
          · have hnp : np bs = (m + 56) / 57 := by rw [← hbl]; rfl
            have k41 := switch41_ok (R := 6) (l := bs) A hbr I.cut I.off hwl I.len (by omega) I.half (by omega) hlb.1 (by omega) (by omega) (fun g o ha => by subst ha; exact List.mem_cons_of_mem _ (hlb.2 _ _ _ rfl (by omega))) (by rw [hnp]; omega)
            have I2 := (I.switch (by omega) (by omega) (b := bs) ⟨by omega, by omega⟩ (by rw [hnp]; omega) (D' := D.more ((1 - W.half) * 6 + 0) (layP (W.e + 1) 0 bs)) rfl).2
            have HFIN : Hid (∀ w4, LG B w4 d s (D.switched ((1 - W.half) * 6 + 0) (layP (W.e + 1) 0 bs)) x ⟨1 - W.half, W.e + 1, 1, np bs, false⟩ (q :: H) → Kept (q :: H) w1 w4 → Below B w1 w4 → ∀ w7, w7 = ((w4.alloc (.cells #[.slice a m c] 33)).setCell ⟨q, 0, none⟩ (.slice (some ⟨w4.heap.size, 0, none⟩) 1 1)).setCell ⟨q, 1, none⟩ (.slice none 0 0) → StPost B w d s x q E w7) := by
              rintro w4 A4 K4 B4 w7 rfl
              have hqw := A4.glt q (by simp)
              have kk : Keep (fun b => b = q) (w4.alloc (.cells #[.slice a m c] 33)) (((w4.alloc (.cells #[.slice a m c] 33)).setCell ⟨q, 0, none⟩ (.slice (some ⟨w4.heap.size, 0, none⟩) 1 1)).setCell ⟨q, 1, none⟩ (.slice none 0 0)) := ((Keep.refl (fun b => b = q) _).set (.inr rfl) _).set (.inr rfl) _
              have B6 := al w4 (.cells #[.slice a m c] 33)
              have A6 := A4.add (g := w4.heap.size) B6 (Nat.le_refl _) (by simp)
              have hb6 := ((((hb.block (K4 q (by simp))).below B6).set (o := 0) (.slice (some ⟨w4.heap.size, 0, none⟩) 1 1)).set (o := 1) (.slice none 0 0))
              have KH : Kept H w1 (w4.alloc (.cells #[.slice a m c] 33)) := fun g hg => (B6.block g (A4.glt g (by simp [hg]))).trans (K4 g (by simp [hg]))
              refine ⟨Sy.put (H := w4.heap.size :: H) (A6.less (fun g hg => by simp only [List.mem_cons] at hg ⊢; rcases hg with h | h | h <;> simp [h])) (fun hm => ?_) hqB I2 rfl (by show W.e + 1 ≤ E + 1; omega) hb6 (rlg_row (lv_oneV (a, m, c)) rfl (els_one (y := (a, m, c)) (hlb.kept KH))) (RLG.nil _ _) kk, ((hB1.trans B4).trans (B6.mono A4.size)).trans (kk.below (Nat.le_trans A4.size B6.size) (fun i e => by omega))⟩
              rcases List.mem_cons.1 hm with e | hm
              · omega
              · exact hq hm
            have HST : Hid (∀ w2, Kept (q :: H) w1 w2 → Blk w2 q [sv, mv] 67) := fun w2 K2 => hb.block (K2 q (by simp))
            clear h A I I2 hlb hS hM hb hb0 hb1 HSAME hnp hbl hwl hen hfew hk0 hk1
            go_enter Try.func36, Try.ntmps36
            go_wp2_with (first
              | (go_at_call 40; (rw [HW1.out]; refine (k40 _).mono ?_; rintro e w9 ⟨rfl, h9⟩; replace h9 := h9.symm; subst h9))
              | (go_at_call 41; (refine k41.mono ?_; rintro e w2 ⟨rfl, A2, K2, B2⟩; have HF := HFIN.out w2 A2 K2 B2 _ rfl; have b2 := (HST.out _ K2).below (al w2 (.cells #[.slice a m c] 33)); have b3 := b2.set (o := 0) (.slice (some ⟨w2.heap.size, 0, none⟩) 1 1); have y0 := b2.cell 0; have z0 := b2.frozen 0; have y1 := b3.cell 1; have z1 := b3.frozen 1; simp only [List.getElem?_cons_zero, List.getElem?_cons_succ, List.set_cons_zero] at y0 y1; clear b2 b3)))
            go_ret
            exact ⟨rfl, HF⟩
      · have hb2 : (k == 2) = false := by simpa using hk2
        clear h A I hlb hS hM hb
        go_enter Try.func36, Try.ntmps36
        go_wp2_with (go_at_call 40; (rw [HW1.out]; refine (k40 _).mono ?_; rintro e w9 ⟨rfl, h9⟩; replace h9 := h9.symm; subst h9))
        go_ret
        exact ⟨rfl, HSAME.out _ (Below.refl _ _)⟩
end Go.Proofs.Ytnganmekiloigaa
/-! ### The log that lives. -/
namespace Go.Proofs.Ytnganmekiloigaa
open Go.RowKit
set_option maxRecDepth 100000
variable {w w' : World} {B d s x : Nat} {D : Dk} {W : Wl} {G : List Nat}
theorem land_latest : ∀ (l : List (Nat × Bs)) (k : Nat) (S : List Bs) (i : Nat), i < S.length → (land (fun _ => true) k l S).getD i [] = latest S l i
  | [], _, _, _, _ => rfl
  | y :: r, k, S, i, hi => by
    rw [land, land_latest r (k + 1) _ i (by simpa using hi)]
    simp only [if_true]
    have key : ∀ (r : List (Nat × Bs)) (S T : List Bs), (r.any (fun z => z.1 == i) = false → S.getD i [] = T.getD i []) → latest S r i = latest T r i := by
      intro r
      induction r with
      | nil => intro S T h; exact h rfl
      | cons z r ih =>
        intro S T h
        unfold latest
        by_cases hz : r.any (fun z => z.1 == i) = true
        · rw [if_pos hz, if_pos hz]
          exact ih S T (fun h' => by rw [hz] at h'; cases h')
        · rw [if_neg hz, if_neg hz]
          by_cases hq : z.1 = i
          · rw [if_pos hq, if_pos hq]
          · rw [if_neg hq, if_neg hq]
            refine h ?_
            simp only [List.any_cons, Bool.or_eq_false_iff]
            exact ⟨by simpa using hq, Bool.eq_false_iff.2 hz⟩
    by_cases hy : r.any (fun z => z.1 == i) = true
    · rw [show latest S (y :: r) i = latest S r i by rw [latest, if_pos hy]]
      exact key r _ _ (fun h' => by rw [hy] at h'; cases h')
    · have hy' : r.any (fun z => z.1 == i) = false := Bool.eq_false_iff.2 hy
      have no : ∀ (r : List (Nat × Bs)) (T : List Bs), r.any (fun z => z.1 == i) = false → latest T r i = T.getD i [] := by
        intro r
        induction r with
        | nil => intro T _; rfl
        | cons z r ih =>
          intro T h
          simp only [List.any_cons, Bool.or_eq_false_iff] at h
          unfold latest
          rw [if_neg (by rw [h.2]; simp), if_neg (by simpa using h.1)]
      rw [no r _ hy', latest, if_neg hy]
      by_cases hq : y.1 = i
      · subst hq
        rw [if_pos rfl]
        simp [List.getD_eq_getElem?_getD, hi]
      · rw [if_neg hq]
        simp [List.getD_eq_getElem?_getD, hq]
theorem rdS_land : rdS D = land (fun _ => true) 0 D.wait D.secs := by
  apply List.ext_getElem
  · simp [rdS, land_length]
  · intro i h1 h2
    have hi : i < D.secs.length := by rw [← rdS_length D]; exact h1
    have h3 := rdS_get hi
    rw [List.getElem?_eq_getElem h1] at h3
    have h4 := land_latest D.wait 0 D.secs i hi
    rw [List.getD_eq_getElem?_getD, List.getElem?_eq_getElem h2, Option.getD_some] at h4
    rw [h4]
    exact Option.some.inj h3
/-- Open while something waits: it reads what was written last. -/
theorem open_wait {R h E cnt en u e1 : Nat} {sure more : List Bs} (hA : Alone B w d s D []) (i : Inv R D h E cnt en u e1 sure more) (hR : 2 ≤ R) (hR2 : R ≤ 64) :
    Calls Try.prog 35 #[.pointer (some ⟨d, 0, none⟩)] w fun e w' => ∃ x ua uc, e = .returned (.tuple #[.pointer (some ⟨x, 0, none⟩), .slice ua (sure ++ more).length uc, .int .i64 0]) ∧ Blk w' x (wlC d ⟨h, great (pcs (rdS D)) + 1, (sure ++ more).length, en, false⟩) 111 ∧ RL w' (.slice ua (sure ++ more).length uc) (sure ++ more) ∧ Below w.heap.size w w' ∧ w.heap.size ≤ x := by
  obtain ⟨f1, e', I2⟩ := i.flush (by omega)
  have hS : D.flush.2.secs = rdS D := by
    rw [rdS_land, flush_calm i.cut i.off]
  have hwl : D.wait.length ≤ 100000 := by rw [i.wait, waitOf_length]; have := i.en'; have := i.room; omega
  have hgr : great (pcs D.flush.2.secs) ≤ E := great_bound _ 0 E (Nat.zero_le _) I2.all
  obtain ⟨o1, o2, o3, o4⟩ := I2.opens
  rw [hS] at hgr o1 o2 o3 o4
  refine (open35 hA i.off hwl i.len hR hR2 (by have := i.ep.2; omega)).mono ?_
  rintro e w1 ⟨x, v, vs, rfl, hb, hu, hvs, hB, hx⟩
  rw [o1, o3, o4] at hb
  have hl := hvs.len
  rw [o4] at hl
  obtain ⟨ua, uc, rfl, _⟩ := hu.form
  rw [hl] at hu ⊢
  refine ⟨x, ua, uc, rfl, hb, ⟨vs, hu.read, hl, fun i y b hy hb => ?_⟩, hB, hx⟩
  obtain ⟨r, hr, rfl⟩ : ∃ r, (toldP (rdS D))[i]? = some r ∧ r.b = b := by
    rw [← o2, List.getElem?_map] at hb
    cases hq : (toldP (rdS D))[i]? with
    | none => rw [hq] at hb; cases hb
    | some r => rw [hq] at hb; exact ⟨r, rfl, by simpa using hb⟩
  exact (hvs.at' i y r hy hr).read
theorem lv_frozen (b : UInt8) (fr : Nat × Nat) : LV EB (w.alloc (.cells #[.int .u8 (b.toNat : Int)] 5 fr)) (.slice (some ⟨w.heap.size, 0, none⟩) 1 1) [b] := by
  refine ⟨_, 1, rfl, Nat.le_refl _, fun _ => ⟨w.heap.size, 0, [.int .u8 (b.toNat : Int)], 5, rfl, ⟨fr, World.alloc_heap_new w _⟩, fun j u hu => ?_⟩⟩
  rw [Nat.zero_add]
  exact hu
theorem made60 : ∃ Z : Array Value, Z.toList = cellsB (List.replicate 60 0) ∧ ∀ w : World, (Instr.makeSlice 33 (.int .i64 60) (.int .i64 60)).run Try.prog w = .ok (.slice (some ⟨w.heap.size, 0, none⟩) 60 60) (w.alloc (.cells Z 5)) := by
  obtain ⟨i0, hi0, hz0, hz1, hz2⟩ := info_parts info5z
  refine ⟨madeCells #[.int .u8 0] 60, by kernel_rfl, fun w => ?_⟩
  have h := run_make (P := Try.prog) w 33 5 i0 _ Try.underlying33 hi0 hz0 .i64 .i64 60 60 (by omega) (Int.le_refl _) (by rw [hz2]; omega) (by omega)
  rw [hz1] at h
  exact h
set_option maxHeartbeats 2000000 in
theorem live31 (W0 : World) : Calls Try.prog 31 #[] W0 fun e w' => e = .returned (.bool true) ∧ Below W0.heap.size W0 w' := by
  have c29 := new29 8 W0 (by omega) (by omega)
  obtain ⟨Z, hZ, hmk⟩ := made60
  have HZ : Hid (Z.toList = cellsB (List.replicate 60 0)) := hZ
  clear hZ
  have hcv : ∀ w : World, (convert 33 33 (.slice (some ⟨w.heap.size, 0, none⟩) 1 1)).run Try.prog (w.alloc (.cells #[.int .u8 97] 5)) = .ok (.slice (some ⟨w.heap.size, 0, none⟩) 1 1) (w.alloc (.cells #[.int .u8 97] 5 (1, 2))) := fun w => Joins.run_convert_bytes_const_at w 33 5 #[.int .u8 97] 1 1 _ rfl Try.underlying33 Try.underlying5
  have HAPP : Hid (∀ w2 x, LG W0.heap.size w2 (W0.heap.size + 1) W0.heap.size (newDk (2 * 4)) x ⟨0, 1, 0, 0, false⟩ [] → Below W0.heap.size W0 w2 → Calls Try.prog 42 #[.pointer (some ⟨x, 0, none⟩), .slice (some ⟨w2.heap.size, 0, none⟩) 1 1] (w2.alloc (.cells #[.int .u8 97] 5 (1, 2))) fun e w' => e = .returned (.tuple #[.int .i64 0, .int .i64 0]) ∧ (∃ D, LG W0.heap.size w' (W0.heap.size + 1) W0.heap.size D x ⟨0, 1, 1, 1, false⟩ [] ∧ Inv 4 D 0 1 1 1 0 0 [] [[97]]) ∧ Below W0.heap.size W0 w') := fun w2 x A B => by
    have A5 := A.add (al w2 (.cells #[.int .u8 97] 5 (1, 2))) (Nat.le_refl _) (by simp)
    have I := inv_new 4
    have hf : (0 : Nat) + np [97] ≤ 4 := by decide
    refine (append42_ok (R := 4) (l := [97]) A5 rfl I.cut I.off (by simp [newDk]) I.len (by omega) (.inl rfl) (by decide) (by decide) (lv_frozen 97 (1, 2)) (by decide) (by decide) (fun g o hg => by cases hg; simp) hf).mono ?_
    rintro e w3 ⟨rfl, A3, K3, B3⟩
    exact ⟨rfl, ⟨_, A3.less (by simp), I.append (b := [97]) (by decide) hf rfl⟩, B.trans ((((al w2 _).mono B.size)).trans B3)⟩
  have HFL : Hid (∀ w2 x D, LG W0.heap.size w2 (W0.heap.size + 1) W0.heap.size D x ⟨0, 1, 1, 1, false⟩ [] → Inv 4 D 0 1 1 1 0 0 [] [[97]] → Below W0.heap.size W0 w2 → Calls Try.prog 39 #[.pointer (some ⟨x, 0, none⟩)] w2 fun e w' => e = .returned (.int .i64 0) ∧ (∃ D e1, LG W0.heap.size w' (W0.heap.size + 1) W0.heap.size D x ⟨0, 1, 1, 1, false⟩ [] ∧ Inv 4 D 0 1 1 1 1 e1 [[97]] []) ∧ Below W0.heap.size W0 w') := fun w2 x D A I B => by
    obtain ⟨f1, e', I2⟩ := I.flush (by omega)
    refine (flush39 A rfl f1 (by rw [I.wait, waitOf_length]; have := I.en'; have := I.room; omega) A.glt).mono ?_
    rintro e w3 ⟨rfl, A3, K3, B3⟩
    exact ⟨rfl, ⟨_, e', A3, I2⟩, B.trans B3⟩
  have HAP2 : Hid (∀ w4 x, (∃ D e1, LG W0.heap.size w4 (W0.heap.size + 1) W0.heap.size D x ⟨0, 1, 1, 1, false⟩ [] ∧ Inv 4 D 0 1 1 1 1 e1 [[97]] []) → Below W0.heap.size W0 w4 → Calls Try.prog 42 #[.pointer (some ⟨x, 0, none⟩), .slice (some ⟨w4.heap.size, 0, none⟩) 60 60] (w4.alloc (.cells Z 5)) fun e w' => e = .returned (.tuple #[.int .i64 1, .int .i64 0]) ∧ (∃ D e1, LG W0.heap.size w' (W0.heap.size + 1) W0.heap.size D x ⟨0, 1, 2, 3, false⟩ [] ∧ Inv 4 D 0 1 2 3 1 e1 [[97]] [List.replicate 60 0]) ∧ Below W0.heap.size W0 w') := by
    rintro w4 x ⟨D, e1, A, I⟩ B
    have A5 := A.add (al w4 (.cells Z 5)) (Nat.le_refl _) (by simp)
    have hbk : Blk (w4.alloc (.cells Z 5)) w4.heap.size (cellsB (List.replicate 60 0)) 5 := by rw [← HZ.out]; exact World.alloc_heap_new w4 _
    have hlv : LV EB (w4.alloc (.cells Z 5)) (.slice (some ⟨w4.heap.size, 0, none⟩) 60 60) (List.replicate 60 0) := lv_blk EB (L := List.replicate 60 0) (by rw [EB_cells]; exact hbk) 60 (by decide)
    have hf : (1 : Nat) + np (List.replicate 60 0) ≤ 4 := by decide
    refine (append42_ok (R := 4) (l := List.replicate 60 0) A5 rfl I.cut I.off (by rw [I.wait, waitOf_length]; have := I.en'; have := I.room; omega) I.len (by omega) (.inl rfl) (by decide) (by decide) hlv (by decide) (by decide) (fun g o hg => by cases hg; simp) hf).mono ?_
    rintro e w5 ⟨rfl, A3, K3, B3⟩
    exact ⟨rfl, ⟨_, e1, A3.less (by simp), I.append (b := List.replicate 60 0) (by decide) hf rfl⟩, B.trans ((((al w4 _).mono B.size)).trans B3)⟩
  have HOP : Hid (∀ w5 x, (∃ D e1, LG W0.heap.size w5 (W0.heap.size + 1) W0.heap.size D x ⟨0, 1, 2, 3, false⟩ [] ∧ Inv 4 D 0 1 2 3 1 e1 [[97]] [List.replicate 60 0]) → Below W0.heap.size W0 w5 → Calls Try.prog 35 #[.pointer (some ⟨W0.heap.size + 1, 0, none⟩)] w5 fun e w' => ∃ x2 ua uc, e = .returned (.tuple #[.pointer (some ⟨x2, 0, none⟩), .slice ua 2 uc, .int .i64 0]) ∧
      (∀ W, Below w'.heap.size w' W → (Calls Try.prog 48 #[.pointer (some ⟨x2, 0, none⟩)] W fun e w' => e = .returned (.int .i64 2) ∧ w' = W) ∧ (Calls Try.prog 46 #[.pointer (some ⟨x, 0, none⟩)] W fun e w' => e = .returned (.int .i64 2) ∧ w' = W) ∧ (Calls Try.prog 47 #[.pointer (some ⟨x, 0, none⟩)] W fun e w' => e = .returned (.int .i64 1) ∧ w' = W.drew)) ∧ RL w' (.slice ua 2 uc) [[97], List.replicate 60 0] ∧ Below W0.heap.size W0 w') := by
    rintro w5 x ⟨D, e1, A, I⟩ B
    have hgr : great (pcs (rdS D)) = 1 := by
      obtain ⟨f1, e', I2⟩ := I.flush (by omega)
      have hS : D.flush.2.secs = rdS D := by rw [rdS_land, flush_calm I.cut I.off]
      have h1 : great (pcs D.flush.2.secs) ≤ 1 := great_bound _ 0 1 (Nat.zero_le _) I2.all
      have h2 : 1 ≤ great (pcs D.flush.2.secs) := by
        rcases I2.other with ⟨r, hr, _, _⟩ | ⟨h, _⟩
        · obtain ⟨f, q1, q2, q3, q4, q5, _⟩ := stand_some hr
          have := (great_le (pcs D.flush.2.secs) 0).2 f (mem_half (List.mem_of_getElem? q1))
          have h3 : f.e ≤ great (pcs D.flush.2.secs) := this
          omega
        · simp at h
      rw [hS] at h1 h2
      omega
    refine (open_wait (A.alone.less (by simp)) I (by omega) (by omega)).mono ?_
    rintro e w6 ⟨x2, ua, uc, rfl, hb, hr, B6, hx⟩
    rw [hgr] at hb
    exact ⟨x2, ua, uc, rfl, fun W k => ⟨epoch48 (hb.below k), len46 ((A.wal.below B6).below k), left47 (R := 4) (((A.below B6).below k).disk) ((A.wal.below B6).below k) I.len (by omega) (by decide)⟩, hr, B.trans (B6.mono B.size)⟩
  go_enter Try.func31, Try.ntmps31
  go_wp2_with (first
    | (go_at_call 29; (refine c29.mono ?_; rintro e w1 ⟨rfl, hPD, B1⟩; have k35 := open_new (R := 4) (alone_new29 hPD B1) (by omega) (by omega)))
    | (go_at_call 35; (refine k35.mono ?_; rintro e w2 ⟨x, ua, uc, rfl, A2, -, B2⟩; have k42 := HAPP.out w2 x A2 (B1.trans (B2.mono B1.size)); clear hPD B1 B2 A2 k35))
    | (go_at_call 35; (refine k35b.mono ?_; rintro e w6 ⟨x2, ra, rc, rfl, hc6, hr6, B6⟩; have k47 := (hc6 _ (Below.refl _ w6)).2.2; have k46 := (hc6 _ (Below.refl _ w6).drew).2.1; have k48 := (hc6 _ (Below.refl _ w6).drew).1; have hr7 := hr6.below (Below.refl _ w6).drew; obtain ⟨gr, or, p0, k0, q0, rfl, hc0, hl0⟩ := hr7.at (i := 0) rfl; obtain ⟨gr', or', p1, k1, q1, hra, hc1, hl1⟩ := hr7.at (i := 1) rfl; cases hra; obtain rfl : k1 = 60 := hl1.cap.1; have hs0 := conv_lv hl0 (by simp); rw [show strB [97] = (⟨#[97]⟩ : ByteArray) from rfl] at hs0; rw [Nat.add_zero] at hc0; have HB6 : Hid (Below W0.heap.size W0 w6) := B6; clear hc6 hr6 hr7 hl0 hl1 B6 k35b))
    | (go_at_call 47; (refine k47.mono ?_; rintro e w7 ⟨rfl, rfl⟩))
    | (go_at_call 46; (refine k46.mono ?_; rintro e w7 ⟨rfl, rfl⟩))
    | (go_at_call 48; (refine k48.mono ?_; rintro e w7 ⟨rfl, rfl⟩))
    | (go_at_call 42; (refine k42b.mono ?_; rintro e w5 ⟨rfl, h5, B5⟩; have k35b := HOP.out w5 x h5 B5; clear h5 B5 k42b))
    | (go_at_call 42; (refine k42.mono ?_; rintro e w3 ⟨rfl, ⟨D, A3, I3⟩, B3⟩; have k39 := HFL.out w3 x D A3 I3 B3; clear A3 I3 B3 k42))
    | (go_at_call 39; (refine k39.mono ?_; rintro e w4 ⟨rfl, h4, B4⟩; have k42b := HAP2.out w4 x h4 B4; clear h4 B4 k39)))
  go_ret
  exact ⟨rfl, HB6.out.trans (Below.refl _ _).drew⟩
end Go.Proofs.Ytnganmekiloigaa
