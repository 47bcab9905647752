/- The law TopHalves. -/
import Derived.Test.YtnganmekiloigaaJs
namespace Go.Proofs.Ytnganmekiloigaa
open Go.RowKit
set_option maxRecDepth 100000
variable {w w' : World} {B d s x : Nat} {D : Dk} {W : Wl} {G : List Nat}
theorem alone_new29 {W0 w1 : World} {n : Nat} (h : PD w1 (W0.heap.size + 1) W0.heap.size (.slice none 0 0) (newDk n)) (k : Below W0.heap.size W0 w1) : Alone W0.heap.size w1 (W0.heap.size + 1) W0.heap.size (newDk n) [] := by
  refine ⟨_, h, by simp, fun b hb => ?_, k.size⟩
  rcases hb with rfl | rfl | hb
  · omega
  · omega
  · cases hb
theorem great_new (n : Nat) : great (pcs (newDk n).secs) = 0 := by
  have : great (pcs (newDk n).secs) ≤ 0 := great_bound _ 0 0 (Nat.le_refl _) fun x hx => by
    simp only [pcs, newDk, List.mem_map, List.mem_replicate] at hx
    obtain ⟨s, ⟨_, rfl⟩, rfl⟩ := hx
    exact Nat.le_refl _
  omega
/-- The log on a new disk, opened. -/
theorem open_new {R : Nat} (hA : Alone B w d s (newDk (2 * R)) []) (hR : 2 ≤ R) (hR2 : R ≤ 64) :
    Calls Try.prog 35 #[.pointer (some ⟨d, 0, none⟩)] w fun e w' => ∃ x ua uc, e = .returned (.tuple #[.pointer (some ⟨x, 0, none⟩), .slice ua 0 uc, .int .i64 0]) ∧ LG B w' d s (newDk (2 * R)) x ⟨0, 1, 0, 0, false⟩ [] ∧ RL w' (.slice ua 0 uc) [] ∧ Below w.heap.size w w' := by
  have hsz : B ≤ w.heap.size := by obtain ⟨_, _, _, _, h⟩ := hA; exact h
  refine (open_inv hA (inv_new R) hR hR2).mono ?_
  rintro e w1 ⟨x, ua, uc, rfl, hb, hr, hB, hx⟩
  rw [great_new] at hb
  refine ⟨x, ua, uc, rfl, ⟨?_, hb, by simp, by omega⟩, hr, hB⟩
  obtain ⟨wv, p1, p2, p3, p4⟩ := hA
  refine ⟨wv, p1.below hB, fun g hg => ?_, p3, Nat.le_trans p4 hB.size⟩
  have : g = x := by simpa using hg
  subst this
  exact ⟨fun hf => by have := p1.foot_lt _ hf; omega, hb.lt⟩
theorem rw_one {b : UInt8} : RW EB w.heap.size (w.alloc (.cells #[.int .u8 (b.toNat : Int)] 5)) (.slice (some ⟨w.heap.size, 0, none⟩) 1 1) [b] := by
  refine ⟨by rw [EB_cells]; simp [cellsB_length, EB], .inr ⟨w.heap.size, 1, #[.int .u8 (b.toNat : Int)], rfl, Nat.le_refl _, (blk_new w [.int .u8 (b.toNat : Int)] 5), Nat.le_refl _, by decide, rfl, by rw [EB_cells]; rfl⟩⟩
theorem lv_one (b : UInt8) : LV EB (w.alloc (.cells #[.int .u8 (b.toNat : Int)] 5)) (.slice (some ⟨w.heap.size, 0, none⟩) 1 1) [b] := (rw_one (w := w) (b := b)).read
theorem strB_app (l m : Bs) : strB (l ++ m) = strB l ++ strB m := by
  unfold strB
  apply ByteArray.ext
  simp
theorem strB_size (l : Bs) : (strB l).size = l.length := by simp [strB, ByteArray.size]
theorem meas_lt {m k : Nat} (h : m < k) : k - ((m : Int) + 1).toNat < k - ((m : Int)).toNat := by omega
/-- Bytes of one's own behind an empty literal, and one more. -/
theorem ru_empty : RU EB w.heap.size (w.alloc (.cells #[] 5)) (.slice (some ⟨w.heap.size, 0, none⟩) 0 0) [] := .inl ⟨rfl, ⟨w.heap.size, 0, none⟩, rfl, Nat.le_refl _, by simp⟩
theorem rw_form {α : Type} {E : Ety α} {L : List α} {N : Nat} {u : Value} (h : RW E N w u L) (h0 : L ≠ []) : ∃ g c, u = .slice (some ⟨g, 0, none⟩) L.length c ∧ N ≤ g ∧ g < w.heap.size := by
  rcases h.2 with ⟨_, hn⟩ | ⟨g, cap, cur, rfl, h3, h4, _⟩
  · exact absurd (List.eq_nil_of_length_eq_zero hn) h0
  · exact ⟨g, cap, rfl, h3, (Array.getElem?_eq_some_iff.1 h4).1⟩
theorem ru_form {α : Type} {E : Ety α} {L : List α} {N : Nat} {u : Value} (h : RU E N w u L) (h0 : L ≠ []) : ∃ g c, u = .slice (some ⟨g, 0, none⟩) L.length c ∧ N ≤ g ∧ g < w.heap.size := by
  rcases h with ⟨h1, _⟩ | ⟨_, h2⟩
  · exact absurd h1 h0
  · exact rw_form h2 h0
/-- What holds ahead of each round. -/
structure H14 (W0 wr : World) (d s x g n c : Nat) (bb : Bs) (m : Nat) (sure : List Bs) : Prop where
  ex : ∃ D W u e1, LG W0.heap.size wr d s D x W [g] ∧ Inv 8 D W.half W.e W.cnt W.en u e1 sure [] ∧ W.br = false ∧ W.e = 1 + m ∧ W.half = m % 2
  lv : LV EB wr (.slice (some ⟨g, 0, none⟩) n c) bb
  below : Below W0.heap.size W0 wr
section
variable {W0 wr w5 : World} {g n c m g5 n5 c5 : Nat} {bb L3 : Bs} {sure : List Bs}
theorem kept_lv {l : Bs} {n c : Nat} (h : LV EB w (.slice (some ⟨g, 0, none⟩) n c) l) (k : Kept [g] w w') : LV EB w' (.slice (some ⟨g, 0, none⟩) n c) l := lv_keepAt h fun g' o hg => by cases hg; exact k g (by simp)
theorem H14.switch (h : H14 W0 wr d s x g n c bb m sure) (hm : m < 7) (h0 : 0 < L3.length) (hbl : L3.length ≤ 202) (B5 : Below wr.heap.size wr w5) (hl : LV EB w5 (.slice (some ⟨g5, 0, none⟩) n5 c5) L3) (g51 : wr.heap.size ≤ g5) (g52 : g5 < w5.heap.size) :
    Calls Try.prog 41 #[.pointer (some ⟨x, 0, none⟩), .slice (some ⟨g5, 0, none⟩) n5 c5] w5 fun e w' => e = .returned (.int .i64 0) ∧ H14 W0 w' d s x g n c bb (m + 1) [L3] := by
  obtain ⟨⟨D, W, u, e1, A, I, hbr, he, hh⟩, hLV, hB⟩ := h
  have hwt : D.wait = [] := by rw [I.wait]; rfl
  have hnp : np L3 ≤ 8 := by unfold np; omega
  have hlt := A.glt
  have A5 := A.add B5 g51 g52
  refine (switch41_ok (R := 8) A5 hbr I.cut I.off (by rw [hwt]; simp) I.len (by omega) I.half (by omega) hl h0 (by omega) (fun g' o hg => by cases hg; simp) hnp).mono ?_
  rintro e w6 ⟨rfl, A6, K6, B6⟩
  have I6 := (I.switch (by omega) (by omega) (b := L3) ⟨by omega, by omega⟩ hnp (D' := D.more ((1 - W.half) * 8 + 0) (layP (W.e + 1) 0 L3)) rfl).2
  refine ⟨rfl, ⟨⟨_, _, _, _, A6.less (by simp), I6, rfl, by show W.e + 1 = _; omega, by show 1 - W.half = _; omega⟩, ?_, hB.trans ((B5.mono hB.size).trans B6)⟩⟩
  exact kept_lv (hLV.below B5) (fun g' hg' => K6 g' (by simp at hg'; simp [hg']))
theorem H14.crash (h : H14 W0 wr d s x g n c bb m sure) : Calls Try.prog 18 #[.pointer (some ⟨d, 0, none⟩), .slice none 0 0] wr fun e w' => e = .returned (.tuple #[]) ∧ H14 W0 w' d s x g n c bb m sure := by
  obtain ⟨⟨D, W, u, e1, A, I, hbr, he, hh⟩, hLV, hB⟩ := h
  have hwt : D.wait = [] := by rw [I.wait]; rfl
  refine (alone18 A.disk (.slice none 0 0) [] (.inl ⟨none, 0, rfl, rfl⟩) (fun a n c e _ => by cases e) (by rw [hwt]; simp)).mono ?_
  rintro e w1 ⟨rfl, A1, K1, B1⟩
  exact ⟨rfl, ⟨⟨_, W, u, e1, ⟨A1, A.wal.block (K1 x (by simp)), A.nx, A.bx⟩, I.crash_nil [], hbr, he, hh⟩, kept_lv hLV (fun g' hg' => K1 g' (by simp at hg'; simp [hg'])), hB.trans B1⟩⟩
theorem H14.opens (h : H14 W0 wr d s x g n c bb m sure) : Calls Try.prog 35 #[.pointer (some ⟨d, 0, none⟩)] wr fun e w' => ∃ x2 ua uc, e = .returned (.tuple #[.pointer (some ⟨x2, 0, none⟩), .slice ua sure.length uc, .int .i64 0]) ∧ RL w' (.slice ua sure.length uc) sure ∧ H14 W0 w' d s x g n c bb m sure := by
  obtain ⟨⟨D, W, u, e1, A, I, hbr, he, hh⟩, hLV, hB⟩ := h
  refine (open_inv (A.alone.less (by simp)) I (by omega) (by omega)).mono ?_
  rintro e w1 ⟨x2, ua, uc, rfl, -, hr, B1, -⟩
  exact ⟨x2, ua, uc, rfl, hr, ⟨⟨D, W, u, e1, A.below B1, I, hbr, he, hh⟩, hLV.below B1, hB.trans (B1.mono hB.size)⟩⟩
theorem H14.below' (h : H14 W0 wr d s x g n c bb m sure) (k : Below wr.heap.size wr w5) : H14 W0 w5 d s x g n c bb m sure := by
  obtain ⟨⟨D, W, u, e1, A, I, hbr, he, hh⟩, hLV, hB⟩ := h
  exact ⟨⟨D, W, u, e1, A.below k, I, hbr, he, hh⟩, hLV.below k, hB.trans (k.mono hB.size)⟩
theorem H14.half (h : H14 W0 wr d s x g n c bb m sure) : Calls Try.prog 43 #[.pointer (some ⟨x, 0, none⟩)] wr fun e w' => e = .returned (.int .i64 ((m % 2 : Nat) : Int)) ∧ w' = wr := by
  obtain ⟨⟨D, W, u, e1, A, I, hbr, he, hh⟩, hLV, hB⟩ := h
  have := half43 A.wal
  rw [hh] at this
  exact this
theorem H14.len (h : H14 W0 wr d s x g n c bb m sure) : Calls Try.prog 46 #[.pointer (some ⟨x, 0, none⟩)] wr fun e w' => e = .returned (.int .i64 ((sure.length : Nat) : Int)) ∧ w' = wr := by
  obtain ⟨⟨D, W, u, e1, A, I, hbr, he, hh⟩, hLV, hB⟩ := h
  have := len46 A.wal
  rw [I.cnt'] at this
  exact this
theorem H14.whole (h : H14 W0 wr d s x g n c bb m sure) : Calls Try.prog 49 #[.pointer (some ⟨x, 0, none⟩)] wr fun e w' => e = .returned (.bool false) ∧ w' = wr := by
  obtain ⟨⟨D, W, u, e1, A, I, hbr, he, hh⟩, hLV, hB⟩ := h
  have := broken49 A.wal
  rw [hbr] at this
  exact this
end
theorem ru_form3 {α : Type} {E : Ety α} {L : List α} {N : Nat} {u : Value} (h : RU E N w u L) (h0 : L ≠ []) : ∃ g c n, u = .slice (some ⟨g, 0, none⟩) n c ∧ N ≤ g ∧ g < w.heap.size := by
  obtain ⟨g, c, h1, h2, h3⟩ := ru_form h h0
  exact ⟨g, c, _, h1, h2, h3⟩
set_option maxHeartbeats 2000000 in
theorem halves14s (W0 : World) (n : Nat) (hn : n < 256) (a : Option Addr) (k c : Nat) (b : Bs) (hb : LV EB W0 (.slice a k c) b) (hk : ¬ 200 < k) : Calls Try.prog 14 #[.int .u8 (n : Int), .slice a k c] W0 fun e w' => e = .returned (.bool true) ∧ Below W0.heap.size W0 w' := by
  have c29 := new29 16 W0 (by omega) (by omega)
  have HKL : Hid (k = b.length ∧ b.length ≤ c) := hb.cap
  have hki : ¬ (200 : Int) < (k : Int) := by omega
  go_enter Try.func14, Try.ntmps14
  go_wp2_with (first
    | (go_at_call 29; (refine c29.mono ?_; rintro e w1 ⟨rfl, hPD, B1⟩; have k35 := open_new (R := 8) (alone_new29 hPD B1) (by omega) (by omega)))
    | (go_at_call 35; (refine k35.mono ?_; rintro e w2 ⟨x, ua, uc, rfl, A2, -, B2⟩; have B12 := B1.trans (B2.mono B1.size)))
    | (at_builtin; (refine wpList_append_ex (by rfl) (.tmp 31) (.tmp 32) 33 (by rfl) _ _ (by rfl) (by rfl) (rw_app (rw_one (w := w2) (b := 7)) ((hb.below B12).below (al _ _)) (by simp; have := HKL.out.1; omega) (by simp)) ?_; rintro u3 w3 ⟨hu3, B3⟩)))
  obtain ⟨g, cg, rfl, hg1, hg2⟩ := rw_form hu3 (by simp)
  have HBB : Hid (∃ bb : Bs, bb = [7] ++ b ∧ 1 ≤ bb.length ∧ bb.length ≤ 201) := ⟨_, rfl, by simp, by simp; have := HKL.out.1; omega⟩
  obtain ⟨bb, hbb, hbl1, hbl2⟩ := HBB.out
  rw [← hbb] at hu3 ⊢
  have HBL : Hid (1 ≤ bb.length ∧ bb.length ≤ 201) := ⟨hbl1, hbl2⟩
  have B23 : Below w2.heap.size w2 w3 := (al w2 _).trans B3
  have H0 : Hid (H14 W0 w3 (W0.heap.size + 1) W0.heap.size x g bb.length cg bb 0 []) := ⟨⟨_, ⟨0, 1, 0, 0, false⟩, 0, 0, A2.add B23 hg1 hg2, inv_new 8, rfl, rfl, rfl⟩, hu3.read, B12.trans (B23.mono B12.size)⟩
  have hmod : ((n : Int)).tmod 7 = ((n % 7 : Nat) : Int) := by rw [Int.tmod_eq_emod_of_nonneg (by omega)]; omega
  have HM7 : Hid (n % 7 < 7) := by show _ < _; omega
  generalize n % 7 = k7 at *
  clear hu3 A2 B23 B3 B12 B1 B2 hPD k35 c29 hbb hbl1 hbl2 HBB hb hg1 hg2
  obtain ⟨nb, hnb⟩ : ∃ nb, bb.length = nb := ⟨_, rfl⟩
  rw [hnb] at H0 ⊢
  have HNB : Hid (bb.length = nb) := hnb
  clear hnb
  go_loopw [9] (fun z wr => ∃ m : Nat, m ≤ k7 ∧ z = .int .i64 (m : Int) ∧ ∃ sure, Hid (H14 W0 wr (W0.heap.size + 1) W0.heap.size x g nb cg bb m sure)) (fun z _ => k7 - (intOf z).toNat)
  case atStart => exact ⟨0, by omega, rfl, [], H0.out⟩
  case round =>
    obtain ⟨m, hm, rfl, sure, HI⟩ := hrel
    have hLV := HI.out.lv
    by_cases hlt : m < k7
    · have hlti : (m : Int) < (k7 : Int) := by omega
      obtain ⟨xb, hxb⟩ : ∃ xb : UInt8, xb.toNat = m := ⟨UInt8.ofNat m, by rw [UInt8.toNat_ofNat']; have := HM7.out; omega⟩
      have hw8 : IntKind.u8.wrap (m : Int) = (xb.toNat : Int) := by rw [IntKind.wrap_u8, hxb]; have := HM7.out; omega
      have HXB : Hid (xb.toNat = m) := hxb
      clear hxb
      obtain ⟨o2, ho2⟩ : ∃ o2, (m + 1) % 2 = o2 := ⟨_, rfl⟩
      have hm7 : m < 7 := by have := HM7.out; omega
      have hm7i : (m : Int) < 7 := by omega
      have hm2 : ((m : Int) + 1).tmod 2 = (o2 : Int) := by
        rw [Int.tmod_eq_emod_of_nonneg (by omega)]
        omega
      have HO2 : Hid ((m + 1) % 2 = o2) := ho2
      clear ho2
      have HM8 : Hid (m < 7) := by have := HM7.out; show _ < _; omega
      go_wp2_with (first
        | (at_builtin; (refine wpList_append_ex (by rfl) (.tmp 42) (.tmp 43) 33 (by rfl) _ _ (by rfl) (by rfl) (run_app (ru_empty (w := wr)) (hLV.below (al _ _)) (by simp; have := HBL.out; omega) (by simp)) ?_; rintro u4 w4 ⟨hu4, hg4⟩; have B4 : Below wr.heap.size wr w4 := (al wr _).trans (grown_below (ru_empty (w := wr)) hg4 (by simp)); rw [List.nil_append] at hu4; obtain ⟨g4, c4, n4, rfl, g41, g42⟩ := ru_form3 hu4 (fun h => by have := HBL.out; rw [h] at this; simp at this)))
        | (at_builtin; (refine wpList_append_ex (by rfl) (.tmp 44) (.tmp 47) 33 (by rfl) _ _ (by rfl) (by rfl) (run_app (hu4.below (al _ _)) (lv_one xb) (by simp; have := HBL.out; omega) (by have := B4.size; simp; omega)) ?_; rintro u5 w5 ⟨hu5, hg5⟩; have B5 : Below wr.heap.size wr w5 := (B4.trans ((al w4 _).mono B4.size)).trans (grown_below (hu4.below (al w4 _)) hg5 (by have := B4.size; simp; omega)); obtain ⟨g5, c5, n5, rfl, g51, g52⟩ := ru_form3 hu5 (by simp); have HU5 : Hid (LV EB w5 (.slice (some ⟨g5, 0, none⟩) n5 c5) (bb ++ [xb])) := hu5.read; have HB5 : Hid (Below wr.heap.size wr w5) := B5; clear hu5 B5 B4 hu4 hg4 hg5))
        | (go_at_call 41; (refine (HI.out.switch HM8.out (by simp) (by simp; have := HBL.out; omega) HB5.out HU5.out g51 g52).mono ?_; rintro e w6 ⟨rfl, h6⟩; have H6 : Hid _ := h6; have k43 := h6.half; rw [HO2.out] at k43; have k46 := h6.len; have k18 := h6.crash; clear h6))
        | (go_at_call 43; (refine k43.mono ?_; rintro e w7 ⟨rfl, rfl⟩))
        | (go_at_call 46; (refine k46.mono ?_; rintro e w7 ⟨rfl, rfl⟩))
        | (go_at_call 18; (refine k18.mono ?_; rintro e w8 ⟨rfl, h8⟩; have k35 := h8.opens; clear h8))
        | (go_at_call 35; (refine k35.mono ?_; rintro e w9 ⟨x2, ra, rc, rfl, hr9, h9⟩)))
      obtain ⟨gr, or, p0, kk, q0, rfl, hc9, hl9⟩ := hr9.at (i := 0) (b := bb ++ [xb]) rfl
      rw [Nat.add_zero] at hc9
      have hv9 := h9.lv
      have HS9 : Hid (∀ W, Below w9.heap.size w9 W → W.cell? ⟨gr, or, none⟩ = some (.slice p0 kk q0) ∧ LV EB W (.slice p0 kk q0) (bb ++ [xb]) ∧ LV EB W (.slice (some ⟨g, 0, none⟩) nb cg) bb) := fun W k => ⟨(k.cell (World.block_lt_of_cell? _ _ hc9)).trans hc9, hl9.below k, hv9.below k⟩
      have H9 : Hid (H14 W0 w9 (W0.heap.size + 1) W0.heap.size x g nb cg bb (m + 1) [bb ++ [xb]]) := h9
      have hcv1 : ∀ W, LV EB W (.slice p0 kk q0) (bb ++ [xb]) → (convert 33 9 (.slice p0 kk q0)).run Try.prog W = .ok (.string (strB bb ++ strB [xb])) W := fun W h => by rw [← strB_app]; exact conv_lv h (by simp)
      have hcv2 : ∀ W, LV EB W (.slice (some ⟨g, 0, none⟩) nb cg) bb → (convert 33 9 (.slice (some ⟨g, 0, none⟩) nb cg)).run Try.prog W = .ok (.string (strB bb)) W := fun W h => conv_lv h (by have := HBL.out; omega)
      have hcv3 : (convert 33 9 (.slice (some ⟨w9.heap.size, 0, none⟩) 1 1)).run Try.prog (w9.alloc (.cells #[.int .u8 (xb.toNat : Int)] 5)).drew = .ok (.string (strB [xb])) (w9.alloc (.cells #[.int .u8 (xb.toNat : Int)] 5)).drew := conv_lv ((lv_one xb).below (Below.refl _ _).drew) (by simp)
      have hsz : (strB bb).size + (strB [xb]).size ≤ 9223372036854775807 := by rw [strB_size, strB_size]; have := HBL.out.2; have e1 : [xb].length = 1 := rfl; rw [e1]; exact Nat.le_trans (Nat.add_le_add_right this 1) (by decide)
      generalize strB bb = sA at *
      generalize strB [xb] = sX at *
      clear hr9 h9 hl9 hv9 hc9 k46 k43 k18 H6 HB5 HU5 k35
      refine wp_region_held_drew (S := fun W => W.cell? ⟨gr, or, none⟩ = some (.slice p0 kk q0) ∧ LV EB W (.slice p0 kk q0) (bb ++ [xb]) ∧ LV EB W (.slice (some ⟨g, 0, none⟩) nb cg) bb) (by kernel_rfl) (HS9.out _ (Below.refl _ _).drew) (fun hS => ?_)
      refine wpAnyH_take' 0 (some 72) (.int .i64 0) rfl rfl (by kernel_rfl) (by kernel_rfl) (by kernel_rfl) (fun _ _ _ h => h) (Or.inl ⟨by rfl, fun w' hS => by obtain ⟨s0, s1, s2⟩ := hS; go_simp⟩) hS ?_
      simp only [Act.put, List.setIfInBounds_toArray, List.set_cons_zero, List.set_cons_succ]
      refine wpAnyH_take' 1 (some 73) (.bool false) rfl rfl (by kernel_rfl) (by kernel_rfl) (by kernel_rfl) (fun _ _ _ h => h) (Or.inl ⟨by rfl, fun w' hS => by obtain ⟨s0, s1, s2⟩ := hS; go_simp⟩) hS ?_
      simp only [Act.put, List.setIfInBounds_toArray, List.set_cons_zero, List.set_cons_succ]
      refine wpAnyH_take' 2 (some 74) (.bool false) rfl rfl (by kernel_rfl) (by kernel_rfl) (by kernel_rfl) (fun _ _ _ h => h) (Or.inl ⟨by rfl, fun w' hS => by obtain ⟨s0, s1, s2⟩ := hS; go_simp⟩) hS ?_
      simp only [Act.put, List.setIfInBounds_toArray, List.set_cons_zero, List.set_cons_succ]
      refine wpAnyH_take' 3 (some 75) (.slice (some ⟨gr, or, none⟩) 1 rc) rfl rfl (by kernel_rfl) (by kernel_rfl) (by kernel_rfl) (fun _ _ _ h => h) (Or.inl ⟨by rfl, fun w' hS => by obtain ⟨s0, s1, s2⟩ := hS; go_simp⟩) hS ?_
      simp only [Act.put, List.setIfInBounds_toArray, List.set_cons_zero, List.set_cons_succ]
      refine wpAnyH_take' 4 (some 76) (.int .i64 1) rfl rfl (by kernel_rfl) (by kernel_rfl) (by kernel_rfl) (fun _ _ _ h => h) (Or.inl ⟨by rfl, fun w' hS => by obtain ⟨s0, s1, s2⟩ := hS; go_simp⟩) hS ?_
      simp only [Act.put, List.setIfInBounds_toArray, List.set_cons_zero, List.set_cons_succ]
      refine wpAnyH_take' 5 (some 77) (.bool false) rfl rfl (by kernel_rfl) (by kernel_rfl) (by kernel_rfl) (fun _ _ _ h => h) (Or.inl ⟨by rfl, fun w' hS => by obtain ⟨s0, s1, s2⟩ := hS; go_simp⟩) hS ?_
      simp only [Act.put, List.setIfInBounds_toArray, List.set_cons_zero, List.set_cons_succ]
      refine wpAnyH_take' 6 (some 78) (.bool false) rfl rfl (by kernel_rfl) (by kernel_rfl) (by kernel_rfl) (fun _ _ _ h => h) (Or.inl ⟨by rfl, fun w' hS => by obtain ⟨s0, s1, s2⟩ := hS; go_simp⟩) hS ?_
      simp only [Act.put, List.setIfInBounds_toArray, List.set_cons_zero, List.set_cons_succ]
      refine wpAnyH_take' 7 (some 79) (.bool false) rfl rfl (by kernel_rfl) (by kernel_rfl) (by kernel_rfl) (fun _ _ _ h => h) (Or.inl ⟨by rfl, fun w' hS => by obtain ⟨s0, s1, s2⟩ := hS; go_simp⟩) hS ?_
      simp only [Act.put, List.setIfInBounds_toArray, List.set_cons_zero, List.set_cons_succ]
      refine wpAnyH_take' 8 (some 80) (.slice (some ⟨gr, or, none⟩) 1 rc) rfl rfl (by kernel_rfl) (by kernel_rfl) (by kernel_rfl) (fun _ _ _ h => h) (Or.inl ⟨by rfl, fun w' hS => by obtain ⟨s0, s1, s2⟩ := hS; go_simp⟩) hS ?_
      simp only [Act.put, List.setIfInBounds_toArray, List.set_cons_zero, List.set_cons_succ]
      refine wpAnyH_take' 9 (some 81) (.pointer (some ⟨gr, or, none⟩)) rfl rfl (by kernel_rfl) (by kernel_rfl) (by kernel_rfl) (fun _ _ _ h => h) (Or.inl ⟨by rfl, fun w' hS => by obtain ⟨s0, s1, s2⟩ := hS; go_simp⟩) hS ?_
      simp only [Act.put, List.setIfInBounds_toArray, List.set_cons_zero, List.set_cons_succ]
      refine wpAnyH_take' 10 (some 82) (.slice p0 kk q0) rfl rfl (by kernel_rfl) (by kernel_rfl) (by kernel_rfl) (fun _ _ _ h => h) (Or.inl ⟨by rfl, fun w' hS => by obtain ⟨s0, s1, s2⟩ := hS; go_simp⟩) hS ?_
      simp only [Act.put, List.setIfInBounds_toArray, List.set_cons_zero, List.set_cons_succ]
      refine wpAnyH_take' 11 (some 83) (.string (sA ++ sX)) rfl rfl (by kernel_rfl) (by kernel_rfl) (by kernel_rfl) (fun _ _ _ h => h) (Or.inl ⟨by rfl, fun w' hS => by obtain ⟨s0, s1, s2⟩ := hS; have hcv := hcv1 _ s1; go_simp⟩) hS ?_
      simp only [Act.put, List.setIfInBounds_toArray, List.set_cons_zero, List.set_cons_succ]
      refine wpAnyH_take' 12 (some 84) (.slice (some ⟨g, 0, none⟩) nb cg) rfl rfl (by kernel_rfl) (by kernel_rfl) (by kernel_rfl) (fun _ _ _ h => h) (Or.inl ⟨by rfl, fun w' hS => by obtain ⟨s0, s1, s2⟩ := hS; go_simp⟩) hS ?_
      simp only [Act.put, List.setIfInBounds_toArray, List.set_cons_zero, List.set_cons_succ]
      refine wpAnyH_take' 13 (some 85) (.string sA) rfl rfl (by kernel_rfl) (by kernel_rfl) (by kernel_rfl) (fun _ _ _ h => h) (Or.inl ⟨by rfl, fun w' hS => by obtain ⟨s0, s1, s2⟩ := hS; have hcv := hcv2 _ s2; go_simp⟩) hS ?_
      simp only [Act.put, List.setIfInBounds_toArray, List.set_cons_zero, List.set_cons_succ]
      refine wpAnyH_take' 14 (some 86) (.int .i64 (m : Int)) rfl rfl (by kernel_rfl) (by kernel_rfl) (by kernel_rfl) (fun _ _ _ h => h) (Or.inl ⟨by rfl, fun w' hS => by obtain ⟨s0, s1, s2⟩ := hS; go_simp⟩) hS ?_
      simp only [Act.put, List.setIfInBounds_toArray, List.set_cons_zero, List.set_cons_succ]
      refine wpAnyH_take' 15 (some 87) (.int .u8 (xb.toNat : Int)) rfl rfl (by kernel_rfl) (by kernel_rfl) (by kernel_rfl) (fun _ _ _ h => h) (Or.inl ⟨by rfl, fun w' hS => by obtain ⟨s0, s1, s2⟩ := hS; go_simp⟩) hS ?_
      simp only [Act.put, List.setIfInBounds_toArray, List.set_cons_zero, List.set_cons_succ]
      refine wpAnyH_ready (rs := [16]) (by kernel_rfl) (by simp) (AllReadyH.cons rfl (fun K2 hK2 => ?_) AllReadyH.nil)
      go_simp
      refine hK2.out _ _ (HS9.out _ (bmore (Below.refl _ _).drew (al _ _))) (fun hS => ?_)
      clear hK2 K2
      try simp only [Act.put, List.setIfInBounds_toArray, List.set_cons_zero, List.set_cons_succ]
      refine wpAnyH_ready (rs := [17]) (by kernel_rfl) (by simp) (AllReadyH.cons rfl (fun K2 hK2 => ?_) AllReadyH.nil)
      go_simp
      refine hK2.out _ _ hS (fun hS => ?_)
      clear hK2 K2
      try simp only [Act.put, List.setIfInBounds_toArray, List.set_cons_zero, List.set_cons_succ]
      refine wpAnyH_take' 18 (some 90) (.string (sA ++ sX)) rfl rfl (by kernel_rfl) (by kernel_rfl) (by kernel_rfl) (fun _ _ _ h => h) (Or.inl ⟨by rfl, fun w' hS => by obtain ⟨s0, s1, s2⟩ := hS; go_simp⟩) hS ?_
      simp only [Act.put, List.setIfInBounds_toArray, List.set_cons_zero, List.set_cons_succ]
      refine wpAnyH_take' 19 (some 91) (.bool false) rfl rfl (by kernel_rfl) (by kernel_rfl) (by kernel_rfl) (fun _ _ _ h => h) (Or.inl ⟨by rfl, fun w' hS => by obtain ⟨s0, s1, s2⟩ := hS; go_simp⟩) hS ?_
      simp only [Act.put, List.setIfInBounds_toArray, List.set_cons_zero, List.set_cons_succ]
      refine wpAnyH_take' 20 (some 92) (.bool false) rfl rfl (by kernel_rfl) (by kernel_rfl) (by kernel_rfl) (fun _ _ _ h => h) (Or.inl ⟨by rfl, fun w' hS => by obtain ⟨s0, s1, s2⟩ := hS; go_simp⟩) hS ?_
      simp only [Act.put, List.setIfInBounds_toArray, List.set_cons_zero, List.set_cons_succ]
      refine wpAnyH_done (by kernel_rfl) ?_ _
      have HE : Hid (H14 W0 (w9.alloc (.cells #[.int .u8 (xb.toNat : Int)] 5)).drew (W0.heap.size + 1) W0.heap.size x g nb cg bb (m + 1) [bb ++ [xb]]) := H9.out.below' (bmore (al _ _) (Below.refl _ _).drew)
      clear hS hcv1 hcv2 hcv3 hsz
      go_wp2
      clear hm2 hw8
      go_roundw
      case rel => exact ⟨m + 1, hlt, by simp, _, HE.out⟩
      case measure =>
        simp only [intOf]
        exact meas_lt hlt
    · have hlti : ¬ (m : Int) < (k7 : Int) := by omega
      have k49 := HI.out.whole
      have HB : Hid (Below W0.heap.size W0 wr) := HI.out.below
      clear hLV
      go_wp2_with (go_at_call 49; (refine k49.mono ?_; rintro e w6 ⟨rfl, rfl⟩))
      go_ret
      exact ⟨rfl, HB.out⟩
set_option maxHeartbeats 2000000 in
theorem halves14l (W0 : World) (n : Nat) (hn : n < 256) (a : Option Addr) (k c : Nat) (b : Bs) (hb : LV EB W0 (.slice a k c) b) (hk : 200 < k) : Calls Try.prog 14 #[.int .u8 (n : Int), .slice a k c] W0 fun e w' => e = .returned (.bool true) ∧ Below W0.heap.size W0 w' := by
  have c29 := new29 16 W0 (by omega) (by omega)
  have HKL : Hid (k = b.length ∧ b.length ≤ c) := hb.cap
  have hki : (200 : Int) < (k : Int) := by omega
  have hkc : 200 ≤ c := by have := HKL.out; omega
  have hkci : (200 : Int) ≤ (c : Int) := by omega
  have hbt := hb.take (k := 200) (by have := HKL.out; omega) c hkc
  go_enter Try.func14, Try.ntmps14
  go_wp2_with (first
    | (go_at_call 29; (refine c29.mono ?_; rintro e w1 ⟨rfl, hPD, B1⟩; have k35 := open_new (R := 8) (alone_new29 hPD B1) (by omega) (by omega)))
    | (go_at_call 35; (refine k35.mono ?_; rintro e w2 ⟨x, ua, uc, rfl, A2, -, B2⟩; have B12 := B1.trans (B2.mono B1.size)))
    | (at_builtin; (refine wpList_append_ex (by rfl) (.tmp 31) (.tmp 32) 33 (by rfl) _ _ (by rfl) (by rfl) (rw_app (rw_one (w := w2) (b := 7)) ((hbt.below B12).below (al _ _)) (by simp; have := HKL.out.1; omega) (by simp)) ?_; rintro u3 w3 ⟨hu3, B3⟩)))
  obtain ⟨g, cg, rfl, hg1, hg2⟩ := rw_form hu3 (by simp)
  have HBB : Hid (∃ bb : Bs, bb = [7] ++ b.take 200 ∧ 1 ≤ bb.length ∧ bb.length ≤ 201) := ⟨_, rfl, by simp, by simp; have := HKL.out.1; omega⟩
  obtain ⟨bb, hbb, hbl1, hbl2⟩ := HBB.out
  rw [← hbb] at hu3 ⊢
  have HBL : Hid (1 ≤ bb.length ∧ bb.length ≤ 201) := ⟨hbl1, hbl2⟩
  have B23 : Below w2.heap.size w2 w3 := (al w2 _).trans B3
  have H0 : Hid (H14 W0 w3 (W0.heap.size + 1) W0.heap.size x g bb.length cg bb 0 []) := ⟨⟨_, ⟨0, 1, 0, 0, false⟩, 0, 0, A2.add B23 hg1 hg2, inv_new 8, rfl, rfl, rfl⟩, hu3.read, B12.trans (B23.mono B12.size)⟩
  have hmod : ((n : Int)).tmod 7 = ((n % 7 : Nat) : Int) := by rw [Int.tmod_eq_emod_of_nonneg (by omega)]; omega
  have HM7 : Hid (n % 7 < 7) := by show _ < _; omega
  generalize n % 7 = k7 at *
  clear hu3 A2 B23 B3 B12 B1 B2 hPD k35 c29 hbb hbl1 hbl2 HBB hb hbt hg1 hg2
  obtain ⟨nb, hnb⟩ : ∃ nb, bb.length = nb := ⟨_, rfl⟩
  rw [hnb] at H0 ⊢
  have HNB : Hid (bb.length = nb) := hnb
  clear hnb
  go_loopw [9] (fun z wr => ∃ m : Nat, m ≤ k7 ∧ z = .int .i64 (m : Int) ∧ ∃ sure, Hid (H14 W0 wr (W0.heap.size + 1) W0.heap.size x g nb cg bb m sure)) (fun z _ => k7 - (intOf z).toNat)
  case atStart => exact ⟨0, by omega, rfl, [], H0.out⟩
  case round =>
    obtain ⟨m, hm, rfl, sure, HI⟩ := hrel
    have hLV := HI.out.lv
    by_cases hlt : m < k7
    · have hlti : (m : Int) < (k7 : Int) := by omega
      obtain ⟨xb, hxb⟩ : ∃ xb : UInt8, xb.toNat = m := ⟨UInt8.ofNat m, by rw [UInt8.toNat_ofNat']; have := HM7.out; omega⟩
      have hw8 : IntKind.u8.wrap (m : Int) = (xb.toNat : Int) := by rw [IntKind.wrap_u8, hxb]; have := HM7.out; omega
      have HXB : Hid (xb.toNat = m) := hxb
      clear hxb
      obtain ⟨o2, ho2⟩ : ∃ o2, (m + 1) % 2 = o2 := ⟨_, rfl⟩
      have hm7 : m < 7 := by have := HM7.out; omega
      have hm7i : (m : Int) < 7 := by omega
      have hm2 : ((m : Int) + 1).tmod 2 = (o2 : Int) := by
        rw [Int.tmod_eq_emod_of_nonneg (by omega)]
        omega
      have HO2 : Hid ((m + 1) % 2 = o2) := ho2
      clear ho2
      have HM8 : Hid (m < 7) := by have := HM7.out; show _ < _; omega
      go_wp2_with (first
        | (at_builtin; (refine wpList_append_ex (by rfl) (.tmp 42) (.tmp 43) 33 (by rfl) _ _ (by rfl) (by rfl) (run_app (ru_empty (w := wr)) (hLV.below (al _ _)) (by simp; have := HBL.out; omega) (by simp)) ?_; rintro u4 w4 ⟨hu4, hg4⟩; have B4 : Below wr.heap.size wr w4 := (al wr _).trans (grown_below (ru_empty (w := wr)) hg4 (by simp)); rw [List.nil_append] at hu4; obtain ⟨g4, c4, n4, rfl, g41, g42⟩ := ru_form3 hu4 (fun h => by have := HBL.out; rw [h] at this; simp at this)))
        | (at_builtin; (refine wpList_append_ex (by rfl) (.tmp 44) (.tmp 47) 33 (by rfl) _ _ (by rfl) (by rfl) (run_app (hu4.below (al _ _)) (lv_one xb) (by simp; have := HBL.out; omega) (by have := B4.size; simp; omega)) ?_; rintro u5 w5 ⟨hu5, hg5⟩; have B5 : Below wr.heap.size wr w5 := (B4.trans ((al w4 _).mono B4.size)).trans (grown_below (hu4.below (al w4 _)) hg5 (by have := B4.size; simp; omega)); obtain ⟨g5, c5, n5, rfl, g51, g52⟩ := ru_form3 hu5 (by simp); have HU5 : Hid (LV EB w5 (.slice (some ⟨g5, 0, none⟩) n5 c5) (bb ++ [xb])) := hu5.read; have HB5 : Hid (Below wr.heap.size wr w5) := B5; clear hu5 B5 B4 hu4 hg4 hg5))
        | (go_at_call 41; (refine (HI.out.switch HM8.out (by simp) (by simp; have := HBL.out; omega) HB5.out HU5.out g51 g52).mono ?_; rintro e w6 ⟨rfl, h6⟩; have H6 : Hid _ := h6; have k43 := h6.half; rw [HO2.out] at k43; have k46 := h6.len; have k18 := h6.crash; clear h6))
        | (go_at_call 43; (refine k43.mono ?_; rintro e w7 ⟨rfl, rfl⟩))
        | (go_at_call 46; (refine k46.mono ?_; rintro e w7 ⟨rfl, rfl⟩))
        | (go_at_call 18; (refine k18.mono ?_; rintro e w8 ⟨rfl, h8⟩; have k35 := h8.opens; clear h8))
        | (go_at_call 35; (refine k35.mono ?_; rintro e w9 ⟨x2, ra, rc, rfl, hr9, h9⟩)))
      obtain ⟨gr, or, p0, kk, q0, rfl, hc9, hl9⟩ := hr9.at (i := 0) (b := bb ++ [xb]) rfl
      rw [Nat.add_zero] at hc9
      have hv9 := h9.lv
      have HS9 : Hid (∀ W, Below w9.heap.size w9 W → W.cell? ⟨gr, or, none⟩ = some (.slice p0 kk q0) ∧ LV EB W (.slice p0 kk q0) (bb ++ [xb]) ∧ LV EB W (.slice (some ⟨g, 0, none⟩) nb cg) bb) := fun W k => ⟨(k.cell (World.block_lt_of_cell? _ _ hc9)).trans hc9, hl9.below k, hv9.below k⟩
      have H9 : Hid (H14 W0 w9 (W0.heap.size + 1) W0.heap.size x g nb cg bb (m + 1) [bb ++ [xb]]) := h9
      have hcv1 : ∀ W, LV EB W (.slice p0 kk q0) (bb ++ [xb]) → (convert 33 9 (.slice p0 kk q0)).run Try.prog W = .ok (.string (strB bb ++ strB [xb])) W := fun W h => by rw [← strB_app]; exact conv_lv h (by simp)
      have hcv2 : ∀ W, LV EB W (.slice (some ⟨g, 0, none⟩) nb cg) bb → (convert 33 9 (.slice (some ⟨g, 0, none⟩) nb cg)).run Try.prog W = .ok (.string (strB bb)) W := fun W h => conv_lv h (by have := HBL.out; omega)
      have hcv3 : (convert 33 9 (.slice (some ⟨w9.heap.size, 0, none⟩) 1 1)).run Try.prog (w9.alloc (.cells #[.int .u8 (xb.toNat : Int)] 5)).drew = .ok (.string (strB [xb])) (w9.alloc (.cells #[.int .u8 (xb.toNat : Int)] 5)).drew := conv_lv ((lv_one xb).below (Below.refl _ _).drew) (by simp)
      have hsz : (strB bb).size + (strB [xb]).size ≤ 9223372036854775807 := by rw [strB_size, strB_size]; have := HBL.out.2; have e1 : [xb].length = 1 := rfl; rw [e1]; exact Nat.le_trans (Nat.add_le_add_right this 1) (by decide)
      generalize strB bb = sA at *
      generalize strB [xb] = sX at *
      clear hr9 h9 hl9 hv9 hc9 k46 k43 k18 H6 HB5 HU5 k35
      refine wp_region_held_drew (S := fun W => W.cell? ⟨gr, or, none⟩ = some (.slice p0 kk q0) ∧ LV EB W (.slice p0 kk q0) (bb ++ [xb]) ∧ LV EB W (.slice (some ⟨g, 0, none⟩) nb cg) bb) (by kernel_rfl) (HS9.out _ (Below.refl _ _).drew) (fun hS => ?_)
      refine wpAnyH_take' 0 (some 72) (.int .i64 0) rfl rfl (by kernel_rfl) (by kernel_rfl) (by kernel_rfl) (fun _ _ _ h => h) (Or.inl ⟨by rfl, fun w' hS => by obtain ⟨s0, s1, s2⟩ := hS; go_simp⟩) hS ?_
      simp only [Act.put, List.setIfInBounds_toArray, List.set_cons_zero, List.set_cons_succ]
      refine wpAnyH_take' 1 (some 73) (.bool false) rfl rfl (by kernel_rfl) (by kernel_rfl) (by kernel_rfl) (fun _ _ _ h => h) (Or.inl ⟨by rfl, fun w' hS => by obtain ⟨s0, s1, s2⟩ := hS; go_simp⟩) hS ?_
      simp only [Act.put, List.setIfInBounds_toArray, List.set_cons_zero, List.set_cons_succ]
      refine wpAnyH_take' 2 (some 74) (.bool false) rfl rfl (by kernel_rfl) (by kernel_rfl) (by kernel_rfl) (fun _ _ _ h => h) (Or.inl ⟨by rfl, fun w' hS => by obtain ⟨s0, s1, s2⟩ := hS; go_simp⟩) hS ?_
      simp only [Act.put, List.setIfInBounds_toArray, List.set_cons_zero, List.set_cons_succ]
      refine wpAnyH_take' 3 (some 75) (.slice (some ⟨gr, or, none⟩) 1 rc) rfl rfl (by kernel_rfl) (by kernel_rfl) (by kernel_rfl) (fun _ _ _ h => h) (Or.inl ⟨by rfl, fun w' hS => by obtain ⟨s0, s1, s2⟩ := hS; go_simp⟩) hS ?_
      simp only [Act.put, List.setIfInBounds_toArray, List.set_cons_zero, List.set_cons_succ]
      refine wpAnyH_take' 4 (some 76) (.int .i64 1) rfl rfl (by kernel_rfl) (by kernel_rfl) (by kernel_rfl) (fun _ _ _ h => h) (Or.inl ⟨by rfl, fun w' hS => by obtain ⟨s0, s1, s2⟩ := hS; go_simp⟩) hS ?_
      simp only [Act.put, List.setIfInBounds_toArray, List.set_cons_zero, List.set_cons_succ]
      refine wpAnyH_take' 5 (some 77) (.bool false) rfl rfl (by kernel_rfl) (by kernel_rfl) (by kernel_rfl) (fun _ _ _ h => h) (Or.inl ⟨by rfl, fun w' hS => by obtain ⟨s0, s1, s2⟩ := hS; go_simp⟩) hS ?_
      simp only [Act.put, List.setIfInBounds_toArray, List.set_cons_zero, List.set_cons_succ]
      refine wpAnyH_take' 6 (some 78) (.bool false) rfl rfl (by kernel_rfl) (by kernel_rfl) (by kernel_rfl) (fun _ _ _ h => h) (Or.inl ⟨by rfl, fun w' hS => by obtain ⟨s0, s1, s2⟩ := hS; go_simp⟩) hS ?_
      simp only [Act.put, List.setIfInBounds_toArray, List.set_cons_zero, List.set_cons_succ]
      refine wpAnyH_take' 7 (some 79) (.bool false) rfl rfl (by kernel_rfl) (by kernel_rfl) (by kernel_rfl) (fun _ _ _ h => h) (Or.inl ⟨by rfl, fun w' hS => by obtain ⟨s0, s1, s2⟩ := hS; go_simp⟩) hS ?_
      simp only [Act.put, List.setIfInBounds_toArray, List.set_cons_zero, List.set_cons_succ]
      refine wpAnyH_take' 8 (some 80) (.slice (some ⟨gr, or, none⟩) 1 rc) rfl rfl (by kernel_rfl) (by kernel_rfl) (by kernel_rfl) (fun _ _ _ h => h) (Or.inl ⟨by rfl, fun w' hS => by obtain ⟨s0, s1, s2⟩ := hS; go_simp⟩) hS ?_
      simp only [Act.put, List.setIfInBounds_toArray, List.set_cons_zero, List.set_cons_succ]
      refine wpAnyH_take' 9 (some 81) (.pointer (some ⟨gr, or, none⟩)) rfl rfl (by kernel_rfl) (by kernel_rfl) (by kernel_rfl) (fun _ _ _ h => h) (Or.inl ⟨by rfl, fun w' hS => by obtain ⟨s0, s1, s2⟩ := hS; go_simp⟩) hS ?_
      simp only [Act.put, List.setIfInBounds_toArray, List.set_cons_zero, List.set_cons_succ]
      refine wpAnyH_take' 10 (some 82) (.slice p0 kk q0) rfl rfl (by kernel_rfl) (by kernel_rfl) (by kernel_rfl) (fun _ _ _ h => h) (Or.inl ⟨by rfl, fun w' hS => by obtain ⟨s0, s1, s2⟩ := hS; go_simp⟩) hS ?_
      simp only [Act.put, List.setIfInBounds_toArray, List.set_cons_zero, List.set_cons_succ]
      refine wpAnyH_take' 11 (some 83) (.string (sA ++ sX)) rfl rfl (by kernel_rfl) (by kernel_rfl) (by kernel_rfl) (fun _ _ _ h => h) (Or.inl ⟨by rfl, fun w' hS => by obtain ⟨s0, s1, s2⟩ := hS; have hcv := hcv1 _ s1; go_simp⟩) hS ?_
      simp only [Act.put, List.setIfInBounds_toArray, List.set_cons_zero, List.set_cons_succ]
      refine wpAnyH_take' 12 (some 84) (.slice (some ⟨g, 0, none⟩) nb cg) rfl rfl (by kernel_rfl) (by kernel_rfl) (by kernel_rfl) (fun _ _ _ h => h) (Or.inl ⟨by rfl, fun w' hS => by obtain ⟨s0, s1, s2⟩ := hS; go_simp⟩) hS ?_
      simp only [Act.put, List.setIfInBounds_toArray, List.set_cons_zero, List.set_cons_succ]
      refine wpAnyH_take' 13 (some 85) (.string sA) rfl rfl (by kernel_rfl) (by kernel_rfl) (by kernel_rfl) (fun _ _ _ h => h) (Or.inl ⟨by rfl, fun w' hS => by obtain ⟨s0, s1, s2⟩ := hS; have hcv := hcv2 _ s2; go_simp⟩) hS ?_
      simp only [Act.put, List.setIfInBounds_toArray, List.set_cons_zero, List.set_cons_succ]
      refine wpAnyH_take' 14 (some 86) (.int .i64 (m : Int)) rfl rfl (by kernel_rfl) (by kernel_rfl) (by kernel_rfl) (fun _ _ _ h => h) (Or.inl ⟨by rfl, fun w' hS => by obtain ⟨s0, s1, s2⟩ := hS; go_simp⟩) hS ?_
      simp only [Act.put, List.setIfInBounds_toArray, List.set_cons_zero, List.set_cons_succ]
      refine wpAnyH_take' 15 (some 87) (.int .u8 (xb.toNat : Int)) rfl rfl (by kernel_rfl) (by kernel_rfl) (by kernel_rfl) (fun _ _ _ h => h) (Or.inl ⟨by rfl, fun w' hS => by obtain ⟨s0, s1, s2⟩ := hS; go_simp⟩) hS ?_
      simp only [Act.put, List.setIfInBounds_toArray, List.set_cons_zero, List.set_cons_succ]
      refine wpAnyH_ready (rs := [16]) (by kernel_rfl) (by simp) (AllReadyH.cons rfl (fun K2 hK2 => ?_) AllReadyH.nil)
      go_simp
      refine hK2.out _ _ (HS9.out _ (bmore (Below.refl _ _).drew (al _ _))) (fun hS => ?_)
      clear hK2 K2
      try simp only [Act.put, List.setIfInBounds_toArray, List.set_cons_zero, List.set_cons_succ]
      refine wpAnyH_ready (rs := [17]) (by kernel_rfl) (by simp) (AllReadyH.cons rfl (fun K2 hK2 => ?_) AllReadyH.nil)
      go_simp
      refine hK2.out _ _ hS (fun hS => ?_)
      clear hK2 K2
      try simp only [Act.put, List.setIfInBounds_toArray, List.set_cons_zero, List.set_cons_succ]
      refine wpAnyH_take' 18 (some 90) (.string (sA ++ sX)) rfl rfl (by kernel_rfl) (by kernel_rfl) (by kernel_rfl) (fun _ _ _ h => h) (Or.inl ⟨by rfl, fun w' hS => by obtain ⟨s0, s1, s2⟩ := hS; go_simp⟩) hS ?_
      simp only [Act.put, List.setIfInBounds_toArray, List.set_cons_zero, List.set_cons_succ]
      refine wpAnyH_take' 19 (some 91) (.bool false) rfl rfl (by kernel_rfl) (by kernel_rfl) (by kernel_rfl) (fun _ _ _ h => h) (Or.inl ⟨by rfl, fun w' hS => by obtain ⟨s0, s1, s2⟩ := hS; go_simp⟩) hS ?_
      simp only [Act.put, List.setIfInBounds_toArray, List.set_cons_zero, List.set_cons_succ]
      refine wpAnyH_take' 20 (some 92) (.bool false) rfl rfl (by kernel_rfl) (by kernel_rfl) (by kernel_rfl) (fun _ _ _ h => h) (Or.inl ⟨by rfl, fun w' hS => by obtain ⟨s0, s1, s2⟩ := hS; go_simp⟩) hS ?_
      simp only [Act.put, List.setIfInBounds_toArray, List.set_cons_zero, List.set_cons_succ]
      refine wpAnyH_done (by kernel_rfl) ?_ _
      have HE : Hid (H14 W0 (w9.alloc (.cells #[.int .u8 (xb.toNat : Int)] 5)).drew (W0.heap.size + 1) W0.heap.size x g nb cg bb (m + 1) [bb ++ [xb]]) := H9.out.below' (bmore (al _ _) (Below.refl _ _).drew)
      clear hS hcv1 hcv2 hcv3 hsz
      go_wp2
      clear hm2 hw8
      go_roundw
      case rel => exact ⟨m + 1, hlt, by simp, _, HE.out⟩
      case measure =>
        simp only [intOf]
        exact meas_lt hlt
    · have hlti : ¬ (m : Int) < (k7 : Int) := by omega
      have k49 := HI.out.whole
      have HB : Hid (Below W0.heap.size W0 wr) := HI.out.below
      clear hLV
      go_wp2_with (go_at_call 49; (refine k49.mono ?_; rintro e w6 ⟨rfl, rfl⟩))
      go_ret
      exact ⟨rfl, HB.out⟩
theorem halves14 (W0 : World) (n : Nat) (hn : n < 256) (v : Value) (b : Bs) (hb : InB W0.heap.size W0 v b) : Calls Try.prog 14 #[.int .u8 (n : Int), v] W0 fun e w' => e = .returned (.bool true) ∧ Below W0.heap.size W0 w' := by
  have hl := lv_of_in hb
  obtain ⟨a, c, rfl, _⟩ := hb
  by_cases hk : 200 < b.length
  · exact halves14l W0 n hn a _ c b hl hk
  · exact halves14s W0 n hn a _ c b hl hk
end Go.Proofs.Ytnganmekiloigaa
