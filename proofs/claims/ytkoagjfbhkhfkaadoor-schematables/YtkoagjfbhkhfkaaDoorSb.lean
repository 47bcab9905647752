/- SameTables of what is the same; the reference's Names, Children, Tables. -/
import Derived.Test.YtkoagjfbhkhfkaaDoorSa
namespace Go.Proofs.YtkoagjfbhkhfkaaDoor
open Go.RowKit Go.Lib
set_option maxRecDepth 100000
variable {w w' : World}
set_option maxHeartbeats 2000000 in
theorem tables32 {P P' : Nat → Prop} (a b : Value) (L1 L2 : List Tv) (w : World) (ha : TL P w a L1) (hb : TL P' w b L2) (he : L1.map (·.1) = L2.map (·.1)) (hc : ∀ x ∈ L1, x.1.cols.length ≤ 1000) (hl : L1.length ≤ 1000) :
    Calls Tryd.prog 32 #[a, b] w fun e w' => e = .returned (.bool true) ∧ Below w.heap.size w w' := by
  have hl2 : L2.length = L1.length := by have := congrArg List.length he; simpa using this.symm
  have HA : Hid (∀ w1, Below w.heap.size w w1 → TL P w1 a L1) := fun w1 h => ha.below h
  have HB : Hid (∀ w1, Below w.heap.size w w1 → TL P' w1 b L2) := fun w1 h => hb.below h
  obtain ⟨⟨pa, ca, rfl, _, _⟩, _⟩ := ha
  obtain ⟨⟨pb, cb, rfl, _, _⟩, _⟩ := hb
  obtain ⟨N, hN⟩ : ∃ N, L1.length = N := ⟨_, rfl⟩
  have HNN : Hid (L1.length = N) := hN
  have HN2 : Hid (L2.length = N) := hl2.trans hN
  rw [hN] at hl ⊢
  rw [HN2.out]
  have HE : Hid _ := he
  clear hN hl2 he
  go_enter Tryd.func32, Tryd.ntmps32
  go_wp2
  go_loopw [5] (fun q wr => ∃ k : Nat, k ≤ N ∧ q = .int .i64 (k : Int) ∧ Hid (Below w.heap.size w wr)) (fun q _ => N - (RowKit.intOf q).toNat)
  case atStart => exact ⟨0, by omega, rfl, Below.refl _ _⟩
  case round =>
    obtain ⟨k, hk, rfl, HW⟩ := hrel
    by_cases hlt : k < N
    · have h1 : (k : Int) < (N : Int) := by omega
      have h0 : (0 : Int) ≤ (k : Int) := by omega
      obtain ⟨x, hx⟩ : ∃ x, L1[k]? = some x := ⟨_, List.getElem?_eq_getElem (by rw [HNN.out]; exact hlt)⟩
      obtain ⟨y, hy⟩ : ∃ y, L2[k]? = some y := ⟨_, List.getElem?_eq_getElem (by rw [HN2.out]; exact hlt)⟩
      have hxy : x.1 = y.1 := by
        have := congrArg (fun l => l[k]?) HE.out
        simp only [List.getElem?_map, hx, hy, Option.map_some, Option.some.injEq] at this
        exact this
      have hxm := List.mem_of_getElem? hx
      have hym := List.mem_of_getElem? hy
      obtain ⟨⟨a1, a2, he1, _, hat1⟩, hco1⟩ := HA.out wr HW.out
      obtain ⟨⟨a3, a4, he2, _, hat2⟩, hco2⟩ := HB.out wr HW.out
      simp only [Value.slice.injEq] at he1 he2
      obtain ⟨rfl, _, rfl⟩ := he1
      obtain ⟨rfl, _, rfl⟩ := he2
      obtain ⟨ga, oa, rfl, hga, _, hca⟩ := hat1 (by rw [HNN.out]; omega)
      obtain ⟨gb, ob, rfl, hgb, _, hcb⟩ := hat2 (by rw [HN2.out]; omega)
      have hx4 := hca k x hx
      have hy4 := hcb k y hy
      have hsx := (hco1 x hxm).sc
      have hsy := (hco2 y hym).sc
      rw [← hxy] at hy4 hsy
      obtain ⟨xa, xn, xc, hxv⟩ := SV_one (hco1 x hxm)
      obtain ⟨ya, yn, yc, hyv⟩ := SV_one (hco2 y hym)
      rw [hxv] at hx4 hsx
      rw [hyv] at hy4 hsy
      have HT : Hid (∀ w1, Below wr.heap.size wr w1 → Calls Tryd.prog 29 #[TB (str x.1.n) (.slice xa xn xc) (str x.1.p) x.1.r, TB (str x.1.n) (.slice ya yn yc) (str x.1.p) x.1.r] w1 fun e w' => e = .returned (.bool true) ∧ Below w1.heap.size w1 w') := fun w1 hb => table29 _ _ _ _ x.1.cols _ w1 (hsx.below hb) (hsy.below hb) (hc x hxm)
      have HS : Hid (∀ w1, Below wr.heap.size wr w1 → (w1.cell? ⟨ga, oa + k * 4, none⟩ = some (.string (str x.1.n)) ∧ w1.cell? ⟨ga, oa + k * 4 + 1, none⟩ = some (.slice xa xn xc) ∧ w1.cell? ⟨ga, oa + k * 4 + 2, none⟩ = some (.string (str x.1.p)) ∧ w1.cell? ⟨ga, oa + k * 4 + 3, none⟩ = some (.int .i64 x.1.r)) ∧ w1.cell? ⟨gb, ob + k * 4, none⟩ = some (.string (str x.1.n)) ∧ w1.cell? ⟨gb, ob + k * 4 + 1, none⟩ = some (.slice ya yn yc) ∧ w1.cell? ⟨gb, ob + k * 4 + 2, none⟩ = some (.string (str x.1.p)) ∧ w1.cell? ⟨gb, ob + k * 4 + 3, none⟩ = some (.int .i64 x.1.r)) := fun w1 hb => by
        obtain ⟨q0, q1, q2, q3⟩ := hx4
        obtain ⟨r0, r1, r2, r3⟩ := hy4
        exact ⟨⟨(hb.cell (p := ⟨ga, _, none⟩) hga).trans q0, (hb.cell (p := ⟨ga, _, none⟩) hga).trans q1, (hb.cell (p := ⟨ga, _, none⟩) hga).trans q2, (hb.cell (p := ⟨ga, _, none⟩) hga).trans q3⟩, (hb.cell (p := ⟨gb, _, none⟩) hgb).trans r0, (hb.cell (p := ⟨gb, _, none⟩) hgb).trans r1, (hb.cell (p := ⟨gb, _, none⟩) hgb).trans r2, (hb.cell (p := ⟨gb, _, none⟩) hgb).trans r3⟩
      have F0 : Below wr.heap.size wr wr.drew := (Below.refl _ _).drew
      have hS0 := HS.out _ F0
      clear hx4 hy4 hsx hsy hca hcb hco1 hco2 hat1 hat2 hx hy hxy hc
      generalize str x.1.n = xs at *
      generalize str x.1.p = xp at *
      generalize x.1.r = xr at *
      go_wp2_with fail
      go_region_held3 (fun w1 => (w1.cell? ⟨ga, oa + k * 4, none⟩ = some (.string xs) ∧ w1.cell? ⟨ga, oa + k * 4 + 1, none⟩ = some (.slice xa xn xc) ∧ w1.cell? ⟨ga, oa + k * 4 + 2, none⟩ = some (.string xp) ∧ w1.cell? ⟨ga, oa + k * 4 + 3, none⟩ = some (.int .i64 xr)) ∧ w1.cell? ⟨gb, ob + k * 4, none⟩ = some (.string xs) ∧ w1.cell? ⟨gb, ob + k * 4 + 1, none⟩ = some (.slice ya yn yc) ∧ w1.cell? ⟨gb, ob + k * 4 + 2, none⟩ = some (.string xp) ∧ w1.cell? ⟨gb, ob + k * 4 + 3, none⟩ = some (.int .i64 xr)) (first | exact hS0 | exact HS.out _ F1) (first
        | (go_at_call 29; (with_reducible refine (HT.out _ F0).mono ?_); rintro e w1 ⟨rfl, hb1⟩; have F1 := bmore F0 hb1))
      go_wp2
      go_roundw
      case rel => exact ⟨k + 1, by omega, by simp, HW.out.trans (F1.mono HW.out.size)⟩
      case measure => simp [RowKit.intOf]; omega
    · have h1 : ¬ (k : Int) < (N : Int) := by omega
      go_wp2
      go_ret
      exact ⟨rfl, HW.out⟩
variable {Q : Nat → Prop} {r : Nat} {lv : Value} {L : List Tv}
def nmsR (L : List Tv) : List ByteArray := L.map fun x => str x.1.n
def XPost (w : World) (xs : List ByteArray) (e : Ending) (w' : World) : Prop := (∃ v, e = .returned v ∧ SX w' v xs ∧ (∃ B, w'.ownsRow B 9 1 v xs.length (xs.map Value.string))) ∧ Below w.heap.size w w'
set_option maxHeartbeats 2000000 in
theorem rnames27 (h : RCat Q w r lv L) : Calls Tryd.prog 27 #[.pointer (some ⟨r, 0, none⟩)] w (XPost w (nmsR L)) := by
  have hfew := h.few
  have e0 := h.blk.here (j := 0) rfl
  have HC : Hid (∀ w1, Below w.heap.size w w1 → RCat Q w1 r lv L) := fun w1 h1 => h.below h1
  obtain ⟨⟨a, cp, rfl, _, hat⟩, _⟩ := h.tl
  obtain ⟨N, hN⟩ : ∃ N, L.length = N := ⟨_, rfl⟩
  have HNN : Hid (L.length = N) := hN
  have HA : Hid (0 < L.length → ∃ g o, a = some ⟨g, o, none⟩ ∧ g < w.heap.size ∧ (g ≠ r ∧ Q g) ∧ TabsAt w g o L) := hat
  obtain ⟨i9, hi9, hzz⟩ := Option.map_eq_some_iff.1 info9
  simp only [Prod.mk.injEq] at hzz
  obtain ⟨hz9, hs9, hb9⟩ := hzz
  rw [hN] at e0 hfew
  have hrl := h.blk.lt
  clear hN hat
  go_enter Tryd.func27, Tryd.ntmps27
  go_wp2
  go_loopw [3, 4] (fun v q wr => ∃ (k : Nat) (va : Option Addr) (vn vc : Nat), k ≤ N ∧ q = .int .i64 (k : Int) ∧ v = .slice va vn vc ∧ Hid (vn = k ∧ wr.ownsRow w.heap.size 9 1 (.slice va vn vc) k (((nmsR L).take k).map Value.string) ∧ Below w.heap.size w wr)) (fun _ q _ => N - (RowKit.intOf q).toNat)
  case atStart => exact ⟨0, none, 0, 0, by omega, rfl, rfl, rfl, ⟨rfl, .inl ⟨rfl, rfl⟩⟩, Below.refl _ _⟩
  case round =>
    obtain ⟨k, va, vn, vc, hk, rfl, rfl, HO⟩ := hrel
    have hB := HO.out.2.2
    have HOW : Hid (∀ w1, Below wr.heap.size wr w1 → w1.ownsRow w.heap.size 9 1 (.slice va vn vc) k (((nmsR L).take k).map Value.string)) := fun w1 hb => ownsRow_below HO.out.2.1 hb
    have e1 := (HC.out wr hB).blk.here (j := 0) rfl
    rw [HNN.out] at e1
    by_cases hlt : k < N
    · have hlt1 : (k : Int) < (N : Int) := by omega
      have hlt0 : (0 : Int) ≤ (k : Int) := by omega
      obtain ⟨x, hx⟩ : ∃ x, L[k]? = some x := ⟨_, List.getElem?_eq_getElem (by rw [HNN.out]; exact hlt)⟩
      obtain ⟨g, o, rfl, hgl, _, hco⟩ := HA.out (by rw [HNN.out]; omega)
      have c0 := (hB.cell (p := ⟨g, o + k * 4, none⟩) hgl).trans (hco k x hx).1
      have HT : Hid ((nmsR L).take (k + 1) = (nmsR L).take k ++ [str x.1.n]) := by
        show _ = _
        have hk' : (nmsR L)[k]? = some (str x.1.n) := by rw [nmsR, List.getElem?_map, hx]; rfl
        have hk2 := List.getElem?_eq_some_iff.1 hk'
        rw [List.take_succ_eq_append_getElem hk2.1, hk2.2]
      clear hco hx
      generalize str x.1.n = xs at *
      go_wp2_with (at_builtin; (refine wpList_append_lies _ rfl (.tmp 18) (.tmp 27) 51 rfl w.heap.size 9 i9 _ 1 16 Tryd.underlying51 hi9 hz9 hs9 hb9 rfl (by decide) (.slice va vn vc) k _ rfl (HOW.out _ (al _ _)) ⟨wr.heap.size, 0, none⟩ 1 1 [.string xs] rfl rfl (World.news_of_block (blk_new wr [.string xs] 9)) (by simp [Value.oneCell']) (by decide) (by unfold maxLen; omega) (by omega) (bal hB _).size _ rfl ?_; intro g2 cap2 w2 hown2 hgr2 hat2 hlt2))
      go_roundw
      case rel =>
        refine ⟨k + 1, _, _, _, by omega, by simp, rfl, ?_⟩
        show _ ∧ _ ∧ _
        refine ⟨rfl, ?_, (bal hB _).grown hgr2 (bal hB _).size (fun k hk => (ownsRow_ge HO.out.2.1 hk).1)⟩
        rw [HT.out, List.map_append]
        exact hown2
      case measure => simp [RowKit.intOf]; omega
    · have hlt1 : ¬ (k : Int) < (N : Int) := by omega
      go_wp2
      go_ret
      have hkN : k = N := by omega
      obtain ⟨h1, h2, h3⟩ := HO.out
      have hln : (nmsR L).length = N := by rw [nmsR, List.length_map, HNN.out]
      rw [List.take_of_length_le (by omega)] at h2
      exact show XPost _ _ _ _ from ⟨⟨_, rfl, SX.own h2, _, by rw [hln, ← hkN]; exact h2⟩, h3⟩
end Go.Proofs.YtkoagjfbhkhfkaaDoor
