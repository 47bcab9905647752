/- The document's Commit. -/
import Derived.Test.YtjgdcdeekpeenaaRk0
import Derived.Test.YtjgdcdeekpeenaaRg8
namespace Go.Proofs.Ytjgdcdeekpeenaa
open Go.RowKit Go.Shelf
set_option maxRecDepth 100000
set_option maxHeartbeats 2000000 in
theorem rcommit43_yes {w : World} {r : Nat} {K : Nat → Value} {D : Value} {R : Rf} (h : RM w r K D R) {i : Nat} (hi : i < 4) (ho : (R.l i).op = true) (hl : (R.l i).keys.length ≤ 1000) (hd : R.done.length ≤ 50000) (f0 : 0 ≤ R.high) (f1 : R.high ≤ 1073741824) (he : errTR R (R.l i) = 0) : Calls Try.prog 43 #[.pointer (some ⟨r, 0, none⟩), .int .i64 (i : Int)] w fun e w' => e = .returned (.tuple #[.int .i64 (hiRC R), .int .i64 0]) ∧ LR r ((dn R (R.l i).keys (hiRC R)).put i none0) w w' := by
  have k := rtest31_yes h hi ho hl (by omega)
  rw [he] at k
  have HC : Hid (∀ W, Below w.heap.size w W → RM W r K D R ∧ W.cell? ⟨r, 0, none⟩ = some (.int .i64 R.clock) ∧ W.cell? ⟨r, 1, none⟩ = some (.int .i64 R.high) ∧ W.frozen? ⟨r, 1, none⟩ = false) := fun W q => ⟨h.below q, (h.below q).blk.cell 0, (h.below q).blk.cell 1, (h.below q).blk.frozen 1⟩
  have h1 : (0 : Int) ≤ (i : Int) := by omega
  have h2 : (i : Int) < 4 := by omega
  obtain ⟨pk, ck, hpk⟩ := (h.keys i hi).form
  obtain ⟨N, hN⟩ : ∃ N, (R.l i).keys.length = N := ⟨_, rfl⟩
  have HN : Hid ((R.l i).keys.length = N) := hN
  rw [hN] at hl hpk
  have HPK : Hid (K i = .slice pk N ck) := hpk
  have HD : Hid (R.done.length ≤ 50000) := hd
  clear h ho he hN hd hpk
  go_enter Try.func43, Try.ntmps43
  go_wp2_with (go_at_call 31; (with_reducible refine k.mono ?_); rintro e w1 ⟨rfl, hB1⟩; obtain ⟨hM1, c0, c1, z1⟩ := HC.out _ hB1)
  go_region
  have e1 : max R.clock (R.high + 1) = hiRC R := rfl
  have k2 : Keep (fun q => q = r) w1 (w1.setCell ⟨r, 1, none⟩ (.int .i64 (max R.clock (R.high + 1)))).drew := (keep_set w1 r 1 _).drew
  have hM2 : RM (w1.setCell ⟨r, 1, none⟩ (.int .i64 (max R.clock (R.high + 1)))).drew r K D (dn R [] (hiRC R)) := by
    obtain ⟨a1, a2⟩ := hM1.setKeep (keep_set w1 r 1 (.int .i64 (max R.clock (R.high + 1))))
    have : RM (w1.setCell ⟨r, 1, none⟩ (.int .i64 (max R.clock (R.high + 1)))) r K D (dn R [] (hiRC R)) := ⟨hM1.blk.set (o := 1) _, a1, by show LV ED _ D (R.done ++ []); rw [List.append_nil]; exact a2⟩
    exact this.below ((Below.refl _ _).drew)
  have HK2 : Hid (Keep (fun q => q = r) w (w1.setCell ⟨r, 1, none⟩ (.int .i64 (max R.clock (R.high + 1)))).drew) := (Keep.of hB1).trans k2 (fun _ _ e => e)
  generalize (w1.setCell ⟨r, 1, none⟩ (.int .i64 (max R.clock (R.high + 1)))).drew = w2 at *
  have HM2 : Hid _ := hM2
  clear hM2 k2 c0 c1 z1 hM1 k HC e1
  generalize hhn : hiRC R = n at *
  have HE : Hid (hiRC R = n) := hhn
  clear hhn
  go_wp2_with fail
  go_loopw [7] (fun f7 wr => ∃ (j : Nat) (D' : Value), f7 = .int .i64 (j : Int) ∧ Hid (j ≤ N) ∧ Hid (RM wr r K D' (dn R ((R.l i).keys.take j) n)) ∧ Hid (Keep (fun q => q = r) w wr)) (fun f7 _ => ((N : Int) - intOf f7).toNat)
  case atStart => exact ⟨0, D, rfl, Nat.zero_le _, HM2.out, HK2.out⟩
  case round =>
    obtain ⟨j, D', rfl, hj, hM, hK⟩ := hrel
    have a3 := (hM.out.at hi).2.2
    rw [HPK.out] at a3
    by_cases hjN : j < N
    · have b1 : (j : Int) < (N : Int) := by omega
      have b2 : (0 : Int) ≤ (j : Int) := by omega
      have hj1000 : j < 1000 := by omega
      obtain ⟨x, hx⟩ : ∃ x, (R.l i).keys[j]? = some x := ⟨_, List.getElem?_eq_getElem (by rw [HN.out]; exact hjN)⟩
      have hkv := hM.out.keys i hi
      rw [HPK.out] at hkv
      obtain ⟨kg, ko, rfl, _⟩ := lv_str hkv hx
      obtain ⟨pd, cd, hpd⟩ := hM.out.done.form
      subst hpd
      have HDl : Hid ((dn R ((R.l i).keys.take j) n).done.length ≤ 60000) := by
        show _ ≤ _
        have := HD.out
        simp only [dn, List.length_append, List.length_map, List.length_take]
        omega
      have HS : Hid (∀ W, Below wr.heap.size wr W → W.cell? ⟨r, 14, none⟩ = some (.slice pd (dn R ((R.l i).keys.take j) n).done.length cd) ∧ W.cell? ⟨r, 2 + i * 3 + 2, none⟩ = some (.slice (some ⟨kg, ko, none⟩) N ck) ∧ W.cell? ⟨kg, ko + j, none⟩ = some (.string x) ∧ W.cell? ⟨r, 1, none⟩ = some (.int .i64 n) ∧ W.frozen? ⟨r, 14, none⟩ = false) := fun W q => by
        have hMq := hM.out.below q
        have hkq := hMq.keys i hi
        rw [HPK.out] at hkq
        obtain ⟨g', o', e, hc⟩ := lv_str hkq hx
        cases e
        refine ⟨hMq.blk.cell 14, ?_, hc, hMq.blk.cell 1, hMq.blk.frozen 14⟩
        rw [← HPK.out]
        exact (hMq.at hi).2.2
      have HLD : Hid (∀ W, Below wr.heap.size wr W → LV ED W (.slice pd (dn R ((R.l i).keys.take j) n).done.length cd) (dn R ((R.l i).keys.take j) n).done) := fun W q => (hM.out.below q).done
      have HTk : Hid ((dn R ((R.l i).keys.take j) n).done ++ [(x, n)] = (dn R ((R.l i).keys.take (j + 1)) n).done) := by
        show _ = _
        simp only [dn, List.take_add_one, hx, Option.toList_some, List.map_append, List.map_cons, List.map_nil, List.append_assoc]
      have hrl := hM.out.blk.lt
      have hkl : kg < wr.heap.size := World.block_lt_of_cell? wr _ (HS.out _ (Below.refl _ _)).2.2.1
      have hsum : (dn R ((R.l i).keys.take j) n).done.length + [(x, n)].length ≤ 100000 := by
        have := HDl.out
        simp only [List.length_singleton]
        omega
      have PF : Hid (∀ (W : World) (u : Value), Below wr.heap.size wr W → LV ED W u ((dn R ((R.l i).keys.take j) n).done ++ [(x, n)]) → Hid (∃ D', RM (W.setCell ⟨r, 14, none⟩ u) r K D' (dn R ((R.l i).keys.take (j + 1)) n) ∧ Keep (fun q => q = r) w (W.setCell ⟨r, 14, none⟩ u))) := fun W u q hv => by
        obtain ⟨g1, g2⟩ := (hM.out.below q).setD u hv
        refine ⟨u, ?_, (hK.out.trans (Keep.of (F := fun q => q = r) q) (fun _ _ e => e)).trans g2 (fun _ _ e => e)⟩
        have e : dn R ((R.l i).keys.take (j + 1)) n = { dn R ((R.l i).keys.take j) n with done := (dn R ((R.l i).keys.take j) n).done ++ [(x, n)] } := by
          rw [HTk.out]
          rfl
        rw [e]
        exact g1
      have HS1 : Hid (∀ W, Below wr.heap.size wr W → W.cell? ⟨r, 14, none⟩ = some (.slice pd (dn R ((R.l i).keys.take j) n).done.length cd) ∧ W.cell? ⟨r, 2 + i * 3 + 2, none⟩ = some (.slice (some ⟨kg, ko, none⟩) N ck) ∧ W.cell? ⟨kg, ko + j, none⟩ = some (.string x) ∧ W.cell? ⟨r, 1, none⟩ = some (.int .i64 n)) := fun W q => by
        obtain ⟨q0, q1, q2, q3, _⟩ := HS.out W q
        exact ⟨q0, q1, q2, q3⟩
      have HZ1 : Hid (∀ W, Below wr.heap.size wr W → W.frozen? ⟨r, 14, none⟩ = false) := fun W q => (HS.out W q).2.2.2.2
      clear HS hsum hkv HTk hkl
      have HL1 := HDl.out
      generalize (dn R ((R.l i).keys.take j) n).done = L at *
      generalize hdl : L.length = nd at *
      go_wp2_with fail
      refine reg8 (Z := fun W' => Hid (∃ D', RM W' r K D' (dn R ((R.l i).keys.take (j + 1)) n) ∧ Keep (fun q => q = r) w W')) hi hjN hrl HS1 HZ1 HLD (by omega) PF ?_
      intro v40 v45 v61 v62 w' hZ _
      obtain ⟨D2, hM2, hK2⟩ := hZ.out
      have HM3 : Hid _ := hM2
      have HK3 : Hid _ := hK2
      clear hM2 hK2 hZ PF HLD HS1 HZ1
      go_wp2_with fail
      exact ⟨⟨j + 1, D2, by simp, by show _ ≤ _; omega, HM3, HK3⟩, by simp [intOf]; omega⟩
    · have b1 : ¬ (j : Int) < (N : Int) := by omega
      have hjN' : (R.l i).keys.take j = (R.l i).keys := List.take_of_length_le (by rw [HN.out]; omega)
      rw [hjN'] at hM
      have HP : Hid _ := hM.out.put hi none0 (.slice none 0 0) (LV.nil ET _ none 0)
      have d1 : ((((wr.setCell ⟨r, 2 + i * 3, none⟩ (.bool false)).setCell ⟨r, 2 + i * 3 + 1, none⟩ (.int .i64 0)).setCell ⟨r, 2 + i * 3 + 2, none⟩ (.slice none 0 0))).cell? ⟨r, 1, none⟩ = some (.int .i64 n) := by
        obtain ⟨⟨K', D'', hM'⟩, _⟩ := HP.out
        exact hM'.blk.cell 1
      obtain ⟨a1, a2, _⟩ := hM.out.at hi
      have z0 := hM.out.blk.frozen (2 + i * 3)
      have z1 := hM.out.blk.frozen (2 + i * 3 + 1)
      have z2 := hM.out.blk.frozen (2 + i * 3 + 2)
      go_wp2_with fail
      have hhn := HE.out
      subst hhn
      obtain ⟨g1, g2⟩ := HP.out
      exact bodyPost_ret (v := .tuple #[.int .i64 (hiRC R), .int .i64 0]) (by simp [results, Try.results43, go_sem]) rfl ⟨rfl, g1, hK.out.trans g2 (fun _ _ e => e)⟩
end Go.Proofs.Ytjgdcdeekpeenaa
