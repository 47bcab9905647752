/- byValues: what it yields. -/
import Derived.Test.YthalgnfffcimhaaEq
import Derived.Test.YthalgnfffcimhaaRg
import Derived.LoopNIn
import Derived.LoopIn
namespace Go.Proofs.Ythalgnfffcimhaa
open Go.RowKit Go.Shelf
set_option maxRecDepth 100000
attribute [local go_sem] Oper.semAt_some
/-- Where the run of those alike ends. -/
def endF (L : List (List Vt)) (i : Nat) : Nat → Nat → Nat
  | 0, j => j
  | f + 1, j => if j < L.length ∧ L[i]? = L[j]? then endF L i f (j + 1) else j
/-- The runs of those alike. -/
def cutsF (L : List (List Vt)) : Nat → Nat → List (Nat × Nat)
  | 0, _ => []
  | f + 1, i => if i < L.length then (i, endF L i L.length (i + 1)) :: cutsF L f (endF L i L.length (i + 1)) else []
def cuts (L : List (List Vt)) : List (Nat × Nat) := cutsF L L.length 0
def vls (es : List El) : List (List Vt) := es.map (·.2.1)
theorem endF_le (L : List (List Vt)) (i : Nat) : ∀ f j, j ≤ L.length → j ≤ endF L i f j ∧ endF L i f j ≤ L.length
  | 0, j, h => ⟨Nat.le_refl _, h⟩
  | f + 1, j, h => by
    unfold endF
    split
    · rename_i hc
      have := endF_le L i f (j + 1) (by omega)
      omega
    · exact ⟨Nat.le_refl _, h⟩
theorem cutsF_end (L : List (List Vt)) (f i : Nat) (h : ¬ i < L.length) : cutsF L f i = [] := by
  cases f with
  | zero => rfl
  | succ f => unfold cutsF; rw [if_neg h]
theorem byValues16 (a : Option Addr) (n c : Nat) (w : World) : Calls Try.prog 10 #[.slice a n c] w fun e w' => e = .returned (.func (.func 22) #[] #[.pointer (some ⟨w.heap.size, 0, none⟩)]) ∧ w' = w.alloc (.cells #[.slice a n c] 31) := by
  go_enter Try.func10, Try.ntmps10
  go_wp2
  go_ret
  exact ⟨rfl, rfl⟩
/-- A run, as it is yielded. -/
def encB (g o c : Nat) (x : Nat × Nat) : Value := .slice (some ⟨g, o + x.1 * 3, none⟩) (x.2 - x.1) (c - x.1)
theorem RL.at3 {w : World} {X : Nat → Prop} {g o n c : Nat} {es : List El} (h : RL w X (.slice (some ⟨g, o, none⟩) n c) es) {k : Nat} {e : El} (hy : es[k]? = some e) : w.cell? ⟨g, o + k * 3, none⟩ = some e.1 ∧ w.cell? ⟨g, o + k * 3 + 1, none⟩ = some (.int .i64 e.2.2.1) ∧ w.cell? ⟨g, o + k * 3 + 2, none⟩ = some (.int .i64 e.2.2.2) := by
  obtain ⟨g', o', hq, _, _, h3⟩ := h.get hy
  simp only [Option.some.injEq, Addr.mk.injEq] at hq
  obtain ⟨rfl, rfl, _⟩ := hq
  exact h3
set_option maxHeartbeats 4000000 in
theorem runs33 {W : World} {G : Nat → Prop} {b g o c : Nat} {es : List El} (hb : Blk W b [.slice (some ⟨g, o, none⟩) es.length c] 31) (hGb : G b) (hR : RL W (fun k => ¬ G k) (.slice (some ⟨g, o, none⟩) es.length c) es) (hc : es.length ≤ c) (hl : es.length ≤ 1000) (hv : ∀ e ∈ es, e.2.1.length ≤ 1000) :
    Runs Try.prog 22 #[.pointer (some ⟨b, 0, none⟩)] (encB g o c) (cuts (vls es)) G W := by
  intro l O J Jx hO hJs hJ hJx hY h0
  obtain ⟨N, hN⟩ : ∃ N, es.length = N := ⟨_, rfl⟩
  have HN : Hid (es.length = N) := hN
  have HLN : Hid ((vls es).length = N) := by show _ = _; rw [← hN]; simp [vls]
  have HK : Hid (∀ W', Keep O W W' → Blk W' b [.slice (some ⟨g, o, none⟩) N c] 31 ∧ RL W' (fun k => ¬ G k) (.slice (some ⟨g, o, none⟩) N c) es) := fun W' k => by
    rw [← hN]
    exact ⟨hb.keep k (fun h => (hO _ h).1 hGb), hR.keep (k.mono (fun i _ h => (hO i h).1)) (fun _ _ h => h)⟩
  have HV : Hid _ := hv
  have HJs : Hid _ := hJs
  have HJ : Hid _ := hJ
  have HJx : Hid _ := hJx
  have HY : Hid _ := hY
  have H0 : Hid _ := h0
  have HO : Hid _ := hO
  rw [hN] at hc hl
  clear hb hR hv hJs hJ hJx hY h0 hO hN hGb
  refine callsIn_of_wp Try.func22 rfl trivial ?_ rfl
  simp only [Try.ntmps22, List.size_toArray, List.length_cons, List.length_nil, Nat.reduceAdd, Nat.reduceSub, Array.replicate_succ, Array.replicate_zero, List.push_toArray, List.append_toArray, List.nil_append, List.cons_append]
  gi_wp2
  gi_loopw [3] (fun p wr => ∃ (i f : Nat) (pre : List (Nat × Nat)) (O' : Nat → Prop), p = .int .i64 (i : Int) ∧ Hid (i ≤ N ∧ N - i ≤ f) ∧ Hid (pre ++ cutsF (vls es) f i = cuts (vls es)) ∧ Hid (J O' pre wr) ∧ Hid (Grew O O' W) ∧ Hid (Keep O W wr)) (fun p _ => ((N : Int) - intOf p).toNat)
  case atStart => exact ⟨0, N, [], O, rfl, ⟨Nat.zero_le _, by omega⟩, by show _ = _; rw [← HLN.out]; rfl, H0.out, Grew.refl _ _, Keep.refl _ _⟩
  case round =>
    obtain ⟨i, f, pre, O', rfl, hi, hpre, hj, hgr, hk⟩ := hrel
    have hcb := (HK.out _ hk.out).1.cell 0
    simp only [List.getElem?_cons_zero] at hcb
    by_cases hiN : i < N
    · have hii : (i : Int) < (N : Int) := by omega
      have hi0 : (0 : Int) ≤ (i : Int) := by omega
      obtain ⟨w1, hw1⟩ : ∃ w1, w1 = wr := ⟨_, rfl⟩
      subst hw1
      gi_wp2
      gi_loopw [4] (fun q wq => ∃ (j f' : Nat), q = .int .i64 (j : Int) ∧ Hid (i < j ∧ j ≤ N ∧ N ≤ j + f') ∧ Hid (endF (vls es) i f' j = endF (vls es) i N (i + 1)) ∧ Hid (GB w1 wq)) (fun q _ => ((N : Int) - intOf q).toNat)
      case atStart => exact ⟨i + 1, N, by simp, ⟨by omega, by omega, by omega⟩, rfl, GB.refl _⟩
      case round =>
        obtain ⟨j, f', rfl, hjj, hend, hgb⟩ := hrel
        obtain ⟨hj1, hj2, hj3⟩ := hjj.out
        have HKq : Hid (Keep O W wr) := hk.out.trans (Keep.of hgb.out.b) (fun _ _ h => h)
        obtain ⟨hbq, hRq⟩ := HK.out _ HKq.out
        have hcq := hbq.cell 0
        simp only [List.getElem?_cons_zero] at hcq
        by_cases hjN : j < N
        · have hji : (j : Int) < (N : Int) := by omega
          have hj0 : (0 : Int) ≤ (j : Int) := by omega
          obtain ⟨ei, hei⟩ : ∃ e, es[i]? = some e := ⟨_, List.getElem?_eq_getElem (by rw [HN.out]; exact hiN)⟩
          obtain ⟨ej, hej⟩ : ∃ e, es[j]? = some e := ⟨_, List.getElem?_eq_getElem (by rw [HN.out]; exact hjN)⟩
          have HS : Hid (∀ W', Below wr.heap.size wr W' → W'.cell? ⟨b, 0, none⟩ = some (.slice (some ⟨g, o, none⟩) N c) ∧ W'.cell? ⟨g, o + i * 3, none⟩ = some ei.1 ∧ W'.cell? ⟨g, o + j * 3, none⟩ = some ej.1) := fun W' k => ⟨(hbq.below k).cell 0, ((hRq.below k).at3 hei).1, ((hRq.below k).at3 hej).1⟩
          have HSi : Hid (SV wr (fun k => ¬ G k) ei.1 ei.2.1) := hRq.vals ei (List.mem_of_getElem? hei)
          have HSj : Hid (SV wr (fun k => ¬ G k) ej.1 ej.2.1) := hRq.vals ej (List.mem_of_getElem? hej)
          have HLi : Hid (ei.2.1.length ≤ 1000) := HV.out ei (List.mem_of_getElem? hei)
          have HLj : Hid (ej.2.1.length ≤ 1000) := HV.out ej (List.mem_of_getElem? hej)
          obtain ⟨f1, rfl⟩ : ∃ f1, f' = f1 + 1 := ⟨f' - 1, by omega⟩
          have HE : Hid (endF (vls es) i (f1 + 1) j = if ei.2.1 = ej.2.1 then endF (vls es) i f1 (j + 1) else j) := by
            show _ = _
            conv => lhs; unfold endF
            have h1 : (vls es)[i]? = some ei.2.1 := by rw [vls, List.getElem?_map, hei]; rfl
            have h2 : (vls es)[j]? = some ej.2.1 := by rw [vls, List.getElem?_map, hej]; rfl
            rw [h1, h2, HLN.out]
            simp [hjN]
          obtain ⟨svi, vi, fi, ti⟩ := ei
          obtain ⟨svj, vj, fj, tj⟩ := ej
          simp only at HS HSi HSj HLi HLj HE
          obtain ⟨pi, ci, rfl⟩ := SV.form HSi.out
          obtain ⟨pj, cj, rfl⟩ := SV.form HSj.out
          have H34 : Hid (∀ W', Below wr.heap.size wr W' → Calls Try.prog 23 #[.slice pi vi.length ci, .slice pj vj.length cj] W' fun e w' => e = .returned (.bool (decide (vi = vj))) ∧ GB W' w') := fun W' k => same34 (SV.below HSi.out k) (SV.below HSj.out k) (Nat.le_trans HLi.out (by decide)) (Nat.le_trans HLj.out (by decide))
          have HT : Hid (decide (vi = vj) = true ↔ vi = vj) := by show _ ↔ _; simp
          have K0 : GB wr wr.drew := GB.drew wr
          have hS0 := HS.out _ K0.b
          generalize decide (vi = vj) = T at *
          clear hei hej hbq hRq hcq
          cases T
          · gi_wp2
            refine wpIn_wide.2 ?_
            go_region_held3 (fun W' => W'.cell? ⟨b, 0, none⟩ = some (.slice (some ⟨g, o, none⟩) N c) ∧ W'.cell? ⟨g, o + i * 3, none⟩ = some (.slice pi vi.length ci) ∧ W'.cell? ⟨g, o + j * 3, none⟩ = some (.slice pj vj.length cj)) (first | exact hS0 | exact HS.out _ K1.b) (first
              | (go_at_call 23; (with_reducible refine (H34.out _ K0.b).mono ?_); rintro e w3 ⟨rfl, B3⟩; have K1 := K0.trans B3))
            clear hS0
            have HZ : Hid (GB w1 w3) := hgb.out.trans K1
            have HEnd : Hid (endF (vls es) i N (i + 1) = j) := by show _ = _; rw [← hend.out, HE.out, if_neg (fun h => by have := HT.out.2 h; cases this)]
            generalize w3 = wz at *
            obtain ⟨f0, rfl⟩ : ∃ f0, f = f0 + 1 := ⟨f - 1, by have := hi.out; omega⟩
            have HC : Hid (pre ++ (i, j) :: cutsF (vls es) f0 j = cuts (vls es)) := by
              show _ = _
              rw [← hpre.out]
              conv => rhs; unfold cutsF
              rw [if_pos (by rw [HLN.out]; exact hiN), HLN.out, HEnd.out]
            have HKz : Hid (Keep O W wz) := hk.out.trans (Keep.of HZ.out.b) (fun _ _ h => h)
            have hJz := HJ.out O' pre w1 wz hj.out (Keep.of HZ.out.b)
            obtain ⟨fn, tmps, assign, body, hy, hRd⟩ := HY.out O' pre (i, j) wz hJz ⟨cutsF (vls es) f0 j, by rw [List.append_assoc]; exact HC.out⟩
            have hcz := (HK.out _ HKz.out).1.cell 0
            simp only [List.getElem?_cons_zero] at hcz
            simp only [encB] at hy
            have hjc : (j : Int) ≤ (c : Int) := by omega
            have hij : (i : Int) ≤ (j : Int) := by omega
            have HRd : Hid _ := hRd
            have HFi : Hid (i ≤ N ∧ N - i ≤ f0 + 1) := hi.out
            have hjic : ¬ c = i := by omega
            clear hRd hJz
            gi_wp2
            refine ⟨rfl, RoundIn.mono HRd.out ?_⟩
            rintro e W3 (⟨rfl, O3, hj3, hg3, hk3⟩ | ⟨rfl, O3, hj3, hg3, hk3⟩)
            · gi_wp2
              go_roundw
              case rel => exact ⟨j, f0, pre ++ [(i, j)], O3, rfl, ⟨by omega, by have := HFi.out; omega⟩, by show _ = _; rw [List.append_assoc]; exact HC.out, hj3, hgr.out.trans hg3 HKz.out.size, HKz.out.trans hk3 (fun q hq h => (hgr.out q h).elim id (fun h => by omega))⟩
              case measure => simp only [intOf]; omega
            · gi_wp2
              refine bodyPost_ret (results_none rfl _ _ _) rfl ?_
              exact ⟨⟨_, rfl⟩, .inr ⟨pre ++ [(i, j)], O3, ⟨cutsF (vls es) f0 j, by rw [List.append_assoc]; exact HC.out⟩, hj3, hgr.out.trans hg3 HKz.out.size, HKz.out.trans hk3 (fun q hq h => (hgr.out q h).elim id (fun h => by omega))⟩⟩
          · gi_wp2
            refine wpIn_wide.2 ?_
            go_region_held3 (fun W' => W'.cell? ⟨b, 0, none⟩ = some (.slice (some ⟨g, o, none⟩) N c) ∧ W'.cell? ⟨g, o + i * 3, none⟩ = some (.slice pi vi.length ci) ∧ W'.cell? ⟨g, o + j * 3, none⟩ = some (.slice pj vj.length cj)) (first | exact hS0 | exact HS.out _ K1.b) (first
              | (go_at_call 23; (with_reducible refine (H34.out _ K0.b).mono ?_); rintro e w3 ⟨rfl, B3⟩; have K1 := K0.trans B3))
            clear hS0
            gi_wp2
            go_roundw
            case rel => exact ⟨j + 1, f1, by simp, ⟨by omega, by omega, by omega⟩, by show _ = _; rw [← hend.out, HE.out, if_pos (HT.out.1 trivial)], hgb.out.trans K1⟩
            case measure => simp only [intOf]; omega
        · have hji : ¬ (j : Int) < (N : Int) := by omega
          have HEnd : Hid (endF (vls es) i N (i + 1) = j) := by
            show _ = _
            rw [← hend.out]
            cases f' with
            | zero => rfl
            | succ f' => unfold endF; rw [if_neg (fun h => by rw [HLN.out] at h; omega)]
          gi_wp2
          refine wpIn_wide.2 ?_
          go_big_quiet (fail)
          have HZ : Hid (GB w1 (wr.drewN nq)) := hgb.out.trans (GB.drewN _ _)
          clear hbq hRq hcq
          generalize wr.drewN nq = wz at *
          obtain ⟨f0, rfl⟩ : ∃ f0, f = f0 + 1 := ⟨f - 1, by have := hi.out; omega⟩
          have HC : Hid (pre ++ (i, j) :: cutsF (vls es) f0 j = cuts (vls es)) := by
            show _ = _
            rw [← hpre.out]
            conv => rhs; unfold cutsF
            rw [if_pos (by rw [HLN.out]; exact hiN), HLN.out, HEnd.out]
          have HKz : Hid (Keep O W wz) := hk.out.trans (Keep.of HZ.out.b) (fun _ _ h => h)
          have hJz := HJ.out O' pre w1 wz hj.out (Keep.of HZ.out.b)
          obtain ⟨fn, tmps, assign, body, hy, hRd⟩ := HY.out O' pre (i, j) wz hJz ⟨cutsF (vls es) f0 j, by rw [List.append_assoc]; exact HC.out⟩
          have hcz := (HK.out _ HKz.out).1.cell 0
          simp only [List.getElem?_cons_zero] at hcz
          simp only [encB] at hy
          have hjc : (j : Int) ≤ (c : Int) := by omega
          have hij : (i : Int) ≤ (j : Int) := by omega
          have HRd : Hid _ := hRd
          have HFi : Hid (i ≤ N ∧ N - i ≤ f0 + 1) := hi.out
          have hjic : ¬ c = i := by omega
          clear hRd hJz
          gi_wp2
          refine ⟨rfl, RoundIn.mono HRd.out ?_⟩
          rintro e W3 (⟨rfl, O3, hj3, hg3, hk3⟩ | ⟨rfl, O3, hj3, hg3, hk3⟩)
          · gi_wp2
            go_roundw
            case rel => exact ⟨j, f0, pre ++ [(i, j)], O3, rfl, ⟨by omega, by have := HFi.out; omega⟩, by show _ = _; rw [List.append_assoc]; exact HC.out, hj3, hgr.out.trans hg3 HKz.out.size, HKz.out.trans hk3 (fun q hq h => (hgr.out q h).elim id (fun h => by omega))⟩
            case measure => simp only [intOf]; omega
          · gi_wp2
            refine bodyPost_ret (results_none rfl _ _ _) rfl ?_
            exact ⟨⟨_, rfl⟩, .inr ⟨pre ++ [(i, j)], O3, ⟨cutsF (vls es) f0 j, by rw [List.append_assoc]; exact HC.out⟩, hj3, hgr.out.trans hg3 HKz.out.size, HKz.out.trans hk3 (fun q hq h => (hgr.out q h).elim id (fun h => by omega))⟩⟩
    · have hii : ¬ (i : Int) < (N : Int) := by omega
      have HF : Hid (pre = cuts (vls es)) := by show _ = _; rw [← hpre.out, cutsF_end _ _ _ (by rw [HLN.out]; exact hiN), List.append_nil]
      gi_wp2
      go_end0
      exact ⟨⟨_, rfl⟩, .inl ⟨O', HF.out ▸ hj.out, hgr.out, hk.out⟩⟩
end Go.Proofs.Ythalgnfffcimhaa
