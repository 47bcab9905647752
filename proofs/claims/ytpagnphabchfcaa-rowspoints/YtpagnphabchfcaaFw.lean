/- few. -/
import Derived.Test.YtpagnphabchfcaaLs
namespace Go.Proofs.Ytpagnphabchfcaa
open Go.Shelf Go.RowKit
set_option maxRecDepth 100000
theorem SV.take {w : World} {X : Nat → Prop} {a : Option Addr} {n c m : Nat} {vs : List Vt} (h : SV w X (.slice a n c) vs) (hm : m ≤ n) : SV w X (.slice a m c) (vs.take m) := by
  obtain ⟨a', c', hv, hh⟩ := h
  simp only [Value.slice.injEq] at hv
  obtain ⟨rfl, rfl, rfl⟩ := hv
  refine ⟨a, c, by rw [List.length_take, Nat.min_eq_left hm], fun h0 => ?_⟩
  obtain ⟨g, o, rfl, hg, hx, hc⟩ := hh (by simp at h0; omega)
  refine ⟨g, o, rfl, hg, hx, fun i x hi => hc i x ?_⟩
  rw [List.getElem?_take] at hi
  split at hi
  · exact hi
  · cases hi
theorem RL.take {w : World} {X : Nat → Prop} {a : Option Addr} {n c m : Nat} {es : List El} (h : RL w X (.slice a n c) es) (hm : m ≤ n) : RL w X (.slice a m c) (es.take m) := by
  refine ⟨?_, fun e he => h.vals e (List.mem_of_mem_take he)⟩
  obtain ⟨a', c', hv, hh⟩ := h.at'
  simp only [Value.slice.injEq] at hv
  obtain ⟨rfl, rfl, rfl⟩ := hv
  refine ⟨a, c, by rw [List.length_take, Nat.min_eq_left hm], fun h0 => ?_⟩
  obtain ⟨g, o, rfl, hg, hx, hc⟩ := hh (by simp at h0; omega)
  refine ⟨g, o, rfl, hg, hx, fun i x hi => hc i x ?_⟩
  rw [List.getElem?_take] at hi
  split at hi
  · exact hi
  · cases hi
/-- few's rows. -/
def cut6 (r : Rw) : Rw := (r.1.take 6, r.2)
def fewR (l : List Rw) : List Rw := (l.take 24).map cut6
theorem fewR_len (l : List Rw) : (fewR l).length ≤ 24 := by simp [fewR]; omega
theorem fewR_vals (l : List Rw) : ∀ r ∈ fewR l, r.1.length ≤ 6 := fun r hr => by
  obtain ⟨x, _, rfl⟩ := List.mem_map.1 hr
  simp [cut6]; omega
theorem fewR_rws {es : List El} {l : List Rw} (h : rws es = fewR l) : es.length ≤ 1000 ∧ ∀ e ∈ es, e.2.1.length ≤ 1000 := by
  refine ⟨?_, fun e he => ?_⟩
  · have h1 := congrArg List.length h
    have h2 := fewR_len l
    simp [rws] at h1; omega
  · have := fewR_vals l e.2 (by rw [← h]; exact List.mem_map.2 ⟨e, he, rfl⟩)
    omega
set_option maxHeartbeats 4000000 in
theorem few6 {w : World} {X : Nat → Prop} {v : Value} {es : List El} (h : RL w X v es) (hX : ∀ b, w.heap.size ≤ b → X b) (hc : CapOk v) (hvc : ∀ e ∈ es, CapOk e.1) :
    Calls Try.prog 6 #[v] w (LPost w (fewR (rws es))) := by
  obtain ⟨a, c, rfl⟩ := h.form
  have hcc : es.length ≤ c := hc _ _ _ rfl
  have HX : Hid _ := hX
  clear hX hc
  by_cases h24 : 24 < es.length
  · obtain ⟨es0, he0⟩ : ∃ l, es.take 24 = l := ⟨_, rfl⟩
    have HR : Hid (RL w X (.slice a 24 c) es0) := by rw [← he0]; exact h.take (by omega)
    have HC : Hid (∀ e ∈ es0, CapOk e.1) := fun e he => hvc e (List.mem_of_mem_take (he0 ▸ he))
    have HN : Hid (es0.length = 24) := by show _ = _; rw [← he0, List.length_take]; omega
    have HFe : Hid (fewR (rws es) = (rws es0).map cut6) := by show _ = _; rw [← he0]; simp [fewR, rws, List.map_take]
    have h24i : (24 : Int) < (es.length : Int) := by omega
    have hci : (24 : Int) ≤ (c : Int) := by omega
    have HR0 : Hid _ := h
    clear h hvc he0
    go_enter Try.func6, Try.ntmps6
    go_wp2_with fail
    clear HR0
    go_loopw [3, 4] (fun fo fi wr => ∃ (k : Nat) (es' : List El), fi = .int .i64 (k : Int) ∧ Hid (k ≤ 24) ∧ Hid (OwnR wr w.heap.size fo es') ∧ Hid (rws es' = ((rws es0).map cut6).take k) ∧ Hid (Below w.heap.size w wr)) (fun _ fi _ => ((24 : Int) - intOf fi).toNat)
    case atStart => exact ⟨0, [], rfl, Nat.zero_le _, OwnR.nil _ _, rfl, Below.refl _ _⟩
    case round =>
      obtain ⟨k, es', rfl, hk, hO, hE, hB⟩ := hrel
      by_cases hkN : k < 24
      · have hki : (k : Int) < (24 : Int) := by omega
        have hk0 : (0 : Int) ≤ (k : Int) := by omega
        obtain ⟨e, he⟩ : ∃ e, es0[k]? = some e := ⟨_, List.getElem?_eq_getElem (by rw [HN.out]; exact hkN)⟩
        obtain ⟨g, o, rfl, _, _, d0, d1, d2⟩ := (RL.below HR.out hB.out).get he
        have HSV : Hid (SV wr X e.1 e.2.1) := (HR.out.vals e (List.mem_of_getElem? he)).below hB.out
        have HCe : Hid (CapOk e.1) := HC.out e (List.mem_of_getElem? he)
        have HTk : Hid (((rws es0).map cut6).take (k + 1) = ((rws es0).map cut6).take k ++ [cut6 e.2]) := by
          show _ = _
          rw [List.take_add_one, List.getElem?_map, rws, List.getElem?_map, he]
          rfl
        have hlen : es'.length ≤ 100000 := by
          have := congrArg List.length hE.out
          simp [rws] at this
          omega
        obtain ⟨sv, vs, f, t⟩ := e
        simp only at d0 d1 d2 HSV HCe HTk
        obtain ⟨pa, ca, rfl⟩ := SV.form HSV.out
        have hcap : vs.length ≤ ca := HCe.out _ _ _ rfl
        have hA := al3 wr (.slice pa vs.length ca) f t
        have b5 := blk_new wr [.slice pa vs.length ca, .int .i64 f, .int .i64 t] 34
        change Blk (wr.alloc (.cells #[.slice pa vs.length ca, .int .i64 f, .int .i64 t] 34)) _ _ _ at b5
        have HA : Hid _ := hA
        clear he
        have HApp : Hid (∀ (w6 : World) (H m : Nat) (vs' : List Vt), w6.heap.size = H → Hid (SV w6 X (.slice pa m ca) vs') → Hid (Below wr.heap.size wr w6) → ∃ v7 w7, (Builtin.append_ #[22, 22] 22 #[u3, .slice (some ⟨H, 0, none⟩) 1 1]).run Try.prog (w6.alloc (.cells #[.slice pa m ca, .int .i64 f, .int .i64 t] 34)) = .ok v7 w7 ∧ Hid (OwnR w7 w.heap.size v7 (es' ++ [(.slice pa m ca, vs', f, t)])) ∧ Hid (Below w.heap.size w w7)) := fun w6 H m vs' hH hsv hB6 => by
          subst hH
          have hal := al3 w6 (.slice pa m ca) f t
          have O6 := hO.out.below (bmore hB6.out hal)
          have nb := blk_new w6 [.slice pa m ca, .int .i64 f, .int .i64 t] 34
          have hsv6 : SV (w6.alloc (.cells #[.slice pa m ca, .int .i64 f, .int .i64 t] 34)) (fun b => u3.ownBlock = some b) (.slice pa m ca) vs' := (SV.below hsv.out hal).mono (fun b _ q => HX.out b (O6.row.lt b q).1)
          have hbase := (bmore (bmore hB.out hB6.out) hal).size
          obtain ⟨v7, w7, hr7, A7⟩ := OwnR.app O6 hlen hbase 22 (gb := w6.heap.size) (c := 1) (e := (.slice pa m ca, vs', f, t)) hsv6 (nb.cell 0) (nb.cell 1) (nb.cell 2)
          exact ⟨v7, w7, hr7, A7.own, (bmore (bmore hB.out hB6.out) hal).trans (A7.below O6 hbase)⟩
        by_cases h6 : 6 < vs.length
        · have h6i : (6 : Int) < (vs.length : Int) := by omega
          have hci : (6 : Int) ≤ (ca : Int) := by omega
          have HK6 : Hid (Below wr.heap.size wr (wr.alloc (.cells #[.slice pa 6 ca, .int .i64 f, .int .i64 t] 34))) := al3 _ _ _ _
          have HS6 : Hid (SV (wr.alloc (.cells #[.slice pa 6 ca, .int .i64 f, .int .i64 t] 34)) X (.slice pa 6 ca) (vs.take 6)) := (SV.below HSV.out HK6.out).take (by omega)
          have b6 := blk_new wr [.slice pa 6 ca, .int .i64 f, .int .i64 t] 34
          change Blk (wr.alloc (.cells #[.slice pa 6 ca, .int .i64 f, .int .i64 t] 34)) _ _ _ at b6
          have z0 := b6.cell 0
          have z1 := b6.cell 1
          have z2 := b6.cell 2
          clear b5 b6 hA
          go_wp2_with (at_builtin; refine wpList_append_ex (by rfl) (.tmp 29) (.tmp 31) 22 (by rfl) _ _ (by rfl) (by rfl) (HApp.out _ (wr.heap.size + 1) _ _ (by simp) HS6 HK6) ?_; rintro v7 w7 ⟨hO7, hB7⟩)
          go_roundw
          case rel => exact ⟨k + 1, es' ++ [(Value.slice pa 6 ca, vs.take 6, f, t)], by simp, by show _ ≤ _; omega, hO7.out, by show _ = _; rw [HTk.out, ← hE.out]; simp [rws, cut6], hB7.out⟩
          case measure => simp only [intOf]; omega
        · have h6i : ¬ (6 : Int) < (vs.length : Int) := by omega
          have HK6 : Hid (Below wr.heap.size wr (wr.alloc (.cells #[.slice pa vs.length ca, .int .i64 f, .int .i64 t] 34))) := hA
          have HS6 : Hid (SV (wr.alloc (.cells #[.slice pa vs.length ca, .int .i64 f, .int .i64 t] 34)) X (.slice pa vs.length ca) vs) := SV.below HSV.out hA
          have z0 := b5.cell 0
          have z1 := b5.cell 1
          have z2 := b5.cell 2
          clear b5 hA
          go_wp2_with (at_builtin; refine wpList_append_ex (by rfl) (.tmp 29) (.tmp 31) 22 (by rfl) _ _ (by rfl) (by rfl) (HApp.out _ (wr.heap.size + 1) _ _ (by simp) HS6 HK6) ?_; rintro v7 w7 ⟨hO7, hB7⟩)
          go_roundw
          case rel => exact ⟨k + 1, es' ++ [(Value.slice pa vs.length ca, vs, f, t)], by simp, by show _ ≤ _; omega, hO7.out, by show _ = _; rw [HTk.out, ← hE.out]; simp [rws, cut6, List.take_of_length_le (show vs.length ≤ 6 by omega)], hB7.out⟩
          case measure => simp only [intOf]; omega
      · have hki : ¬ (k : Int) < (24 : Int) := by omega
        have HF : Hid (rws es' = fewR (rws es)) := by show _ = _; rw [hE.out, HFe.out, List.take_of_length_le (by rw [List.length_map, rws, List.length_map, HN.out]; omega)]
        go_wp2
        go_ret
        exact ⟨_, es', rfl, hO.out, HF.out, hB.out⟩
  · obtain ⟨N, hN⟩ : ∃ N, es.length = N := ⟨_, rfl⟩
    obtain ⟨es0, he0⟩ : ∃ l, es = l := ⟨_, rfl⟩
    have HR : Hid (RL w X (.slice a N c) es0) := by rw [← hN, ← he0]; exact h
    have HC : Hid (∀ e ∈ es0, CapOk e.1) := fun e he => hvc e (he0 ▸ he)
    have HN : Hid (es0.length = N) := by show _ = _; rw [← he0]; exact hN
    have HFe : Hid (fewR (rws es) = (rws es0).map cut6) := by show _ = _; rw [← he0]; unfold fewR; rw [List.take_of_length_le (by simp [rws]; omega)]
    have h24i : ¬ (24 : Int) < (N : Int) := by omega
    have HR0 : Hid _ := h
    have hNl : N ≤ 24 := by omega
    clear h hvc he0
    rw [hN]
    go_enter Try.func6, Try.ntmps6
    go_wp2_with fail
    clear HR0
    go_loopw [3, 4] (fun fo fi wr => ∃ (k : Nat) (es' : List El), fi = .int .i64 (k : Int) ∧ Hid (k ≤ N) ∧ Hid (OwnR wr w.heap.size fo es') ∧ Hid (rws es' = ((rws es0).map cut6).take k) ∧ Hid (Below w.heap.size w wr)) (fun _ fi _ => ((N : Int) - intOf fi).toNat)
    case atStart => exact ⟨0, [], rfl, Nat.zero_le _, OwnR.nil _ _, rfl, Below.refl _ _⟩
    case round =>
      obtain ⟨k, es', rfl, hk, hO, hE, hB⟩ := hrel
      by_cases hkN : k < N
      · have hki : (k : Int) < (N : Int) := by omega
        have hk0 : (0 : Int) ≤ (k : Int) := by omega
        obtain ⟨e, he⟩ : ∃ e, es0[k]? = some e := ⟨_, List.getElem?_eq_getElem (by rw [HN.out]; exact hkN)⟩
        obtain ⟨g, o, rfl, _, _, d0, d1, d2⟩ := (RL.below HR.out hB.out).get he
        have HSV : Hid (SV wr X e.1 e.2.1) := (HR.out.vals e (List.mem_of_getElem? he)).below hB.out
        have HCe : Hid (CapOk e.1) := HC.out e (List.mem_of_getElem? he)
        have HTk : Hid (((rws es0).map cut6).take (k + 1) = ((rws es0).map cut6).take k ++ [cut6 e.2]) := by
          show _ = _
          rw [List.take_add_one, List.getElem?_map, rws, List.getElem?_map, he]
          rfl
        have hlen : es'.length ≤ 100000 := by
          have := congrArg List.length hE.out
          simp [rws] at this
          omega
        obtain ⟨sv, vs, f, t⟩ := e
        simp only at d0 d1 d2 HSV HCe HTk
        obtain ⟨pa, ca, rfl⟩ := SV.form HSV.out
        have hcap : vs.length ≤ ca := HCe.out _ _ _ rfl
        have hA := al3 wr (.slice pa vs.length ca) f t
        have b5 := blk_new wr [.slice pa vs.length ca, .int .i64 f, .int .i64 t] 34
        change Blk (wr.alloc (.cells #[.slice pa vs.length ca, .int .i64 f, .int .i64 t] 34)) _ _ _ at b5
        have HA : Hid _ := hA
        clear he
        have HApp : Hid (∀ (w6 : World) (H m : Nat) (vs' : List Vt), w6.heap.size = H → Hid (SV w6 X (.slice pa m ca) vs') → Hid (Below wr.heap.size wr w6) → ∃ v7 w7, (Builtin.append_ #[22, 22] 22 #[u3, .slice (some ⟨H, 0, none⟩) 1 1]).run Try.prog (w6.alloc (.cells #[.slice pa m ca, .int .i64 f, .int .i64 t] 34)) = .ok v7 w7 ∧ Hid (OwnR w7 w.heap.size v7 (es' ++ [(.slice pa m ca, vs', f, t)])) ∧ Hid (Below w.heap.size w w7)) := fun w6 H m vs' hH hsv hB6 => by
          subst hH
          have hal := al3 w6 (.slice pa m ca) f t
          have O6 := hO.out.below (bmore hB6.out hal)
          have nb := blk_new w6 [.slice pa m ca, .int .i64 f, .int .i64 t] 34
          have hsv6 : SV (w6.alloc (.cells #[.slice pa m ca, .int .i64 f, .int .i64 t] 34)) (fun b => u3.ownBlock = some b) (.slice pa m ca) vs' := (SV.below hsv.out hal).mono (fun b _ q => HX.out b (O6.row.lt b q).1)
          have hbase := (bmore (bmore hB.out hB6.out) hal).size
          obtain ⟨v7, w7, hr7, A7⟩ := OwnR.app O6 hlen hbase 22 (gb := w6.heap.size) (c := 1) (e := (.slice pa m ca, vs', f, t)) hsv6 (nb.cell 0) (nb.cell 1) (nb.cell 2)
          exact ⟨v7, w7, hr7, A7.own, (bmore (bmore hB.out hB6.out) hal).trans (A7.below O6 hbase)⟩
        by_cases h6 : 6 < vs.length
        · have h6i : (6 : Int) < (vs.length : Int) := by omega
          have hci : (6 : Int) ≤ (ca : Int) := by omega
          have HK6 : Hid (Below wr.heap.size wr (wr.alloc (.cells #[.slice pa 6 ca, .int .i64 f, .int .i64 t] 34))) := al3 _ _ _ _
          have HS6 : Hid (SV (wr.alloc (.cells #[.slice pa 6 ca, .int .i64 f, .int .i64 t] 34)) X (.slice pa 6 ca) (vs.take 6)) := (SV.below HSV.out HK6.out).take (by omega)
          have b6 := blk_new wr [.slice pa 6 ca, .int .i64 f, .int .i64 t] 34
          change Blk (wr.alloc (.cells #[.slice pa 6 ca, .int .i64 f, .int .i64 t] 34)) _ _ _ at b6
          have z0 := b6.cell 0
          have z1 := b6.cell 1
          have z2 := b6.cell 2
          clear b5 b6 hA
          go_wp2_with (at_builtin; refine wpList_append_ex (by rfl) (.tmp 29) (.tmp 31) 22 (by rfl) _ _ (by rfl) (by rfl) (HApp.out _ (wr.heap.size + 1) _ _ (by simp) HS6 HK6) ?_; rintro v7 w7 ⟨hO7, hB7⟩)
          go_roundw
          case rel => exact ⟨k + 1, es' ++ [(Value.slice pa 6 ca, vs.take 6, f, t)], by simp, by show _ ≤ _; omega, hO7.out, by show _ = _; rw [HTk.out, ← hE.out]; simp [rws, cut6], hB7.out⟩
          case measure => simp only [intOf]; omega
        · have h6i : ¬ (6 : Int) < (vs.length : Int) := by omega
          have HK6 : Hid (Below wr.heap.size wr (wr.alloc (.cells #[.slice pa vs.length ca, .int .i64 f, .int .i64 t] 34))) := hA
          have HS6 : Hid (SV (wr.alloc (.cells #[.slice pa vs.length ca, .int .i64 f, .int .i64 t] 34)) X (.slice pa vs.length ca) vs) := SV.below HSV.out hA
          have z0 := b5.cell 0
          have z1 := b5.cell 1
          have z2 := b5.cell 2
          clear b5 hA
          go_wp2_with (at_builtin; refine wpList_append_ex (by rfl) (.tmp 29) (.tmp 31) 22 (by rfl) _ _ (by rfl) (by rfl) (HApp.out _ (wr.heap.size + 1) _ _ (by simp) HS6 HK6) ?_; rintro v7 w7 ⟨hO7, hB7⟩)
          go_roundw
          case rel => exact ⟨k + 1, es' ++ [(Value.slice pa vs.length ca, vs, f, t)], by simp, by show _ ≤ _; omega, hO7.out, by show _ = _; rw [HTk.out, ← hE.out]; simp [rws, cut6, List.take_of_length_le (show vs.length ≤ 6 by omega)], hB7.out⟩
          case measure => simp only [intOf]; omega
      · have hki : ¬ (k : Int) < (N : Int) := by omega
        have HF : Hid (rws es' = fewR (rws es)) := by show _ = _; rw [hE.out, HFe.out, List.take_of_length_le (by rw [List.length_map, rws, List.length_map, HN.out]; omega)]
        go_wp2
        go_ret
        exact ⟨_, es', rfl, hO.out, HF.out, hB.out⟩
end Go.Proofs.Ytpagnphabchfcaa
