/- Update. -/
import Derived.Test.YthalgnfffcimhaaPh
namespace Go.Proofs.Ythalgnfffcimhaa
open Go.RowKit Go.Shelf
set_option maxRecDepth 100000
theorem Ls.three {W : World} {v0 v1 v2 : Value} {e0 e1 e2 : List El} (h0 : RL W (fun _ => False) v0 e0) (h1 : RL W (fun _ => False) v1 e1) (h2 : RL W (fun _ => False) v2 e2) : Ls (W.alloc (.cells #[v0, v1, v2] 31)) W.heap.size [(v0, e0), (v1, e1), (v2, e2)] := by
  have nb := blk_new W [v0, v1, v2] 31
  refine ⟨fun i x hx => ?_, fun x hx => ?_⟩
  · rw [nb.cell]
    match i with
    | 0 => cases hx; rfl
    | 1 => cases hx; rfl
    | 2 => cases hx; rfl
    | i + 3 => simp at hx
  · simp only [List.mem_cons, List.not_mem_nil, or_false] at hx
    rcases hx with rfl | rfl | rfl
    · exact h0.below (al _ _)
    · exact h1.below (al _ _)
    · exact h2.below (al _ _)
def setR (cs : List Cl) (ss : List Se) (r : Rw) : Rw := (setsV cs ss r.1, r.2)
/-- Rows, the first k of which have other values. -/
def setK (cs : List Cl) (ss : List Se) (L : List Rw) (k : Nat) : List Rw := (L.take k).map (setR cs ss) ++ L.drop k
theorem setK_len (cs : List Cl) (ss : List Se) (L : List Rw) (k : Nat) : (setK cs ss L k).length = L.length := by simp [setK]; omega
theorem setK_step {cs : List Cl} {ss : List Se} {L : List Rw} {k : Nat} {r : Rw} (h : L[k]? = some r) : setK cs ss L (k + 1) = (setK cs ss L k).set k (setR cs ss r) := by
  obtain ⟨hk, rfl⟩ := List.getElem?_eq_some_iff.1 h
  have hl : ((L.take k).map (setR cs ss)).length = k := by simp; omega
  unfold setK
  rw [List.take_add_one, h, List.map_append, List.set_append_right _ _ (by rw [hl]; exact Nat.le_refl _), hl, Nat.sub_self, List.drop_eq_getElem_cons hk]
  simp only [Option.toList_some, List.map_cons, List.map_nil, List.append_assoc, List.singleton_append, List.set_cons_zero]
theorem setK_at {cs : List Cl} {ss : List Se} {L : List Rw} {k : Nat} {r : Rw} (h : L[k]? = some r) : (setK cs ss L k)[k]? = some r := by
  obtain ⟨hk, rfl⟩ := List.getElem?_eq_some_iff.1 h
  have hl : ((L.take k).map (setR cs ss)).length = k := by simp; omega
  unfold setK
  rw [List.getElem?_append_right (by rw [hl]; exact Nat.le_refl _), hl, Nat.sub_self, List.drop_eq_getElem_cons hk]
  rfl
theorem setK_all (cs : List Cl) (ss : List Se) (L : List Rw) {k : Nat} (h : L.length ≤ k) : setK cs ss L k = L.map (setR cs ss) := by
  unfold setK
  rw [List.take_of_length_le h, List.drop_eq_nil_of_le h, List.append_nil]
set_option maxHeartbeats 1000000 in
theorem update5 {w : World} {X : Nat → Prop} {av : Option Addr} {cv : Nat} {es : List El} {a b : Int} {z : Nat → Value} {pw : Option Addr} {cw : Nat} {gc cc gs sc : Nat} {cs : List Cl} {ss : List Se}
    (h : RL w X (.slice av es.length cv) es) (hl : es.length ≤ 10) (hv : ∀ e ∈ es, e.2.1.length ≤ 1000) (hc : CO w gc cs) (hcl : cs.length ≤ 1000) (hcg : gc < w.heap.size) (hs : SO w gs ss) (hsl : ss.length ≤ 1000) (hsg : gs < w.heap.size) :
    Calls Try.prog 5 #[.slice av es.length cv, .slice (some ⟨gc, 0, none⟩) cs.length cc, stV z (.slice (some ⟨gs, 0, none⟩) ss.length sc) pw cw a b] w (DPost w (canonR (missR a b (rws es) ++ (outR a b (rws es) ++ (inR a b (rws es)).map (setR cs ss)))) (inR a b (rws es)).length) := by
  have h5 := blk_new w (stL z (.slice (some ⟨gs, 0, none⟩) ss.length sc) pw cw a b) 47
  have hb := al w (.cells (stL z (.slice (some ⟨gs, 0, none⟩) ss.length sc) pw cw a b).toArray 47)
  have k15 := cut15' (z := z) (sets := .slice (some ⟨gs, 0, none⟩) ss.length sc) (pw := pw) (cw := cw) (a := a) (b := b) (ac := some ⟨gc, 0, none⟩) (nc := cs.length) (cc := cc) (h.below hb) (by omega)
  have HLv : Hid _ := lists_vals (a := a) (b := b) (l := rws es) (n := 1000) (fun r hr => by obtain ⟨e, he, rfl⟩ := List.mem_map.1 hr; exact hv e he)
  have HLl : Hid (∀ j, (lists a b (rws es) j).length ≤ 20) := fun j => Nat.le_trans (lists_len a b (rws es) j) (by simp [rws]; omega)
  have HC : Hid (CO w gc cs ∧ cs.length ≤ 1000 ∧ gc < w.heap.size) := ⟨hc, hcl, hcg⟩
  have HS : Hid (SO w gs ss ∧ ss.length ≤ 1000 ∧ gs < w.heap.size) := ⟨hs, hsl, hsg⟩
  clear h hv hl hc hcl hcg hs hsl hsg
  generalize es.length = n at *
  generalize hcsn : cs.length = csn at *
  generalize hssn : ss.length = ssn at *
  go_enter Try.func5, Try.ntmps5
  go_upto_region 1 with fail
  generalize World.alloc w _ = W1 at *
  have HB : Hid _ := hb
  clear hb
  go_wp2_with (first
    | (refine wpList_load_row (by rfl) 47 (.tmp 5) (by rfl) w.heap.size (by rfl) 47 _ (0, 0) _ h5 Try.underlying47 rfl info47s ?_)
    | (go_at_call 15; (with_reducible refine k15.mono ?_); rintro e w2 ⟨a0, c0, a1, c1, a2, c2, e0, e1, e2, rfl, p0, p1, p2, hap, hB2⟩))
  have b8 := blk_new w2 [.slice a0 e0.length c0, .slice a1 e1.length c1, .slice a2 e2.length c2] 62
  change Blk (w2.alloc (.cells #[.slice a0 e0.length c0, .slice a1 e1.length c1, .slice a2 e2.length c2] 62)) _ _ _ at b8
  have hal := al w2 (.cells #[.slice a0 e0.length c0, .slice a1 e1.length c1, .slice a2 e2.length c2] 62)
  have HKW : Hid (Keep (fun q => W1.heap.size ≤ q) w (w2.alloc (.cells #[.slice a0 e0.length c0, .slice a1 e1.length c1, .slice a2 e2.length c2] 62))) := (((Keep.of HB.out).trans (Keep.of hB2) (F := fun q => W1.heap.size ≤ q) (fun _ _ h => h)).alloc _)
  have H5 : Hid (Blk (w2.alloc (.cells #[.slice a0 e0.length c0, .slice a1 e1.length c1, .slice a2 e2.length c2] 62)) w.heap.size (stL z (.slice (some ⟨gs, 0, none⟩) ssn sc) pw cw a b) 47) := (h5.below hB2).below hal
  have H8 : Hid (Blk (w2.alloc (.cells #[.slice a0 e0.length c0, .slice a1 e1.length c1, .slice a2 e2.length c2] 62)) w2.heap.size [.slice a0 e0.length c0, .slice a1 e1.length c1, .slice a2 e2.length c2] 62) := b8
  have P0 : Hid (∀ wr, Keep (fun q => (Value.slice a2 e2.length c2).ownBlock = some q) (w2.alloc (.cells #[.slice a0 e0.length c0, .slice a1 e1.length c1, .slice a2 e2.length c2] 62)) wr → PI W1 wr (.slice a0 e0.length c0) e0 (missR a b (rws es))) := fun wr k => (p0.keep (Keep.of hal) (F := fun _ => False) (fun _ _ h => h)).keep k (fun q h1 h2 => (hap q h2).1 h1)
  have P1 : Hid (∀ wr, Keep (fun q => (Value.slice a2 e2.length c2).ownBlock = some q) (w2.alloc (.cells #[.slice a0 e0.length c0, .slice a1 e1.length c1, .slice a2 e2.length c2] 62)) wr → PI W1 wr (.slice a1 e1.length c1) e1 (outR a b (rws es))) := fun wr k => (p1.keep (Keep.of hal) (F := fun _ => False) (fun _ _ h => h)).keep k (fun q h1 h2 => (hap q h2).2 h1)
  have P2 : Hid (OwnR (w2.alloc (.cells #[.slice a0 e0.length c0, .slice a1 e1.length c1, .slice a2 e2.length c2] 62)) W1.heap.size (.slice a2 e2.length c2) e2) := (p2.ownR hB2).below hal
  have HR2 : Hid (rws e2 = setK cs ss (inR a b (rws es)) 0) := by show _ = _; rw [p2.rows]; simp [setK]
  have HN2 : Hid (e2.length = (inR a b (rws es)).length) := p2.len
  have HOw : Hid (∀ q, (Value.slice a2 e2.length c2).ownBlock = some q → W1.heap.size ≤ q ∧ q < w2.heap.size) := fun q hq => p2.own.lt q hq
  have HZ : Hid (w.heap.size < W1.heap.size ∧ W1.heap.size ≤ w2.heap.size ∧ w2.heap.size < (w2.alloc (.cells #[.slice a0 e0.length c0, .slice a1 e1.length c1, .slice a2 e2.length c2] 62)).heap.size) := ⟨Blk.lt h5, hB2.size, by simp⟩
  have HB5 : Hid (Below W1.heap.size W1 (w2.alloc (.cells #[.slice a0 e0.length c0, .slice a1 e1.length c1, .slice a2 e2.length c2] 62))) := bmore hB2 hal
  have x2 := b8.cell 2
  simp only [List.getElem?_cons_zero, List.getElem?_cons_succ] at x2
  clear p0 p1 p2 hap hB2 b8 hal h5 k15
  generalize (w2.alloc (.cells #[.slice a0 e0.length c0, .slice a1 e1.length c1, .slice a2 e2.length c2] 62)) = W5 at *
  go_wp2_with fail
  have hn2 : e2.length ≤ 20 := by rw [HN2.out]; have := HLl.out 2; simpa [lists] using this
  clear x2
  go_loopw [18] (fun fi wr => ∃ (k : Nat) (ies : List El), fi = .int .i64 (k : Int) ∧ Hid (k ≤ e2.length) ∧ Hid (OwnR wr W1.heap.size (.slice a2 e2.length c2) ies) ∧ Hid (rws ies = setK cs ss (inR a b (rws es)) k) ∧ Hid (Keep (fun q => (Value.slice a2 e2.length c2).ownBlock = some q) W5 wr)) (fun fi _ => ((e2.length : Int) - intOf fi).toNat)
  case atStart => exact ⟨0, e2, rfl, Nat.zero_le _, P2.out, HR2.out, Keep.refl _ _⟩
  case round =>
    obtain ⟨k, ies, rfl, hk, hO, hR, hKk⟩ := hrel
    by_cases hkM : k < e2.length
    · have hki : (k : Int) < (e2.length : Int) := by omega
      have hk0 : (0 : Int) ≤ (k : Int) := by omega
      obtain ⟨gi, hgi⟩ : ∃ gi, a2 = some ⟨gi, 0, none⟩ := by
        obtain ⟨_, ⟨hq, _⟩ | ⟨gi, cap, cur, hq, _⟩⟩ := hO.out.row
        · simp only [Value.slice.injEq] at hq; omega
        · simp only [Value.slice.injEq] at hq; exact ⟨gi, hq.1⟩
      subst hgi
      have hlen : ies.length = e2.length := by
        have h1 := congrArg List.length hR.out
        rw [setK_len, ← HN2.out] at h1
        simpa [rws] using h1
      obtain ⟨⟨vl, f, t⟩, hr⟩ : ∃ r, (inR a b (rws es))[k]? = some r := ⟨_, List.getElem?_eq_getElem (by rw [← HN2.out]; exact hkM)⟩
      obtain ⟨⟨sv, r'⟩, he⟩ : ∃ e, ies[k]? = some e := ⟨_, List.getElem?_eq_getElem (by rw [hlen]; exact hkM)⟩
      have hre : r' = (vl, f, t) := by
        have h1 := setK_at (cs := cs) (ss := ss) hr
        rw [← hR.out, rws, List.getElem?_map, he] at h1
        simpa using h1
      subst hre
      obtain ⟨d0, d1, d2⟩ := ownR_at3 hO.out he
      simp only at d0 d1 d2
      have hsv := hO.out.vals _ (List.mem_of_getElem? he)
      simp only at hsv
      obtain ⟨pa, ca, rfl⟩ := hsv.form
      have hvl : vl.length ≤ 1000 := HLv.out.2.2 _ (List.mem_of_getElem? hr)
      have HIe : Hid _ := he
      have HIr : Hid _ := hr
      have hgo := HOw.out gi rfl
      have kW : Keep (fun q => W1.heap.size ≤ q) w wr := HKW.out.trans hKk.out (fun q _ h => (HOw.out q h).1)
      have hz := HZ.out
      have hA := al wr (.cells #[.slice pa vl.length ca, .int .i64 f, .int .i64 t] 30)
      have b6 := blk_new wr [.slice pa vl.length ca, .int .i64 f, .int .i64 t] 30
      change Blk (wr.alloc (.cells #[.slice pa vl.length ca, .int .i64 f, .int .i64 t] 30)) _ _ _ at b6
      have b5 := Blk.keep H5.out hKk.out (fun q => by have := (HOw.out _ q).1; omega)
      have b8 := Blk.keep H8.out hKk.out (fun q => by have := (HOw.out _ q).2; omega)
      have HSz : Hid (wr.heap.size < (wr.alloc (.cells #[.slice pa vl.length ca, .int .i64 f, .int .i64 t] 30)).heap.size ∧ W5.heap.size ≤ wr.heap.size) := ⟨by simp, hKk.out.size⟩
      have HFx : Hid (∀ W', Below (wr.alloc (.cells #[.slice pa vl.length ca, .int .i64 f, .int .i64 t] 30)).heap.size (wr.alloc (.cells #[.slice pa vl.length ca, .int .i64 f, .int .i64 t] 30)) W' → Blk W' w2.heap.size [.slice a0 e0.length c0, .slice a1 e1.length c1, .slice (some ⟨gi, 0, none⟩) e2.length c2] 62 ∧ Blk W' w.heap.size (stL z (.slice (some ⟨gs, 0, none⟩) ssn sc) pw cw a b) 47 ∧ Blk W' wr.heap.size [.slice pa vl.length ca, .int .i64 f, .int .i64 t] 30 ∧ OwnR W' W1.heap.size (.slice (some ⟨gi, 0, none⟩) e2.length c2) ies) := fun W' k => ⟨(b8.below hA).below k, (b5.below hA).below k, b6.below k, (hO.out.below hA).below k⟩
      have HK16 : Hid (∀ W', Below (wr.alloc (.cells #[.slice pa vl.length ca, .int .i64 f, .int .i64 t] 30)).heap.size (wr.alloc (.cells #[.slice pa vl.length ca, .int .i64 f, .int .i64 t] 30)) W' → Calls Try.prog 16 #[.agg #[.slice pa vl.length ca, .int .i64 f, .int .i64 t], .slice (some ⟨gc, 0, none⟩) csn cc, .slice (some ⟨gs, 0, none⟩) ssn sc] W' (WPost W' (setsV cs ss vl) f t)) := fun W' k => by
        have kk : Keep (fun q => W1.heap.size ≤ q) w W' := (kW.trans (Keep.of hA) (F := fun q => W1.heap.size ≤ q) (fun _ _ h => h)).trans (Keep.of k) (fun _ _ h => h)
        have hsz := kk.size
        have e1 := HC.out
        have e2 := HS.out
        rw [← hcsn, ← hssn]
        exact withSets16 ((hsv.below hA).below k) hvl (e1.1.keep kk (by omega)) (by rw [hcsn]; exact e1.2.1) (by omega) (e2.1.keep kk (by omega)) (by rw [hssn]; exact e2.2.1) (by omega)
      clear he hr hsv kW b5 b6 b8 hA
      go_upto_region 5 with fail
      have HK6 : Hid (Keep (fun q => (Value.slice (some ⟨gi, 0, none⟩) e2.length c2).ownBlock = some q) W5 (wr.alloc (.cells #[.slice pa vl.length ca, .int .i64 f, .int .i64 t] 30))) := hKk.out.alloc _
      generalize wr.alloc (.cells #[.slice pa vl.length ca, .int .i64 f, .int .i64 t] 30) = W6 at *
      have K0 : Below W6.heap.size W6 W6.drew := (Below.refl _ _).drew
      have HS5 : Hid (∀ W', Below W6.heap.size W6 W' → W'.cell? ⟨w2.heap.size, 2, none⟩ = some (.slice (some ⟨gi, 0, none⟩) e2.length c2) ∧ W'.cell? ⟨wr.heap.size, 0, none⟩ = some (.slice pa vl.length ca) ∧ W'.cell? ⟨wr.heap.size, 1, none⟩ = some (.int .i64 f) ∧ W'.cell? ⟨wr.heap.size, 2, none⟩ = some (.int .i64 t) ∧ W'.cell? ⟨w.heap.size, 7, none⟩ = some (.slice (some ⟨gs, 0, none⟩) ssn sc)) := fun W' k => ⟨(HFx.out W' k).1.cell 2, (HFx.out W' k).2.2.1.cell 0, (HFx.out W' k).2.2.1.cell 1, (HFx.out W' k).2.2.1.cell 2, (HFx.out W' k).2.1.cell 7⟩
      have HS6 : Hid (∀ W' e, Below W6.heap.size W6 W' → (set3 W' gi k e).cell? ⟨w2.heap.size, 2, none⟩ = some (.slice (some ⟨gi, 0, none⟩) e2.length c2) ∧ (set3 W' gi k e).cell? ⟨wr.heap.size, 0, none⟩ = some (.slice pa vl.length ca) ∧ (set3 W' gi k e).cell? ⟨wr.heap.size, 1, none⟩ = some (.int .i64 f) ∧ (set3 W' gi k e).cell? ⟨wr.heap.size, 2, none⟩ = some (.int .i64 t) ∧ (set3 W' gi k e).cell? ⟨w.heap.size, 7, none⟩ = some (.slice (some ⟨gs, 0, none⟩) ssn sc)) := fun W' e k7 => by
        obtain ⟨q1, q2, q3, q4⟩ := HFx.out W' k7
        have kk := set3_keep W' gi k e
        have e1 := HSz.out
        have m1 := q1.keep kk (by omega)
        have m2 := q3.keep kk (by omega)
        have m3 := q2.keep kk (by omega)
        exact ⟨m1.cell 2, m2.cell 0, m2.cell 1, m2.cell 2, m3.cell 7⟩
      have hS0 := HS5.out _ K0
      clear d0 d1 d2
      go_region_held3 (fun W' => W'.cell? ⟨w2.heap.size, 2, none⟩ = some (.slice (some ⟨gi, 0, none⟩) e2.length c2) ∧ W'.cell? ⟨wr.heap.size, 0, none⟩ = some (.slice pa vl.length ca) ∧ W'.cell? ⟨wr.heap.size, 1, none⟩ = some (.int .i64 f) ∧ W'.cell? ⟨wr.heap.size, 2, none⟩ = some (.int .i64 t) ∧ W'.cell? ⟨w.heap.size, 7, none⟩ = some (.slice (some ⟨gs, 0, none⟩) ssn sc)) (first | exact hS0 | exact HS5.out _ K1 | exact HS6.out _ (.slice (some ⟨g7, 0, none⟩) (setsV cs ss vl).length (setsV cs ss vl).length, setsV cs ss vl, f, t) K1) (first
        | (go_at_call 16; (with_reducible refine (HK16.out _ K0).mono ?_); rintro e w7 ⟨g7, rfl, hg7, hb7, hB7⟩; have K1 := bmore K0 hB7; obtain ⟨z0, z1, z2⟩ := ownR_at3 (HFx.out _ K1).2.2.2 HIe.out; have f0 := ownR_frozen (HFx.out _ K1).2.2.2 (k * 3); have f1 := ownR_frozen (HFx.out _ K1).2.2.2 (k * 3 + 1); have f2 := ownR_frozen (HFx.out _ K1).2.2.2 (k * 3 + 2); have HG7 : Hid (W6.heap.size ≤ g7) := hg7; have Hb7 : Hid _ := hb7; have HK1 : Hid (Below W6.heap.size W6 w7) := K1; simp only at z0 z1 z2; clear hg7 hb7 hB7))
      go_wp2_with fail
      go_roundw
      case rel =>
        have e1 := HSz.out
        have e2' := HG7.out
        have hset := ownR_set3 (k := k) (HFx.out _ HK1.out).2.2.2 (by rw [hlen]; exact hkM) (.slice (some ⟨g7, 0, none⟩) (setsV cs ss vl).length (setsV cs ss vl).length, setsV cs ss vl, f, t) (SV.blk Hb7.out (by omega))
        have hkp : Keep (fun q => (Value.slice (some ⟨gi, 0, none⟩) e2.length c2).ownBlock = some q) W5 (set3 w7 gi k (.slice (some ⟨g7, 0, none⟩) (setsV cs ss vl).length (setsV cs ss vl).length, setsV cs ss vl, f, t)) := (HK6.out.trans (Keep.of HK1.out) (fun _ _ h => h)).trans (set3_keep w7 gi k _) (fun q _ h => by rw [h]; rfl)
        have hrw : rws (ies.set k (.slice (some ⟨g7, 0, none⟩) (setsV cs ss vl).length (setsV cs ss vl).length, setsV cs ss vl, f, t)) = setK cs ss (inR a b (rws es)) (k + 1) := by
          rw [setK_step HIr.out, ← hR.out]
          simp [rws, List.map_set, setR]
        unfold set3 at hset hkp
        exact ⟨k + 1, _, by simp, by show _ ≤ _; omega, hset, hrw, hkp⟩
      case measure => simp only [intOf]; omega
    · have hki : ¬ (k : Int) < (e2.length : Int) := by omega
      have hz := HZ.out
      have hRa : rws ies = (inR a b (rws es)).map (setR cs ss) := by rw [hR.out, setK_all _ _ _ (by rw [← HN2.out]; omega)]
      have hBw : Below W1.heap.size W1 wr := HB5.out.trans (hKk.out.below HB5.out.size (fun i hi q => by have := (HOw.out i q).1; omega))
      have q0 := P0.out wr hKk.out
      have q1 := P1.out wr hKk.out
      have b8 := Blk.keep H8.out hKk.out (fun q => by have := (HOw.out _ q).2; omega)
      have HWB : Hid (Below w.heap.size w wr) := bmore HB.out hBw
      have hil : ies.length ≤ 20 := by
        have h1 := congrArg List.length hRa
        rw [List.length_map, ← HN2.out] at h1
        simp [rws] at h1
        omega
      have HK17 : Hid (∀ W', Below (wr.alloc (.cells #[.slice a0 e0.length c0, .slice a1 e1.length c1, .slice a2 e2.length c2] 31)).heap.size (wr.alloc (.cells #[.slice a0 e0.length c0, .slice a1 e1.length c1, .slice a2 e2.length c2] 31)) W' → Calls Try.prog 17 #[.slice (some ⟨wr.heap.size, 0, none⟩) 3 3] W' (LPost W' (canonR (missR a b (rws es) ++ (outR a b (rws es) ++ (inR a b (rws es)).map (setR cs ss)))))) := fun W' k => by
        have hL := (Ls.three (q0.ownR hBw).rl (q1.ownR hBw).rl (OwnR.rl hO.out)).below k
        have hl0 := q0.len
        have hl1 := q1.len
        have hq0 := HLl.out 0
        have hq1 := HLl.out 1
        have hlv := HLv.out
        have hn := HN2.out
        have := together17 hL (by simp) (by simp only [cat, List.flatMap_cons, List.flatMap_nil, List.length_append, List.length_nil]; simp [lists] at hq0 hq1; omega) (fun e he => by
          simp only [cat, List.flatMap_cons, List.flatMap_nil, List.append_nil, List.mem_append] at he
          rcases he with he | he | he
          · exact q0.vals_le hlv.1 e he
          · exact q1.vals_le hlv.2.1 e he
          · exact rws_vals hRa (fun r hr => by
              obtain ⟨x, hx, rfl⟩ := List.mem_map.1 hr
              show (setsV cs ss x.1).length ≤ 1000
              rw [setsV_len]
              exact hlv.2.2 x hx) e he)
        simp only [List.flatMap_cons, List.flatMap_nil, List.append_nil, q0.rows, q1.rows, hRa] at this
        exact this
      have HS : Hid (∀ W', Below wr.heap.size wr W' → W'.cell? ⟨w2.heap.size, 0, none⟩ = some (.slice a0 e0.length c0) ∧ W'.cell? ⟨w2.heap.size, 1, none⟩ = some (.slice a1 e1.length c1) ∧ W'.cell? ⟨w2.heap.size, 2, none⟩ = some (.slice a2 e2.length c2)) := fun W' k => ⟨(b8.below k).cell 0, (b8.below k).cell 1, (b8.below k).cell 2⟩
      have K0 : Below wr.heap.size wr wr.drew := (Below.refl _ _).drew
      have hS0 := HS.out _ K0
      clear q0 q1 b8 hBw hRa hil
      go_wp2_with fail
      go_region_held3 (fun W' => W'.cell? ⟨w2.heap.size, 0, none⟩ = some (.slice a0 e0.length c0) ∧ W'.cell? ⟨w2.heap.size, 1, none⟩ = some (.slice a1 e1.length c1) ∧ W'.cell? ⟨w2.heap.size, 2, none⟩ = some (.slice a2 e2.length c2)) (first | exact hS0 | exact HS.out _ K1 | exact HS.out _ (bmore (al _ _) (Below.drew (Below.refl _ _))) | exact HS.out _ (al _ _)) (first
        | (go_at_call 17; (with_reducible refine (HK17.out _ (Below.drew (Below.refl _ _))).mono ?_); rintro e w6 ⟨v6, x6, rfl, hO6, hE6, hB6⟩; have K1 := bmore (al wr (.cells #[.slice a0 e0.length c0, .slice a1 e1.length c1, .slice a2 e2.length c2] 31)) (bmore (Below.drew (Below.refl _ _)) hB6); have HO6 : Hid _ := hO6; have HE6 : Hid _ := hE6; have HB6 : Hid (Below wr.heap.size wr w6) := K1; clear hO6 hE6 hB6))
      go_wp2_with fail
      refine bodyPost_ret (v := .tuple #[v6, .int .i64 (e2.length : Int)]) (by simp [results, Try.results5, go_sem]) rfl ⟨v6, x6, by rw [← HN2.out], HO6.out.base ?_, HE6.out, bmore HWB.out HB6.out⟩
      exact Nat.le_trans HWB.out.size (by simp)
end Go.Proofs.Ythalgnfffcimhaa
