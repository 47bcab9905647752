/- Canon. -/
import Derived.Test.YthalgnfffcimhaaCa
namespace Go.Proofs.Ythalgnfffcimhaa
open Go.RowKit Go.Shelf
set_option maxRecDepth 100000
attribute [local go_sem] Oper.semAt_some
set_option maxHeartbeats 4000000 in
theorem canon7 {w : World} {X : Nat → Prop} {v : Value} {es : List El} (h : RL w X v es) (hl : es.length ≤ 100) (hv : ∀ e ∈ es, e.2.1.length ≤ 1000) :
    Calls Try.prog 4 #[v] w (LPost w (canonR (rws es))) := by
  obtain ⟨a, c0, rfl⟩ := h.form
  have kA : Below w.heap.size w (w.alloc (.cells #[.slice none 0 0] 31)) := al _ _
  have b0 := blk_new w [.slice none 0 0] 31
  change Blk (w.alloc (.cells #[.slice none 0 0] 31)) _ _ _ at b0
  have k17 := sorted17 (h.below kA) (by omega) hv
  refine (callsIn_wide (n := 0)).1 (callsIn_of_wp_marks Try.func4 rfl trivial (wpIn_wide.2 ?_) rfl)
  simp only [Try.ntmps4, List.size_toArray, List.length_cons, List.length_nil, Nat.reduceAdd, Nat.reduceSub, Array.replicate_succ, Array.replicate_zero, List.push_toArray, List.append_toArray, List.nil_append, List.cons_append]
  have HL : Hid _ := hl
  have HV : Hid _ := hv
  have Hb0 : Hid (Blk (w.alloc (.cells #[.slice none 0 0] 31)) w.heap.size [.slice none 0 0] 31) := b0
  have HkA : Hid _ := kA
  clear h hl hv b0 kA
  go_wp2_with (first
    | (go_at_call 11; (with_reducible refine k17.mono ?_); rintro e w2 ⟨v2, es2, rfl, hn2, hO2, hE2, hB2⟩; obtain ⟨g, c, rfl, hc, hBg, hg⟩ := hO2.some hn2)
    | (go_at_call 10; (with_reducible refine (byValues16 _ _ _ _).mono ?_); rintro e w3 ⟨rfl, rfl⟩))
  have HB3 : Hid (Below w.heap.size w (w2.alloc (.cells #[.slice (some ⟨g, 0, none⟩) es2.length c] 31))) := bmore (bmore HkA.out hB2) (al _ _)
  have Hb2 : Hid (Blk w2 w.heap.size [.slice none 0 0] 31) := Blk.below Hb0.out hB2
  have Hb3 : Hid (Blk (w2.alloc (.cells #[.slice (some ⟨g, 0, none⟩) es2.length c] 31)) w.heap.size [.slice none 0 0] 31) := Blk.below Hb2.out (al _ _)
  have HR3 : Hid (RL (w2.alloc (.cells #[.slice (some ⟨g, 0, none⟩) es2.length c] 31)) (fun b => (b = w.heap.size ∨ False) ∨ (w2.alloc (.cells #[.slice (some ⟨g, 0, none⟩) es2.length c] 31)).heap.size ≤ b) (.slice (some ⟨g, 0, none⟩) es2.length c) es2) := (RL.below (RL.not (OwnR.rl hO2) Hb2.out) (al _ _)).bound
  have Hbx : Hid (Blk (w2.alloc (.cells #[.slice (some ⟨g, 0, none⟩) es2.length c] 31)) w2.heap.size [.slice (some ⟨g, 0, none⟩) es2.length c] 31) := blk_new w2 _ _
  have HS2 : Hid (w2.heap.size < (w2.alloc (.cells #[.slice (some ⟨g, 0, none⟩) es2.length c] 31)).heap.size ∧ w.heap.size < w2.heap.size) := ⟨by simp, Blk.lt Hb2.out⟩
  have HE2 : Hid (rws es2 = sortR (rws es)) := hE2
  have hN2 : es2.length ≤ 100 := by
    have h1 := congrArg List.length hE2
    have h2 := (sortR_perm (rws es)).length_eq
    have := HL.out
    simp [rws] at h1 h2; omega
  have HV2 : Hid (∀ e ∈ es2, e.2.1.length ≤ 1000) := fun e he => by
    have : e.2 ∈ rws es2 := List.mem_map.2 ⟨e, he, rfl⟩
    rw [hE2] at this
    obtain ⟨x, hx, hq⟩ := List.mem_map.1 ((sortR_perm (rws es)).mem_iff.1 this)
    rw [← hq]
    exact HV.out x hx
  have HC : Hid (es2.length ≤ c) := hc
  generalize w2.alloc (.cells #[.slice (some ⟨g, 0, none⟩) es2.length c] 31) = W3 at *
  clear hO2 hE2 hB2 k17 hBg hg hn2 hc
  refine wpIn_wide.1 (wpIn_range0 (a := { tmps := #[.slice a es.length c0, undef, .slice none 0 0, .pointer (some ⟨w.heap.size, 0, none⟩), undef, undef, undef, .slice a es.length c0, .slice (some ⟨g, 0, none⟩) es2.length c, .func (.func 22) #[] #[.pointer (some ⟨w2.heap.size, 0, none⟩)], undef, undef, undef, undef, undef, undef, undef, undef, undef, undef, undef, undef, undef, undef, undef, undef, undef, undef, undef, undef, undef], defers := [] }) (gf := 22) (lb := #[.pointer (some ⟨w2.heap.size, 0, none⟩)]) rfl eg33 rfl (enc := encB g 0 c) (xs := cuts (vls es2)) (G := fun k => k ≠ w.heap.size ∧ k < W3.heap.size)
    (fun W1 k => runs33 (Blk.below Hbx.out k) ⟨Nat.ne_of_gt HS2.out.2, HS2.out.1⟩ ((RL.below HR3.out k).mono (fun b _ h => ?gx)) HC.out (by omega) HV2.out) (fun b h => h.2)
    (CW w w.heap.size (fun k => k ≠ w.heap.size ∧ k < W3.heap.size) g c es2) (fun _ _ _ _ => False) (fun O pre W h => h.lt) (CW.abide (fun b h => h.2) HB3.out.size) (fun c => fun O' q W1 W2 h k => h)
    (fun b => b = w.heap.size) (fun b h => ⟨fun q => q.1 h, by rw [h]; exact Blk.lt Hb3.out⟩) ⟨⟨.slice none 0 0, [], ⟨Hb3.out, OwnR.nil _ _, by simp [Value.ownBlock], fun e he => by cases he⟩, rfl, rfl, fun b hb => by simp [Value.ownBlock] at hb, fun e he => (by cases he), by simp⟩, HR3.out.mono (fun b _ h => ?gy), HB3.out, fun b h => by rw [h]; exact Blk.lt Hb3.out, fun b h q => q.1 h, fun b h => by rw [h]; exact Nat.le_refl _⟩ (fun x => { tmps := #[.slice a es.length c0, undef, .slice none 0 0, .pointer (some ⟨w.heap.size, 0, none⟩), encB g 0 c x, undef, undef, .slice a es.length c0, .slice (some ⟨g, 0, none⟩) es2.length c, .func (.func 22) #[] #[.pointer (some ⟨w2.heap.size, 0, none⟩)], encB g 0 c x, undef, undef, undef, undef, undef, undef, undef, undef, undef, undef, undef, undef, undef, undef, undef, undef, undef, undef, undef, undef], defers := [] }) ?assign ?body ?done ?stop)
  case gx => by_cases hq : b = w.heap.size; exact .inl (.inl hq); exact .inr (Nat.le_of_not_lt (fun hh => h ⟨hq, hh⟩))
  case gy => by_cases hq : b = w.heap.size; exact .inl (.inl hq); exact .inr (Nat.le_of_not_lt (fun hh => h ⟨hq, hh⟩))
  case assign =>
    intro l' x' W' K hK
    gi_wp2
    exact hK
  case body =>
    intro l' O pre x W' hI hle hpre
    obtain ⟨i, j⟩ := x
    obtain ⟨hij, hjN⟩ : i < j ∧ j ≤ es2.length := by
      have := cutsF_mem (vls es2) _ _ (i, j) (hpre.subset (by simp))
      simpa [vls] using this
    have hpl : pre.length ≤ 100 := by
      have h1 := hpre.length_le
      have h2 := cutsF_len (vls es2) (vls es2).length 0
      simp [cuts, vls] at h1 h2
      omega
    obtain ⟨⟨cv, ce, h1, h2, h3, h4, h5, h6⟩, hr, hkk, hl, hdis, hbase⟩ := hI
    have hRP := RL.part (i := i) (j := j) hr (by omega) hjN
    obtain ⟨ge, hge⟩ : ∃ l, (es2.drop i).take (j - i) = l := ⟨_, rfl⟩
    have hgl : ge.length = j - i := by rw [← hge]; simp; omega
    rw [hge, Nat.zero_add] at hRP
    obtain ⟨e0, he0⟩ : ∃ e, es2[i]? = some e := ⟨_, List.getElem?_eq_getElem (by omega)⟩
    have HSp : Hid (canonX (rws es2) (i, j) = (joinS (spn ge)).map fun s => (e0.2.1, s)) := by
      show _ = _
      unfold canonX run
      rw [show (rws es2)[i]? = some e0.2 by rw [rws, List.getElem?_map, he0]; rfl, ← hge]
      simp [spn, rws, List.map_take, List.map_drop, Function.comp_def]
    have hc0 := (hr.at3 he0).1
    rw [Nat.zero_add] at hc0
    have HSV0 : Hid (SV W' (fun k => ¬ (k ≠ w.heap.size ∧ k < W3.heap.size)) e0.1 e0.2.1) := hr.vals e0 (List.mem_of_getElem? he0)
    have HLe0 : Hid (e0.2.1.length ≤ 1000) := HV2.out e0 (List.mem_of_getElem? he0)
    have hgW : g < W'.heap.size := World.block_lt_of_cell? W' _ hc0
    have hgG : ¬ O g := fun h => by
      obtain ⟨g', o', hq, hg', hx, _⟩ := hr.get he0
      simp only [Option.some.injEq, Addr.mk.injEq] at hq
      obtain ⟨rfl, _⟩ := hq
      exact hx (hdis g h)
    have k19 := spans19 hRP (by rw [hgl]; omega)
    obtain ⟨sv0, vs, f0, t0⟩ := e0
    simp only at HSp hc0 HSV0 HLe0
    obtain ⟨pa, ca, rfl⟩ := SV.form HSV0.out
    have H1 : Hid (CI W' w.heap.size w.heap.size cv ce) := h1
    have H2 : Hid (rws ce = canonG (rws es2) pre) := h2
    have H3 : Hid (O w.heap.size) := h3
    have H4 : Hid (∀ b, cv.ownBlock = some b → O b) := h4
    have H5 : Hid (∀ e ∈ ce, SV W' (fun b => ¬ O b) e.1 e.2.1) := h5
    have H6 : Hid (ce.length ≤ pre.length * 100) := h6
    have HR : Hid _ := hr
    have HKK : Hid (Below w.heap.size w W') := hkk
    have HLt : Hid (∀ b, O b → b < W'.heap.size) := hl
    have HDis : Hid (∀ b, O b → ¬ (b ≠ w.heap.size ∧ b < W3.heap.size)) := hdis
    have HBase : Hid (∀ b, O b → w.heap.size ≤ b) := hbase
    have HgG : Hid (¬ O g) := hgG
    have HgW : Hid (g < W'.heap.size) := hgW
    have Hc0 : Hid (W'.cell? ⟨g, i * 3, none⟩ = some (.slice pa vs.length ca)) := hc0
    have Hgl : Hid (ge.length = j - i) := hgl
    have hm : (0 : Int) < ((j - i : Nat) : Int) := by omega
    clear h1 h2 h3 h4 h5 h6 hr hkk hl hdis hbase hgG hgW hc0 hRP he0 hge hgl
    rw [show encB g 0 c (i, j) = .slice (some ⟨g, i * 3, none⟩) (j - i) (c - i) by simp [encB]]
    gi_wp2
    refine ⟨trivial, rfl, (CallsIn.inRound l' ((callsIn_wide (n := 0)).2 k19)).mono ?_⟩
    rintro e w5 ⟨v5, rfl, hO5, hB5⟩
    have k18 := Sp.join24 v5 _ w5 (by have := Hgl.out; simp [spn]; omega) hO5.srow
    have HO5 : Hid (Sp.Own w5 W'.heap.size v5 (spn ge)) := hO5
    obtain ⟨p5, c5, hv5, _⟩ := hO5.open
    subst hv5
    clear hO5
    gi_wp2
    refine ⟨trivial, rfl, (CallsIn.inRound l' ((callsIn_wide (n := 0)).2 k18)).mono ?_⟩
    rintro e w6 ⟨v6, ys, rfl, hCa, hPt, hYl, hO6, hB6⟩
    obtain ⟨pj, cj, hv6, hOp⟩ := hO6.open
    subst hv6
    gi_wp2
    have HYs : Hid (ys = joinS (spn ge)) := joinS_eq hCa hPt
    have HB6 : Hid (Below W'.heap.size W' w6) := bmore hB5 hB6
    obtain ⟨M, hM⟩ : ∃ M, ys.length = M := ⟨_, rfl⟩
    have HM : Hid (ys.length = M) := hM
    have hM1 : M ≤ 100 := by have := Hgl.out; simp [spn] at hYl; omega
    have HOp : Hid (0 < M → ∃ jb, pj = some ⟨jb, 0, none⟩ ∧ W'.heap.size ≤ jb ∧ jb < w6.heap.size ∧ ∀ (i : Nat) (x : Int × Int), ys[i]? = some x → w6.cell? ⟨jb, i * 2, none⟩ = some (.int .i64 x.1) ∧ w6.cell? ⟨jb, i * 2 + 1, none⟩ = some (.int .i64 x.2)) := fun h0 => by
      obtain ⟨jb, q1, q2, q3, q4⟩ := hOp (by rw [hM]; exact h0)
      exact ⟨jb, q1, Nat.le_trans hB5.size q2, q3, q4⟩
    rw [hM]
    clear hB5 hB6 hCa hPt hYl hO6 hOp k18 k19 hM
    gi_loopw [15] (fun fi wr => ∃ (k : Nat) (cv1 : Value) (ce1 : List El), fi = .int .i64 (k : Int) ∧ Hid (k ≤ M) ∧ Hid (CI wr w.heap.size w.heap.size cv1 (ce ++ ce1)) ∧ Hid (rws ce1 = (ys.take k).map fun s => (vs, s)) ∧ Hid (Keep O w6 wr) ∧ Hid (∀ b, cv1.ownBlock = some b → O b ∨ W'.heap.size ≤ b ∧ (b < w6.heap.size → cv.ownBlock = some b)) ∧ Hid (∀ e ∈ ce1, ∃ wx, SV wx (fun b => b < W'.heap.size) e.1 e.2.1)) (fun fi _ => ((M : Int) - intOf fi).toNat)
    case atStart => exact ⟨0, cv, [], rfl, Nat.zero_le _, by show CI _ _ _ _ _; rw [List.append_nil]; exact H1.out.below HB6.out, rfl, Keep.refl _ _, fun b hb => .inl (H4.out b hb), fun e he => by cases he⟩
    case round =>
      obtain ⟨k, cv1, ce1, rfl, hk, hCI, hE1, hKp, hOw, hHi⟩ := hrel
      by_cases hkM : k < M
      · have hki : (k : Int) < (M : Int) := by omega
        have hk0 : (0 : Int) ≤ (k : Int) := by omega
        obtain ⟨jb, rfl, hj1, hj2, hjc⟩ := HOp.out (by omega)
        obtain ⟨⟨f, t⟩, hy⟩ : ∃ y, ys[k]? = some y := ⟨_, List.getElem?_eq_getElem (by rw [HM.out]; exact hkM)⟩
        have hnj : ¬ O jb := fun h => by have := HLt.out jb h; omega
        have d0 := (hKp.out.cell hj2 hnj).trans (hjc k _ hy).1
        have d1 := (hKp.out.cell hj2 hnj).trans (hjc k _ hy).2
        simp only at d0 d1
        have hIq := hCI.out.below (al wr (.cells #[.int .i64 f, .int .i64 t] 27))
        have hbq := blk_new wr [.int .i64 f, .int .i64 t] 27
        change Blk (wr.alloc (.cells #[.int .i64 f, .int .i64 t] 27)) _ _ _ at hbq
        have hgc : (wr.alloc (.cells #[.int .i64 f, .int .i64 t] 27)).cell? ⟨g, i * 3, none⟩ = some (.slice pa vs.length ca) := by
          rw [(al wr (.cells #[.int .i64 f, .int .i64 t] 27)).cell (p := ⟨g, i * 3, none⟩) (by have := HgW.out; have := HB6.out.size; have := hKp.out.size; simp; omega), hKp.out.cell (by have := HgW.out; have := HB6.out.size; omega) HgG.out, HB6.out.cell (p := ⟨g, i * 3, none⟩) HgW.out]
          exact Hc0.out
        have hsvq : SV (wr.alloc (.cells #[.int .i64 f, .int .i64 t] 27)) (fun k => ¬ (k ≠ w.heap.size ∧ k < W3.heap.size)) (.slice pa vs.length ca) vs := (SV.keep (SV.below HSV0.out HB6.out) (hKp.out.mono (fun b _ h => HDis.out b h)) (fun _ _ h => h)).below (al _ _)
        have hlenq : (ce ++ ce1).length ≤ 100000 := by
          have q1 := congrArg List.length hE1.out
          have q2 := H6.out
          simp [rws] at q1 ⊢
          omega
        have HIq : Hid _ := hIq
        have Hbq : Hid (Blk (wr.alloc (.cells #[.int .i64 f, .int .i64 t] 27)) wr.heap.size [.int .i64 f, .int .i64 t] 27) := hbq
        have Hgc : Hid _ := hgc
        have HSq : Hid _ := hsvq
        have HLq : Hid _ := hlenq
        have Hy : Hid _ := hy
        have HKq : Hid (Keep O w6 (wr.alloc (.cells #[.int .i64 f, .int .i64 t] 27))) := hKp.out.trans (Keep.of (al _ _)) (fun _ _ h => h)
        have HSz : Hid (wr.heap.size < (wr.alloc (.cells #[.int .i64 f, .int .i64 t] 27)).heap.size ∧ W'.heap.size ≤ wr.heap.size ∧ w6.heap.size ≤ wr.heap.size ∧ w.heap.size ≤ W'.heap.size) := ⟨by simp, Nat.le_trans HB6.out.size hKp.out.size, hKp.out.size, HKK.out.size⟩
        have Hj : Hid (∀ (i : Nat) (x : Int × Int), ys[i]? = some x → w6.cell? ⟨jb, i * 2, none⟩ = some (.int .i64 x.1) ∧ w6.cell? ⟨jb, i * 2 + 1, none⟩ = some (.int .i64 x.2)) := hjc
        have Hj2 : Hid (jb < w6.heap.size ∧ W'.heap.size ≤ jb ∧ ¬ O jb) := ⟨hj2, hj1, hnj⟩
        clear hIq hbq hgc hsvq hlenq hy hjc hj1 hj2 hnj
        gi_wp2
        refine reg7 (X := fun k => ¬ (k ≠ w.heap.size ∧ k < W3.heap.size)) (B := w.heap.size) HIq.out (by have := HSz.out; omega) HLq.out hm (by have := HgW.out; have := HSz.out; omega) (fun q => (hOw.out g q.symm).elim HgG.out (fun q => by have := HgW.out; omega)) Hgc.out Hbq.out HSz.out.1 (fun q => by have := (hCI.out.own.row.lt _ q.symm).2; omega) HSq.out HLe0.out ?_
        intro v24 v26 v27 v28 w' e he hCI' hSV' hKp' hOw'
        gi_wp2
        go_roundw
        case rel =>
          have hz := HSz.out
          refine ⟨k + 1, v28, ce1 ++ [e], by simp, by show _ ≤ _; omega, by show CI _ _ _ _ _; rw [← List.append_assoc]; exact hCI', ?_, HKq.out.trans hKp' (fun b hb q => q.elim (fun q => by rw [q]; exact H3.out) (fun q => (hOw.out b q).elim id (fun q2 => H4.out b (q2.2 hb)))), fun b q => (hOw' b q).elim (hOw.out b) (fun q2 => .inr ⟨by omega, fun h => by omega⟩), ?_⟩
          · show _ = _
            rw [List.take_add_one, Hy.out]
            simp only [rws, List.map_append, List.map_cons, List.map_nil, he, Option.toList_some]
            rw [← rws, hE1.out]
          · intro e' he'
            rcases List.mem_append.1 he' with he' | he'
            · exact hHi.out e' he'
            · simp only [List.mem_singleton] at he'
              subst he'
              exact ⟨w', hSV'.mono (fun b _ h => by omega)⟩
        case measure => simp only [intOf]; omega
      · have hki : ¬ (k : Int) < (M : Int) := by omega
        have KW : Keep O W' wr := (Keep.of HB6.out).trans hKp.out (fun _ _ h => h)
        have HKW : Hid _ := KW
        clear KW
        gi_wp2
        have hsz := HKW.out.size
        have hsz2 := HKK.out.size
        refine ⟨fun b => O b ∨ (W'.heap.size ≤ b ∧ b < wr.heap.size), ⟨⟨cv1, ce ++ ce1, hCI.out, ?_, .inl H3.out, fun b hb => (hOw.out b hb).imp id (fun q => ⟨q.1, (hCI.out.own.row.lt b hb).2⟩), ?_, ?_⟩, ?_, ?_, ?_, ?_, ?_⟩, fun b h => h.imp id (·.1), HKW.out⟩
        · rw [show rws (ce ++ ce1) = rws ce ++ rws ce1 by simp [rws], H2.out, canonG_snoc, HSp.out, hE1.out, List.take_of_length_le (by rw [HM.out]; omega), HYs.out]
        · intro e he
          rcases List.mem_append.1 he with he' | he'
          · exact ((H5.out e he').also (hCI.out.vals e he)).mono (fun b _ h q => h (.inl q))
          · obtain ⟨wx, hx⟩ := hHi.out e he'
            refine ((hx.also (hCI.out.vals e he)).bound).mono (fun b _ h => ?_)
            by_cases q : b < W'.heap.size
            · exact .inl q
            · exact .inr (Nat.le_of_not_lt (fun q2 => h (.inr ⟨by omega, q2⟩)))
        · have q1 := congrArg List.length hE1.out
          have q2 := H6.out
          have q3 := hk.out
          have q4 := HM.out
          simp [rws] at q1 ⊢
          omega
        · exact HR.out.keep (HKW.out.mono (fun b _ h => HDis.out b h)) (fun _ _ h => h)
        · exact HKK.out.trans (HKW.out.below HKK.out.size (fun i hi h => by have := HBase.out i h; omega))
        · exact fun b h => h.elim (fun h => Nat.lt_of_lt_of_le (HLt.out b h) hsz) (·.2)
        · exact fun b h q => h.elim (fun h => HDis.out b h q) (fun h => by omega)
        · exact fun b h => h.elim (HBase.out b) (fun h => by omega)
  case stop =>
    rintro D c O' pre W' _ _ _ h
    exact h.elim
  case done =>
    rintro D O' W' hD nD hI hgr hk hd
    obtain ⟨⟨cv, ce, h1, h2, h3, h4, h5, h6⟩, hr, hkk, hl, hdis, hbase⟩ := hI
    have zt := h1.blk.cell 0
    simp only [List.getElem?_cons_zero] at zt
    have HD : Hid (w.heap.size ≤ D) := Nat.le_trans HB3.out.size hD
    have HO : Hid (∀ w', Keep (· ∈ [D]) W' w' → OwnR w' w.heap.size cv ce) := fun w' k => by
      refine ⟨owns_keep h1.own.row (fun j hj => k.block j (h1.own.row.lt j hj).2 (fun q => nD (by simp at q; rw [← q]; exact h4 j hj))), fun e he => ?_⟩
      exact sv_both (h1.own.vals e he) ((h5 e he).mono (fun b _ q => by simp at q; rw [q]; exact nD)) k
    have HF : Hid (rws ce = canonR (rws es)) := by
      show _ = _
      rw [h2, canonR, ← HE2.out, show vls es2 = (rws es2).map (·.1) by simp [vls, rws]]
    have HK : Hid _ := hkk
    have Hd : Hid _ := hd
    obtain ⟨ac, nc, cc, rfl⟩ := h1.own.form
    clear h1 h2 h3 h4 h5 h6 hr hkk hl hdis hbase hgr hk hd hD
    go_wp2
    refine leave_marks [D] _ (fun w' k => ⟨results_tmp rfl _ _ _, .slice ac nc cc, ce, rfl, HO.out w' k, HF.out, HK.out.trans (k.below (HK.out.size) (fun i hi h => by have := HD.out; simp at h; omega))⟩) (fun D' h => by simp at h; subst h; exact Hd.out) (by simp)
end Go.Proofs.Ythalgnfffcimhaa
