/- looked: each row, and whether it is hit. -/
import Derived.Test.YthalgnfffcimhaaPa
import Derived.Deep.Cut
namespace Go.Proofs.Ythalgnfffcimhaa
open Go.RowKit Go.Shelf
set_option maxRecDepth 100000
/-- What the closure holds. -/
structure LK (W : World) (q3 q7 q5 q4 : Nat) (v : Value) (a b : Int) (sl : List Value) (vc : Value) : Prop where
  rows : Blk W q3 [v] 31
  span : Blk W q7 [.int .i64 a, .int .i64 b] 27
  stmt : Blk W q5 sl 47
  cols : Blk W q4 [vc] 35
theorem LK.below {W W' : World} {q3 q7 q5 q4 : Nat} {v : Value} {a b : Int} {sl : List Value} {vc : Value} (h : LK W q3 q7 q5 q4 v a b sl vc) (k : Below W.heap.size W W') : LK W' q3 q7 q5 q4 v a b sl vc := ⟨h.rows.below k, h.span.below k, h.stmt.below k, h.cols.below k⟩
theorem LK.keep {W W' : World} {q3 q7 q5 q4 : Nat} {v : Value} {a b : Int} {sl : List Value} {vc : Value} {F : Nat → Prop} (h : LK W q3 q7 q5 q4 v a b sl vc) (k : Keep F W W') (hF : ¬ F q3 ∧ ¬ F q7 ∧ ¬ F q5 ∧ ¬ F q4) : LK W' q3 q7 q5 q4 v a b sl vc := ⟨h.rows.keep k hF.1, h.span.keep k hF.2.1, h.stmt.keep k hF.2.2.1, h.cols.keep k hF.2.2.2⟩
def LKPost (w : World) (v : Value) (a b : Int) (sl : List Value) (vc : Value) (e : Ending) (w' : World) : Prop := ∃ q3 q7 q5 q4, e = .returned (.func (.func 42) #[] #[.pointer (some ⟨q3, 0, none⟩), .pointer (some ⟨q7, 0, none⟩), .pointer (some ⟨q5, 0, none⟩), .pointer (some ⟨q4, 0, none⟩)]) ∧ LK w' q3 q7 q5 q4 v a b sl vc ∧ (w.heap.size ≤ q3 ∧ w.heap.size ≤ q7 ∧ w.heap.size ≤ q5 ∧ w.heap.size ≤ q4) ∧ Below w.heap.size w w'
theorem lk_of {w W3 W : World} {v vc : Value} {sl : List Value} {a b : Int} (h3 : Blk W3 w.heap.size [v] 31) (h4 : Blk W3 (w.heap.size + 1) [vc] 35) (h5 : Blk W3 (w.heap.size + 1 + 1) sl 47) (hb : Below w.heap.size w W3) (k : Below W3.heap.size W3 W) :
    LKPost w v a b sl vc (.returned (.func (.func 42) #[] #[.pointer (some ⟨w.heap.size, 0, none⟩), .pointer (some ⟨W.heap.size, 0, none⟩), .pointer (some ⟨w.heap.size + 1 + 1, 0, none⟩), .pointer (some ⟨w.heap.size + 1, 0, none⟩)])) (W.alloc (.cells #[.int .i64 a, .int .i64 b] 27)) := by
  have k' := bmore k (al W (.cells #[.int .i64 a, .int .i64 b] 27))
  have kk : Below w.heap.size w W := bmore hb k
  exact ⟨w.heap.size, W.heap.size, w.heap.size + 1 + 1, w.heap.size + 1, rfl, ⟨h3.below k', blk_new W [.int .i64 a, .int .i64 b] 27, h5.below k', h4.below k'⟩, ⟨Nat.le_refl _, kk.size, by omega, by omega⟩, bal kk _⟩
theorem st_at (w : World) (v vc : Value) (sl : List Value) : Blk (((w.alloc (.cells #[v] 31)).alloc (.cells #[vc] 35)).alloc (.cells sl.toArray 47)) w.heap.size [v] 31 ∧ Blk (((w.alloc (.cells #[v] 31)).alloc (.cells #[vc] 35)).alloc (.cells sl.toArray 47)) (w.heap.size + 1) [vc] 35 ∧ Blk (((w.alloc (.cells #[v] 31)).alloc (.cells #[vc] 35)).alloc (.cells sl.toArray 47)) (w.heap.size + 1 + 1) sl 47 ∧ Below w.heap.size w (((w.alloc (.cells #[v] 31)).alloc (.cells #[vc] 35)).alloc (.cells sl.toArray 47)) := by
  refine ⟨((blk_new w [v] 31).below (al _ _)).below (al _ _), ?_, ?_, bal (bal (al _ _) _) _⟩
  · have := (blk_new (w.alloc (.cells #[v] 31)) [vc] 35).below (al _ (.cells sl.toArray 47))
    simpa using this
  · have := blk_new ((w.alloc (.cells #[v] 31)).alloc (.cells #[vc] 35)) sl 47
    simpa using this
theorem info47s : (Try.prog.info? 47).map (·.size) = some 20 := by kernel_rfl
theorem looked29 (av : Option Addr) (nv cv : Nat) (ac : Option Addr) (nc cc : Nat) (z : Nat → Value) (sets : Value) (pw : Option Addr) (cw : Nat) (a b : Int) (w : World) :
    Calls Try.prog 29 #[.slice av nv cv, .slice ac nc cc, stV z sets pw cw a b] w (LKPost w (.slice av nv cv) a b (stL z sets pw cw a b) (.slice ac nc cc)) := by
  obtain ⟨h3, h4, h5, hb⟩ := st_at w (.slice av nv cv) (.slice ac nc cc) (stL z sets pw cw a b)
  go_enter Try.func29, Try.ntmps29
  go_upto_region 1 with fail
  generalize World.alloc (World.alloc (World.alloc w _) _) _ = W3 at *
  have k28 := portionOf28 z sets pw cw a b W3
  have HP : Hid (∀ W, Below W3.heap.size W3 W → LKPost w (.slice av nv cv) a b (stL z sets pw cw a b) (.slice ac nc cc) (.returned (.func (.func 42) #[] #[.pointer (some ⟨w.heap.size, 0, none⟩), .pointer (some ⟨W.heap.size, 0, none⟩), .pointer (some ⟨w.heap.size + 1 + 1, 0, none⟩), .pointer (some ⟨w.heap.size + 1, 0, none⟩)])) (W.alloc (.cells #[.int .i64 a, .int .i64 b] 27))) := fun W k => lk_of h3 h4 h5 hb k
  clear h3 h4 hb
  go_wp2_with (first | (refine wpList_load_row (by rfl) 47 (.tmp 5) (by rfl) (w.heap.size + 1 + 1) (by rfl) 47 _ (0, 0) _ h5 Try.underlying47 rfl info47s ?_) | (go_at_call 28; (with_reducible refine k28.mono ?_); rintro e w1 ⟨rfl, hb1⟩; have H1 : Hid _ := HP.out _ hb1; clear hb1))
  go_ret
  exact H1.out
/-- A row, and whether it is hit. -/
def encL (a b : Int) (e : El) : Array Value := #[.agg #[e.1, .int .i64 e.2.2.1, .int .i64 e.2.2.2], .bool (Sp.bothB e.2.2.1 e.2.2.2 a b)]
set_option maxHeartbeats 1000000 in
theorem runs42 {W : World} {G : Nat → Prop} {q3 q7 q5 q4 : Nat} {av : Option Addr} {cv : Nat} {es : List El} {a b : Int} {z : Nat → Value} {sets : Value} {pw : Option Addr} {cw : Nat} {ac : Option Addr} {nc cc : Nat}
    (hK : LK W q3 q7 q5 q4 (.slice av es.length cv) a b (stL z sets pw cw a b) (.slice ac nc cc)) (hG : G q3 ∧ G q7 ∧ G q5 ∧ G q4) (hR : RL W (fun k => ¬ G k) (.slice av es.length cv) es) (hl : es.length ≤ 1000) :
    RunsA Try.prog 42 #[.pointer (some ⟨q3, 0, none⟩), .pointer (some ⟨q7, 0, none⟩), .pointer (some ⟨q5, 0, none⟩), .pointer (some ⟨q4, 0, none⟩)] (encL a b) es G W := by
  intro l O J Jx hO hJs hJ hJx hY h0
  obtain ⟨N, hN⟩ : ∃ N, es.length = N := ⟨_, rfl⟩
  have HN : Hid (es.length = N) := hN
  have HK : Hid (∀ W', Keep O W W' → LK W' q3 q7 q5 q4 (.slice av N cv) a b (stL z sets pw cw a b) (.slice ac nc cc) ∧ RL W' (fun k => ¬ G k) (.slice av N cv) es) := fun W' k => by
    rw [← hN]
    exact ⟨hK.keep k ⟨fun h => (hO _ h).1 hG.1, fun h => (hO _ h).1 hG.2.1, fun h => (hO _ h).1 hG.2.2.1, fun h => (hO _ h).1 hG.2.2.2⟩, hR.keep (k.mono (fun i _ h => (hO i h).1)) (fun _ _ h => h)⟩
  have HJ : Hid _ := hJ
  have HY : Hid _ := hY
  have H0 : Hid _ := h0
  rw [hN] at hl
  have hr0 := (HK.out _ (Keep.refl _ _)).1.rows.cell 0
  simp only [List.getElem?_cons_zero] at hr0
  clear hK hR hJs hJ hJx hY h0 hO hN hG
  refine callsIn_of_wp Try.func42 rfl trivial ?_ rfl
  simp only [Try.ntmps42, List.size_toArray, List.length_cons, List.length_nil, Nat.reduceAdd, Nat.reduceSub, Array.replicate_succ, Array.replicate_zero, List.push_toArray, List.append_toArray, List.nil_append, List.cons_append]
  gi_wp2
  gi_loopw [11] (fun p wr => ∃ (i : Nat) (O' : Nat → Prop), p = .int .i64 (i : Int) ∧ Hid (i ≤ N) ∧ Hid (J O' (es.take i) wr) ∧ Hid (Grew O O' W) ∧ Hid (Keep O W wr)) (fun p _ => ((N : Int) - intOf p).toNat)
  case atStart => exact ⟨0, O, rfl, Nat.zero_le _, H0.out, Grew.refl _ _, Keep.refl _ _⟩
  case round =>
    obtain ⟨i, O', rfl, hi, hj, hgr, hk⟩ := hrel
    by_cases hiN : i < N
    · have hii : (i : Int) < (N : Int) := by omega
      have hi0 : (0 : Int) ≤ (i : Int) := by omega
      obtain ⟨e, he⟩ : ∃ e, es[i]? = some e := ⟨_, List.getElem?_eq_getElem (by rw [HN.out]; exact hiN)⟩
      obtain ⟨hL, hR⟩ := HK.out _ hk.out
      obtain ⟨g, o, rfl, _, _, d0, d1, d2⟩ := hR.get he
      have HSV : Hid (SV wr (fun k => ¬ G k) e.1 e.2.1) := hR.vals e (List.mem_of_getElem? he)
      have HTk : Hid (es.take (i + 1) = es.take i ++ [e]) := by show _ = _; rw [List.take_add_one, he]; rfl
      obtain ⟨sv, vs, f, t⟩ := e
      simp only at d0 d1 d2 HSV HTk
      obtain ⟨pa, ca, rfl⟩ := SV.form HSV.out
      have hA := al wr (.cells #[.slice pa vs.length ca, .int .i64 f, .int .i64 t] 30)
      have b7 := blk_new wr [.slice pa vs.length ca, .int .i64 f, .int .i64 t] 30
      change Blk (wr.alloc (.cells #[.slice pa vs.length ca, .int .i64 f, .int .i64 t] 30)) _ _ _ at b7
      have HL : Hid (∀ W', Below (wr.alloc (.cells #[.slice pa vs.length ca, .int .i64 f, .int .i64 t] 30)).heap.size (wr.alloc (.cells #[.slice pa vs.length ca, .int .i64 f, .int .i64 t] 30)) W' → LK W' q3 q7 q5 q4 (.slice (some ⟨g, o, none⟩) N cv) a b (stL z sets pw cw a b) (.slice ac nc cc) ∧ Blk W' wr.heap.size [.slice pa vs.length ca, .int .i64 f, .int .i64 t] 30) := fun W' k => ⟨(hL.below hA).below k, b7.below k⟩
      have HA : Hid _ := hA
      have hx := (HL.out _ (Below.refl _ _)).1.span
      have x0 := hx.cell 0
      have x1 := hx.cell 1
      simp only [List.getElem?_cons_zero, List.getElem?_cons_succ] at x0 x1
      have k43 := Sp.overlaps43 f t a b (wr.alloc (.cells #[.slice pa vs.length ca, .int .i64 f, .int .i64 t] 30))
      clear hx b7 hL hR he hA
      have HFact : Hid (∀ W', Below (wr.alloc (.cells #[.slice pa vs.length ca, .int .i64 f, .int .i64 t] 30)).heap.size (wr.alloc (.cells #[.slice pa vs.length ca, .int .i64 f, .int .i64 t] 30)) W' → W'.cell? ⟨q5, 8, none⟩ = some (.slice pw 0 cw) ∧ W'.cell? ⟨q4, 0, none⟩ = some (.slice ac nc cc) ∧ W'.cell? ⟨wr.heap.size, 0, none⟩ = some (.slice pa vs.length ca) ∧ W'.cell? ⟨wr.heap.size, 1, none⟩ = some (.int .i64 f) ∧ W'.cell? ⟨wr.heap.size, 2, none⟩ = some (.int .i64 t)) := fun W' k => ⟨(HL.out W' k).1.stmt.cell 8, (HL.out W' k).1.cols.cell 0, (HL.out W' k).2.cell 0, (HL.out W' k).2.cell 1, (HL.out W' k).2.cell 2⟩
      have HYd : Hid (∀ W', Below (wr.alloc (.cells #[.slice pa vs.length ca, .int .i64 f, .int .i64 t] 30)).heap.size (wr.alloc (.cells #[.slice pa vs.length ca, .int .i64 f, .int .i64 t] 30)) W' → YieldAt Fence.wide 0 Try.prog l #[.agg #[.slice pa vs.length ca, .int .i64 f, .int .i64 t], .bool (Sp.bothB f t a b)] W' (Rnd J Jx O' (es.take (i + 1)) W') ∧ Keep O W W') := fun W' k => by
        have kw := bmore HA.out k
        have hJz := HJ.out O' (es.take i) wr W' hj.out (Keep.of kw)
        refine ⟨?_, hk.out.trans (Keep.of kw) (fun _ _ h => h)⟩
        have := HY.out O' (es.take i) (.slice pa vs.length ca, vs, f, t) W' hJz (by rw [← HTk.out]; exact List.take_prefix _ _)
        rw [← HTk.out] at this
        exact this
      cases hbB : Sp.bothB f t a b
      · rw [hbB] at k43 HYd
        gi_wp2
        refine ⟨trivial, rfl, ((callsIn_wide (n := 0)).2 k43).mono ?_⟩
        rintro e w6 ⟨rfl, B6⟩
        obtain ⟨y0, y1, y2, y3, y4⟩ := HFact.out _ B6
        obtain ⟨⟨fn, tmps, assign, body, hy, hRd⟩, HKz⟩ := HYd.out _ B6
        have HRd : Hid _ := hRd
        have HKZ : Hid _ := HKz
        clear hRd HKz B6 k43
        clear y0 y1
        gi_wp2
        refine ⟨trivial, ?_⟩
        gi_wp2
        refine ⟨rfl, RoundIn.mono HRd.out ?_⟩
        rintro e W3 (⟨rfl, O3, hj3, hg3, hk3⟩ | ⟨rfl, O3, hj3, hg3, hk3⟩)
        · gi_wp2
          go_roundw
          case rel => exact ⟨i + 1, O3, by simp, by show _ ≤ _; omega, hj3, hgr.out.trans hg3 HKZ.out.size, HKZ.out.trans hk3 (fun q hq h => (hgr.out q h).elim id (fun h => by omega))⟩
          case measure => simp only [intOf]; omega
        · gi_wp2
          refine bodyPost_ret (results_none rfl _ _ _) rfl ?_
          exact ⟨⟨_, rfl⟩, .inr ⟨es.take (i + 1), O3, List.take_prefix _ _, hj3, hgr.out.trans hg3 HKZ.out.size, HKZ.out.trans hk3 (fun q hq h => (hgr.out q h).elim id (fun h => by omega))⟩⟩
      · rw [hbB] at k43 HYd
        gi_wp2
        refine ⟨trivial, rfl, ((callsIn_wide (n := 0)).2 k43).mono ?_⟩
        rintro e w6 ⟨rfl, B6⟩
        obtain ⟨y0, y1, y2, y3, y4⟩ := HFact.out _ B6
        have HB6 : Hid _ := B6
        clear k43 B6
        gi_wp2
        refine ⟨trivial, rfl, ((callsIn_wide (n := 0)).2 (holds44 _ _ _ _ _ _ _ _ _)).mono ?_⟩
        rintro e w7 ⟨rfl, B7⟩
        have B8 := bmore HB6.out B7
        clear y0 y1 y2 y3 y4
        obtain ⟨y0, y1, y2, y3, y4⟩ := HFact.out _ B8
        obtain ⟨⟨fn, tmps, assign, body, hy, hRd⟩, HKz⟩ := HYd.out _ B8
        have HRd : Hid _ := hRd
        have HKZ : Hid _ := HKz
        clear hRd HKz B8 B7
        clear y0 y1
        gi_wp2
        refine ⟨rfl, RoundIn.mono HRd.out ?_⟩
        rintro e W3 (⟨rfl, O3, hj3, hg3, hk3⟩ | ⟨rfl, O3, hj3, hg3, hk3⟩)
        · gi_wp2
          go_roundw
          case rel => exact ⟨i + 1, O3, by simp, by show _ ≤ _; omega, hj3, hgr.out.trans hg3 HKZ.out.size, HKZ.out.trans hk3 (fun q hq h => (hgr.out q h).elim id (fun h => by omega))⟩
          case measure => simp only [intOf]; omega
        · gi_wp2
          refine bodyPost_ret (results_none rfl _ _ _) rfl ?_
          exact ⟨⟨_, rfl⟩, .inr ⟨es.take (i + 1), O3, List.take_prefix _ _, hj3, hgr.out.trans hg3 HKZ.out.size, HKZ.out.trans hk3 (fun q hq h => (hgr.out q h).elim id (fun h => by omega))⟩⟩
    · have hii : ¬ (i : Int) < (N : Int) := by omega
      have HF : Hid (es.take i = es) := by show _ = _; rw [List.take_of_length_le (by rw [HN.out]; omega)]
      gi_wp2
      go_end0
      exact ⟨⟨_, rfl⟩, .inl ⟨O', HF.out ▸ hj.out, hgr.out, hk.out⟩⟩
end Go.Proofs.Ythalgnfffcimhaa
