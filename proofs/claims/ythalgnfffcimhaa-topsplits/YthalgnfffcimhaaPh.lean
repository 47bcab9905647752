/- Delete, Insert. -/
import Derived.Test.YthalgnfffcimhaaPd
import Derived.Test.YthalgnfffcimhaaPe
import Derived.Test.YthalgnfffcimhaaPg
namespace Go.Proofs.Ythalgnfffcimhaa
open Go.RowKit Go.Shelf
set_option maxRecDepth 100000
theorem cellsE_set : ∀ (es : List El) (k : Nat) (e : El), k < es.length → cellsE (es.set k e) = (((cellsE es).set (k * 3) e.1).set (k * 3 + 1) (.int .i64 e.2.2.1)).set (k * 3 + 2) (.int .i64 e.2.2.2)
  | [], k, e, h => by simp at h
  | x :: l, 0, e, _ => by simp [cellsE, encE]
  | x :: l, k + 1, e, h => by
    have ih := cellsE_set l k e (by simpa using h)
    rw [List.set_cons_succ, show cellsE (x :: l.set k e) = x.1 :: .int .i64 x.2.2.1 :: .int .i64 x.2.2.2 :: cellsE (l.set k e) by simp [cellsE, encE], show cellsE (x :: l) = x.1 :: .int .i64 x.2.2.1 :: .int .i64 x.2.2.2 :: cellsE l by simp [cellsE, encE], show (k + 1) * 3 = k * 3 + 1 + 1 + 1 by omega, ih]
    rfl
theorem ownR_blk {w : World} {B g n c : Nat} {es : List El} (h : OwnR w B (.slice (some ⟨g, 0, none⟩) n c) es) : ∃ cur : List Value, Blk w g cur 30 ∧ B ≤ g ∧ n = es.length ∧ cur.take (n * 3) = cellsE es ∧ es.length * 3 ≤ cur.length := by
  have hf := h.rl.form
  obtain ⟨a, c', hf⟩ := hf
  cases hf
  have hlen := cellsE_length es
  obtain ⟨hl, h | ⟨g', cap, cur, hv, hg, hb, h1, h2, h3, h4⟩⟩ := h.row
  · simp at h
  · simp only [Value.slice.injEq, Option.some.injEq, Addr.mk.injEq] at hv
    obtain ⟨⟨rfl, _, _⟩, _, rfl⟩ := hv
    refine ⟨cur.toList, hb, hg, rfl, ?_, ?_⟩
    · exact h4
    · have : (cur.toList.take (es.length * 3)).length = es.length * 3 := by rw [h4, hlen]
      rw [List.length_take] at this
      omega
theorem ownR_frozen {w : World} {B g n c : Nat} {es : List El} (h : OwnR w B (.slice (some ⟨g, 0, none⟩) n c) es) (j : Nat) : w.frozen? ⟨g, j, none⟩ = false := by
  obtain ⟨cur, hb, _⟩ := ownR_blk h
  exact hb.frozen j
theorem ownR_at3 {w : World} {B g n c : Nat} {es : List El} (h : OwnR w B (.slice (some ⟨g, 0, none⟩) n c) es) {k : Nat} {e : El} (hy : es[k]? = some e) : w.cell? ⟨g, k * 3, none⟩ = some e.1 ∧ w.cell? ⟨g, k * 3 + 1, none⟩ = some (.int .i64 e.2.2.1) ∧ w.cell? ⟨g, k * 3 + 2, none⟩ = some (.int .i64 e.2.2.2) := by
  have := RL.at3 h.rl hy
  simpa using this
def set3 (w : World) (g k : Nat) (e : El) : World := ((w.setCell ⟨g, k * 3, none⟩ e.1).setCell ⟨g, k * 3 + 1, none⟩ (.int .i64 e.2.2.1)).setCell ⟨g, k * 3 + 2, none⟩ (.int .i64 e.2.2.2)
theorem set3_keep (w : World) (g k : Nat) (e : El) : Keep (fun b => b = g) w (set3 w g k e) := Keep.set (F := fun b => b = g) (Keep.set (F := fun b => b = g) (Keep.set (F := fun b => b = g) (Keep.refl _ _) (.inr rfl) _) (.inr rfl) _) (.inr rfl) _
theorem ownR_set3 {w : World} {B g n c k : Nat} {es : List El} (h : OwnR w B (.slice (some ⟨g, 0, none⟩) n c) es) (hk : k < es.length) (e : El) (hsv : SV w (fun b => b = g) e.1 e.2.1) :
    OwnR (set3 w g k e) B (.slice (some ⟨g, 0, none⟩) n c) (es.set k e) := by
  have hv := h.vals
  have hk' := set3_keep w g k e
  have hf := h.rl.form
  obtain ⟨a, c', hf⟩ := hf
  cases hf
  refine ⟨?_, fun x hx => ?_⟩
  · have hlen := cellsE_length es
    obtain ⟨hl, h | ⟨g', cap, cur, hv, hg, hb, h1, h2, h3, h4⟩⟩ := h.row
    · simp at h
    · simp only [Value.slice.injEq, Option.some.injEq, Addr.mk.injEq] at hv
      obtain ⟨⟨rfl, _, _⟩, _, rfl⟩ := hv
      have hb' : Blk w g cur.toList 30 := hb
      have hb3 : Blk (Go.Proofs.Ythalgnfffcimhaa.set3 w g k e) g (((cur.toList.set (k * 3) e.1).set (k * 3 + 1) (.int .i64 e.2.2.1)).set (k * 3 + 2) (.int .i64 e.2.2.2)) 30 := ((hb'.set _).set _).set _
      refine ⟨by rw [cellsE_length], .inr ⟨g, c, _, by rw [List.length_set], hg, hb3, by rw [List.length_set]; exact h1, h2, ?_, ?_⟩⟩
      · simpa using h3
      · simp only [List.length_set]
        rw [cellsE_set es k e hk, ← h4]
        simp [List.take_set]
  · have hs : SV w (fun b => b = g) x.1 x.2.1 := by
      rcases List.mem_or_eq_of_mem_set hx with hx | rfl
      · exact (hv x hx).mono (fun b _ q => by subst q; rfl)
      · exact hsv
    exact hs.keep hk' (fun b _ q => by cases q; rfl)

def CPost2 (w : World) (a b : Int) (L : List Rw) (e : Ending) (w' : World) : Prop := ∃ a0 c0 a1 c1 a2 c2 e0 e1 e2, e = .returned (.agg #[.slice a0 (List.length e0) c0, .slice a1 (List.length e1) c1, .slice a2 (List.length e2) c2]) ∧ PI w w' (.slice a0 e0.length c0) e0 (missR a b L) ∧ PI w w' (.slice a1 e1.length c1) e1 (outR a b L) ∧ PI w w' (.slice a2 e2.length c2) e2 (inR a b L) ∧ (∀ q, (Value.slice a2 e2.length c2).ownBlock = some q → (Value.slice a0 e0.length c0).ownBlock ≠ some q ∧ (Value.slice a1 e1.length c1).ownBlock ≠ some q) ∧ Below w.heap.size w w'
theorem cut15' {w : World} {X : Nat → Prop} {av : Option Addr} {cv : Nat} {es : List El} {a b : Int} {z : Nat → Value} {sets : Value} {pw : Option Addr} {cw : Nat} {ac : Option Addr} {nc cc : Nat}
    (h : RL w X (.slice av es.length cv) es) (hl : es.length ≤ 1000) :
    Calls Try.prog 15 #[.slice av es.length cv, .slice ac nc cc, stV z sets pw cw a b] w (CPost2 w a b (rws es)) := by
  refine (cut15 h hl).mono ?_
  rintro e w' ⟨vs, es1, rfl, hP, hA, hB⟩
  obtain ⟨a0, c0, f0⟩ := ((hP 0).ownR hB).rl.form
  obtain ⟨a1, c1, f1⟩ := ((hP 1).ownR hB).rl.form
  obtain ⟨a2, c2, f2⟩ := ((hP 2).ownR hB).rl.form
  refine ⟨a0, c0, a1, c1, a2, c2, es1 0, es1 1, es1 2, by rw [f0, f1, f2], by rw [← f0]; exact hP 0, by rw [← f1]; exact hP 1, by rw [← f2]; exact hP 2, fun q hq => ⟨?_, ?_⟩, hB⟩
  · rw [← f2] at hq; rw [← f0]; exact hA 2 0 q (by decide) hq
  · rw [← f2] at hq; rw [← f1]; exact hA 2 1 q (by decide) hq
theorem PI.rl {w W W' : World} {v : Value} {es : List El} {L : List Rw} (h : PI w W v es L) (hb : Below w.heap.size w W) (k : Below W.heap.size W W') : RL W' (fun _ => False) v es := (h.ownR hb).rl.below k
theorem PI.vals_le {w W : World} {v : Value} {es : List El} {L : List Rw} {n : Nat} (h : PI w W v es L) (hv : ∀ r ∈ L, r.1.length ≤ n) : ∀ e ∈ es, e.2.1.length ≤ n := rws_vals h.rows hv
theorem lists_vals {a b : Int} {l : List Rw} {n : Nat} (hv : ∀ r ∈ l, r.1.length ≤ n) : (∀ r ∈ missR a b l, r.1.length ≤ n) ∧ (∀ r ∈ outR a b l, r.1.length ≤ n) ∧ (∀ r ∈ inR a b l, r.1.length ≤ n) := by
  refine ⟨fun r hr => hv r (List.mem_filter.1 hr).1, fun r hr => ?_, fun r hr => ?_⟩
  · obtain ⟨q, hq, hr⟩ := List.mem_flatMap.1 hr
    split at hr
    · obtain ⟨s, _, rfl⟩ := List.mem_map.1 hr
      exact hv q hq
    · cases hr
  · obtain ⟨q, hq, hr⟩ := List.mem_filterMap.1 hr
    unfold cutR at hr
    split at hr
    · cases hr; exact hv q hq
    · cases hr
def DPost (w : World) (L : List Rw) (n : Nat) (e : Ending) (w' : World) : Prop := ∃ v x, e = .returned (.tuple #[v, .int .i64 (n : Int)]) ∧ OwnR w' w.heap.size v x ∧ rws x = L ∧ Below w.heap.size w w'
theorem Ls.two {W : World} {v0 v1 : Value} {e0 e1 : List El} (h0 : RL W (fun _ => False) v0 e0) (h1 : RL W (fun _ => False) v1 e1) : Ls (W.alloc (.cells #[v0, v1] 31)) W.heap.size [(v0, e0), (v1, e1)] := by
  have nb := blk_new W [v0, v1] 31
  refine ⟨fun i x hx => ?_, fun x hx => ?_⟩
  · rw [nb.cell]
    match i with
    | 0 => cases hx; rfl
    | 1 => cases hx; rfl
    | i + 2 => simp at hx
  · simp only [List.mem_cons, List.not_mem_nil, or_false] at hx
    rcases hx with rfl | rfl
    · exact h0.below (al _ _)
    · exact h1.below (al _ _)
set_option maxHeartbeats 1000000 in
theorem delete6 {w : World} {X : Nat → Prop} {av : Option Addr} {cv : Nat} {es : List El} {a b : Int} {z : Nat → Value} {sets : Value} {pw : Option Addr} {cw : Nat} {ac : Option Addr} {nc cc : Nat}
    (h : RL w X (.slice av es.length cv) es) (hl : es.length ≤ 20) (hv : ∀ e ∈ es, e.2.1.length ≤ 1000) :
    Calls Try.prog 6 #[.slice av es.length cv, .slice ac nc cc, stV z sets pw cw a b] w (DPost w (canonR (missR a b (rws es) ++ outR a b (rws es))) (inR a b (rws es)).length) := by
  have h5 := blk_new w (stL z sets pw cw a b) 47
  have hb := al w (.cells (stL z sets pw cw a b).toArray 47)
  have k15 := cut15' (z := z) (sets := sets) (pw := pw) (cw := cw) (a := a) (b := b) (ac := ac) (nc := nc) (cc := cc) (h.below hb) (by omega)
  have HLv : Hid _ := lists_vals (a := a) (b := b) (l := rws es) (n := 1000) (fun r hr => by obtain ⟨e, he, rfl⟩ := List.mem_map.1 hr; exact hv e he)
  have HLl : Hid (∀ j, (lists a b (rws es) j).length ≤ 40) := fun j => Nat.le_trans (lists_len a b (rws es) j) (by simp [rws]; omega)
  clear h hv hl
  generalize es.length = n at *
  go_enter Try.func6, Try.ntmps6
  go_upto_region 1 with fail
  generalize World.alloc w _ = W1 at *
  have HB : Hid _ := hb
  clear hb
  go_wp2_with (first
    | (refine wpList_load_row (by rfl) 47 (.tmp 5) (by rfl) w.heap.size (by rfl) 47 _ (0, 0) _ h5 Try.underlying47 rfl info47s ?_)
    | (go_at_call 15; (with_reducible refine k15.mono ?_); rintro e w2 ⟨a0, c0, a1, c1, a2, c2, e0, e1, e2, rfl, p0, p1, p2, hap, hB2⟩))
  have b8 := blk_new w2 [.slice a0 e0.length c0, .slice a1 e1.length c1, .slice a2 e2.length c2] 62
  change Blk (w2.alloc (.cells #[.slice a0 e0.length c0, .slice a1 e1.length c1, .slice a2 e2.length c2] 62)) _ _ _ at b8
  have hal := al w2 (.cells #[.slice a0 e0.length c0, .slice a1 e1.length c1, .slice a2 e2.length c2] 62)
  have HWB : Hid (Below w.heap.size w (w2.alloc (.cells #[.slice a0 e0.length c0, .slice a1 e1.length c1, .slice a2 e2.length c2] 62))) := bal (bmore HB.out hB2) _
  have HK17 : Hid (∀ W', Below ((w2.alloc (.cells #[.slice a0 e0.length c0, .slice a1 e1.length c1, .slice a2 e2.length c2] 62)).alloc (.cells #[.slice a0 e0.length c0, .slice a1 e1.length c1] 31)).heap.size ((w2.alloc (.cells #[.slice a0 e0.length c0, .slice a1 e1.length c1, .slice a2 e2.length c2] 62)).alloc (.cells #[.slice a0 e0.length c0, .slice a1 e1.length c1] 31)) W' → Calls Try.prog 17 #[.slice (some ⟨(w2.alloc (.cells #[.slice a0 e0.length c0, .slice a1 e1.length c1, .slice a2 e2.length c2] 62)).heap.size, 0, none⟩) 2 2] W' (LPost W' (canonR (missR a b (rws es) ++ outR a b (rws es))))) := fun W' k => by
    have hL := (Ls.two (p0.rl hB2 hal) (p1.rl hB2 hal)).below k
    have hl0 := p0.len
    have hl1 := p1.len
    have hq0 := HLl.out 0
    have hq1 := HLl.out 1
    have hlv := HLv.out
    have := together17 hL (by simp) (by simp only [cat, List.flatMap_cons, List.flatMap_nil, List.length_append, List.length_nil]; simp [lists] at hq0 hq1; omega) (fun e he => by
      simp only [cat, List.flatMap_cons, List.flatMap_nil, List.append_nil, List.mem_append] at he
      rcases he with he | he
      · exact p0.vals_le hlv.1 e he
      · exact p1.vals_le hlv.2.1 e he)
    simp only [List.flatMap_cons, List.flatMap_nil, List.append_nil, p0.rows, p1.rows] at this
    exact this
  have HN2 : Hid (e2.length = (inR a b (rws es)).length) := p2.len
  have HS : Hid (∀ W', Below (w2.alloc (.cells #[.slice a0 e0.length c0, .slice a1 e1.length c1, .slice a2 e2.length c2] 62)).heap.size (w2.alloc (.cells #[.slice a0 e0.length c0, .slice a1 e1.length c1, .slice a2 e2.length c2] 62)) W' → W'.cell? ⟨w2.heap.size, 0, none⟩ = some (.slice a0 e0.length c0) ∧ W'.cell? ⟨w2.heap.size, 1, none⟩ = some (.slice a1 e1.length c1) ∧ W'.cell? ⟨w2.heap.size, 2, none⟩ = some (.slice a2 e2.length c2)) := fun W' k => ⟨(b8.below k).cell 0, (b8.below k).cell 1, (b8.below k).cell 2⟩
  generalize w2.alloc (.cells #[.slice a0 e0.length c0, .slice a1 e1.length c1, .slice a2 e2.length c2] 62) = W5 at *
  have K0 : Below W5.heap.size W5 W5.drew := (Below.refl _ _).drew
  have hS0 := HS.out _ K0
  clear p0 p1 p2 hap hB2 b8 hal h5 k15
  go_region_held3 (fun W' => W'.cell? ⟨w2.heap.size, 0, none⟩ = some (.slice a0 e0.length c0) ∧ W'.cell? ⟨w2.heap.size, 1, none⟩ = some (.slice a1 e1.length c1) ∧ W'.cell? ⟨w2.heap.size, 2, none⟩ = some (.slice a2 e2.length c2)) (first | exact hS0 | exact HS.out _ K1 | exact HS.out _ (bmore (al _ _) (Below.drew (Below.refl _ _))) | exact HS.out _ (al _ _)) (first
    | (go_at_call 17; (with_reducible refine (HK17.out _ (Below.drew (Below.refl _ _))).mono ?_); rintro e w6 ⟨v6, x6, rfl, hO6, hE6, hB6⟩; have K1 := bmore (al W5 (.cells #[.slice a0 e0.length c0, .slice a1 e1.length c1] 31)) (bmore (Below.drew (Below.refl _ _)) hB6); have HO6 : Hid _ := hO6; have HE6 : Hid _ := hE6; have HB6 : Hid (Below W5.heap.size W5 w6) := K1; clear hO6 hE6 hB6))
  go_wp2_with fail
  refine bodyPost_ret (v := .tuple #[v6, .int .i64 (e2.length : Int)]) (by simp [results, Try.results6, go_sem]) rfl ⟨v6, x6, by rw [← HN2.out], HO6.out.base ?_, HE6.out, bmore HWB.out HB6.out⟩
  exact Nat.le_trans HWB.out.size (by simp)
theorem Ls.one2 {W : World} {X : Nat → Prop} {v sv : Value} {es : List El} {vl : List Vt} {f t : Int} {g : Nat} (h : RL W X v es) (hsv : SV W X sv vl) (hb : Blk W g [sv, .int .i64 f, .int .i64 t] 30) : Ls (W.alloc (.cells #[v, .slice (some ⟨g, 0, none⟩) 1 1] 31)) W.heap.size [(v, es), (.slice (some ⟨g, 0, none⟩) 1 1, [(sv, vl, f, t)])] := by
  refine Ls.two (h.mono (fun _ _ h => h.elim)) ⟨⟨some ⟨g, 0, none⟩, 1, rfl, fun _ => ⟨g, 0, rfl, hb.lt, fun h => h, fun i e he => ?_⟩⟩, fun e he => ?_⟩
  · match i with
    | 0 => cases he; exact ⟨hb.cell 0, hb.cell 1, hb.cell 2⟩
    | i + 1 => simp at he
  · simp only [List.mem_singleton] at he
    subst he
    exact hsv.mono (fun _ _ h => h.elim)
theorem insert8 {w : World} {X : Nat → Prop} {v sv : Value} {es : List El} {vl : List Vt} {f t : Int} (h : RL w X v es) (hl : es.length ≤ 40) (hv : ∀ e ∈ es, e.2.1.length ≤ 1000) (hsv : SV w X sv vl) (hvl : vl.length ≤ 1000) :
    Calls Try.prog 8 #[v, .agg #[sv, .int .i64 f, .int .i64 t]] w (LPost w (canonR (rws es ++ [(vl, f, t)]))) := by
  obtain ⟨av, cv, rfl⟩ := h.form
  obtain ⟨pa, ca, rfl⟩ := hsv.form
  have hA := al w (.cells #[.slice pa vl.length ca, .int .i64 f, .int .i64 t] 30)
  have hA2 := al (w.alloc (.cells #[.slice pa vl.length ca, .int .i64 f, .int .i64 t] 30)) (.cells #[.slice pa vl.length ca, .int .i64 f, .int .i64 t] 30)
  have hL := Ls.one2 ((h.below hA).below hA2) ((hsv.below hA).below hA2) (blk_new (w.alloc (.cells #[.slice pa vl.length ca, .int .i64 f, .int .i64 t] 30)) [.slice pa vl.length ca, .int .i64 f, .int .i64 t] 30)
  have k17 := together17 hL (by simp) (by simp [cat]; omega) (fun e he => by
    simp only [cat, List.flatMap_cons, List.flatMap_nil, List.append_nil, List.mem_append, List.mem_singleton] at he
    rcases he with he | rfl
    · exact hv e he
    · exact hvl)
  simp only [List.flatMap_cons, List.flatMap_nil, List.append_nil, World.size_alloc, rws, List.map_cons, List.map_nil, List.length_cons, List.length_nil, Nat.zero_add, Nat.reduceAdd] at k17
  have HB : Hid _ := bmore hA (bmore hA2 (al ((w.alloc (.cells #[.slice pa vl.length ca, .int .i64 f, .int .i64 t] 30)).alloc (.cells #[.slice pa vl.length ca, .int .i64 f, .int .i64 t] 30)) (.cells #[.slice av es.length cv, .slice (some ⟨w.heap.size + 1, 0, none⟩) 1 1] 31)))
  clear h hsv hA hA2 hL
  go_enter Try.func8, Try.ntmps8
  go_wp2_with (go_at_call 17; (with_reducible refine k17.mono ?_); rintro e w6 ⟨v6, x6, rfl, hO6, hE6, hB6⟩)
  go_ret
  exact ⟨v6, x6, rfl, hO6.base (by have := HB.out.size; exact this), hE6, bmore HB.out hB6⟩
end Go.Proofs.Ythalgnfffcimhaa
