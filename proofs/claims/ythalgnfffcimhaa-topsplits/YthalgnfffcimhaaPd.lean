/- cut. -/
import Derived.Test.YthalgnfffcimhaaPc
import Derived.Test.YthalgnfffcimhaaMj
namespace Go.Proofs.Ythalgnfffcimhaa
open Go.RowKit Go.Shelf
set_option maxRecDepth 100000
def hitB (a b : Int) (r : Rw) : Bool := Sp.bothB r.2.1 r.2.2 a b
def missR (a b : Int) (l : List Rw) : List Rw := l.filter fun r => !hitB a b r
def outR (a b : Int) (l : List Rw) : List Rw := l.flatMap fun r => if hitB a b r = true then (Sp.minusL r.2.1 r.2.2 a b).map fun s => (r.1, s) else []
def cutR (a b : Int) (r : Rw) : Option Rw := if hitB a b r = true then some (r.1, Sp.bothF r.2.1 r.2.2 a b, Sp.bothT r.2.1 r.2.2 a b) else none
def inR (a b : Int) (l : List Rw) : List Rw := l.filterMap (cutR a b)
def lists (a b : Int) (l : List Rw) : Fin 3 → List Rw := fun j => if j = 0 then missR a b l else if j = 1 then outR a b l else inR a b l
theorem upd_upd {α : Type} (f : Fin 3 → α) (j : Fin 3) (x y : α) : upd (upd f j x) j y = upd f j y := by funext k; simp only [upd]; split <;> rfl
theorem upd_same {α : Type} (f : Fin 3 → α) (j : Fin 3) (x : α) : upd f j x j = x := by simp [upd]
theorem lists_miss {a b : Int} {l : List Rw} {r : Rw} (h : hitB a b r = false) : upd (lists a b l) 0 (lists a b l 0 ++ [r]) = lists a b (l ++ [r]) := by
  funext k
  match k with
  | 0 => simp [upd, lists, missR, h]
  | 1 => simp [upd, lists, outR, h]
  | 2 => simp [upd, lists, inR, cutR, h]
theorem lists_hit {a b : Int} {l : List Rw} {vl : List Vt} {f t : Int} (h : Sp.bothB f t a b = true) : upd (upd (lists a b l) 1 (lists a b l 1 ++ (Sp.minusL f t a b).map fun s => (vl, s))) 2 (upd (lists a b l) 1 (lists a b l 1 ++ (Sp.minusL f t a b).map fun s => (vl, s)) 2 ++ [(vl, Sp.bothF f t a b, Sp.bothT f t a b)]) = lists a b (l ++ [(vl, f, t)]) := by
  have h' : hitB a b (vl, f, t) = true := h
  funext k
  match k with
  | 0 => simp [upd, lists, missR, h']
  | 1 => simp [upd, lists, outR, h']
  | 2 => simp [upd, lists, inR, cutR, h']
theorem lists_len (a b : Int) (l : List Rw) (j : Fin 3) : (lists a b l j).length ≤ 2 * l.length := by
  match j with
  | 0 => (have := List.length_filter_le (fun r => !hitB a b r) l); simp only [lists, missR, if_true]; omega
  | 1 =>
    simp only [lists, outR]
    induction l with
    | nil => simp
    | cons r l ih =>
      have : (if hitB a b r = true then (Sp.minusL r.2.1 r.2.2 a b).map fun s => (r.1, s) else []).length ≤ 2 := by
        split
        · rw [List.length_map]; exact (Sp.minus_canon _ _ _ _).2.1
        · simp
      simp only [List.flatMap_cons, List.length_cons] at ih ⊢
      simp at ih ⊢
      omega
  | 2 => (have := List.length_filterMap_le (cutR a b) l); simp only [lists, inR]; simp; omega
attribute [local go_sem] Oper.semAt_some
/-- What holds behind some rounds. -/
def CW3 (w : World) (tb p8 : Nat) (a b : Int) (G : Nat → Prop) (O : Nat → Prop) (pre : List El) (W : World) : Prop := ∃ vs es, T3 w W tb (lists a b (rws pre)) O vs es ∧ Blk W p8 [.int .i64 a, .int .i64 b] 27 ∧ ¬ O p8 ∧ (∀ b, O b → ¬ G b)
theorem CW3.abide {w : World} {tb p8 n : Nat} {a b : Int} {G : Nat → Prop} (hp : p8 < n) (hn : w.heap.size ≤ n) : Abide n (CW3 w tb p8 a b G) := by
  rintro O pre W W' ⟨vs, es, h1, h2, h3, h4⟩ k
  exact ⟨vs, es, h1.keep k (fun b hb => ⟨hb.1, by omega⟩), h2.keep k (fun q => by omega), h3, h4⟩
def CPost (w : World) (a b : Int) (L : List Rw) (e : Ending) (w' : World) : Prop := ∃ (vs : Fin 3 → Value) (es : Fin 3 → List El), e = .returned (.agg #[vs 0, vs 1, vs 2]) ∧ (∀ j, PI w w' (vs j) (es j) (lists a b L j)) ∧ (∀ j k b, j ≠ k → (vs j).ownBlock = some b → (vs k).ownBlock ≠ some b) ∧ Below w.heap.size w w'
theorem eg42 : ∀ args w, (callFunc 42 args).run Try.prog w = .ok (.enter 42 args) w := enters_of Try.func42 (by kernel_rfl) rfl
theorem info62s : (Try.prog.info? 62).map (·.size) = some 3 := by kernel_rfl
abbrev nil3 : List Value := [.slice none 0 0, .slice none 0 0, .slice none 0 0]
theorem cut_at (w : World) (sl : List Value) : Blk (((w.alloc (.cells sl.toArray 47)).alloc (.cells #[.slice none 0 0, .slice none 0 0, .slice none 0 0] 62)).alloc (.cells #[.slice none 0 0, .slice none 0 0, .slice none 0 0] 62)) w.heap.size sl 47 ∧
    Blk (((w.alloc (.cells sl.toArray 47)).alloc (.cells #[.slice none 0 0, .slice none 0 0, .slice none 0 0] 62)).alloc (.cells #[.slice none 0 0, .slice none 0 0, .slice none 0 0] 62)) (w.heap.size + 1) nil3 62 ∧
    Blk (((w.alloc (.cells sl.toArray 47)).alloc (.cells #[.slice none 0 0, .slice none 0 0, .slice none 0 0] 62)).alloc (.cells #[.slice none 0 0, .slice none 0 0, .slice none 0 0] 62)) (w.heap.size + 1 + 1) nil3 62 ∧
    Below w.heap.size w (((w.alloc (.cells sl.toArray 47)).alloc (.cells #[.slice none 0 0, .slice none 0 0, .slice none 0 0] 62)).alloc (.cells #[.slice none 0 0, .slice none 0 0, .slice none 0 0] 62)) := by
  refine ⟨((blk_new w sl 47).below (al _ _)).below (al _ _), ?_, ?_, bal (bal (al _ _) _) _⟩
  · have := (blk_new (w.alloc (.cells sl.toArray 47)) nil3 62).below (al _ (.cells #[.slice none 0 0, .slice none 0 0, .slice none 0 0] 62))
    simpa using this
  · have := blk_new ((w.alloc (.cells sl.toArray 47)).alloc (.cells #[.slice none 0 0, .slice none 0 0, .slice none 0 0] 62)) nil3 62
    simpa using this
set_option maxHeartbeats 1000000 in
theorem cut15 {w : World} {X : Nat → Prop} {av : Option Addr} {cv : Nat} {es : List El} {a b : Int} {z : Nat → Value} {sets : Value} {pw : Option Addr} {cw : Nat} {ac : Option Addr} {nc cc : Nat}
    (h : RL w X (.slice av es.length cv) es) (hl : es.length ≤ 1000) :
    Calls Try.prog 15 #[.slice av es.length cv, .slice ac nc cc, stV z sets pw cw a b] w (CPost w a b (rws es)) := by
  have HR : Hid (RL w (fun x => w.heap.size ≤ x) (.slice av es.length cv) es) := RL.old (h.mono (Y := fun _ => False) (fun _ _ h => h.elim))
  have HL : Hid (es.length ≤ 1000) := hl
  obtain ⟨N, hN⟩ : ∃ N, es.length = N := ⟨_, rfl⟩
  have HN : Hid (es.length = N) := hN
  rw [hN] at HR ⊢
  clear h hl hN
  obtain ⟨h5, h6, h7, hb⟩ := cut_at w (stL z sets pw cw a b)
  refine (callsIn_wide (n := 0)).1 (callsIn_of_wp_marks Try.func15 rfl trivial (wpIn_wide.2 ?_) rfl)
  simp only [Try.ntmps15, List.size_toArray, List.length_cons, List.length_nil, Nat.reduceAdd, Nat.reduceSub, Array.replicate_succ, Array.replicate_zero, List.push_toArray, List.append_toArray, List.nil_append, List.cons_append]
  go_upto_region 2 with fail
  generalize World.alloc (World.alloc (World.alloc w _) _) _ = W3 at *
  have k28 := portionOf28 z sets pw cw a b W3
  have HS : Hid (w.heap.size + 1 + 1 < W3.heap.size) := h7.lt
  have H6 : Hid _ := h6
  have H7 : Hid _ := h7
  have HB : Hid _ := hb
  clear h6 h7 hb
  go_wp2_with (first
    | (refine wpList_load_row (by rfl) 47 (.tmp 5) (by rfl) w.heap.size (by rfl) 47 _ (0, 0) _ h5 Try.underlying47 rfl info47s ?_)
    | (go_at_call 28; (with_reducible refine k28.mono ?_); rintro e w1 ⟨rfl, hb1⟩; have HB1 : Hid (Below W3.heap.size W3 w1) := hb1; have h5' := (Blk.below h5 hb1).below (al w1 (.cells #[.int .i64 a, .int .i64 b] 27)); have H8 : Hid (Blk (w1.alloc (.cells #[.int .i64 a, .int .i64 b] 27)) w1.heap.size [.int .i64 a, .int .i64 b] 27) := blk_new w1 [.int .i64 a, .int .i64 b] 27; have HB5 : Hid (Below W3.heap.size W3 (w1.alloc (.cells #[.int .i64 a, .int .i64 b] 27))) := bmore hb1 (al _ _); have k29 := looked29 av N cv ac nc cc z sets pw cw a b (w1.alloc (.cells #[.int .i64 a, .int .i64 b] 27)); clear k28 h5 hb1)
    | (refine wpList_load_row (by rfl) 47 (.tmp 5) (by rfl) w.heap.size (by rfl) 47 _ (0, 0) _ h5' Try.underlying47 rfl info47s ?_)
    | (go_at_call 29; (with_reducible refine k29.mono ?_); rintro e w2 ⟨q3, q7, q5, q4, rfl, hK, hq, hb2⟩))
  have HB6 : Hid (Below W3.heap.size W3 w2) := bmore HB5.out hb2
  have H8' : Hid (Blk w2 w1.heap.size [.int .i64 a, .int .i64 b] 27) := Blk.below H8.out hb2
  have HW : Hid (Below w.heap.size w w2) := bmore HB.out HB6.out
  have HK : Hid _ := hK
  have HQ : Hid (w1.heap.size < q3 ∧ w1.heap.size < q7 ∧ w1.heap.size < q5 ∧ w1.heap.size < q4) := by
    have : (w1.alloc (.cells #[.int .i64 a, .int .i64 b] 27)).heap.size = w1.heap.size + 1 := by simp
    rw [this] at hq
    exact ⟨by omega, by omega, by omega, by omega⟩
  have HZ : Hid (w.heap.size + 1 + 1 < w1.heap.size) := by have := HS.out; have := HB1.out.size; show _ < _; omega
  have HT : Hid (T3 w w2 (w.heap.size + 1 + 1) (lists a b (rws [])) (fun q => q = w.heap.size + 1 + 1) (fun _ => .slice none 0 0) (fun _ => [])) :=
    ⟨Blk.below H7.out HB6.out, fun j => by (show PI _ _ _ _ (lists a b [] j)); (have : lists a b [] j = [] := by simp [lists, missR, outR, inR]); rw [this]; exact PI.nil _ _, fun j b hb => by simp [Value.ownBlock] at hb, fun j k b _ hb => by simp [Value.ownBlock] at hb, rfl, fun q hq => by rw [hq]; exact ⟨by omega, (Blk.below H7.out HB6.out).lt⟩, HW.out⟩
  have H62 : Hid (Blk w2 (w.heap.size + 1) nil3 62) := Blk.below H6.out HB6.out
  generalize w1.heap.size = p8 at *
  clear k29 h5' hb2 hq H6 H7 HB5 H8 hK HB6
  refine wpIn_wide.1 (wpIn_rangeA (a := { tmps := #[.slice av N cv, .slice ac nc cc, stV z sets pw cw a b, undef, undef, .pointer (some ⟨w.heap.size, 0, none⟩), .pointer (some ⟨w.heap.size + 1, 0, none⟩), .pointer (some ⟨w.heap.size + 1 + 1, 0, none⟩), .pointer (some ⟨p8, 0, none⟩), undef, undef, undef, undef, undef, undef, .agg (stL z sets pw cw a b).toArray, .agg #[.int .i64 a, .int .i64 b], .slice av N cv, .slice ac nc cc, .agg (stL z sets pw cw a b).toArray, .func (.func 42) #[] #[.pointer (some ⟨q3, 0, none⟩), .pointer (some ⟨q7, 0, none⟩), .pointer (some ⟨q5, 0, none⟩), .pointer (some ⟨q4, 0, none⟩)], undef, undef, undef, undef, undef, undef, undef, undef, undef, undef, undef, undef, undef, undef, undef, undef, undef, undef, undef, undef, undef, undef, undef, undef, undef, undef, undef, undef, undef, undef, undef, undef, undef, undef, undef, undef, undef, undef, undef, undef, undef, undef, undef, undef, undef, undef], defers := [] }) (gf := 42) (lb := #[.pointer (some ⟨q3, 0, none⟩), .pointer (some ⟨q7, 0, none⟩), .pointer (some ⟨q5, 0, none⟩), .pointer (some ⟨q4, 0, none⟩)]) rfl eg42 (enc := encL a b) (fun x => rfl) (xs := es) (G := fun k => k ≠ w.heap.size + 1 + 1 ∧ k < w2.heap.size)
    (fun W1 k => by
      have hk := HK.out.below k
      have hq := HQ.out
      have hz := HZ.out
      have := HN.out
      subst this
      exact runs42 hk ⟨⟨by omega, Blk.lt HK.out.rows⟩, ⟨by omega, Blk.lt HK.out.span⟩, ⟨by omega, Blk.lt HK.out.stmt⟩, ⟨by omega, Blk.lt HK.out.cols⟩⟩ ((RL.below (RL.below HR.out HW.out) k).mono (fun b _ h => Nat.le_of_not_lt (fun q => h ⟨by omega, by have := HW.out.size; omega⟩))) HL.out) (fun b h => h.2)
    (fun O pre W => CW3 w (w.heap.size + 1 + 1) p8 a b (fun k => k ≠ w.heap.size + 1 + 1 ∧ k < w2.heap.size) O pre W) (fun _ _ _ _ => False) (fun O pre W h b hb => by obtain ⟨vs, es, h1, _⟩ := h; exact (h1.lt b hb).2) (CW3.abide H8'.out.lt HW.out.size) (fun c => fun O' q W1 W2 h k => h)
    (fun q => q = w.heap.size + 1 + 1) (fun b h => ⟨fun q => q.1 h, by rw [h]; have := HT.out.blk.lt; exact this⟩) ⟨_, _, HT.out, H8'.out, fun q => by have := HZ.out; omega, fun b h q => q.1 h⟩
    (fun x vb => { tmps := #[.slice av N cv, .slice ac nc cc, stV z sets pw cw a b, undef, undef, .pointer (some ⟨w.heap.size, 0, none⟩), .pointer (some ⟨w.heap.size + 1, 0, none⟩), .pointer (some ⟨w.heap.size + 1 + 1, 0, none⟩), .pointer (some ⟨p8, 0, none⟩), .pointer (some ⟨vb, 0, none⟩), .bool (Sp.bothB x.2.2.1 x.2.2.2 a b), undef, undef, undef, undef, .agg (stL z sets pw cw a b).toArray, .agg #[.int .i64 a, .int .i64 b], .slice av N cv, .slice ac nc cc, .agg (stL z sets pw cw a b).toArray, .func (.func 42) #[] #[.pointer (some ⟨q3, 0, none⟩), .pointer (some ⟨q7, 0, none⟩), .pointer (some ⟨q5, 0, none⟩), .pointer (some ⟨q4, 0, none⟩)], .agg #[x.1, .int .i64 x.2.2.1, .int .i64 x.2.2.2], .bool (Sp.bothB x.2.2.1 x.2.2.2 a b), undef, undef, undef, undef, undef, undef, undef, undef, undef, undef, undef, undef, undef, undef, undef, undef, undef, undef, undef, undef, undef, undef, undef, undef, undef, undef, undef, undef, undef, undef, undef, undef, undef, undef, undef, undef, undef, undef, undef, undef, undef, undef, undef, undef], defers := [] }) (fun x => [x.1, .int .i64 x.2.2.1, .int .i64 x.2.2.2]) 30 ?assign ?body ?done ?stop)
  case assign =>
    intro l' x' W' K hx' hK
    obtain ⟨pa, ca, hsv⟩ := SV.form (HR.out.vals _ hx')
    obtain ⟨sv, vl, f, t⟩ := x'
    simp only at hsv
    subst hsv
    simp only [encL]
    gi_wp2
    exact hK
  case body =>
    intro l' O pre x W' vb hI hvO hvB hle hvb hpre
    obtain ⟨vs, es1, hT, h8, hO8, hOG⟩ := hI
    have hmem : x ∈ es := hpre.subset (by simp)
    have hpl : pre.length ≤ 1000 := by have := hpre.length_le; have := HL.out; simp at *; omega
    obtain ⟨sv, vl, f, t⟩ := x
    have HSV : Hid (SV w (fun x => w.heap.size ≤ x) sv vl) := HR.out.vals _ hmem
    obtain ⟨pa, ca, rfl⟩ := SV.form HSV.out
    have hvB' : Blk W' vb [.slice pa vl.length ca, .int .i64 f, .int .i64 t] 30 := hvb
    have HLen : Hid (∀ j, (lists a b (rws pre) j).length ≤ 2000) := fun j => Nat.le_trans (lists_len a b (rws pre) j) (by simp [rws]; omega)
    have HRw : Hid (rws (pre ++ [(Value.slice pa vl.length ca, vl, f, t)]) = rws pre ++ [(vl, f, t)]) := by show _ = _; simp [rws]
    have HT : Hid _ := hT
    have H8 : Hid (Blk W' p8 [.int .i64 a, .int .i64 b] 27 ∧ ¬ O p8 ∧ (∀ b, O b → ¬ (b ≠ w.heap.size + 1 + 1 ∧ b < w2.heap.size)) ∧ w2.heap.size ≤ W'.heap.size) := ⟨h8, hO8, hOG, hle⟩
    have HVB : Hid (Blk W' vb [.slice pa vl.length ca, .int .i64 f, .int .i64 t] 30 ∧ ¬ O vb) := ⟨hvB', hvO⟩
    have HEnd : Hid (∀ O' W'' vs' es', T3 w W'' (w.heap.size + 1 + 1) (lists a b (rws pre ++ [(vl, f, t)])) O' vs' es' → Grew O O' W' → Keep O W' W'' → CW3 w (w.heap.size + 1 + 1) p8 a b (fun k => k ≠ w.heap.size + 1 + 1 ∧ k < w2.heap.size) O' (pre ++ [(Value.slice pa vl.length ca, vl, f, t)]) W'') := fun O' W'' vs' es' q1 q2 q3 => by
      obtain ⟨e1, e2, e3, e4⟩ := H8.out
      refine ⟨vs', es', by rw [HRw.out]; exact q1, e1.keep q3 e2, fun q => (q2 _ q).elim e2 (fun q => by have := e1.lt; omega), fun b hb q => (q2 b hb).elim (fun r => e3 b r q) (fun r => by omega)⟩
    clear hT h8 hO8 hOG hvb hmem hpre hvB hle
    have z0 := HT.out.blk.cell 0
    have r0 := hvB'.cell 0
    have r1 := hvB'.cell 1
    have r2 := hvB'.cell 2
    simp only [List.getElem?_cons_zero, List.getElem?_cons_succ] at z0 r0 r1 r2
    cases hbB : Sp.bothB f t a b
    · have hA := HT.out.app 0 0 rfl (Nat.le_trans (HLen.out 0) (by decide)) (f := f) (t := t) HSV.out
      have HX : Hid (upd (lists a b (rws pre)) 0 (lists a b (rws pre) 0 ++ [(vl, f, t)]) = lists a b (rws pre ++ [(vl, f, t)])) := lists_miss hbB
      clear hvB'
      gi_wp2_with (gi_at_builtin; refine wpListIn_append_ex (by rfl) (.tmp 26) (.tmp 28) 31 (by rfl) _ _ (by rfl) (by rfl) hA ?_; rintro u w7 ⟨a7, n7, c7, rfl, y0, yf, HT7⟩)
      obtain ⟨O', es', q1, q2, q3⟩ := HT7.out
      rw [HX.out] at q1
      exact ⟨O', HEnd.out _ _ _ _ q1 q2 q3, q2, q3⟩
    · have k30 := Sp.minus22 f t a b W'
      have p0 := H8.out.1.cell 0
      have p1 := H8.out.1.cell 1
      simp only [List.getElem?_cons_zero, List.getElem?_cons_succ] at p0 p1
      have HX : Hid _ := lists_hit (a := a) (b := b) (l := rws pre) (vl := vl) hbB
      have HYl : Hid ((Sp.minusL f t a b).length ≤ 2) := (Sp.minus_canon f t a b).2.1
      clear hvB' z0
      gi_wp2
      refine ⟨trivial, rfl, (CallsIn.inRound l' ((callsIn_wide (n := 0)).2 k30)).mono ?_⟩
      rintro e w6 ⟨v6, rfl, hO6, hB6⟩
      obtain ⟨pj, cj, hv6, hOp⟩ := hO6.open
      subst hv6
      obtain ⟨ys, hys⟩ : ∃ ys, Sp.minusL f t a b = ys := ⟨_, rfl⟩
      rw [hys] at HX HYl hOp ⊢
      obtain ⟨M, hM⟩ : ∃ M, ys.length = M := ⟨_, rfl⟩
      have HM : Hid (ys.length = M) := hM
      have HOp : Hid (0 < M → ∃ jb, pj = some ⟨jb, 0, none⟩ ∧ W'.heap.size ≤ jb ∧ jb < w6.heap.size ∧ ∀ (i : Nat) (x : Int × Int), ys[i]? = some x → w6.cell? ⟨jb, i * 2, none⟩ = some (.int .i64 x.1) ∧ w6.cell? ⟨jb, i * 2 + 1, none⟩ = some (.int .i64 x.2)) := fun h0 => hOp (by rw [hM]; exact h0)
      have hM2 : M ≤ 2 := by have := HYl.out; omega
      have HB6 : Hid (Below W'.heap.size W' w6) := hB6
      have HT6 : Hid (T3 w w6 (w.heap.size + 1 + 1) (upd (lists a b (rws pre)) 1 (lists a b (rws pre) 1 ++ (ys.take 0).map fun s => (vl, s))) O vs es1) := by
        show T3 _ _ _ _ _ _ _
        rw [show upd (lists a b (rws pre)) 1 (lists a b (rws pre) 1 ++ (ys.take 0).map fun s => (vl, s)) = lists a b (rws pre) by funext k; simp only [upd]; split <;> simp_all]
        exact HT.out.keep (Keep.of (F := fun _ => False) hB6) (fun _ h => h.elim)
      rw [hM]
      clear hO6 hOp hB6 hys k30 hM r0 r1 r2 p0 p1
      gi_wp2
      gi_loopw [36] (fun fi wr => ∃ (k : Nat) (Ok : Nat → Prop) (vs1 : Fin 3 → Value) (es2 : Fin 3 → List El), fi = .int .i64 (k : Int) ∧ Hid (k ≤ M) ∧ Hid (T3 w wr (w.heap.size + 1 + 1) (upd (lists a b (rws pre)) 1 (lists a b (rws pre) 1 ++ (ys.take k).map fun s => (vl, s))) Ok vs1 es2) ∧ Hid (Grew O Ok w6) ∧ Hid (Keep O w6 wr)) (fun fi _ => ((M : Int) - intOf fi).toNat)
      case atStart => exact ⟨0, O, vs, es1, rfl, Nat.zero_le _, HT6.out, Grew.refl _ _, Keep.refl _ _⟩
      case round =>
        obtain ⟨k, Ok, vs1, es2, rfl, hk, hTk, hGk, hKp⟩ := hrel
        have KW : Hid (Keep O W' wr) := (Keep.of HB6.out).trans hKp.out (fun _ _ h => h)
        have hvr := HVB.out.1.keep KW.out HVB.out.2
        have r0 := hvr.cell 0
        have r1 := hvr.cell 1
        have r2 := hvr.cell 2
        simp only [List.getElem?_cons_zero, List.getElem?_cons_succ] at r0 r1 r2
        by_cases hkM : k < M
        · have hki : (k : Int) < (M : Int) := by omega
          have hk0 : (0 : Int) ≤ (k : Int) := by omega
          obtain ⟨jb, rfl, hj1, hj2, hjc⟩ := HOp.out (by omega)
          obtain ⟨⟨f1, t1⟩, hy⟩ : ∃ y, ys[k]? = some y := ⟨_, List.getElem?_eq_getElem (by rw [HM.out]; exact hkM)⟩
          have hnj : ¬ O jb := fun h => by have := (HT.out.lt jb h).2; omega
          have d0 := (hKp.out.cell hj2 hnj).trans (hjc k _ hy).1
          have d1 := (hKp.out.cell hj2 hnj).trans (hjc k _ hy).2
          simp only at d0 d1
          have hTa := hTk.out.keep (Keep.of (F := fun _ => False) (al wr (.cells #[.int .i64 f1, .int .i64 t1] 27))) (fun _ h => h.elim)
          have z1 := hTa.blk.cell 1
          have s0 := (hvr.below (al wr (.cells #[.int .i64 f1, .int .i64 t1] 27))).cell 0
          simp only [List.getElem?_cons_zero, List.getElem?_cons_succ] at z1 s0
          have hA := hTa.app 1 1 rfl (by rw [upd_same, List.length_append, List.length_map]; have := HLen.out 1; have := List.length_take_le k ys; have := HM.out; omega) (f := f1) (t := t1) HSV.out
          rw [upd_same, upd_upd, show (wr.alloc (.cells #[.int .i64 f1, .int .i64 t1] 27)).heap.size = wr.heap.size + 1 by simp] at hA
          have HY : Hid (lists a b (rws pre) 1 ++ (ys.take (k + 1)).map (fun s => (vl, s)) = lists a b (rws pre) 1 ++ (ys.take k).map (fun s => (vl, s)) ++ [(vl, f1, t1)]) := by
            show _ = _
            rw [List.take_add_one, hy]; simp
          have hsz := KW.out.size
          clear hTa hvr hy hjc
          gi_wp2_with (gi_at_builtin; refine wpListIn_append_ex (by rfl) (.tmp 41) (.tmp 46) 31 (by rfl) _ _ (by rfl) (by rfl) hA ?_; rintro u w7 ⟨a7, n7, c7, rfl, y0, yf, HT7⟩)
          go_roundw
          case rel =>
            obtain ⟨O', es', q1, q2, q3⟩ := HT7.out
            have ka : Keep O wr (wr.alloc (.cells #[.int .i64 f1, .int .i64 t1] 27)) := Keep.of (al _ _)
            refine ⟨k + 1, O', _, es', by simp, by show _ ≤ _; omega, by show T3 _ _ _ _ _ _ _; rw [HY.out]; exact q1, ?_, ?_⟩
            · exact hGk.out.trans q2 (Nat.le_trans hKp.out.size ka.size)
            · exact (hKp.out.trans ka (fun _ _ h => h)).trans q3 (fun q hq h => (hGk.out q h).elim id (fun h => by omega))
          case measure => simp only [intOf]; omega
        · have hki : ¬ (k : Int) < (M : Int) := by omega
          have h8r := H8.out.1.keep KW.out H8.out.2.1
          have p0 := h8r.cell 0
          have p1 := h8r.cell 1
          simp only [List.getElem?_cons_zero, List.getElem?_cons_succ] at p0 p1
          have hyk : ys.take k = ys := List.take_of_length_le (by rw [HM.out]; omega)
          have HTk : Hid (T3 w wr (w.heap.size + 1 + 1) (upd (lists a b (rws pre)) 1 (lists a b (rws pre) 1 ++ ys.map fun s => (vl, s))) Ok vs1 es2) := by
            have := hTk.out
            rw [hyk] at this
            exact this
          have HVr : Hid (Blk wr vb [.slice pa vl.length ca, .int .i64 f, .int .i64 t] 30) := hvr
          have k18 := Sp.both9 f t a b wr
          rw [hbB] at k18
          obtain ⟨F, hF⟩ : ∃ F, Sp.bothF f t a b = F := ⟨_, rfl⟩
          obtain ⟨T, hT'⟩ : ∃ T, Sp.bothT f t a b = T := ⟨_, rfl⟩
          rw [hF, hT'] at HX k18
          clear h8r hTk hvr
          gi_wp2
          refine ⟨trivial, rfl, (CallsIn.inRound l' ((callsIn_wide (n := 0)).2 k18)).mono ?_⟩
          rintro e w8 ⟨rfl, B8⟩
          have B9 := bmore B8 (al w8 (.cells #[.int .i64 F, .int .i64 T] 27))
          have hTa := HTk.out.keep (Keep.of (F := fun _ => False) B9) (fun _ h => h.elim)
          have z2 := hTa.blk.cell 2
          have s0 := (HVr.out.below B9).cell 0
          simp only [List.getElem?_cons_zero, List.getElem?_cons_succ] at z2 s0
          have hA := hTa.app 2 2 rfl (by have := HLen.out 2; simp only [upd]; simp; omega) (f := F) (t := T) HSV.out
          rw [HX.out, show (w8.alloc (.cells #[.int .i64 F, .int .i64 T] 27)).heap.size = w8.heap.size + 1 by simp] at hA
          have HB9 : Hid _ := B9
          clear r0 r1 r2 p0 p1 hTa k18 B8 B9
          gi_wp2_with (gi_at_builtin; refine wpListIn_append_ex (by rfl) (.tmp 58) (.tmp 63) 31 (by rfl) _ _ (by rfl) (by rfl) hA ?_; rintro u w7 ⟨a7, n7, c7, rfl, y0, yf, HT7⟩)
          obtain ⟨O', es', q1, q2, q3⟩ := HT7.out
          have gO : Grew O O' W' := fun x hx => by
            have e1 := HB6.out.size
            have e2 := hKp.out.size
            have e3 := HB9.out.size
            rcases q2 x hx with q | q
            · exact (hGk.out x q).imp id (fun q => by omega)
            · exact .inr (by omega)
          have kO : Keep O W' (w7.setCell ⟨w.heap.size + 1 + 1, 2, none⟩ (.slice a7 n7 c7)) := (KW.out.trans (Keep.of HB9.out) (fun _ _ h => h)).trans q3 (fun q hq h => (hGk.out q h).elim id (fun h => by have := HB6.out.size; omega))
          exact ⟨O', HEnd.out _ _ _ _ q1 gO kO, gO, kO⟩
  case stop =>
    rintro D c O' pre W' _ _ _ h
    exact h.elim
  case done =>
    rintro D O' W' hD nD hI hgr hk hd
    obtain ⟨vs, es1, hT, h8, hO8, hOG⟩ := hI
    have z0 := hT.blk.cell 0
    have z1 := hT.blk.cell 1
    have z2 := hT.blk.cell 2
    simp only [List.getElem?_cons_zero, List.getElem?_cons_succ] at z0 z1 z2
    have b6 : Blk W' (w.heap.size + 1) nil3 62 := H62.out.keep hk (by omega)
    have x0 := b6.cell 0
    have x1 := b6.cell 1
    have x2 := b6.cell 2
    have y0 := b6.frozen 0
    have y1 := b6.frozen 1
    have y2 := b6.frozen 2
    simp only [List.getElem?_cons_zero, List.getElem?_cons_succ] at x0 x1 x2
    have hform : ∀ j, ∃ a n c, vs j = .slice a n c := fun j => PI.app.rowForm7 (hT.pi j).own
    obtain ⟨a0, n0, c0, e0⟩ := hform 0
    obtain ⟨a1, n1, c1, e1⟩ := hform 1
    obtain ⟨a2, n2, c2, e2⟩ := hform 2
    have b9 := ((b6.set (o := 0) (vs 0)).set (o := 1) (vs 1)).set (o := 2) (vs 2)
    have K9 : Keep (fun q => q = w.heap.size + 1) W' (((W'.setCell ⟨w.heap.size + 1, 0, none⟩ (vs 0)).setCell ⟨w.heap.size + 1, 1, none⟩ (vs 1)).setCell ⟨w.heap.size + 1, 2, none⟩ (vs 2)) := Keep.set (Keep.set (Keep.set (Keep.refl (fun q => q = w.heap.size + 1) W') (.inr (by rfl)) _) (.inr (by rfl)) _) (.inr (by rfl)) _
    rw [e0, e1, e2] at b9 K9
    rw [e0] at z0
    rw [e1] at z1
    rw [e2] at z2
    simp only [List.set_cons_zero, List.set_cons_succ] at b9
    have HD : Hid (w2.heap.size ≤ D ∧ D < W'.heap.size ∧ w.heap.size + 1 < w2.heap.size) := ⟨hD, (Array.getElem?_eq_some_iff.1 hd).1, H62.out.lt⟩
    have HF : Hid (∀ W9 w', Keep (fun q => q = w.heap.size + 1) W' W9 → Keep (· ∈ [D]) W9 w' → CPost w a b (rws es) (.returned (.agg #[.slice a0 n0 c0, .slice a1 n1 c1, .slice a2 n2 c2])) w') := fun W9 w' k9 k => by
      have kk : Keep (fun q => q = w.heap.size + 1 ∨ q = D) W' w' := (k9.mono (fun _ _ h => .inl h)).trans k (fun q _ h => .inr (by simpa using h))
      refine ⟨vs, es1, by rw [e0, e1, e2], fun j => (hT.pi j).keep kk (fun q hq h => ?_), hT.apart, hT.below.trans (kk.below hT.below.size (fun i hi h => by have := HD.out; omega))⟩
      rcases h with h | h
      · rw [h] at hq; exact blk_ne_row b6 (hT.pi j).own hq
      · rw [h] at hq; exact nD (hT.mine j D hq)
    have Hb9 : Hid _ := b9
    have HK9 : Hid _ := K9
    have Hd : Hid _ := hd
    clear hT h8 hO8 hOG b6 b9 K9 hd hgr hk hform e0 e1 e2 hD nD
    go_wp2
    refine leave_marks [D] _ (fun w' k => ⟨results_cell_row rfl _ _ (w.heap.size + 1) 62 _ (0, 0) _ rfl (Blk.keep (l := [.slice a0 n0 c0, .slice a1 n1 c1, .slice a2 n2 c2]) (t := 62) Hb9.out k (fun q => by have := HD.out; simp at q; omega)) Try.underlying62 rfl info62s, HF.out _ _ HK9.out k⟩) (fun D' h => ?_) (by simp)
    simp at h
    subst h
    exact (HK9.out.block _ HD.out.2.1 (by have := HD.out; omega)).trans Hd.out
end Go.Proofs.Ythalgnfffcimhaa
