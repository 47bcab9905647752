/- Lists of values in memory; which of two rows comes first. -/
import Derived.Test.YthalgnfffcimhaaVc
namespace Go.Proofs.Ythalgnfffcimhaa
open Go.RowKit Go.Shelf
set_option maxRecDepth 100000
/-- A slice of values reads as vs, from a block outside of X. -/
def SV (w : World) (X : Nat → Prop) (v : Value) (vs : List Vt) : Prop := ∃ a c, v = .slice a vs.length c ∧ (0 < vs.length → ∃ g o, a = some ⟨g, o, none⟩ ∧ g < w.heap.size ∧ ¬ X g ∧
  ∀ (i : Nat) (x : Vt), vs[i]? = some x → w.cell? ⟨g, o + i * 3, none⟩ = some (.int .u8 x.1) ∧ w.cell? ⟨g, o + i * 3 + 1, none⟩ = some (.int .i64 x.2.1) ∧ w.cell? ⟨g, o + i * 3 + 2, none⟩ = some (.string x.2.2))
theorem SV.keep {w w' : World} {X Y : Nat → Prop} {v : Value} {vs : List Vt} (h : SV w X v vs) (k : Keep X w w') (hY : ∀ b, b < w.heap.size → Y b → X b) : SV w' Y v vs := by
  obtain ⟨a, c, rfl, h⟩ := h
  refine ⟨a, c, rfl, fun h0 => ?_⟩
  obtain ⟨g, o, rfl, hg, hx, hc⟩ := h h0
  exact ⟨g, o, rfl, Nat.lt_of_lt_of_le hg k.size, fun y => hx (hY g hg y), fun i s hs => ⟨(k.cell hg hx).trans (hc i s hs).1, (k.cell hg hx).trans (hc i s hs).2.1, (k.cell hg hx).trans (hc i s hs).2.2⟩⟩
theorem SV.mono {w : World} {X Y : Nat → Prop} {v : Value} {vs : List Vt} (h : SV w X v vs) (hY : ∀ b, b < w.heap.size → Y b → X b) : SV w Y v vs := h.keep (Keep.refl _ _) hY
theorem SV.below {w w' : World} {X : Nat → Prop} {v : Value} {vs : List Vt} (h : SV w X v vs) (k : Below w.heap.size w w') : SV w' X v vs := h.keep (Keep.of k) (fun _ _ h => h)
theorem SV.at {w : World} {X : Nat → Prop} {a : Option Addr} {n c : Nat} {vs : List Vt} (h : SV w X (.slice a n c) vs) {k : Nat} {x : Vt} (hy : vs[k]? = some x) : ∃ g o, a = some ⟨g, o, none⟩ ∧ w.cell? ⟨g, o + k * 3, none⟩ = some (.int .u8 x.1) ∧ w.cell? ⟨g, o + k * 3 + 1, none⟩ = some (.int .i64 x.2.1) ∧ w.cell? ⟨g, o + k * 3 + 2, none⟩ = some (.string x.2.2) := by
  obtain ⟨a', c', hv, h⟩ := h
  simp only [Value.slice.injEq] at hv
  obtain ⟨rfl, -, -⟩ := hv
  obtain ⟨g, o, rfl, hg, _, hc⟩ := h (by have := (List.getElem?_eq_some_iff.1 hy).1; omega)
  exact ⟨g, o, rfl, hc k x hy⟩
theorem SV.form {w : World} {X : Nat → Prop} {v : Value} {vs : List Vt} (h : SV w X v vs) : ∃ a c, v = .slice a vs.length c := by
  obtain ⟨a, c, h, _⟩ := h
  exact ⟨a, c, h⟩
theorem SV.nil {w : World} {X : Nat → Prop} (a : Option Addr) (c : Nat) : SV w X (.slice a 0 c) [] := ⟨a, c, rfl, fun h => by simp at h⟩
theorem lexL_step {a b : List Vt} {k : Nat} {x y : Vt} (hx : a[k]? = some x) (hy : b[k]? = some y) : cmpL (a.drop k) (b.drop k) = if cmpT x y = 0 then cmpL (a.drop (k + 1)) (b.drop (k + 1)) else cmpT x y := by
  have h1 := List.getElem?_eq_some_iff.1 hx
  have h2 := List.getElem?_eq_some_iff.1 hy
  rw [List.drop_eq_getElem_cons h1.1, List.drop_eq_getElem_cons h2.1, h1.2, h2.2]
  rfl
set_option maxHeartbeats 2000000 in
theorem cmp44 {w : World} {X : Nat → Prop} {v v' : Value} {a b : List Vt} (ha : SV w X v a) (hb : SV w X v' b) (hza : a.length ≤ 1000000) (hzb : b.length ≤ 1000000) :
    Calls Try.prog 34 #[v, v', .func (.func 35) #[] #[]] w fun e w' => e = .returned (.int .i64 (cmpL a b)) ∧ GB w w' := by
  obtain ⟨pa, ca, rfl⟩ := ha.form
  obtain ⟨pb, cb, rfl⟩ := hb.form
  obtain ⟨n, hn⟩ : ∃ n, a.length = n := ⟨_, rfl⟩
  obtain ⟨m, hm⟩ : ∃ m, b.length = m := ⟨_, rfl⟩
  have HA : Hid (SV w X (.slice pa a.length ca) a) := ha
  have HB : Hid (SV w X (.slice pb b.length cb) b) := hb
  have HN : Hid (a.length = n) := hn
  have HM : Hid (b.length = m) := hm
  rw [hn] at hza ⊢
  rw [hm] at hzb ⊢
  clear hn hm ha hb
  go_enter Try.func34, Try.ntmps34
  go_wp2_with fail
  go_loopw [13] (fun i wr => ∃ k : Nat, i = .int .i64 (k : Int) ∧ Hid (k ≤ n ∧ k ≤ m) ∧ Hid (cmpL a b = cmpL (a.drop k) (b.drop k)) ∧ Hid (GB w wr)) (fun i _ => ((n : Int) - intOf i).toNat)
  case atStart => exact ⟨0, rfl, ⟨by omega, by omega⟩, rfl, GB.refl _⟩
  case round =>
    obtain ⟨k, rfl, hkk, hcmp, hbe⟩ := hrel
    by_cases hlt : k < n
    · have hkz : (k : Int) < (n : Int) := by omega
      have hk0 : (0 : Int) ≤ (k : Int) := by omega
      obtain ⟨x, hx⟩ : ∃ x, a[k]? = some x := ⟨_, List.getElem?_eq_getElem (by rw [HN.out]; exact hlt)⟩
      obtain ⟨b1, o1, rfl, a0, a1, a2⟩ := (SV.below HA.out hbe.out.b).at hx
      by_cases hlm : k < m
      · have hkz2 : ¬ ((m : Int) ≤ (k : Int)) := by omega
        have hkz3 : (k : Int) < (m : Int) := by omega
        obtain ⟨y, hy⟩ : ∃ y, b[k]? = some y := ⟨_, List.getElem?_eq_getElem (by rw [HM.out]; exact hlm)⟩
        have HS : Hid (cmpL a b = if cmpT x y = 0 then cmpL (a.drop (k + 1)) (b.drop (k + 1)) else cmpT x y) := by
          show _ = _
          rw [hcmp.out]; exact lexL_step hx hy
        obtain ⟨b2, o2, rfl, q0, q1, q2⟩ := (SV.below HB.out (hbe.out.b)).at hy
        have p0 := fun ob => ((Ythalgnfffcimhaa.al wr ob).cell (p := ⟨b2, o2 + k * 3, none⟩) (World.block_lt_of_cell? wr _ q0)).trans q0
        have p1 := fun ob => ((Ythalgnfffcimhaa.al wr ob).cell (p := ⟨b2, o2 + k * 3 + 1, none⟩) (World.block_lt_of_cell? wr _ q1)).trans q1
        have p2 := fun ob => ((Ythalgnfffcimhaa.al wr ob).cell (p := ⟨b2, o2 + k * 3 + 2, none⟩) (World.block_lt_of_cell? wr _ q2)).trans q2
        have c45 := fun w => value45 x y w
        clear hcmp hx hy q0 q1 q2
        generalize hT : cmpT x y = T at *
        clear hT
        obtain ⟨xk, xn, xs⟩ := x
        obtain ⟨yk, yn, ys⟩ := y
        simp only at a0 a1 a2 p0 p1 p2 c45
        by_cases hT0 : T = 0
        · subst hT0
          go_wp2_with (go_at_call 35; (with_reducible refine (c45 _).mono ?_); rintro e w1 ⟨rfl, hb1⟩)
          go_roundw
          case rel => exact ⟨k + 1, by simp, ⟨by omega, by omega⟩, by rw [HS.out]; rfl, ((hbe.out.trans (GB.al _ _)).trans (GB.al _ _)).trans hb1⟩
          case measure => simp only [intOf]; omega
        · have hT1 : (T != 0) = true := by simpa using hT0
          go_wp2_with (go_at_call 35; (with_reducible refine (c45 _).mono ?_); rintro e w1 ⟨rfl, hb1⟩)
          go_ret
          exact ⟨by rw [HS.out, if_neg hT0]; rfl, ((hbe.out.trans (GB.al _ _)).trans (GB.al _ _)).trans hb1⟩
      · have hkz2 : (m : Int) ≤ (k : Int) := by omega
        have HS : Hid (cmpL a b = 1) := by
          show _ = _
          rw [hcmp.out, show b.drop k = [] from List.drop_eq_nil_of_le (by rw [HM.out]; omega), List.drop_eq_getElem_cons (List.getElem?_eq_some_iff.1 hx).1]
          rfl
        obtain ⟨xk, xn, xs⟩ := x
        simp only at a0 a1 a2
        clear hcmp hx
        go_wp2
        go_ret
        exact ⟨by rw [HS.out]; rfl, hbe.out.trans (GB.al _ _)⟩
    · have hkz : ¬ ((k : Int) < (n : Int)) := by omega
      have hda : a.drop k = [] := List.drop_eq_nil_of_le (by rw [HN.out]; omega)
      have hc := hcmp.out
      rw [hda] at hc
      by_cases hnm : n < m
      · have hz : (n : Int) < (m : Int) := by omega
        have HS : Hid (cmpL a b = -1) := by
          show _ = _
          rw [hc, List.drop_eq_getElem_cons (by rw [HM.out]; have := hkk.out; omega)]
          rfl
        clear hc hda
        go_wp2
        go_ret
        exact ⟨by rw [HS.out]; rfl, hbe.out⟩
      · have hz : ¬ (n : Int) < (m : Int) := by omega
        have HS : Hid (cmpL a b = 0) := by
          show _ = _
          rw [hc, List.drop_eq_nil_of_le (by rw [HM.out]; have := hkk.out; omega)]
          rfl
        clear hc hda
        go_wp2
        go_ret
        exact ⟨by rw [HS.out]; rfl, hbe.out⟩
/-- A row as it is handed: the slice of its values, its span. -/
abbrev RV (v : Value) (r : Rw) : Value := .agg #[v, .int .i64 r.2.1, .int .i64 r.2.2]
set_option maxHeartbeats 2000000 in
theorem codec30 {w : World} {X : Nat → Prop} {v v' : Value} {r r' : Rw} (ha : SV w X v r.1) (hb : SV w X v' r'.1) (hza : r.1.length ≤ 1000000) (hzb : r'.1.length ≤ 1000000) :
    Calls Try.prog 21 #[RV v r, RV v' r'] w fun e w' => e = .returned (.int .i64 (cmpR r r')) ∧ GB w w' := by
  obtain ⟨vs, f, t⟩ := r
  obtain ⟨vs', f', t'⟩ := r'
  simp only at ha hb hza hzb
  have hG : GB w ((w.alloc (.cells #[v, .int .i64 f, .int .i64 t] 30)).alloc (.cells #[v', .int .i64 f', .int .i64 t'] 30)) := (GB.al _ _).trans (GB.al _ _)
  have b0 := (blk_new w [v, .int .i64 f, .int .i64 t] 30).below (Ythalgnfffcimhaa.al _ (.cells #[v', .int .i64 f', .int .i64 t'] 30))
  have b1 := blk_at (w.alloc (.cells #[v, .int .i64 f, .int .i64 t] 30)) [v', .int .i64 f', .int .i64 t'] 30 (g := w.heap.size + 1) (by simp)
  change Blk ((w.alloc (.cells #[v, .int .i64 f, .int .i64 t] 30)).alloc (.cells #[v', .int .i64 f', .int .i64 t'] 30)) _ _ _ at b0 b1
  have k44 := cmp44 (ha.below hG.b) (hb.below hG.b) hza hzb
  have HC : Hid (∀ W', Below ((w.alloc (.cells #[v, .int .i64 f, .int .i64 t] 30)).alloc (.cells #[v', .int .i64 f', .int .i64 t'] 30)).heap.size ((w.alloc (.cells #[v, .int .i64 f, .int .i64 t] 30)).alloc (.cells #[v', .int .i64 f', .int .i64 t'] 30)) W' → W'.cell? ⟨w.heap.size, 1, none⟩ = some (.int .i64 f) ∧ W'.cell? ⟨w.heap.size, 2, none⟩ = some (.int .i64 t) ∧ W'.cell? ⟨w.heap.size + 1, 1, none⟩ = some (.int .i64 f') ∧ W'.cell? ⟨w.heap.size + 1, 2, none⟩ = some (.int .i64 t')) := fun W' k => ⟨(b0.below k).cell 1, (b0.below k).cell 2, (b1.below k).cell 1, (b1.below k).cell 2⟩
  have x0 := b0.cell 0
  have x1 := b1.cell 0
  simp only [List.getElem?_cons_zero] at x0 x1
  have HG : Hid _ := hG
  obtain ⟨pa, ca, hva⟩ := ha.form
  obtain ⟨pb, cb, hvb⟩ := hb.form
  subst hva hvb
  clear ha hb b0 b1 hG
  have hr : cmpR (vs, f, t) (vs', f', t') = if cmpL vs vs' = 0 then (if Lib.compareInt f f' = 0 then Lib.compareInt t t' else Lib.compareInt f f') else cmpL vs vs' := rfl
  generalize cmpL vs vs' = z at *
  by_cases hz : z = 0
  · subst hz
    rw [if_pos rfl] at hr
    by_cases hf : f = f'
    · subst hf
      rw [if_pos ((ordInt.eq _ _).2 rfl)] at hr
      rw [hr]
      clear hr
      have c46 := cmpI46 t t'
      go_enter Try.func21, Try.ntmps21
      go_wp2_with (first
        | (go_at_call 34; (with_reducible refine k44.mono ?_); rintro e w1 ⟨rfl, g1⟩; obtain ⟨y0, y1, y2, y3⟩ := HC.out _ g1.b)
        | (go_at_call 36; (with_reducible refine (c46 _).mono ?_); rintro e w2 ⟨rfl, rfl⟩))
      go_ret
      exact ⟨rfl, HG.out.trans g1⟩
    · have hne : (f != f') = true := by simpa using hf
      rw [if_neg (fun e => hf ((ordInt.eq _ _).1 e))] at hr
      rw [hr]
      clear hr hf
      have c46 := cmpI46 f f'
      go_enter Try.func21, Try.ntmps21
      go_wp2_with (first
        | (go_at_call 34; (with_reducible refine k44.mono ?_); rintro e w1 ⟨rfl, g1⟩; obtain ⟨y0, y1, y2, y3⟩ := HC.out _ g1.b)
        | (go_at_call 36; (with_reducible refine (c46 _).mono ?_); rintro e w2 ⟨rfl, rfl⟩))
      go_ret
      exact ⟨rfl, HG.out.trans g1⟩
  · have hne : (z != 0) = true := by simpa using hz
    rw [if_neg hz] at hr
    rw [hr]
    clear hr hz
    go_enter Try.func21, Try.ntmps21
    go_wp2_with (first
      | (go_at_call 34; (with_reducible refine k44.mono ?_); rintro e w1 ⟨rfl, g1⟩; obtain ⟨y0, y1, y2, y3⟩ := HC.out _ g1.b))
    go_ret
    exact ⟨rfl, HG.out.trans g1⟩
set_option maxHeartbeats 1000000 in
theorem sorted37 {w : World} {X : Nat → Prop} {v v' : Value} {r r' : Rw} (ha : SV w X v r.1) (hb : SV w X v' r'.1) (hza : r.1.length ≤ 1000000) (hzb : r'.1.length ≤ 1000000) :
    Calls Try.prog 26 #[RV v r, RV v' r'] w fun e w' => e = .returned (.int .i64 (cmpR r r')) ∧ GB w w' := by
  obtain ⟨vs, f, t⟩ := r
  obtain ⟨vs', f', t'⟩ := r'
  simp only at ha hb hza hzb
  have hG : GB w ((w.alloc (.cells #[v, .int .i64 f, .int .i64 t] 30)).alloc (.cells #[v', .int .i64 f', .int .i64 t'] 30)) := (GB.al _ _).trans (GB.al _ _)
  have k30 := codec30 (r := (vs, f, t)) (r' := (vs', f', t')) (ha.below hG.b) (hb.below hG.b) hza hzb
  generalize cmpR (vs, f, t) (vs', f', t') = z at *
  have b0 := (blk_new w [v, .int .i64 f, .int .i64 t] 30).below (Ythalgnfffcimhaa.al _ (.cells #[v', .int .i64 f', .int .i64 t'] 30))
  have b1 := blk_at (w.alloc (.cells #[v, .int .i64 f, .int .i64 t] 30)) [v', .int .i64 f', .int .i64 t'] 30 (g := w.heap.size + 1) (by simp)
  change Blk ((w.alloc (.cells #[v, .int .i64 f, .int .i64 t] 30)).alloc (.cells #[v', .int .i64 f', .int .i64 t'] 30)) _ _ _ at b0 b1
  have x0 := b0.cell 0
  have x1 := b0.cell 1
  have x2 := b0.cell 2
  have y0 := b1.cell 0
  have y1 := b1.cell 1
  have y2 := b1.cell 2
  simp only [List.getElem?_cons_zero, List.getElem?_cons_succ] at x0 x1 x2 y0 y1 y2
  have HG : Hid _ := hG
  obtain ⟨pa, ca, hva⟩ := ha.form
  obtain ⟨pb, cb, hvb⟩ := hb.form
  subst hva hvb
  clear ha hb b0 b1 hG
  go_enter Try.func26, Try.ntmps26
  go_wp2_with (go_at_call 21; (with_reducible refine k30.mono ?_); rintro e w1 ⟨rfl, g1⟩)
  go_ret
  exact ⟨rfl, HG.out.trans g1⟩
end Go.Proofs.Ythalgnfffcimhaa
