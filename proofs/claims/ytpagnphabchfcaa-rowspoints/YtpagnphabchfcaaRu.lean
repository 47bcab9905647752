/- The document's Compare of rows, SameRow, SameRows. -/
import Derived.Test.YtpagnphabchfcaaRt
namespace Go.Proofs.Ytpagnphabchfcaa
open Go.RowKit Go.Shelf
set_option maxRecDepth 100000
set_option maxHeartbeats 2000000 in
theorem spans51 (f t f' t' : Int) (w : World) :
    Calls Try.prog 51 #[.agg #[.int .i64 f, .int .i64 t], .agg #[.int .i64 f', .int .i64 t']] w fun e w' => e = .returned (.int .i64 (lexP Lib.compareInt Lib.compareInt (f, t) (f', t'))) ∧ Below w.heap.size w w' := by
  have c1 := ints43 f f'
  have c2 := ints43 t t'
  have hA : ∀ o o', Below w.heap.size w ((w.alloc o).alloc o') := fun o o' => bmore (al _ o) (al _ o')
  simp only [lexP]
  by_cases hf : Lib.compareInt f f' = 0
  · rw [if_pos hf]
    rw [hf] at c1
    generalize Lib.compareInt t t' = D at *
    clear hf
    go_enter Try.func51, Try.ntmps51
    go_wp2_with (first
      | (go_at_call 43; (with_reducible refine (c1 _).mono ?_); rintro e w1 ⟨rfl, rfl⟩; clear c1)
      | (go_at_call 43; (with_reducible refine (c2 _).mono ?_); rintro e w1 ⟨rfl, rfl⟩))
    go_ret
    exact ⟨rfl, hA _ _⟩
  · rw [if_neg hf]
    generalize Lib.compareInt f f' = C at *
    have hC : (C != 0) = true := by simpa using hf
    go_enter Try.func51, Try.ntmps51
    go_wp2_with (go_at_call 43; (with_reducible refine (c1 _).mono ?_); rintro e w1 ⟨rfl, rfl⟩)
    go_ret
    exact ⟨rfl, hA _ _⟩
set_option maxHeartbeats 2000000 in
theorem compare39 {w : World} {X : Nat → Prop} {v v' : Value} {r r' : Rw} (ha : SV w X v r.1) (hb : SV w X v' r'.1) (hza : r.1.length ≤ 1000000) (hzb : r'.1.length ≤ 1000000) :
    Calls Try.prog 39 #[RV v r, RV v' r'] w fun e w' => e = .returned (.int .i64 (cmpR r r')) ∧ Below w.heap.size w w' := by
  obtain ⟨pa, ca, hv⟩ := ha.form
  obtain ⟨pb, cb, hv'⟩ := hb.form
  subst hv hv'
  obtain ⟨vs, f, t⟩ := r
  obtain ⟨vs', f', t'⟩ := r'
  simp only at ha hb hza hzb ⊢
  have hal : Below w.heap.size w ((w.alloc (.cells #[.slice pa vs.length ca, .int .i64 f, .int .i64 t] 34)).alloc (.cells #[.slice pb vs'.length cb, .int .i64 f', .int .i64 t'] 34)) := bal (al _ _) _
  have b1 := (blk_new w [.slice pa vs.length ca, .int .i64 f, .int .i64 t] 34).below (al _ (.cells #[.slice pb vs'.length cb, .int .i64 f', .int .i64 t'] 34))
  have b2 := blk_at (w.alloc (.cells #[.slice pa vs.length ca, .int .i64 f, .int .i64 t] 34)) [.slice pb vs'.length cb, .int .i64 f', .int .i64 t'] 34 (g := w.heap.size + 1) (by simp)
  have c26 := values26 (ha.below hal) (hb.below hal) hza hzb
  have c51 := spans51 f t f' t'
  have HC : Hid (∀ W, Below ((w.alloc (.cells #[.slice pa vs.length ca, .int .i64 f, .int .i64 t] 34)).alloc (.cells #[.slice pb vs'.length cb, .int .i64 f', .int .i64 t'] 34)).heap.size ((w.alloc (.cells #[.slice pa vs.length ca, .int .i64 f, .int .i64 t] 34)).alloc (.cells #[.slice pb vs'.length cb, .int .i64 f', .int .i64 t'] 34)) W → (W.cell? ⟨w.heap.size, 1, none⟩ = some (.int .i64 f) ∧ W.cell? ⟨w.heap.size, 2, none⟩ = some (.int .i64 t)) ∧ W.cell? ⟨w.heap.size + 1, 1, none⟩ = some (.int .i64 f') ∧ W.cell? ⟨w.heap.size + 1, 2, none⟩ = some (.int .i64 t')) := fun W k => ⟨⟨(b1.below k).cell 1, (b1.below k).cell 2⟩, (b2.below k).cell 1, (b2.below k).cell 2⟩
  have HAl : Hid _ := hal
  rw [show cmpR (vs, f, t) (vs', f', t') = if cmpL vs vs' = 0 then lexP Lib.compareInt Lib.compareInt (f, t) (f', t') else cmpL vs vs' from rfl]
  generalize cmpL vs vs' = C at *
  generalize lexP Lib.compareInt Lib.compareInt (f, t) (f', t') = D at *
  clear ha hb hza hzb b1 b2 hal
  by_cases hC : C = 0
  · subst hC
    simp only [if_true]
    go_enter Try.func39, Try.ntmps39
    go_wp2_with (first
      | (go_at_call 26; (with_reducible refine c26.mono ?_); rintro e w1 ⟨rfl, hb1⟩; obtain ⟨⟨y1, y2⟩, y3, y4⟩ := HC.out _ hb1)
      | (go_at_call 51; (with_reducible refine (c51 _).mono ?_); rintro e w2 ⟨rfl, hb2⟩))
    go_ret
    exact ⟨rfl, bmore (bmore HAl.out hb1) hb2⟩
  · have hCb : (C != 0) = true := by simpa using hC
    simp only [hC, if_false]
    go_enter Try.func39, Try.ntmps39
    go_wp2_with (go_at_call 26; (with_reducible refine c26.mono ?_); rintro e w1 ⟨rfl, hb1⟩)
    go_ret
    exact ⟨rfl, bmore HAl.out hb1⟩
theorem sameRow22 {w : World} {X : Nat → Prop} {v v' : Value} {r r' : Rw} (ha : SV w X v r.1) (hb : SV w X v' r'.1) (hza : r.1.length ≤ 1000000) (hzb : r'.1.length ≤ 1000000) :
    Calls Try.prog 22 #[RV v r, RV v' r'] w fun e w' => e = .returned (.bool (decide (r = r'))) ∧ Below w.heap.size w w' := by
  obtain ⟨pa, ca, hv⟩ := ha.form
  obtain ⟨pb, cb, hv'⟩ := hb.form
  subst hv hv'
  have H39 : Hid (∀ W, Below w.heap.size w W → Calls Try.prog 39 #[RV (.slice pa r.1.length ca) r, RV (.slice pb r'.1.length cb) r'] W fun e w' => e = .returned (.int .i64 (cmpR r r')) ∧ Below W.heap.size W w') := fun W k => compare39 (ha.below k) (hb.below k) hza hzb
  rw [show decide (r = r') = (cmpR r r' == 0) by rw [Bool.eq_iff_iff]; simp [ordR.eq]]
  generalize cmpR r r' = C at *
  clear ha hb
  obtain ⟨vs, f, t⟩ := r
  obtain ⟨vs', f', t'⟩ := r'
  simp only at H39 ⊢
  have K : Below w.heap.size w w := Below.refl _ _
  go_enter Try.func22, Try.ntmps22
  go_wp2_with (go_at_call 39; (first | (with_reducible refine (H39.out _ K).mono ?_) | (refine (H39.out _ (bal (al _ _) _)).mono ?_)); rintro e w1 ⟨rfl, hb1⟩)
  go_ret
  first
    | exact ⟨rfl, hb1⟩
    | exact ⟨rfl, bmore (bal (al _ _) _) hb1⟩
end Go.Proofs.Ytpagnphabchfcaa
