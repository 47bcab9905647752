/- The document's Test; SameTexts. -/
import Derived.Test.YtjgdcdeekpeenaaRd
namespace Go.Proofs.Ytjgdcdeekpeenaa
open Go.RowKit Go.Shelf
set_option maxRecDepth 100000
def clashR (R : Rf) (o : On) : Bool := o.keys.any fun x => decide (o.since < lastD R.done x)
def errTR (R : Rf) (o : On) : Int := if clashR R o = true then 13 else if 1073741824 ≤ R.high then 4 else 0
theorem rtest31_no {w : World} {r : Nat} {K : Nat → Value} {D : Value} {R : Rf} (h : RM w r K D R) (id : Int) (hn : errR R id ≠ 0) : Calls Try.prog 31 #[.pointer (some ⟨r, 0, none⟩), .int .i64 id] w fun e w' => e = .returned (.int .i64 (errR R id)) ∧ Below w.heap.size w w' := by
  have k := look48 h id
  generalize errR R id = n at *
  clear h
  go_enter Try.func31, Try.ntmps31
  go_wp2_with (go_at_call 48; (with_reducible refine k.mono ?_); rintro e w1 ⟨rfl, hB⟩)
  go_ret
  exact ⟨rfl, hB⟩
set_option maxHeartbeats 1000000 in
theorem rtest31_yes {w : World} {r : Nat} {K : Nat → Value} {D : Value} {R : Rf} (h : RM w r K D R) {i : Nat} (hi : i < 4) (ho : (R.l i).op = true) (hl : (R.l i).keys.length ≤ 1000) (hd : R.done.length ≤ 100000) : Calls Try.prog 31 #[.pointer (some ⟨r, 0, none⟩), .int .i64 (i : Int)] w fun e w' => e = .returned (.int .i64 (errTR R (R.l i))) ∧ Below w.heap.size w w' := by
  have k := look48 h (i : Int)
  rw [errR_at hi, ho, if_pos rfl] at k
  obtain ⟨pk, ck, hpk⟩ := (h.keys i hi).form
  have HC : Hid (∀ W, Below w.heap.size w W → W.cell? ⟨r, 2 + i * 3, none⟩ = some (.bool true) ∧ W.cell? ⟨r, 2 + i * 3 + 1, none⟩ = some (.int .i64 (R.l i).since) ∧ W.cell? ⟨r, 2 + i * 3 + 2, none⟩ = some (.slice pk (R.l i).keys.length ck) ∧ W.cell? ⟨r, 1, none⟩ = some (.int .i64 R.high)) := fun W b => by
    obtain ⟨a1, a2, a3⟩ := (h.below b).at hi
    rw [ho] at a1
    rw [hpk] at a3
    exact ⟨a1, a2, a3, (h.below b).blk.cell 1⟩
  have HA : Hid (∀ W, Below w.heap.size w W → ∀ (j : Nat) (x : ByteArray), (R.l i).keys[j]? = some x → ∃ g o, pk = some ⟨g, o, none⟩ ∧ W.cell? ⟨g, o + j, none⟩ = some (.string x)) := fun W b j x hx => by
    have hk := (h.below b).keys i hi
    rw [hpk] at hk
    obtain ⟨g, o, h1, h2⟩ := hk.at hx
    have := h2 0 (by decide)
    exact ⟨g, o, h1, by simpa [ET] using this⟩
  have H49 : Hid (∀ W, Below w.heap.size w W → ∀ x, Calls Try.prog 49 #[.pointer (some ⟨r, 0, none⟩), .string x] W fun e w' => e = .returned (.int .i64 (lastD R.done x)) ∧ Below W.heap.size W w') := fun W b x => last49 (h.below b) hd x
  have h1 : (0 : Int) ≤ (i : Int) := by omega
  have h2 : (i : Int) < 4 := by omega
  clear h hpk
  generalize R.l i = o at *
  obtain ⟨N, hN⟩ : ∃ N, o.keys.length = N := ⟨_, rfl⟩
  have HN : Hid (o.keys.length = N) := hN
  rw [hN] at HC hl
  clear hN ho
  obtain ⟨sc, hsc⟩ : ∃ sc, o.since = sc := ⟨_, rfl⟩
  have HSc : Hid (o.since = sc) := hsc
  rw [hsc] at HC
  clear hsc
  go_enter Try.func31, Try.ntmps31
  go_upto_region 5 with (go_at_call 48; (with_reducible refine k.mono ?_); rintro e w1 ⟨rfl, hB1⟩; obtain ⟨a1, a2, a3, _⟩ := HC.out _ hB1)
  have bx := blk_new w1 [.bool true, .int .i64 sc, .slice pk N ck] 71
  have hal := al w1 (.cells #[.bool true, .int .i64 sc, .slice pk N ck] 71)
  change Blk (w1.alloc (.cells #[.bool true, .int .i64 sc, .slice pk N ck] 71)) _ _ _ at bx
  have HB2 : Hid (Below w.heap.size w (w1.alloc (.cells #[.bool true, .int .i64 sc, .slice pk N ck] 71))) := bmore hB1 hal
  have HX : Hid (∀ W, Below (w1.alloc (.cells #[.bool true, .int .i64 sc, .slice pk N ck] 71)).heap.size (w1.alloc (.cells #[.bool true, .int .i64 sc, .slice pk N ck] 71)) W → W.cell? ⟨w1.heap.size, 1, none⟩ = some (.int .i64 sc) ∧ W.cell? ⟨w1.heap.size, 2, none⟩ = some (.slice pk N ck)) := fun W q => ⟨(bx.below q).cell 1, (bx.below q).cell 2⟩
  generalize w1.alloc (.cells #[.bool true, .int .i64 sc, .slice pk N ck] 71) = w2 at *
  clear a1 a2 a3 k bx hal
  go_wp2_with fail
  go_loopw [7] (fun f7 wr => ∃ j : Nat, f7 = .int .i64 (j : Int) ∧ Hid (j ≤ N) ∧ Hid (∀ (p : Nat) (x : ByteArray), p < j → o.keys[p]? = some x → ¬ sc < lastD R.done x) ∧ Hid (Below w2.heap.size w2 wr)) (fun f7 _ => ((N : Int) - intOf f7).toNat)
  case atStart => exact ⟨0, rfl, Nat.zero_le _, fun p x hp => by omega, Below.refl _ _⟩
  case round =>
    obtain ⟨j, rfl, hj, hno, hB⟩ := hrel
    obtain ⟨x1, x2⟩ := HX.out _ hB.out
    by_cases hjN : j < N
    · have b1 : (j : Int) < (N : Int) := by omega
      have b2 : (0 : Int) ≤ (j : Int) := by omega
      obtain ⟨x, hx⟩ : ∃ x, o.keys[j]? = some x := ⟨_, List.getElem?_eq_getElem (by rw [HN.out]; exact hjN)⟩
      obtain ⟨g, of, rfl, _⟩ := HA.out _ HB2.out j x hx
      have HS : Hid (∀ W, Below w2.heap.size w2 W → W.cell? ⟨w1.heap.size, 1, none⟩ = some (.int .i64 sc) ∧ W.cell? ⟨w1.heap.size, 2, none⟩ = some (.slice (some ⟨g, of, none⟩) N ck) ∧ W.cell? ⟨g, of + j, none⟩ = some (.string x)) := fun W q => by
        obtain ⟨g', o', e, hc⟩ := HA.out _ (bmore HB2.out q) j x hx
        cases e
        exact ⟨(HX.out _ q).1, (HX.out _ q).2, hc⟩
      have K0 : Below w2.heap.size w2 wr.drew := hB.out.drew
      have hS0 := HS.out _ K0
      have k49 := H49.out _ (bmore HB2.out K0) x
      have HXx : Hid (o.keys[j]? = some x) := hx
      clear hx
      obtain ⟨lv, hlv⟩ : ∃ lv, lastD R.done x = lv := ⟨_, rfl⟩
      have HLv : Hid (lastD R.done x = lv) := hlv
      rw [hlv] at k49
      clear hlv
      by_cases hc : sc < lv
      · go_wp2_with fail
        go_region_held3 (fun W => W.cell? ⟨w1.heap.size, 1, none⟩ = some (.int .i64 sc) ∧ W.cell? ⟨w1.heap.size, 2, none⟩ = some (.slice (some ⟨g, of, none⟩) N ck) ∧ W.cell? ⟨g, of + j, none⟩ = some (.string x)) (first | exact hS0 | exact hS3) (first | (go_at_call 49; (with_reducible refine k49.mono ?_); rintro e w3 ⟨rfl, hB3⟩; have hS3 := HS.out _ (bmore K0 hB3)))
        all_goals
          go_wp2_with fail
          go_ret
          have hcl : clashR R o = true := List.any_eq_true.2 ⟨x, List.mem_of_getElem? HXx.out, by rw [HLv.out, HSc.out]; exact decide_eq_true hc⟩
          exact ⟨by simp [errTR, hcl], bmore HB2.out (bmore K0 hB3)⟩
      · go_wp2_with fail
        go_region_held3 (fun W => W.cell? ⟨w1.heap.size, 1, none⟩ = some (.int .i64 sc) ∧ W.cell? ⟨w1.heap.size, 2, none⟩ = some (.slice (some ⟨g, of, none⟩) N ck) ∧ W.cell? ⟨g, of + j, none⟩ = some (.string x)) (first | exact hS0 | exact hS3) (first | (go_at_call 49; (with_reducible refine k49.mono ?_); rintro e w3 ⟨rfl, hB3⟩; have hS3 := HS.out _ (bmore K0 hB3)))
        all_goals
          go_wp2_with fail
          go_roundw
          case rel =>
            refine ⟨j + 1, by simp, by show _ ≤ _; omega, fun p y hp hy => ?_, bmore K0 hB3⟩
            by_cases e : p = j
            · subst e
              have := HXx.out
              rw [this] at hy
              cases hy
              rw [HLv.out]
              omega
            · have := hno.out p y (by omega) hy
              omega
          case measure => simp only [intOf]; omega
    · have b1 : ¬ (j : Int) < (N : Int) := by omega
      have hncl : clashR R o = false := by
        rw [Bool.eq_false_iff]
        intro q
        obtain ⟨x, hx, hq⟩ := List.any_eq_true.1 q
        obtain ⟨p, hp, rfl⟩ := List.getElem_of_mem hx
        have := hno.out p _ (by have := HN.out; omega) (List.getElem?_eq_getElem hp)
        rw [HSc.out] at hq
        exact this (of_decide_eq_true hq)
      have HE : Hid (errTR R o = if 1073741824 ≤ R.high then 4 else 0) := by show _ = _; simp [errTR, hncl]
      obtain ⟨_, _, _, c1⟩ := HC.out _ (bmore HB2.out hB.out)
      clear hncl
      by_cases hh : 1073741824 ≤ R.high
      · go_wp2_with fail
        go_ret
        exact ⟨by rw [HE.out, if_pos hh]; rfl, bmore HB2.out hB.out⟩
      · go_wp2_with fail
        go_ret
        exact ⟨by rw [HE.out, if_neg (by omega)]; rfl, bmore HB2.out hB.out⟩
theorem lv_str {w : World} {a : Option Addr} {n c : Nat} {L : List ByteArray} (h : LV ET w (.slice a n c) L) {j : Nat} {x : ByteArray} (hx : L[j]? = some x) : ∃ g o, a = some ⟨g, o, none⟩ ∧ w.cell? ⟨g, o + j, none⟩ = some (.string x) := by
  obtain ⟨g, o, h1, h2⟩ := h.at hx
  have := h2 0 (by decide)
  exact ⟨g, o, h1, by simpa [ET] using this⟩
set_option maxHeartbeats 1000000 in
/-- SameTexts of texts that are the same. -/
theorem texts32 {w : World} {a b : Value} {xs : List ByteArray} (ha : LV ET w a xs) (hb : LV ET w b xs) (hl : xs.length ≤ 1000) : Calls Try.prog 32 #[a, b] w fun e w' => e = .returned (.bool true) ∧ Below w.heap.size w w' := by
  obtain ⟨pa, ca, rfl⟩ := ha.form
  obtain ⟨pb, cb, rfl⟩ := hb.form
  obtain ⟨N, hN⟩ : ∃ N, xs.length = N := ⟨_, rfl⟩
  have HNN : Hid (xs.length = N) := hN
  rw [hN] at ha hb hl ⊢
  have HA : Hid _ := ha
  have HB : Hid _ := hb
  clear ha hb hN
  go_enter Try.func32, Try.ntmps32
  go_wp2_with fail
  go_loopw [5] (fun q wr => ∃ k : Nat, q = .int .i64 (k : Int) ∧ Hid (k ≤ N) ∧ Hid (Below w.heap.size w wr)) (fun q _ => ((N : Int) - intOf q).toNat)
  case atStart => exact ⟨0, rfl, Nat.zero_le _, Below.refl _ _⟩
  case round =>
    obtain ⟨k, rfl, hk, hB⟩ := hrel
    by_cases hlt : k < N
    · have h1 : (k : Int) < (N : Int) := by omega
      have h0 : (0 : Int) ≤ (k : Int) := by omega
      obtain ⟨s, hs⟩ : ∃ s, xs[k]? = some s := ⟨_, List.getElem?_eq_getElem (by rw [HNN.out]; exact hlt)⟩
      obtain ⟨ga, oa, rfl, c0⟩ := lv_str (LV.below HA.out hB.out) hs
      obtain ⟨gb, ob, rfl, c1⟩ := lv_str (LV.below HB.out hB.out) hs
      clear hs
      go_wp2_with fail
      go_region
      go_wp2_with fail
      go_roundw
      case rel => exact ⟨k + 1, by simp, by show _ ≤ _; omega, hB.out.drew⟩
      case measure => simp only [intOf]; omega
    · have h1 : ¬ (k : Int) < (N : Int) := by omega
      go_wp2_with fail
      go_ret
      exact ⟨rfl, hB.out⟩
end Go.Proofs.Ytjgdcdeekpeenaa
