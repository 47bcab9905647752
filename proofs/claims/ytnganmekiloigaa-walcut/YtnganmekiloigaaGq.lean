/- greatestEpoch, halfOf, sized. -/
import Derived.Test.YtnganmekiloigaaGp
namespace Go.Proofs.Ytnganmekiloigaa
open Go.RowKit
set_option maxRecDepth 100000
variable {w w' : World} {H L : List Pc}

theorem LV.rng {a : Option Addr} {n c : Nat} (h : LV EPc w (.slice a n c) L) {i : Nat} {x : Pc} (hx : L[i]? = some x) : ∃ g o, a = some ⟨g, o, none⟩ ∧ w.rangeAt g (o + i * 62) (encPc x) := by
  obtain ⟨g, o, h1, h2⟩ := h.at hx
  refine ⟨g, o, h1, fun j v hv => ?_⟩
  have hj := (List.getElem?_eq_some_iff.1 hv).1
  rw [encPc_length] at hj
  exact (h2 j hj).trans hv
theorem great_step {m : Nat} {x : Pc} (h : L[m]? = some x) : great (L.take (m + 1)) = max (great (L.take m)) x.e := by
  rw [take_step h]; simp [great]
set_option maxHeartbeats 1000000 in
theorem greatest70 {v : Value} (hv : LV EPc w v L) (hL : L.length ≤ 128) (hE : ∀ x ∈ L, x.e < 65536) :
    Calls Try.prog 70 #[v] w fun e w' => e = .returned (.int .i64 ((great L : Nat) : Int)) ∧ Below w.heap.size w w' := by
  obtain ⟨a, c, rfl⟩ := hv.form
  have HV : Hid (∀ W, Below w.heap.size w W → LV EPc W (.slice a L.length c) L) := fun W k => hv.below k
  have HE : Hid (∀ m, great (L.take m) < 65536) := fun m => Nat.lt_of_le_of_lt (great_bound _ 0 65535 (by omega) fun x hx => by have := hE x (List.mem_of_mem_take hx); omega) (by omega)
  have HF : Hid (∀ x ∈ L, x.e < 65536) := hE
  have HN : Hid (∀ m, m < L.length → ∃ x, L[m]? = some x) := fun m hm => ⟨_, List.getElem?_eq_getElem hm⟩
  have HT : Hid (L.take L.length = L) := List.take_length
  clear hv hE
  generalize hn : L.length = n at *
  clear hn
  have hz := encPc_length zPc
  have hzi := info141a
  generalize encPc zPc = z0 at *
  go_enter Try.func70, Try.ntmps70
  go_wp2
  go_loopw [3, 8] (fun q p wr => ∃ m : Nat, m ≤ n ∧ p = .int .i64 (m : Int) ∧ q = .int .i64 ((great (L.take m) : Nat) : Int) ∧ Below w.heap.size w wr) (fun _ p _ => n - (intOf p).toNat)
  case atStart => exact ⟨0, by omega, rfl, rfl, Below.refl _ _⟩
  case round =>
    obtain ⟨m, hm, rfl, rfl, hB⟩ := hrel
    by_cases hlt : m < n
    · have hlt1 : (m : Int) < (n : Int) := by omega
      obtain ⟨x, hx⟩ := HN.out m hlt
      obtain ⟨g, o, rfl, hr⟩ := (HV.out _ hB).rng hx
      have h1 : great (L.take m) < 65536 := HE.out m
      have h2 := HF.out x (List.mem_of_getElem? hx)
      have hG := great_step hx
      have hxl := encPc_length x
      have hxo := encPc_one x
      have HX : Hid (∀ W b, Blk W b (encPc x) 141 → W.cell? ⟨b, 0, none⟩ = some (.int .i64 (x.e : Int))) := fun W b h => h.cell 0
      generalize great (L.take m) = q at *
      generalize encPc x = cx at *
      clear hx
      go_wp2_with (first
        | (refine wpList_load_mid rfl 141 (.tmp 10) rfl g (o + m * 62) rfl cx _ hr Try.underlying141 rfl (by rw [hxl]; exact info141s) ?_)
        | (refine wpList_alloc_row rfl 141 rfl z0 hzi ?_; intro w3 hb3 hB3 hs3)
        | (refine wpList_store_whole rfl 141 (.tmp 5) (.tmp 11) rfl wr.heap.size cx rfl rfl z0 141 hb3 (by omega) (by rw [hxl]; exact info141s) hxo ?_; intro w4 hb4 hk4 hs4; have q4 := HX.out _ _ hb4))
      refine ⟨⟨m + 1, by omega, by simp, ?_, hB.trans ((kbel hB3 hk4 (Nat.le_refl _) (Nat.le_refl _)).mono hB.size)⟩, by simp only [intOf]; omega⟩
      rw [hG]
      split
      · rw [Nat.max_eq_right (by omega)]
      · rw [Nat.max_eq_left (by omega)]
    · have hlt1 : ¬ (m : Int) < (n : Int) := by omega
      obtain rfl : m = n := by omega
      go_wp2
      go_ret
      exact ⟨by rw [HT.out]; rfl, hB⟩

theorem LV.some {v : Value} (h : LV EPc w v L) (h0 : 0 < L.length) : ∃ g o c, v = .slice (some ⟨g, o, none⟩) L.length c ∧ L.length ≤ c := by
  obtain ⟨a, c, rfl, hc, h2⟩ := h
  obtain ⟨g, o, cs, t, rfl, _⟩ := h2 h0
  exact ⟨g, o, c, rfl, hc⟩
theorem half_int {n R : Nat} (h : n = 2 * R) : ((n : Nat) : Int).tdiv 2 = (R : Int) := by
  rw [h, show ((2 * R : Nat) : Int) = 2 * (R : Int) by omega]
  exact Int.mul_tdiv_cancel_left _ (by decide)
set_option maxHeartbeats 400000 in
theorem halfOf73_0 {v : Value} {R : Nat} (hv : LV EPc w v L) (hL : L.length = 2 * R) (hR : 2 ≤ R) (hR2 : R ≤ 64) :
    Calls Try.prog 73 #[v, .int .i64 0] w fun e w' => ∃ u, e = .returned u ∧ LV EPc w u (L.take R) ∧ w' = w := by
  obtain ⟨g, o, c, rfl, hc⟩ := hv.some (by omega)
  have ht := hv.take (k := R) (by omega) c (by omega)
  have h1 := half_int hL
  have h2 : (0 : Int) ≤ (R : Int) := by omega
  have h3 : (R : Int) ≤ (c : Int) := by omega
  have h4 : R ≤ c := by omega
  have h5 : ¬ c < R := by omega
  clear hv
  generalize L.length = n at *
  clear hL
  go_enter Try.func73, Try.ntmps73
  go_wp2
  go_ret
  exact ⟨_, rfl, ht, rfl⟩
set_option maxHeartbeats 400000 in
theorem halfOf73_1 {v : Value} {R : Nat} (hv : LV EPc w v L) (hL : L.length = 2 * R) (hR : 2 ≤ R) (hR2 : R ≤ 64) :
    Calls Try.prog 73 #[v, .int .i64 1] w fun e w' => ∃ u, e = .returned u ∧ LV EPc w u (L.drop R) ∧ w' = w := by
  obtain ⟨g, o, c, rfl, hc⟩ := hv.some (by omega)
  obtain ⟨g', o', he, ht⟩ := hv.drop (k := R) (by omega) (c - R) (by omega)
  simp only [Option.some.injEq, Addr.mk.injEq, and_true] at he
  obtain ⟨rfl, rfl⟩ := he
  rw [hL] at ht
  have h1 := half_int hL
  have h2 : (0 : Int) ≤ (R : Int) := by omega
  have h3 : (2 * R : Int) ≤ (c : Int) := by omega
  have h4 : 2 * R ≤ c := by omega
  have h5 : ¬ c < 2 * R := by omega
  have h6 : ¬ c = R := by omega
  have h7 : (R : Int) ≤ 2 * (R : Int) := by omega
  clear hv
  generalize L.length = n at *
  clear hL
  go_enter Try.func73, Try.ntmps73
  go_wp2
  go_ret
  exact ⟨_, rfl, ht, rfl⟩
set_option maxHeartbeats 400000 in
theorem sized109 (x : Pc) (hn : x.n < 256) :
    Calls Try.prog 109 #[.agg (encPc x).toArray] w fun e w' => e = .returned (.bool (if x.k + 1 < x.n then x.z == 57 else decide (x.z ≤ 57))) ∧ Below w.heap.size w w' := by
  have b0 := blk_new w (encPc x) 141
  have q2 : (w.alloc (.cells (encPc x).toArray 141)).cell? ⟨w.heap.size, 2, none⟩ = some (.int .i64 (x.k : Int)) := b0.cell 2
  have q3 : (w.alloc (.cells (encPc x).toArray 141)).cell? ⟨w.heap.size, 3, none⟩ = some (.int .i64 (x.n : Int)) := b0.cell 3
  have q4 : (w.alloc (.cells (encPc x).toArray 141)).cell? ⟨w.heap.size, 4, none⟩ = some (.int .i64 (x.z : Int)) := b0.cell 4
  clear b0
  have B0 := al w (.cells (encPc x).toArray 141)
  generalize encPc x = cx at *
  by_cases h : x.k + 1 < x.n
  · have h1 : (x.k : Int) < (x.n : Int) - 1 := by omega
    rw [if_pos h]
    generalize x.k = k at *
    generalize x.n = n at *
    go_enter Try.func109, Try.ntmps109
    go_wp2
    go_ret
    refine ⟨?_, B0⟩
    show Ending.returned (Value.bool _) = _
    congr 2
    rw [Bool.eq_iff_iff]
    simp
    try omega
  · have h1 : ¬ (x.k : Int) < (x.n : Int) - 1 := by omega
    rw [if_neg h]
    generalize x.k = k at *
    generalize x.n = n at *
    go_enter Try.func109, Try.ntmps109
    go_wp2
    go_ret
    refine ⟨?_, B0⟩
    show Ending.returned (Value.bool _) = _
    congr 2
    rw [Bool.eq_iff_iff]
    simp
    try omega
end Go.Proofs.Ytnganmekiloigaa
