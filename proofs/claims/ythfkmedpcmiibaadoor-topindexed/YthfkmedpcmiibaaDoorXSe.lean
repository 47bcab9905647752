/- soundPart, soundTop. -/
import Derived.Test.YthfkmedpcmiibaaDoorXSd
namespace Go.Proofs.YthfkmedpcmiibaaDoor.T
open Go.RowKit Go.Shelf
set_option maxRecDepth 100000
attribute [local go_sem] ta64_64 ta72_64 ta72_72 ta64_72 tb64_64 tb72_72
set_option maxHeartbeats 1000000 in
theorem soundPart62 : ∀ {h m : Nat} {w : World} {x : Bx} {kv : List Pr}, Part w h m x kv → 4 ≤ m → m ≤ 8 → h ≤ 101 → kv.length ≤ 1000 → Calls Tryd.prog 60 #[.iface x.1 x.2] w fun e w' => e = .returned (.bool true) ∧ Below w.heap.size w w'
  | 0, m, w, x, kv, hp, h4, h8, hh, hf => by
    obtain ⟨a, c, rfl, -, e0⟩ := hp.leaf
    rw [e0]
    have l0 : ¬ ((m : Int) < 4) := by omega
    have l1 : ¬ ((8 : Int) < (m : Int)) := by omega
    have hm1 := m_size64
    have k91 := size91 a m c
    clear hp e0
    go_enter Tryd.func60, Tryd.ntmps60
    go_wp2_with (go_at_call 94; (with_reducible refine (k91 _).mono ?_); rintro e w1 ⟨rfl, rfl⟩)
    go_ret
    exact ⟨rfl, Below.refl _ _⟩
  | h + 1, m, w, x, kv, hp, h4, h8, hh, hf => by
    obtain ⟨a, c, ks, rfl, h2, h3, h5, h6, h7⟩ := hp.inner
    have HK : Hid (∀ W, Below w.heap.size w W → Calls Tryd.prog 45 #[.agg #[.slice a m c, .string (fst kv), .int .i64 (kv.length : Int)]] W fun e w' => e = .returned (.bool true) ∧ Below W.heap.size W w') := fun W hW => by
      refine soundBelow51 (h2.below hW) h3 h5 h8 (h7.below hW) (by omega) (by rw [h6]) (by rw [h6]) (by rw [← h6]; exact hf) ?_
      intro W' z hW' hz
      obtain ⟨n, q1, q2, q3⟩ := h7 z hz
      refine soundPart62 (q3.below (bmore hW hW')) q1 q2 (by omega) ?_
      have : z.2.length ≤ (flat ks).length := by
        obtain ⟨i, hi⟩ := List.getElem?_of_mem hz
        rw [flat_cut hi]; simp; omega
      rw [← h6] at this
      omega
    have l0 : ¬ ((m : Int) < 4) := by omega
    have l1 : ¬ ((8 : Int) < (m : Int)) := by omega
    have hm1 := m_size72
    have k94 := size94 a m c (fst kv) (kv.length : Int)
    have HB0 : Hid (Below w.heap.size w w) := Below.refl _ _
    have k94a := k94 w
    generalize fst kv = s at *
    generalize kv.length = kl at *
    clear hp h2 h3 h5 h6 h7
    go_enter Tryd.func60, Tryd.ntmps60
    go_wp2_with (first
      | (go_at_call 97; (with_reducible refine k94a.mono ?_); rintro e w1 ⟨rfl, hB1⟩; have k94b := k94 w1; clear k94a k94)
      | (go_at_call 97; (with_reducible refine k94b.mono ?_); rintro e w2 ⟨rfl, hB2⟩; clear k94b; have k51 := HK.out (w2.alloc (.cells #[.slice a m c, .string s, .int .i64 (kl : Int)] 63)) (bmore (bmore hB1 hB2) (al _ _)))
      | (go_at_call 45; (with_reducible refine k51.mono ?_); rintro e w3 ⟨rfl, hB3⟩))
    go_ret
    exact ⟨rfl, bmore (bmore hB1 hB2) (bmore (al _ _) hB3)⟩
set_option maxHeartbeats 1000000 in
theorem soundTop40 {h n : Nat} {w : World} {x : Bx} {kv : List Pr} (hp : Part w h n x kv) (hr : Rt h n) (hh : h ≤ 100) (hf : kv.length ≤ 1000) : Calls Tryd.prog 25 #[.iface x.1 x.2] w fun e w' => e = .returned (.bool true) ∧ Below w.heap.size w w' := by
  cases h with
  | zero =>
    obtain ⟨a, c, rfl, -, e0⟩ := hp.leaf
    rw [e0]
    have l0 : (n : Int) ≤ 8 := by have := hr.1; omega
    clear hp hr e0
    go_enter Tryd.func25, Tryd.ntmps25
    go_wp2
    go_ret
    exact ⟨rfl, Below.refl _ _⟩
  | succ h =>
    obtain ⟨a, c, ks, rfl, h2, h3, h5, h6, h7⟩ := hp.inner
    have hn2 := hr.2 (by omega)
    have hB := al w (.cells #[.slice a n c, .string (fst kv), .int .i64 (kv.length : Int)] 63)
    have k51 : Calls Tryd.prog 45 #[.agg #[.slice a n c, .string (fst kv), .int .i64 (kv.length : Int)]] (w.alloc (.cells #[.slice a n c, .string (fst kv), .int .i64 (kv.length : Int)] 63)) fun e w' => e = .returned (.bool true) ∧ Below (w.alloc (.cells #[.slice a n c, .string (fst kv), .int .i64 (kv.length : Int)] 63)).heap.size (w.alloc (.cells #[.slice a n c, .string (fst kv), .int .i64 (kv.length : Int)] 63)) w' := by
      refine soundBelow51 (h2.below hB) h3 h5 hr.1 (h7.below hB) (by omega) (by rw [h6]) (by rw [h6]) (by rw [← h6]; exact hf) ?_
      intro W' z hW' hz
      obtain ⟨n, q1, q2, q3⟩ := h7 z hz
      refine soundPart62 (q3.below (bmore hB hW')) q1 q2 (by omega) ?_
      have : z.2.length ≤ (flat ks).length := by
        obtain ⟨i, hi⟩ := List.getElem?_of_mem hz
        rw [flat_cut hi]; simp; omega
      rw [← h6] at this
      omega
    have l0 : (2 : Int) ≤ (n : Int) := by omega
    have l1 : (n : Int) ≤ 8 := by have := hr.1; omega
    have HB : Hid _ := hB
    generalize fst kv = s at *
    generalize kv.length = kl at *
    clear hp hr h2 h3 h5 h6 h7 hB
    go_enter Tryd.func25, Tryd.ntmps25
    go_wp2_with (go_at_call 45; (with_reducible refine k51.mono ?_); rintro e w3 ⟨rfl, hB3⟩)
    go_ret
    exact ⟨rfl, bmore HB.out hB3⟩
end Go.Proofs.YthfkmedpcmiibaaDoor.T
