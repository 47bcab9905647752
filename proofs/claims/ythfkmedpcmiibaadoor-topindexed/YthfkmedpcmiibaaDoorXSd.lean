/- Count; soundTop, soundPart, soundBelow. -/
import Derived.Test.YthfkmedpcmiibaaDoorXd
namespace Go.Proofs.YthfkmedpcmiibaaDoor.T
open Go.RowKit Go.Shelf
set_option maxRecDepth 100000
attribute [local go_sem] ta64_64 ta72_64 ta72_72 ta64_72 tb64_64 tb72_72
/-- How many keys lie from one up to another one. -/
def countP (kv : List Pr) (a b : ByteArray) : Nat := (if b.size = 0 then kv.length else (lo kv b).length) - (lo kv a).length
theorem fst_flat0 {ks : List Kd} {y : Kd} (hy : ks[0]? = some y) (h : 0 < y.2.length) : fst (flat ks) = fst y.2 := by
  cases ks with
  | nil => cases hy
  | cons z l => cases hy; exact fst_flat h
set_option maxHeartbeats 1000000 in
theorem soundBelow51 {h n : Nat} {w : World} {a : Option Addr} {c : Nat} {s : ByteArray} {t : Int} {ks : List Kd} (hl : LV EK w (.slice a n c) (ks.map (·.1))) (e0 : ks.length = n) (h0 : 0 < n) (h8 : n ≤ 8) (hk : Kids w h ks) (hh : h ≤ 100) (hs : s = fst (flat ks)) (ht : t = ((flat ks).length : Int)) (hf : (flat ks).length ≤ 1000)
    (ih : ∀ W x, Below w.heap.size w W → x ∈ ks → Calls Tryd.prog 60 #[.iface x.1.1 x.1.2] W fun e w' => e = .returned (.bool true) ∧ Below W.heap.size W w') :
    Calls Tryd.prog 45 #[.agg #[.slice a n c, .string s, .int .i64 t]] w fun e w' => e = .returned (.bool true) ∧ Below w.heap.size w w' := by
  obtain ⟨y, hy⟩ : ∃ y, ks[0]? = some y := ⟨_, List.getElem?_eq_getElem (by omega)⟩
  have hym := List.mem_of_getElem? hy
  have hB := al w (.cells #[.slice a n c, .string s, .int .i64 t] 63)
  obtain ⟨g, o, rfl, d0⟩ := EK.cell hl (i := 0) (x := y.1) (by rw [List.getElem?_map, hy]; rfl)
  rw [Nat.add_zero] at d0
  have HD0 : Hid (w.cell? ⟨g, o, none⟩ = some (.iface y.1.1 y.1.2)) := d0
  have HBk : Hid (Blk (w.alloc (.cells #[.slice (some ⟨g, o, none⟩) n c, .string s, .int .i64 t] 63)) w.heap.size [.slice (some ⟨g, o, none⟩) n c, .string s, .int .i64 t] 63) := blk_new w [.slice (some ⟨g, o, none⟩) n c, .string s, .int .i64 t] 63
  have HB : Hid (Below w.heap.size w (w.alloc (.cells #[.slice (some ⟨g, o, none⟩) n c, .string s, .int .i64 t] 63))) := hB
  have HL : Hid (LV EK w (.slice (some ⟨g, o, none⟩) n c) (ks.map (·.1))) := hl
  have HK : Hid (Kids w h ks) := hk
  have HE : Hid (ks.length = n) := e0
  have HIH : Hid (∀ W x, Below w.heap.size w W → x ∈ ks → Calls Tryd.prog 60 #[.iface x.1.1 x.1.2] W fun e w' => e = .returned (.bool true) ∧ Below W.heap.size W w') := ih
  have HLv : Hid (∀ W x, Below w.heap.size w W → x ∈ ks → Calls Tryd.prog 61 #[.iface x.1.1 x.1.2] W fun e w' => e = .returned (.int .i64 ((h + 1 : Nat) : Int)) ∧ Below W.heap.size W w') := fun W x hW hx => by
    obtain ⟨m, _, _, q3⟩ := hk x hx
    exact levels42 (q3.below hW) hh
  have HYM : Hid (y ∈ ks) := hym
  have H50 : Hid (∀ W, Below w.heap.size w W → Calls Tryd.prog 37 #[.slice (some ⟨g, o, none⟩) n c] W fun e w' => e = .returned (.int .i64 t) ∧ Below W.heap.size W w') := fun W hW => by
    rw [ht]
    exact counted50 (hl.below hW) (fun k hk' => by obtain ⟨m, _, _, q3⟩ := hk k hk'; exact ⟨h, m, q3.below hW⟩) (by omega) (by omega)
  have HFy : Hid (fst y.2 = s ∧ 0 < y.2.length) := by
    exact ⟨by rw [hs, fst_flat0 hy (hk.pos hym)], hk.pos hym⟩
  generalize hJ : ((h + 1 : Nat) : Int) = J at *
  clear hl e0 hk ih hs ht hym hy d0 hB hJ
  go_enter Tryd.func45, Tryd.ntmps45
  go_wp2_with fail
  generalize hW0 : w.alloc (.cells #[.slice (some ⟨g, o, none⟩) n c, .string s, .int .i64 t] 63) = W0 at *
  clear hW0
  have HS0 : Hid (∀ W, Below W0.heap.size W0 W → W.cell? ⟨w.heap.size, 0, none⟩ = some (.slice (some ⟨g, o, none⟩) n c) ∧ W.cell? ⟨w.heap.size, 1, none⟩ = some (.string s) ∧ W.cell? ⟨w.heap.size, 2, none⟩ = some (.int .i64 t) ∧ W.cell? ⟨g, o, none⟩ = some (.iface y.1.1 y.1.2)) := fun W hW => by
    have hb := bmore HB.out hW
    exact ⟨(HBk.out.below hW).cell 0, (HBk.out.below hW).cell 1, (HBk.out.below hW).cell 2, (hb.cell (p := ⟨g, o, none⟩) (World.block_lt_of_cell? w _ HD0.out)).trans HD0.out⟩
  have hn0 : (0 : Int) < (n : Int) := by omega
  go_loopw [8] (fun fi wr => ∃ (k : Nat), fi = .int .i64 (k : Int) ∧ Hid (k ≤ n) ∧ Hid (Below W0.heap.size W0 wr)) (fun fi _ => ((n : Int) - intOf fi).toNat)
  case atStart => exact ⟨0, rfl, Nat.zero_le _, Below.refl _ _⟩
  case round =>
    obtain ⟨k, rfl, hk, hB⟩ := hrel
    by_cases hkn : k < n
    · have hki : (k : Int) < (n : Int) := by omega
      have hk0 : (0 : Int) ≤ (k : Int) := by omega
      obtain ⟨z, hz⟩ : ∃ z, ks[k]? = some z := ⟨_, List.getElem?_eq_getElem (by rw [HE.out]; exact hkn)⟩
      obtain ⟨g', o', hgo, dk⟩ := EK.cell (HL.out.below (bmore HB.out hB.out)) (i := k) (x := z.1) (by rw [List.getElem?_map, hz]; rfl)
      cases hgo
      have hzm := List.mem_of_getElem? hz
      have HZM : Hid (z ∈ ks) := hzm
      have k62 := HIH.out wr.drew z (bmore HB.out hB.out).drew hzm
      have hS0 := HS0.out wr.drew hB.out.drew
      clear hz hzm
      go_wp2_with fail
      go_region_held3 (fun W => W.cell? ⟨w.heap.size, 0, none⟩ = some (.slice (some ⟨g, o, none⟩) n c) ∧ W.cell? ⟨w.heap.size, 1, none⟩ = some (.string s) ∧ W.cell? ⟨w.heap.size, 2, none⟩ = some (.int .i64 t) ∧ W.cell? ⟨g, o, none⟩ = some (.iface y.1.1 y.1.2)) (first | exact hS0 | exact HS0.out _ HBc.out | exact HS0.out _ HBb.out | exact HS0.out _ HBa.out) (first
        | (go_at_call 60; (with_reducible refine k62.mono ?_); rintro e w2 ⟨rfl, hB2⟩; have HBa : Hid (Below W0.heap.size W0 w2) := bmore hB.out.drew hB2; have k42 := HLv.out w2 z (bmore HB.out HBa.out) HZM.out; clear hB2 k62)
        | (go_at_call 61; (with_reducible refine k42.mono ?_); rintro e w3 ⟨rfl, hB3⟩; have HBb : Hid (Below W0.heap.size W0 w3) := bmore HBa.out hB3; have k42b := HLv.out w3 y (bmore HB.out HBb.out) HYM.out; clear hB3 k42)
        | (go_at_call 61; (with_reducible refine k42b.mono ?_); rintro e w4 ⟨rfl, hB4⟩; have HBc : Hid (Below W0.heap.size W0 w4) := bmore HBb.out hB4; clear hB4 k42b))
      go_wp2
      go_roundw
      case rel => exact ⟨k + 1, by simp, by show _ ≤ _; omega, HBc.out⟩
      case measure => simp only [intOf]; omega
    · have hki : ¬ (k : Int) < (n : Int) := by omega
      obtain ⟨m, q1, q2, q3⟩ := HK.out y HYM.out
      have hS0 := HS0.out wr.drew hB.out.drew
      have k50 := H50.out
      cases h with
      | zero =>
        obtain ⟨a2, c2, e2, hl2, -⟩ := q3.leaf
        have HKf : Hid (∀ W, Below w.heap.size w W → Calls Tryd.prog 93 #[.slice a2 y.2.length c2] W fun e w' => e = .returned (.string s) ∧ W = w') := fun W hW => by rw [← HFy.out.1]; exact first90 (hl2.below hW) HFy.out.2
        rw [e2] at hS0
        have k90 := HKf.out wr.drew (bmore HB.out hB.out).drew
        have HS1 : Hid (∀ W, Below W0.heap.size W0 W → W.cell? ⟨w.heap.size, 0, none⟩ = some (.slice (some ⟨g, o, none⟩) n c) ∧ W.cell? ⟨w.heap.size, 1, none⟩ = some (.string s) ∧ W.cell? ⟨w.heap.size, 2, none⟩ = some (.int .i64 t) ∧ W.cell? ⟨g, o, none⟩ = some (.iface 47 (.slice a2 y.2.length c2))) := fun W hW => by have := HS0.out W hW; rw [e2] at this; exact this
        have hm1 := m_first64
        generalize y.2.length = yl at *
        clear q3 hl2 e2
        go_wp2_with fail
        go_region_held3 (fun W => W.cell? ⟨w.heap.size, 0, none⟩ = some (.slice (some ⟨g, o, none⟩) n c) ∧ W.cell? ⟨w.heap.size, 1, none⟩ = some (.string s) ∧ W.cell? ⟨w.heap.size, 2, none⟩ = some (.int .i64 t) ∧ W.cell? ⟨g, o, none⟩ = some (.iface 47 (.slice a2 yl c2))) (first | exact hS0 | exact HS1.out _ HBb.out) (first
          | (go_at_call 93; (with_reducible refine k90.mono ?_); rintro e w2 ⟨rfl, rfl⟩; have k50' := k50 wr.drew (bmore HB.out hB.out).drew)
          | (go_at_call 37; (with_reducible refine k50'.mono ?_); rintro e w3 ⟨rfl, hB3⟩; have HBb : Hid (Below W0.heap.size W0 w3) := bmore hB.out.drew hB3))
        go_wp2
        go_ret
        exact ⟨by simp, bmore HB.out HBb.out⟩
      | succ h =>
        obtain ⟨a2, c2, ks2, e2, hl2, -, -, -, -⟩ := q3.inner
        have k93 := fun W => first93 a2 m c2 s (y.2.length : Int) W
        rw [HFy.out.1] at e2
        rw [e2] at hS0
        have HS1 : Hid (∀ W, Below W0.heap.size W0 W → W.cell? ⟨w.heap.size, 0, none⟩ = some (.slice (some ⟨g, o, none⟩) n c) ∧ W.cell? ⟨w.heap.size, 1, none⟩ = some (.string s) ∧ W.cell? ⟨w.heap.size, 2, none⟩ = some (.int .i64 t) ∧ W.cell? ⟨g, o, none⟩ = some (.iface 63 (.agg #[.slice a2 m c2, .string s, .int .i64 (y.2.length : Int)]))) := fun W hW => by have := HS0.out W hW; rw [e2] at this; exact this
        have hm1 := m_first72
        generalize y.2.length = yl at *
        clear q3 hl2 e2
        go_wp2_with fail
        go_region_held3 (fun W => W.cell? ⟨w.heap.size, 0, none⟩ = some (.slice (some ⟨g, o, none⟩) n c) ∧ W.cell? ⟨w.heap.size, 1, none⟩ = some (.string s) ∧ W.cell? ⟨w.heap.size, 2, none⟩ = some (.int .i64 t) ∧ W.cell? ⟨g, o, none⟩ = some (.iface 63 (.agg #[.slice a2 m c2, .string s, .int .i64 (yl : Int)]))) (first | exact hS0 | exact HS1.out _ HBb.out | exact HS1.out _ HBa.out) (first
          | (go_at_call 96; (with_reducible refine (k93 _).mono ?_); rintro e w2 ⟨rfl, hB2⟩; have HBa : Hid (Below W0.heap.size W0 w2) := bmore hB.out.drew hB2; have k50' := k50 w2 (bmore HB.out HBa.out))
          | (go_at_call 37; (with_reducible refine k50'.mono ?_); rintro e w3 ⟨rfl, hB3⟩; have HBb : Hid (Below W0.heap.size W0 w3) := bmore HBa.out hB3))
        go_wp2
        go_ret
        exact ⟨by simp, bmore HB.out HBb.out⟩
end Go.Proofs.YthfkmedpcmiibaaDoor.T
