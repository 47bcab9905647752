/- SameTexts, SameTable, SameTables of what is the same. -/
import Derived.Test.YtkoagjfbhkhfkaaDoorTt
import Derived.Test.YtkoagjfbhkhfkaaDoorPm
import Derived.Laws.StructEq
import Derived.BigQuiet
namespace Go.Proofs.YtkoagjfbhkhfkaaDoor
open Go.RowKit Go.Lib
set_option maxRecDepth 100000
variable {w w' : World}
/-- Texts behind a slice. -/
def SX (w : World) (v : Value) (xs : List ByteArray) : Prop := ∃ a c, v = .slice a xs.length c ∧ (0 < xs.length → ∃ g o, a = some ⟨g, o, none⟩ ∧ g < w.heap.size ∧ ∀ i s, xs[i]? = some s → w.cell? ⟨g, o + i, none⟩ = some (.string s))
theorem SX.below {v : Value} {xs : List ByteArray} (h : SX w v xs) (hb : Below w.heap.size w w') : SX w' v xs := by
  obtain ⟨a, c, h1, h2⟩ := h
  refine ⟨a, c, h1, fun h0 => ?_⟩
  obtain ⟨g, o, h3, h4, h5⟩ := h2 h0
  exact ⟨g, o, h3, Nat.lt_of_lt_of_le h4 hb.size, fun i s hs => (hb.cell (p := ⟨g, o + i, none⟩) h4).trans (h5 i s hs)⟩
theorem SX.own {B n : Nat} {v : Value} {xs : List ByteArray} (h : w.ownsRow B 9 1 v n (xs.map Value.string)) : SX w v xs := by
  obtain ⟨h1, h2⟩ := h
  have hn : xs.length = n := by simpa using h1
  rcases h2 with ⟨rfl, rfl⟩ | ⟨g, cap, cur, rfl, _, h3, h4, h5, h6, h7⟩
  · exact ⟨none, 0, by rw [hn], fun h0 => by omega⟩
  · refine ⟨_, cap, by rw [hn], fun _ => ⟨g, 0, rfl, (Array.getElem?_eq_some_iff.1 h3).1, fun i s hs => ?_⟩⟩
    have hi := (List.getElem?_eq_some_iff.1 hs).1
    have hv : (xs.map Value.string)[i]? = some (.string s) := by rw [List.getElem?_map, hs]; rfl
    rw [← h7, List.getElem?_take, if_pos (by omega)] at hv
    simpa [World.cell?, h3] using hv
theorem SX.blk {g : Nat} {xs : List ByteArray} {t : TypeId} (h : Blk w g (xs.map Value.string) t) (n c : Nat) (hn : xs.length = n) : SX w (.slice (some ⟨g, 0, none⟩) n c) xs := by
  subst hn
  refine ⟨_, c, rfl, fun _ => ⟨g, 0, rfl, h.lt, fun i s hs => ?_⟩⟩
  rw [Nat.zero_add, h.cell, List.getElem?_map, hs]; rfl
set_option maxHeartbeats 1000000 in
theorem texts30 (a b : Value) (xs : List ByteArray) (w : World) (ha : SX w a xs) (hb : SX w b xs) (hl : xs.length ≤ 1000) :
    Calls Tryd.prog 30 #[a, b] w fun e w' => e = .returned (.bool true) ∧ Below w.heap.size w w' := by
  obtain ⟨pa, ca, rfl, ha⟩ := ha
  obtain ⟨pb, cb, rfl, hb⟩ := hb
  obtain ⟨N, hN⟩ : ∃ N, xs.length = N := ⟨_, rfl⟩
  have HNN : Hid (xs.length = N) := hN
  rw [hN] at ha hb hl ⊢
  have HA : Hid _ := ha
  have HB : Hid _ := hb
  clear ha hb hN
  go_enter Tryd.func30, Tryd.ntmps30
  go_wp2
  go_loopw [5] (fun q wr => ∃ k : Nat, k ≤ N ∧ q = .int .i64 (k : Int) ∧ Hid (wr.heap = w.heap ∧ Below w.heap.size w wr)) (fun q _ => N - (RowKit.intOf q).toNat)
  case atStart => exact ⟨0, by omega, rfl, rfl, Below.refl _ _⟩
  case round =>
    obtain ⟨k, hk, rfl, HW⟩ := hrel
    by_cases hlt : k < N
    · have h1 : (k : Int) < (N : Int) := by omega
      have h0 : (0 : Int) ≤ (k : Int) := by omega
      obtain ⟨ga, oa, rfl, _, hca⟩ := HA.out (by omega)
      obtain ⟨gb, ob, rfl, _, hcb⟩ := HB.out (by omega)
      obtain ⟨s, hs⟩ : ∃ s, xs[k]? = some s := ⟨_, List.getElem?_eq_getElem (by rw [HNN.out]; exact hlt)⟩
      have c0 : wr.cell? ⟨ga, oa + k, none⟩ = some (.string s) := by
        have := hca k s hs
        simpa only [World.cell?, HW.out.1] using this
      have c1 : wr.cell? ⟨gb, ob + k, none⟩ = some (.string s) := by
        have := hcb k s hs
        simpa only [World.cell?, HW.out.1] using this
      clear hca hcb hs
      go_wp2_with fail
      go_quiet (fail)
      go_wp2_with fail
      go_roundw
      case rel => exact ⟨k + 1, by omega, by simp, HW.out.1, bdrewN HW.out.2 _⟩
      case measure => simp [RowKit.intOf]; omega
    · have h1 : ¬ (k : Int) < (N : Int) := by omega
      go_wp2
      go_ret
      exact ⟨rfl, HW.out.2⟩
theorem neq44 (s : ByteArray) (k : Int) (W : World) : (binOp .neq 44 (.agg #[.string s, .int .u8 k]) (.agg #[.string s, .int .u8 k])).run Tryd.prog W = .ok (.bool false) W := by
  have h1 : Tryd.prog.underlying 44 = some (.struct (Tryd.prog.fieldsOf 44)) := by kernel_rfl
  have h2 : Tryd.prog.stoodInHeld 44 = false := by kernel_rfl
  rw [run_neq_struct, show (10000 : Nat) = 9999 + 1 from rfl, run_equalIn_struct _ _ _ _ _ h1 h2]
  have hf : (Tryd.prog.fieldsOf 44) = (match Tryd.prog.underlying 44 with | some (.struct fs) => fs | _ => #[]) := rfl
  rw [hf, Tryd.underlying44]
  clear hf h1 h2
  simp [go_sem]
set_option maxHeartbeats 1000000 in
theorem table29 (n p : ByteArray) (va vb : Value) (l : List Cl) (q : Int) (w : World) (ha : SC w va l) (hb : SC w vb l) (hl : l.length ≤ 1000) :
    Calls Tryd.prog 29 #[TB n va p q, TB n vb p q] w fun e w' => e = .returned (.bool true) ∧ Below w.heap.size w w' := by
  have HSA : Hid (∀ w1, Below w.heap.size w w1 → SC w1 va l) := fun w1 h => ha.below h
  have HSB : Hid (∀ w1, Below w.heap.size w w1 → SC w1 vb l) := fun w1 h => hb.below h
  obtain ⟨pa, ca, rfl, _⟩ := ha
  obtain ⟨pb, cb, rfl, _⟩ := hb
  obtain ⟨N, hN⟩ : ∃ N, l.length = N := ⟨_, rfl⟩
  have HNN : Hid (l.length = N) := hN
  have hne := neq44
  rw [hN] at hl ⊢
  clear hN
  have b0 := (blk_new w [.string n, .slice pa N ca, .string p, .int .i64 q] 32).below (al _ (.cells #[.string n, .slice pb N cb, .string p, .int .i64 q] 32))
  have b1 : Blk ((w.alloc (.cells #[.string n, .slice pa N ca, .string p, .int .i64 q] 32)).alloc (.cells #[.string n, .slice pb N cb, .string p, .int .i64 q] 32)) (w.heap.size + 1) [.string n, .slice pb N cb, .string p, .int .i64 q] 32 := blk_at _ _ 32 (by simp)
  have F2 : Below w.heap.size w ((w.alloc (.cells #[.string n, .slice pa N ca, .string p, .int .i64 q] 32)).alloc (.cells #[.string n, .slice pb N cb, .string p, .int .i64 q] 32)) := bal (al _ _) _
  have HB0 : Hid _ := b0
  have HB1 : Hid _ := b1
  have HF2 : Hid _ := F2
  clear b0 b1 F2
  go_enter Tryd.func29, Tryd.ntmps29
  go_wp2
  go_loopw [5] (fun x wr => ∃ k : Nat, k ≤ N ∧ x = .int .i64 (k : Int) ∧ Hid (Blk wr w.heap.size [.string n, .slice pa N ca, .string p, .int .i64 q] 32 ∧ Blk wr (w.heap.size + 1) [.string n, .slice pb N cb, .string p, .int .i64 q] 32 ∧ Below w.heap.size w wr)) (fun x _ => N - (RowKit.intOf x).toNat)
  case atStart => exact ⟨0, by omega, rfl, HB0.out, HB1.out, HF2.out⟩
  case round =>
    obtain ⟨k, hk, rfl, HW⟩ := hrel
    obtain ⟨b0, b1, hB⟩ := HW.out
    have e0 := b0.here (j := 1) rfl
    have e1 := b1.here (j := 1) rfl
    by_cases hlt : k < N
    · have h1 : (k : Int) < (N : Int) := by omega
      have h0 : (0 : Int) ≤ (k : Int) := by omega
      obtain ⟨a1, a2, he1, hat1⟩ := HSA.out wr hB
      obtain ⟨a3, a4, he2, hat2⟩ := HSB.out wr hB
      simp only [Value.slice.injEq] at he1 he2
      obtain ⟨rfl, _, rfl⟩ := he1
      obtain ⟨rfl, _, rfl⟩ := he2
      obtain ⟨ga, oa, rfl, _, hca⟩ := hat1 (by rw [HNN.out]; omega)
      obtain ⟨gb, ob, rfl, _, hcb⟩ := hat2 (by rw [HNN.out]; omega)
      obtain ⟨x, hx⟩ : ∃ x, l[k]? = some x := ⟨_, List.getElem?_eq_getElem (by rw [HNN.out]; exact hlt)⟩
      obtain ⟨c0, c1⟩ := hca k x hx
      obtain ⟨d0, d1⟩ := hcb k x hx
      clear hca hcb hx hat1 hat2
      generalize str x.1 = xs at *
      go_wp2_with fail
      go_quiet (fail)
      go_wp2_with fail
      go_roundw
      case rel => exact ⟨k + 1, by omega, by simp, b0.block rfl, b1.block rfl, bdrewN hB _⟩
      case measure => simp [RowKit.intOf]; omega
    · have h1 : ¬ (k : Int) < (N : Int) := by omega
      go_wp2
      go_ret
      exact ⟨rfl, hB⟩
end Go.Proofs.YtkoagjfbhkhfkaaDoor
