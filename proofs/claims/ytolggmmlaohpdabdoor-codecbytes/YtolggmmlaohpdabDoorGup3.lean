/- codec.Decode of bytes that are no row's: the error. -/
import Derived.Test.YtolggmmlaohpdabDoorGup2
import Derived.Defers
import Derived.Recover
namespace Go.Proofs.YtolggmmlaohpdabDoor
open Go.RowKit Go.Lib
set_option maxRecDepth 100000

/-- The world behind the catch. -/
abbrev caught (B : Nat) (w : World) : World := (((((w.setCell ⟨B, 0, none⟩ (.slice none 0 0)).setCell ⟨B, 1, none⟩ (.int .i64 0)).setCell ⟨B, 2, none⟩ (.int .i64 0)).setCell ⟨B + 1, 0, none⟩ (.int .i64 3)).alloc (.cells #[.int .i64 3] 75)).drew

theorem catch51_no (B : Nat) (x0 x1 x2 y : Value) (w : World) (hB : Bx w B x0 x1 x2) (hc : w.cell? ⟨B + 1, 0, none⟩ = some y) (hz : w.frozen? ⟨B + 1, 0, none⟩ = false) :
    CallsD Tryd.prog 51 #[.pointer (some ⟨B, 0, none⟩), .pointer (some ⟨B + 1, 0, none⟩)] (.panicking GU) w fun e u' w' => e = .returned (.tuple #[]) ∧ u' = .panicking [{ v := .iface 75 (.agg #[.int .i64 3]), recovered := true }] ∧ w' = caught B w := by
  obtain ⟨a0, a1, a2, a3, a4, a5⟩ := hB
  have hB0 : B < w.heap.size := World.block_lt_of_cell? _ _ a0
  have hB1 : B + 1 < w.heap.size := World.block_lt_of_cell? _ _ hc
  have hta : ∀ w, (Instr.typeAssert (.iface 75 (.agg #[.int .i64 3])) 20 75 true).run Tryd.prog w = .ok (.tuple #[.agg #[.int .i64 3], .bool true]) w := fun _ => by kernel_rfl
  refine callsD_of_wpS Tryd.func51 rfl fun c₀ cs hu => ?_
  apply wpS_seq
  apply wpS_region
  simp [wpOpsS, go_sem, recoverD, hu, Tryd.ntmps51, Exit.thenS, GU]
  refine wpS_of_wp ?_
  go_wp2_with fail
  simp only [Array.replicate_succ, Array.replicate_zero, List.push_toArray, List.nil_append, List.cons_append, List.setIfInBounds_toArray, List.set_cons_succ, List.set_cons_zero, List.append_toArray]
  go_region
  all_goals (try go_wp2_with fail)
  simp [bodyPostS, results, Tryd.results51]

set_option maxHeartbeats 1000000 in
theorem whole39_gen (R : Nat) (w : World) (hRz : R < w.heap.size) (c52 : ∀ o1 o2, Calls Tryd.prog 52 #[.pointer (some ⟨R, 0, none⟩)] ((w.alloc o1).alloc o2) fun e w' => e = .panicked GU ∧ But R ((w.alloc o1).alloc o2) w') :
    Calls Tryd.prog 39 #[.pointer (some ⟨R, 0, none⟩)] w fun e w' => e = .returned (.tuple #[RV (.slice none 0 0) 0 0, .int .i64 3]) ∧ But R w w' := by
  have hmf : ∀ (fn : Fn) (first cap : Array Value) (w : World), (Instr.makeFunc fn first cap).run Tryd.prog w = .ok (.func fn first cap) w := fun _ _ _ _ => rfl
  have hst : ∀ o1 o2 w1, But R ((w.alloc o1).alloc o2) w1 → But R w w1 := fun o1 o2 w1 h => (But.of (bmore (al w o1) (al _ o2))).trans h
  have q0 : ∀ w1, But R ((w.alloc (.cells #[.slice none 0 0, .int .i64 0, .int .i64 0] 26)).alloc (.cells #[.int .i64 0] 35)) w1 → Bx w1 w.heap.size (.slice none 0 0) (.int .i64 0) (.int .i64 0) ∧ w1.cell? ⟨w.heap.size + 1, 0, none⟩ = some (.int .i64 0) ∧ w1.frozen? ⟨w.heap.size + 1, 0, none⟩ = false := fun w1 hbut =>
    ⟨Bx.block (W := (w.alloc (.cells #[.slice none 0 0, .int .i64 0, .int .i64 0] 26)).alloc (.cells #[.int .i64 0] 35)) ⟨by simp, by simp, by simp, by simp, by simp, by simp⟩ (hbut.block _ (by simp; omega) (by omega)),
      (World.cell?_of_block (a := ⟨w.heap.size + 1, 0, none⟩) (hbut.block _ (by simp) (by simp; omega))).trans (by simp), (World.frozen?_of_block (a := ⟨w.heap.size + 1, 0, none⟩) (hbut.block _ (by simp) (by simp; omega))).trans (by simp)⟩
  go_enter_defers Tryd.func39, Tryd.ntmps39
  go_wp2_with (go_at_call 52; (refine (c52 _ _).mono ?_; rintro e w1 ⟨rfl, hbut1⟩; obtain ⟨hbx, g0, g1⟩ := q0 w1 hbut1))
  refine leaves_cons (f := 51) (args := #[.pointer (some ⟨w.heap.size, 0, none⟩), .pointer (some ⟨w.heap.size + 1, 0, none⟩)]) (by simp) (by simp [go_sem]) ?_
  refine (catch51_no w.heap.size _ _ _ _ w1 hbx g0 g1).mono ?_
  rintro e u' w'' ⟨rfl, rfl, rfl⟩
  have hb5 : But R w (caught w.heap.size w1) := (((((hst _ _ _ hbut1).put (Nat.le_refl _) _).put (Nat.le_refl _) _).put (Nat.le_refl _) _).put (by omega) _).trans (But.of (al _ _).drew)
  have e0 := ((((Bx.set2 (Bx.set1 (Bx.set0 hbx (.slice none 0 0)) (.int .i64 0)) (.int .i64 0)).far (B' := w.heap.size + 1) (i := 0) (y := .int .i64 3) (by omega)).below (al _ (.cells #[.int .i64 3] 75))).below (Below.refl _ _).drew)
  have e1 : (caught w.heap.size w1).cell? ⟨w.heap.size + 1, 0, none⟩ = some (.int .i64 3) := by
    have h2 : (((w1.setCell ⟨w.heap.size, 0, none⟩ (.slice none 0 0)).setCell ⟨w.heap.size, 1, none⟩ (.int .i64 0)).setCell ⟨w.heap.size, 2, none⟩ (.int .i64 0)).cell? ⟨w.heap.size + 1, 0, none⟩ = some (.int .i64 0) := by
      rw [World.cell?_setCell_far _ _ _ _ (by simp), World.cell?_setCell_far _ _ _ _ (by simp), World.cell?_setCell_far _ _ _ _ (by simp)]
      exact g0
    have h3 := World.cell?_setCell_same _ _ (.int .i64 3) h2
    exact ((al _ (.cells #[.int .i64 3] 75)).drew.cell (p := ⟨w.heap.size + 1, 0, none⟩) (World.block_lt_of_cell? _ _ h3)).trans h3
  exact ⟨.tuple #[RV (.slice none 0 0) 0 0, .int .i64 3], by simp [results, Tryd.results39, go_sem, e0.c0, e0.c1, e0.c2, e1], rfl, hb5⟩

theorem whole39_no (R b : Nat) (L : Bs) (w0 w : World) (hR : b ≠ R) (hb : b < w.heap.size) (hRz : R < w.heap.size) (hno : NoRow L) (hlen : L.length ≤ 1900000) (hg : Good w0) (hw0 : Below w0.heap.size w0 w) (h0R : w0.heap.size ≤ R) (h : RD R b L w) :
    Calls Tryd.prog 39 #[.pointer (some ⟨R, 0, none⟩)] w fun e w' => e = .returned (.tuple #[RV (.slice none 0 0) 0 0, .int .i64 3]) ∧ But R w w' :=
  whole39_gen R w hRz fun o1 o2 => row52_no R b L w0 ((w.alloc o1).alloc o2) hR (by simp; omega) (by simp; omega) hno hlen hg (bmore (bmore hw0 (al w o1)) (al _ o2)) h0R (h.below (bmore (al w o1) (al _ o2)))

/-! ### no byte at all -/
set_option maxHeartbeats 400000 in
theorem peek67_nil (R : Nat) (a : Option Addr) (c : Nat) (w : World) (h0 : w.cell? ⟨R, 0, none⟩ = some (.slice a 0 c)) :
    Calls Tryd.prog 67 #[.pointer (some ⟨R, 0, none⟩)] w fun e w' => e = .panicked GU ∧ w' = w := by
  go_enter Tryd.func67, Tryd.ntmps67
  go_wp2
  exact ⟨rfl, rfl, rfl⟩
set_option maxHeartbeats 400000 in
theorem values61_nil (R : Nat) (a : Option Addr) (c : Nat) (w : World) (h0 : w.cell? ⟨R, 0, none⟩ = some (.slice a 0 c)) :
    Calls Tryd.prog 61 #[.pointer (some ⟨R, 0, none⟩)] w fun e w' => e = .panicked GU ∧ w' = w := by
  have c67 := peek67_nil R a c w h0
  clear h0
  go_enter Tryd.func61, Tryd.ntmps61
  go_wp2_with fail
  go_loopw [3] (fun _ wr => wr = w) (fun _ _ => 0)
  case atStart => rfl
  case round =>
    subst hrel
    go_wp2_with (go_at_call 67; (refine c67.mono ?_; rintro e w1 ⟨rfl, rfl⟩))
    exact ⟨rfl, rfl, rfl⟩
set_option maxHeartbeats 400000 in
theorem row52_nil (R : Nat) (a : Option Addr) (c : Nat) (w : World) (h0 : w.cell? ⟨R, 0, none⟩ = some (.slice a 0 c)) :
    Calls Tryd.prog 52 #[.pointer (some ⟨R, 0, none⟩)] w fun e w' => e = .panicked GU ∧ But R w w' := by
  have hRz : R < w.heap.size := World.block_lt_of_cell? _ _ h0
  have c61 := fun o1 o2 => values61_nil R a c ((w.alloc o1).alloc o2) (((bmore (al w o1) (al _ o2)).cell (p := ⟨R, 0, none⟩) hRz).trans h0)
  clear h0 hRz
  go_enter Tryd.func52, Tryd.ntmps52
  go_wp2_with (go_at_call 61; (refine (c61 _ _).mono ?_; rintro e w1 ⟨rfl, rfl⟩))
  exact ⟨rfl, rfl, But.of (bmore (al _ _) (al _ _))⟩

set_option maxHeartbeats 1000000 in
/-- codec.Decode of bytes that are no row's. -/
theorem decode21_no (v : Value) (L : Bs) (w : World) (hv : SB w v L) (hno : NoRow L) (hlen : L.length ≤ 1900000) (hg : Good w) :
    Calls Tryd.prog 21 #[v] w fun e w' => e = .returned (.tuple #[RV (.slice none 0 0) 0 0, .int .i64 3]) ∧ Below w.heap.size w w' := by
  obtain ⟨a, c, rfl, c39⟩ : ∃ a c, v = .slice a L.length c ∧ ∀ o1, Calls Tryd.prog 39 #[.pointer (some ⟨w.heap.size + 1, 0, none⟩)] ((w.alloc o1).alloc (.cells #[.slice a L.length c] 62)) fun e w' => e = .returned (.tuple #[RV (.slice none 0 0) 0 0, .int .i64 3]) ∧ But (w.heap.size + 1) ((w.alloc o1).alloc (.cells #[.slice a L.length c] 62)) w' := by
    rcases hv with ⟨a, c, rfl, rfl⟩ | ⟨b, o, c, rfl, h0, hc, hm, hat⟩
    · refine ⟨a, c, rfl, fun o1 => whole39_gen _ _ (by simp) fun o3 o4 => row52_nil _ a c _ ?_⟩
      refine ((bmore (al _ o3) (al _ o4)).cell (p := ⟨w.heap.size + 1, 0, none⟩) (by simp)).trans ?_
      simp
    · have hbz := World.block_lt_of_cell? _ _ (hat 0 h0)
      simp at hbz
      exact ⟨_, c, rfl, fun o1 => whole39_no (w.heap.size + 1) b L w ((w.alloc o1).alloc (.cells #[.slice (some ⟨b, o, none⟩) L.length c] 62)) (by omega) (by simp; omega) (by simp) hno hlen hg (bmore (al w o1) (al _ _)) (by omega)
        ⟨some ⟨b, o, none⟩, c, by simp, hc, hm, by simp, fun _ => ⟨o, rfl, hat.below (bmore (al w o1) (al _ _))⟩⟩⟩
  have hst : ∀ o1 o2 w1, But (w.heap.size + 1) ((w.alloc o1).alloc o2) w1 → But (w.heap.size + 1) w w1 := fun o1 o2 w1 h => (But.of (bmore (al w o1) (al _ o2))).trans h
  have q0 : ∀ w1 o2, But (w.heap.size + 1) ((w.alloc (.cells #[.slice none 0 0, .int .i64 0, .int .i64 0] 26)).alloc o2) w1 → Bx w1 w.heap.size (.slice none 0 0) (.int .i64 0) (.int .i64 0) := fun w1 o2 hbut =>
    Bx.block (W := (w.alloc (.cells #[.slice none 0 0, .int .i64 0, .int .i64 0] 26)).alloc o2) ⟨by simp, by simp, by simp, by simp, by simp, by simp⟩ (hbut.block _ (by simp; omega) (by omega))
  clear hv hno hg hlen
  generalize L.length = n at *
  go_enter Tryd.func21, Tryd.ntmps21
  go_wp2_with (go_at_call 39; (refine (c39 _).mono ?_; rintro e w1 ⟨rfl, hbut1⟩; obtain ⟨y0, y1, y2, y3, y4, y5⟩ := q0 w1 _ hbut1))
  exact bodyPost_ret (v := .tuple #[RV (.slice none 0 0) 0 0, .int .i64 3]) (by simp [results, Tryd.results21, go_sem, y0, y1, y2]) rfl ⟨rfl, ((((hst _ _ _ hbut1).put (Nat.le_refl _) _).put (Nat.le_refl _) _).put (Nat.le_refl _) _).below (by omega) (Nat.le_refl _)⟩

end Go.Proofs.YtolggmmlaohpdabDoor
