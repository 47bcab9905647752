/- codec.Decode of a row's bytes. -/
import Derived.Test.YthfkmedpcmiibaaDoorRdw
import Derived.Defers
import Derived.Recover
namespace Go.Proofs.YthfkmedpcmiibaaDoor
open Go.RowKit Go.Lib
set_option maxRecDepth 100000

theorem catch51 (p q : Addr) (w : World) :
    CallsD Tryd.prog 39 #[.pointer (some p), .pointer (some q)] .returning w fun e u' w' => e = .returned (.tuple #[]) ∧ u' = .returning ∧ w' = w := by
  refine callsD_of_wpS Tryd.func39 rfl fun c₀ cs hu => ?_
  apply wpS_seq
  apply wpS_region
  simp [wpOpsS, go_sem, recoverD, hu, Tryd.ntmps39, Exit.thenS]
  refine wpS_of_wp ?_
  go_wp2
  cases c₀
  simp_all [bodyPostS, results, Tryd.results39]

set_option maxHeartbeats 1000000 in
theorem whole39 (R b : Nat) (vs : List Vt) (f t : Int) (w0 w : World) (hR : b ≠ R) (hb : b < w.heap.size) (hRz : R < w.heap.size) (hr : rightRow vs f t = true) (hvs : Few vs) (hg : Good w0) (hw0 : Below w0.heap.size w0 w) (h0R : w0.heap.size ≤ R) (h : RD R b (encR vs f t) w) :
    Calls Tryd.prog 21 #[.pointer (some ⟨R, 0, none⟩)] w fun e w' => ∃ u, e = .returned (.tuple #[RV u f t, .int .i64 0]) ∧ VRow w.heap.size u vs w' ∧ But R w w' := by
  have c52 := fun o1 o2 => row52 R b vs f t w0 ((w.alloc o1).alloc o2) hR (by simp; omega) (by simp; omega) hr hvs hg (bmore (bmore hw0 (al w o1)) (al _ o2)) h0R (h.below (bmore (al w o1) (al _ o2)))
  have hmf : ∀ (fn : Fn) (first cap : Array Value) (w : World), (Instr.makeFunc fn first cap).run Tryd.prog w = .ok (.func fn first cap) w := fun _ _ _ _ => rfl
  have hst : ∀ o1 o2 w1, But R ((w.alloc o1).alloc o2) w1 → But R w w1 := fun o1 o2 w1 h => (But.of (bmore (al w o1) (al _ o2))).trans h
  clear hr hvs hg hw0 h0R h
  have q0 : ∀ w1, But R ((w.alloc (.cells #[.slice none 0 0, .int .i64 0, .int .i64 0] 33)).alloc (.cells #[.int .i64 0] 26)) w1 → Bx w1 w.heap.size (.slice none 0 0) (.int .i64 0) (.int .i64 0) ∧ w1.cell? ⟨w.heap.size + 1, 0, none⟩ = some (.int .i64 0) ∧ w1.frozen? ⟨w.heap.size + 1, 0, none⟩ = false := fun w1 hbut =>
    ⟨Bx.block (W := (w.alloc (.cells #[.slice none 0 0, .int .i64 0, .int .i64 0] 33)).alloc (.cells #[.int .i64 0] 26)) ⟨by simp, by simp, by simp, by simp, by simp, by simp⟩ (hbut.block _ (by simp; omega) (by omega)),
      (World.cell?_of_block (a := ⟨w.heap.size + 1, 0, none⟩) (hbut.block _ (by simp) (by simp; omega))).trans (by simp), (World.frozen?_of_block (a := ⟨w.heap.size + 1, 0, none⟩) (hbut.block _ (by simp) (by simp; omega))).trans (by simp)⟩
  go_enter_defers Tryd.func21, Tryd.ntmps21
  go_wp2_with (go_at_call 40; (refine (c52 _ _).mono ?_; rintro e w1 ⟨u, rfl, hu, hbut1⟩; obtain ⟨ua, uc, rfl, _⟩ := sv_form hu.sv; obtain ⟨⟨y0, y1, y2, y3, y4, y5⟩, g0, g1⟩ := q0 w1 hbut1))
  refine leaves_cons (f := 39) (args := #[.pointer (some ⟨w.heap.size, 0, none⟩), .pointer (some ⟨w.heap.size + 1, 0, none⟩)]) (by simp) (by simp [go_sem]) ?_
  refine (catch51 _ _ _).mono ?_
  rintro e u' w'' ⟨rfl, rfl, rfl⟩
  exact ⟨.tuple #[RV (.slice ua vs.length uc) f t, .int .i64 0], by simp [results, Tryd.results21, go_sem, y0, y1, y2, g0], _, rfl, VRow.lower (B := w.heap.size + 2) ((((VRow.far (by simpa using hu) (by omega) _).far (by omega) _).far (by omega) _).far (by omega) _) (by omega), ((((hst _ _ _ hbut1).put (Nat.le_refl _) _).put (Nat.le_refl _) _).put (Nat.le_refl _) _).put (by omega) _⟩

set_option maxHeartbeats 1000000 in
/-- codec.Decode of a row's bytes is that row. -/
theorem decode21_yes (bv o c : Nat) (vs : List Vt) (f t : Int) (w : World) (hat : At w bv o (encR vs f t)) (hc : (encR vs f t).length ≤ c) (hm : c ≤ maxLen) (hr : rightRow vs f t = true) (hvs : Few vs) (hg : Good w) :
    Calls Tryd.prog 9 #[.slice (some ⟨bv, o, none⟩) (encR vs f t).length c] w fun e w' => ∃ u, e = .returned (.tuple #[RV u f t, .int .i64 0]) ∧ VRow w.heap.size u vs w' ∧ Below w.heap.size w w' := by
  have h0 : 0 < (encR vs f t).length := by unfold encR; simp; omega
  have hbv : bv < w.heap.size := World.block_lt_of_cell? _ _ (hat 0 h0)
  have c39 := fun o1 => whole39 (w.heap.size + 1) bv vs f t w ((w.alloc o1).alloc (.cells #[.slice (some ⟨bv, o, none⟩) (encR vs f t).length c] 72)) (by omega) (by simp; omega) (by simp) hr hvs hg (bmore (al w o1) (al _ _)) (by omega)
    ⟨some ⟨bv, o, none⟩, c, by simp, hc, hm, by simp, fun _ => ⟨o, rfl, hat.below (bmore (al w o1) (al _ _))⟩⟩
  have hst : ∀ o1 o2 w1, But (w.heap.size + 1) ((w.alloc o1).alloc o2) w1 → But (w.heap.size + 1) w w1 := fun o1 o2 w1 h => (But.of (bmore (al w o1) (al _ o2))).trans h
  have q0 : ∀ w1 o2, But (w.heap.size + 1) ((w.alloc (.cells #[.slice none 0 0, .int .i64 0, .int .i64 0] 33)).alloc o2) w1 → Bx w1 w.heap.size (.slice none 0 0) (.int .i64 0) (.int .i64 0) := fun w1 o2 hbut =>
    Bx.block (W := (w.alloc (.cells #[.slice none 0 0, .int .i64 0, .int .i64 0] 33)).alloc o2) ⟨by simp, by simp, by simp, by simp, by simp, by simp⟩ (hbut.block _ (by simp; omega) (by omega))
  clear hat hr hvs hg hc h0
  generalize (encR vs f t).length = n at *
  go_enter Tryd.func9, Tryd.ntmps9
  go_wp2_with (go_at_call 21; (refine (c39 _).mono ?_; rintro e w1 ⟨u, rfl, hu, hbut1⟩; obtain ⟨ua, uc, rfl, _⟩ := sv_form hu.sv; obtain ⟨y0, y1, y2, y3, y4, y5⟩ := q0 w1 _ hbut1))
  exact bodyPost_ret (v := .tuple #[RV (.slice ua vs.length uc) f t, .int .i64 0]) (by simp [results, Tryd.results9, go_sem, y0, y1, y2]) rfl ⟨_, rfl, VRow.lower (B := w.heap.size + 2) (((VRow.far (by simpa using hu) (by omega) _).far (by omega) _).far (by omega) _) (by omega), ((((hst _ _ _ hbut1).put (Nat.le_refl _) _).put (Nat.le_refl _) _).put (Nat.le_refl _) _).below (by omega) (Nat.le_refl _)⟩

end Go.Proofs.YthfkmedpcmiibaaDoor
