/- accept, attempt. -/
import Derived.Test.YtnganmekiloigaaGm
import Derived.Test.YtnganmekiloigaaLv
import Derived.Defers
import Derived.Recover
namespace Go.Proofs.Ytnganmekiloigaa
open Go.RowKit
set_option maxRecDepth 100000
variable {w w' : World}

theorem accept98 (w : World) : Calls Try.prog 98 #[.int .i64 0] w fun e w' => e = .returned (.tuple #[]) ∧ w' = w := by
  go_enter Try.func98, Try.ntmps98
  go_wp2
  go_end0
  exact ⟨rfl, rfl⟩
/-- What goes up when the disk refuses. -/
def GU (n : Int) : List PanicEntry := [{ v := .iface 134 (.agg #[.int .i64 n]), recovered := false }]
theorem accept98_no (n : Int) (hn : n ≠ 0) (w : World) : Calls Try.prog 98 #[.int .i64 n] w fun e w' => e = .panicked (GU n) ∧ w' = w := by
  go_enter Try.func98, Try.ntmps98
  go_wp2
  exact ⟨rfl, rfl, rfl⟩

set_option maxHeartbeats 1000000 in
theorem catch97 (p : Addr) (w : World) :
    CallsD Try.prog 97 #[.pointer (some p)] .returning w fun e u' w' => e = .returned (.tuple #[]) ∧ u' = .returning ∧ w' = w := by
  refine callsD_of_wpS Try.func97 rfl fun c₀ cs hu => ?_
  apply wpS_seq
  apply wpS_region
  simp [wpOpsS, go_sem, recoverD, hu, Try.ntmps97, Exit.thenS]
  refine wpS_of_wp ?_
  go_wp2
  cases c₀
  simp_all [bodyPostS, results, Try.results97]

set_option maxHeartbeats 1000000 in
theorem attempt_ok {f : Nat} {caps : Array Value} {Q : World → Prop} (hf : ∀ W, Sem.run Try.prog (callFunc f caps) W = .ok (.enter f caps) W) (hc : Calls Try.prog f caps (w.alloc (.cells #[.int .i64 0] 34)) fun e w' => e = .returned (.tuple #[]) ∧ Blk w' w.heap.size [.int .i64 0] 34 ∧ Q w') :
    Calls Try.prog 67 #[.func (.func f) #[] caps] w fun e w' => e = .returned (.int .i64 0) ∧ ∃ w2, Q w2 ∧ Keep (fun k => k = w.heap.size) w2 w' := by
  have hmf : ∀ (fn : Fn) (first cap : Array Value) (w : World), (Instr.makeFunc fn first cap).run Try.prog w = .ok (.func fn first cap) w := fun _ _ _ _ => rfl
  go_enter_defers Try.func67, Try.ntmps67
  go_wp2_with ((refine hc.mono ?_; rintro e w1 ⟨rfl, hb1, hq1⟩; have y0 := hb1.cell 0; have y1 := hb1.frozen 0))
  refine leaves_cons (f := 97) (args := #[.pointer (some ⟨w.heap.size, 0, none⟩)]) (by simp) (by simp [go_sem]) ?_
  refine (catch97 _ _).mono ?_
  rintro e u' w'' ⟨rfl, rfl, rfl⟩
  have y2 := (hb1.set (o := 0) (.int .i64 0)).cell 0
  exact ⟨.int .i64 0, by simp [results, Try.results67, go_sem, y2], rfl, w1, hq1, (Keep.refl (fun k => k = w.heap.size) w1).set (.inr rfl) _⟩

end Go.Proofs.Ytnganmekiloigaa
