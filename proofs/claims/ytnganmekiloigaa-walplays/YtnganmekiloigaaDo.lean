/- few. -/
import Derived.Test.YtnganmekiloigaaRa
namespace Go.Proofs.Ytnganmekiloigaa
open Go.RowKit
set_option maxRecDepth 100000
variable {W : World}

theorem few_end (W : World) (a b c d : Value) (x0 x1 : Array Value) (tmps : Array Value) (ht : tmps.getD 2 undef = .pointer (some ⟨W.heap.size + 1, 0, none⟩)) (hx : x1 = #[a, b, c, d]) :
    bodyPost Try.prog Try.f59 (fun e w' => e = .returned (.agg #[a, b, c, d]) ∧ Below W.heap.size W w') .ret { tmps := tmps, defers := [] } ((W.alloc (.cells x0 50)).alloc (.cells x1 50)) := by
  subst hx
  have hb : Blk ((W.alloc (.cells x0 50)).alloc (.cells [a, b, c, d].toArray 50)) (W.heap.size + 1) [a, b, c, d] 50 := by
    have := blk_new (W.alloc (.cells x0 50)) [a, b, c, d] 50
    simpa using this
  exact bodyPost_ret (results_cell rfl _ _ _ (W.heap.size + 1) [a, b, c, d] 50 hb ht _ Try.underlying50 rfl (by kernel_rfl)) rfl ⟨rfl, bmore (al _ _) (al _ _)⟩

set_option maxHeartbeats 1000000 in
theorem few59 (k i : Int) (ba : Option Addr) (lb bc : Nat) (hb : lb ≤ bc) (hbs : 66 < lb → ∃ b o, ba = some ⟨b, o, none⟩) (ka : Option Addr) (lk kc : Nat) (hk : lk ≤ kc) (hks : 40 < lk → ∃ b o, ka = some ⟨b, o, none⟩) (hbm : bc ≤ maxLen) (hkm : kc ≤ maxLen) :
    Calls Try.prog 59 #[.agg #[.int .i64 k, .int .i64 i, .slice ba lb bc, .slice ka lk kc]] W fun e w' => e = .returned (.agg #[.int .i64 k, .int .i64 i, .slice ba (min lb 66) bc, .slice ka (min lk 40) kc]) ∧ Below W.heap.size W w' := by
  unfold maxLen at hbm hkm
  by_cases h1 : 66 < lb <;> by_cases h2 : 40 < lk
  · obtain ⟨b, o, rfl⟩ := hbs h1
    obtain ⟨b', o', rfl⟩ := hks h2
    have e1 : (66 : Int) < (lb : Int) := by omega
    have e2 : (40 : Int) < (lk : Int) := by omega
    have e3 : (66 : Int) ≤ (bc : Int) := by omega
    have e4 : (40 : Int) ≤ (kc : Int) := by omega
    rw [show min lb 66 = 66 by omega, show min lk 40 = 40 by omega]
    clear hbs hks
    go_enter Try.func59, Try.ntmps59
    go_wp2
    exact few_end W _ _ _ _ _ _ _ rfl rfl
  · obtain ⟨b, o, rfl⟩ := hbs h1
    have e1 : (66 : Int) < (lb : Int) := by omega
    have e2 : ¬ (40 : Int) < (lk : Int) := by omega
    have e3 : (66 : Int) ≤ (bc : Int) := by omega
    rw [show min lb 66 = 66 by omega, show min lk 40 = lk by omega]
    clear hbs hks
    go_enter Try.func59, Try.ntmps59
    go_wp2
    exact few_end W _ _ _ _ _ _ _ rfl rfl
  · obtain ⟨b', o', rfl⟩ := hks h2
    have e1 : ¬ (66 : Int) < (lb : Int) := by omega
    have e2 : (40 : Int) < (lk : Int) := by omega
    have e4 : (40 : Int) ≤ (kc : Int) := by omega
    rw [show min lb 66 = lb by omega, show min lk 40 = 40 by omega]
    clear hbs hks
    go_enter Try.func59, Try.ntmps59
    go_wp2
    exact few_end W _ _ _ _ _ _ _ rfl rfl
  · have e1 : ¬ (66 : Int) < (lb : Int) := by omega
    have e2 : ¬ (40 : Int) < (lk : Int) := by omega
    rw [show min lb 66 = lb by omega, show min lk 40 = lk by omega]
    clear hbs hks
    go_enter Try.func59, Try.ntmps59
    go_wp2
    exact few_end W _ _ _ _ _ _ _ rfl rfl
end Go.Proofs.Ytnganmekiloigaa
