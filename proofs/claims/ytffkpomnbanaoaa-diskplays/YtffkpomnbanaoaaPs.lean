/- The law DiskPlays. -/
import Derived.Test.YtffkpomnbanaoaaSa
namespace Go.Proofs.Ytffkpomnbanaoaa
open Go.RowKit
set_option maxRecDepth 100000

theorem plays3 (W : World) (v : Value) (l : List Deed) (hv : InD W.heap.size W v l) :
    Calls Try.prog 3 #[v] W fun e w' => e = .returned (.bool true) ∧ Below W.heap.size W w' := by
  have c15 := play15 v l hv
  have hps := played_secs (l.take 40)
  have hpl : (l.take 40).length ≤ 40 := by rw [List.length_take]; omega
  obtain ⟨va, vc, hve, _⟩ := hv
  subst hve
  generalize l.length = ln at *
  have HL : Hid (∀ w, Calls Try.prog 16 #[] w fun e w' => e = .returned (.bool true) ∧ Below w.heap.size w w') := live16
  generalize played (l.take 40) = Dq at *
  have HS : Hid (∀ w w' d s r, Two W.heap.size d s r Dq w → Below w.heap.size w w' → Calls Try.prog 17 #[.pointer (some ⟨d, 0, none⟩), .pointer (some ⟨r, 0, none⟩)] w' fun e w2 => e = .returned (.bool true) ∧ Below w'.heap.size w' w2) := fun w w' d s r h hB => by
    obtain ⟨wv, lv, xv, hb⟩ := h
    exact same17 (hb.below hB) (by omega) (by omega)
  clear hps hpl
  go_enter Try.func3, Try.ntmps3
  go_wp2_with (first
    | (go_at_call 15; (refine c15.mono ?_; rintro e w1 ⟨d, s, r, rfl, T1, F1⟩))
    | (go_at_call 16; (refine (HL.out w1).mono ?_; rintro e w2 ⟨rfl, B2⟩))
    | (go_at_call 17; (refine (HS.out w1 w2 _ _ _ T1 B2).mono ?_; rintro e w3 ⟨rfl, B3⟩)))
  go_ret
  exact ⟨rfl, F1.trans ((bmore B2 B3).mono F1.size)⟩
end Go.Proofs.Ytffkpomnbanaoaa
