/- The law SchemaPlays. -/
import Derived.Test.YtkoagjfbhkhfkaaDoorSf
import Derived.Test.YtkoagjfbhkhfkaaDoorLi
import Derived.Test.YtkoagjfbhkhfkaaDoorPy
namespace Go.Proofs.YtkoagjfbhkhfkaaDoor
open Go.RowKit Go.Lib
set_option maxRecDepth 100000
set_option maxHeartbeats 4000000 in
theorem plays3 (v : Value) (T0 : List Tv) (name : ByteArray) (hnm : name.size ≤ maxLen) (w : World) (hg : Good w) (hv : IT w v T0) :
    Calls Tryd.prog 3 #[v, .string name] w fun e w' => e = .returned (.bool true) ∧ Below w.heap.size w w' := by
  have H7 := play7 v T0 w hg hv
  obtain ⟨⟨⟨a, cp, rfl, _, _⟩, _⟩, _⟩ := hv
  generalize T0.length = N0 at *
  have HQ : Hid (∀ e w1, PPost w e w1 → ∃ c m nv E r lv L, e = .returned (.tuple #[.pointer (some ⟨c, 0, none⟩), .pointer (some ⟨r, 0, none⟩), .bool true]) ∧ PS w w1 c m nv E r lv L) := fun e w1 h => h
  go_enter Tryd.func3, Tryd.ntmps3
  go_wp2_with (first
    | (go_at_call 7; refine H7.mono ?_; intro e w1 hpost; obtain ⟨c, m, nv, E, r, lv, L, rfl, hps⟩ := HQ.out _ _ hpost; have HP : Hid _ := hps; clear hps hpost)
    | (go_at_call 8; refine (live8 w1).mono ?_; rintro e w2 ⟨rfl, hb2⟩)
    | (go_at_call 9; refine (same9 (HP.out.two.below hb2) name hnm).mono ?_; rintro e w3 ⟨rfl, hb3⟩))
  go_ret
  exact ⟨rfl, bmore (bmore HP.out.bel hb2) hb3⟩
end Go.Proofs.YtkoagjfbhkhfkaaDoor
