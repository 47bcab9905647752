/- A nil tree: Height, Count. -/
import Derived.Test.YtgimjjlkniplnaaUd
namespace Go.Proofs.Ytgimjjlkniplnaa
open Go.RowKit Go.Shelf
set_option maxRecDepth 100000
theorem height_nil (w : World) : Calls Try.prog 25 #[.pointer none] w fun e w' => e = .returned (.int .i64 0) ∧ Below w.heap.size w w' := by
  have k26 := len26_nil w
  go_enter Try.func25, Try.ntmps25
  go_wp2_with (go_at_call 26; (with_reducible refine k26.mono ?_); rintro e w1 ⟨rfl, hB1⟩)
  go_ret
  exact ⟨rfl, hB1⟩
set_option maxHeartbeats 400000 in
theorem count_nil (w : World) : Calls Try.prog 19 #[.pointer none, .string ⟨#[]⟩, .string ⟨#[]⟩] w fun e w' => e = .returned (.int .i64 0) ∧ Below w.heap.size w w' := by
  have k26 := len26_nil w
  have HK : Hid (∀ W, Below w.heap.size w W → Calls Try.prog 35 #[.pointer none] W (fun e w' => e = .returned (.iface 64 (.slice none 0 0)) ∧ W = w') ∧ Calls Try.prog 37 #[.iface 64 (.slice none 0 0), .string ⟨#[]⟩] W (fun e w' => e = .returned (.int .i64 0) ∧ Below W.heap.size W w')) := fun W hW => ⟨top35_nil W, by
    have := ahead37 (k := ⟨#[]⟩) (h := 0) (n := 0) (x := (64, .slice none 0 0)) (leaf_of (LV.nil EP W none 0)) List.Pairwise.nil (by simp)
    exact this⟩
  go_enter Try.func19, Try.ntmps19
  go_wp2_with (first
    | (go_at_call 26; (with_reducible refine k26.mono ?_); rintro e w1 ⟨rfl, hB1⟩; obtain ⟨k35, k37⟩ := HK.out w1 hB1)
    | (go_at_call 35; (with_reducible refine k35.mono ?_); rintro e w2 ⟨rfl, rfl⟩)
    | (go_at_call 37; (with_reducible refine k37.mono ?_); rintro e w3 ⟨rfl, hB2⟩))
  go_ret
  exact ⟨rfl, bmore hB1 hB2⟩
end Go.Proofs.Ytgimjjlkniplnaa
