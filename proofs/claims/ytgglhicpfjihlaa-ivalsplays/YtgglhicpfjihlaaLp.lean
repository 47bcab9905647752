/- The law IvalsPlays. -/
import Derived.Test.YtgglhicpfjihlaaQf
namespace Go.Proofs.Ytgglhicpfjihlaa
open Go.RowKit Go.Shelf
set_option maxRecDepth 100000
set_option maxHeartbeats 2000000 in
theorem plays3 {W : World} {v : Value} {xs : List (Int × St)} {f to : Int} (hv : DRow W v xs) (hb : LoB xs) (hf : least ≤ f ∧ f ≤ most) (ht : least ≤ to ∧ to ≤ most) : Calls Try.prog 3 #[v, .agg #[.int .i64 f, .int .i64 to]] W fun e w' => e = .returned (.bool true) ∧ Below W.heap.size W w' := by
  have hA := al W (.cells #[.int .i64 f, .int .i64 to] 24)
  have b0 := blk_new W [.int .i64 f, .int .i64 to] 24
  change Blk (W.alloc (.cells #[.int .i64 f, .int .i64 to] 24)) _ _ _ at b0
  have k8 := play8 (hv.below hA) hb
  have HA : Hid _ := hA
  have HC : Hid (∀ w', Below (W.alloc (.cells #[.int .i64 f, .int .i64 to] 24)).heap.size (W.alloc (.cells #[.int .i64 f, .int .i64 to] 24)) w' → w'.cell? ⟨W.heap.size, 0, none⟩ = some (.int .i64 f) ∧ w'.cell? ⟨W.heap.size, 1, none⟩ = some (.int .i64 to)) := fun w' k => ⟨(b0.below k).cell 0, (b0.below k).cell 1⟩
  have HF : Hid _ := hf
  have HTo : Hid _ := ht
  clear hv hb b0 hA hf ht
  go_enter Try.func3, Try.ntmps3
  go_wp2_with fail
  generalize W.alloc (.cells #[.int .i64 f, .int .i64 to] 24) = W1 at *
  go_wp2_with (first
    | (go_at_call 8; (with_reducible refine k8.mono ?_); rintro e w1 ⟨x, r, t, rfl, HT, HZ, B1⟩)
    | (go_at_call 9; (with_reducible refine (live9 _).mono ?_); rintro e w2 ⟨rfl, B2⟩; obtain ⟨c0, c1⟩ := HC.out _ (bmore B1 B2))
    | (go_at_call 10; (with_reducible refine (same10 (Two.below HT.out B2) HF.out HTo.out).mono ?_); rintro e w3 ⟨rfl, B3⟩))
  all_goals skip
  go_ret
  exact ⟨rfl, bmore HA.out (bmore (bmore B1 B2) B3)⟩
end Go.Proofs.Ytgglhicpfjihlaa
