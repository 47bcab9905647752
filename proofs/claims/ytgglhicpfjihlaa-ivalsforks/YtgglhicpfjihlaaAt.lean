/- Add of what is there. -/
import Derived.Test.YtgglhicpfjihlaaAd
namespace Go.Proofs.Ytgglhicpfjihlaa
open Go.RowKit Go.Shelf
set_option maxRecDepth 100000
set_option maxHeartbeats 1000000 in
theorem add25_there {W : World} {x : Nat} {p : Option Addr} {t : T} (s : St) (h : s.f < s.t) (hI : IV W x p t) (hh : t.has s = true) : Calls Try.prog 25 #[.pointer (some ⟨x, 0, none⟩), .agg #[.int .i64 s.f, .int .i64 s.t], .int .i64 s.i] W fun e w' => e = .returned (.int .i64 6) ∧ Below W.heap.size W w' := by
  have hge : ¬ (s.f ≥ s.t) := by omega
  have k2 : Below W.heap.size W ((W.alloc (.cells #[.int .i64 s.f, .int .i64 s.t] 24)).alloc (.cells #[.int .i64 s.f, .int .i64 s.t, .int .i64 s.i] 68)) := bmore (al _ _) (al _ _)
  have hI2 := hI.below k2
  have b2 := blk_at (W.alloc (.cells #[.int .i64 s.f, .int .i64 s.t] 24)) [.int .i64 s.f, .int .i64 s.t, .int .i64 s.i] 68 (g := W.heap.size + 1) (by simp)
  change Blk ((W.alloc (.cells #[.int .i64 s.f, .int .i64 s.t] 24)).alloc (.cells #[.int .i64 s.f, .int .i64 s.t, .int .i64 s.i] 68)) _ _ _ at b2
  go_enter Try.func25, Try.ntmps25
  go_wp2_with fail
  generalize (W.alloc (.cells #[.int .i64 s.f, .int .i64 s.t] 24)).alloc (.cells #[.int .i64 s.f, .int .i64 s.t, .int .i64 s.i] 68) = W2 at *
  have k41 := has41 (W := W2.drew) s (hI2.ts.below (Below.refl _ _).drew)
  rw [hh] at k41
  have HI : Hid _ := hI2
  have HB : Hid _ := b2
  have HK : Hid _ := k2
  have HF : Hid (∀ W', Below W2.heap.size W2 W' → W'.cell? ⟨x, 0, none⟩ = some (.pointer p) ∧ W'.cell? ⟨W.heap.size + 1, 0, none⟩ = some (.int .i64 s.f) ∧ W'.cell? ⟨W.heap.size + 1, 1, none⟩ = some (.int .i64 s.t) ∧ W'.cell? ⟨W.heap.size + 1, 2, none⟩ = some (.int .i64 s.i)) := fun W' k => ⟨(hI2.blk.below k).cell 0, (b2.below k).cell 0, (b2.below k).cell 1, (b2.below k).cell 2⟩
  have K0 : Below W2.heap.size W2 W2.drew := (Below.refl _ _).drew
  have hS0 := HF.out _ K0
  clear hI hI2 b2 k2 hh
  go_region_held3 (fun W' => W'.cell? ⟨x, 0, none⟩ = some (.pointer p) ∧ W'.cell? ⟨W.heap.size + 1, 0, none⟩ = some (.int .i64 s.f) ∧ W'.cell? ⟨W.heap.size + 1, 1, none⟩ = some (.int .i64 s.t) ∧ W'.cell? ⟨W.heap.size + 1, 2, none⟩ = some (.int .i64 s.i)) (first | exact hS0 | exact HF.out _ K1) (first
    | (go_at_call 41; (with_reducible refine k41.mono ?_); rintro e w1 ⟨rfl, B1⟩; have K1 := bmore K0 B1))
  clear hS0 k41
  go_wp2_with fail
  go_ret
  exact ⟨rfl, bmore HK.out K1⟩
end Go.Proofs.Ytgglhicpfjihlaa
