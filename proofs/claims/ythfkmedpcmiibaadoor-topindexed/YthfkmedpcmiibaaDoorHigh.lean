/- value.highestFirst: a number's eight bytes, the highest first. -/
import Derived.Test.YthfkmedpcmiibaaDoorVal
namespace Go.Proofs.YthfkmedpcmiibaaDoor
open Go.RowKit Go.Lib

set_option maxRecDepth 100000 in
set_option maxHeartbeats 8000000 in
theorem high37 (u : Nat) (hu : u < 18446744073709551616) (w : World) : Calls Tryd.prog 29 #[.int .u64 (u : Int)] w fun e w' => e = .returned (.agg #[.int .u8 ((u : Int) / 256 / 256 / 256 / 256 / 256 / 256 / 256), .int .u8 ((u : Int) / 256 / 256 / 256 / 256 / 256 / 256 % 256), .int .u8 ((u : Int) / 256 / 256 / 256 / 256 / 256 % 256), .int .u8 ((u : Int) / 256 / 256 / 256 / 256 % 256), .int .u8 ((u : Int) / 256 / 256 / 256 % 256), .int .u8 ((u : Int) / 256 / 256 % 256), .int .u8 ((u : Int) / 256 % 256), .int .u8 ((u : Int) % 256)]) ∧ Below w.heap.size w w' := by
  have hA : ∀ o o', Below w.heap.size w ((w.alloc o).alloc o') := fun o o' => ((Below.refl _ _).alloc (Nat.le_refl _) o).alloc (by simp) o'
  go_enter Tryd.func29, Tryd.ntmps29
  go_wp2
  refine wp_loop_rounds 9 ?_
  rw [rounds_succ]
  go_wp2
  rw [rounds_succ]
  go_wp2
  rw [rounds_succ]
  go_wp2
  rw [rounds_succ]
  go_wp2
  rw [rounds_succ]
  go_wp2
  rw [rounds_succ]
  go_wp2
  rw [rounds_succ]
  go_wp2
  rw [rounds_succ]
  go_wp2
  rw [rounds_succ]
  go_wp2
  refine bodyPost_ret (results_cell_row rfl _ _ w.heap.size 79 _ (0, 0) _ rfl (by rw [Below.heap_alloc _ _ _ (by simp)]; exact (MapKept.heap_alloc w _).1) Tryd.underlying79 rfl (by kernel_rfl)) rfl ?_
  exact ⟨rfl, hA _ _⟩

set_option maxRecDepth 100000 in
theorem be8_cells (u : Nat) (hu : u < 18446744073709551616) : cellsB (be8 u) = [.int .u8 ((u : Int) / 256 / 256 / 256 / 256 / 256 / 256 / 256), .int .u8 ((u : Int) / 256 / 256 / 256 / 256 / 256 / 256 % 256), .int .u8 ((u : Int) / 256 / 256 / 256 / 256 / 256 % 256), .int .u8 ((u : Int) / 256 / 256 / 256 / 256 % 256), .int .u8 ((u : Int) / 256 / 256 / 256 % 256), .int .u8 ((u : Int) / 256 / 256 % 256), .int .u8 ((u : Int) / 256 % 256), .int .u8 ((u : Int) % 256)] := by
  have h7 : (UInt8.ofNat (u / 256 / 256 / 256 / 256 / 256 / 256 / 256)).toNat = u / 256 / 256 / 256 / 256 / 256 / 256 / 256 := by
    rw [UInt8.toNat_ofNat']; omega
  have hk : ∀ x : Nat, (UInt8.ofNat (x % 256)).toNat = x % 256 := fun x => by rw [UInt8.toNat_ofNat']; omega
  have e : ∀ x : Nat, ((x / 256 : Nat) : Int) = (x : Int) / 256 := fun x => by omega
  have m : ∀ x : Nat, ((x % 256 : Nat) : Int) = (x : Int) % 256 := fun x => by omega
  simp only [cellsB, be8, List.map_cons, List.map_nil, h7, hk, e, m]

end Go.Proofs.YthfkmedpcmiibaaDoor
