/- A place is the same as itself. -/
import Derived.Test.YtgglhicpfjihlaaTn
import Derived.Laws.StructEq
import Derived.LaidEql
namespace Go.Proofs.Ytgglhicpfjihlaa
open Go.RowKit Go.Shelf
set_option maxRecDepth 100000
theorem eq24 (f t : Int) (w : World) : (Op.equalIn 9998 24 (.agg #[.int .i64 f, .int .i64 t]) (.agg #[.int .i64 f, .int .i64 t])).run Try.prog w = .ok true w := by
  have h1 : Try.prog.underlying 24 = some (.struct (Try.prog.fieldsOf 24)) := by kernel_rfl
  have h2 : Try.prog.stoodInHeld 24 = false := by kernel_rfl
  rw [show (9998 : Nat) = 9997 + 1 from rfl, run_equalIn_struct _ _ _ _ _ h1 h2]
  have hf : (Try.prog.fieldsOf 24) = (match Try.prog.underlying 24 with | some (.struct fs) => fs | _ => #[]) := rfl
  rw [hf, Try.underlying24]
  clear hf h1 h2
  simp [go_sem]
theorem eq68 (f t i : Int) (w : World) : (Op.equalIn 9999 68 (.agg #[.int .i64 f, .int .i64 t, .int .i64 i]) (.agg #[.int .i64 f, .int .i64 t, .int .i64 i])).run Try.prog w = .ok true w := by
  have h1 : Try.prog.underlying 68 = some (.struct (Try.prog.fieldsOf 68)) := by kernel_rfl
  have h2 : Try.prog.stoodInHeld 68 = false := by kernel_rfl
  rw [show (9999 : Nat) = 9998 + 1 from rfl, run_equalIn_struct _ _ _ _ _ h1 h2]
  have hf : (Try.prog.fieldsOf 68) = (match Try.prog.underlying 68 with | some (.struct fs) => fs | _ => #[]) := rfl
  rw [hf, Try.underlying68]
  clear hf h1 h2
  have := eq24 f t
  simp [go_sem, this]
theorem info70 : (Try.prog.info? 70).map (fun i => i.size) = some 7 := by kernel_rfl
theorem eqp (p : Option Addr) (d : Nat) (w : World) : (Op.equalIn (d + 1) 56 (.pointer p) (.pointer p)).run Try.prog w = .ok true w := by
  obtain ⟨i0, hi, hz⟩ := Option.map_eq_some_iff.1 info70
  cases p with
  | none => simp [Op.equalIn, run_underlying Try.underlying56]
  | some a => simp [Op.equalIn, run_underlying Try.underlying56, sizeOf, typeInfo, hi, run_sameAddr_same]
theorem eql70 (f t i h m : Int) (pl pr : Option Addr) (w : World) : (binOp .eql 70 (.agg #[.int .i64 f, .int .i64 t, .int .i64 i, .pointer pl, .pointer pr, .int .i64 h, .int .i64 m]) (.agg #[.int .i64 f, .int .i64 t, .int .i64 i, .pointer pl, .pointer pr, .int .i64 h, .int .i64 m])).run Try.prog w = .ok (.bool true) w := by
  have h1 : Try.prog.underlying 70 = some (.struct (Try.prog.fieldsOf 70)) := by kernel_rfl
  have h2 : Try.prog.stoodInHeld 70 = false := by kernel_rfl
  rw [run_eql_struct, show (10000 : Nat) = 9999 + 1 from rfl, run_equalIn_struct _ _ _ _ _ h1 h2]
  have hf : (Try.prog.fieldsOf 70) = (match Try.prog.underlying 70 with | some (.struct fs) => fs | _ => #[]) := rfl
  rw [hf, Try.underlying70]
  clear hf h1 h2
  have := eq68 f t i
  have hp := fun p => eqp p 9998
  simp [go_sem, this, hp]
end Go.Proofs.Ytgglhicpfjihlaa
