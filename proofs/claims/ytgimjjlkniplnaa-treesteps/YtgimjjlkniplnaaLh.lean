/- A drawn region whose last operation may break what the others keep. -/
import Derived.Test.YtgimjjlkniplnaaTc
import Derived.Deep.RegionHeld3
import Derived.Deep.RegionLaw
namespace Go.Proofs.Ytgimjjlkniplnaa
open Go.RowKit Go.Shelf
set_option maxRecDepth 100000
section
variable {P : Program} {ops : Array Oper} {Q : Exit → Act → World → Prop} {md : Region.Mode} {S : World → Prop} {last : Nat}
theorem run_build0 {P : Program} (w : World) (t e : TypeId) (z : Value) (m : Nat) (hu : P.underlying t = some (.slice e)) (hi : (P.info? e).map (fun i => (i.zero, i.size)) = some (some z, m)) :
    (Instr.buildSlice t 0 #[]).run P w = .ok (.slice (some ⟨w.heap.size, 0, none⟩) 0 0) (w.alloc (.cells #[] e)) := by
  cases hq : P.info? e with
  | none => simp [hq] at hi
  | some i =>
    simp [Instr.buildSlice, Sem.run_bind, run_underlying hu, sizeOf, typeInfo, hq, Instr.fill, newRow, newObj]
    rw [show (Array.map (fun _ => (default : Value)) (Array.range 0)) = #[] by simp]
    rfl
theorem step_b0 {o : Oper} {a : Act} {w : World} {K : Act → World → Prop} {E : Prop} (hgd : o.guard = none) (dst : Option Nat) (hd : o.dst = dst) (t e : TypeId) (ho : o.op = .buildSlice t 0 #[]) (z : Value) (m : Nat)
    (hu : P.underlying t = some (.slice e)) (hi : (P.info? e).map (fun i => (i.zero, i.size)) = some (some z, m))
    (h : ∀ g w', w.heap.size ≤ g → g < w'.heap.size → Below w.heap.size w w' → K (a.put dst (.slice (some ⟨g, 0, none⟩) 0 0)) w') : if Region.wanted o (yielded ops a.tmps) = true then Oper.wp P o a w K Q else E := by
  subst hd
  have hw : Region.wanted o (yielded ops a.tmps) = true := by simp [Region.wanted, hgd]
  rw [if_pos hw]
  unfold Oper.wp execOp
  simp only [ho, List.map_toArray, List.map_nil, Sem.run_bind, run_build0 w t e z m hu hi, Result.andThen_ok, Sem.run_pure]
  exact h _ _ (Nat.le_refl _) (by simp) (al w _)
theorem step_b1 {o : Oper} {a : Act} {w : World} {K : Act → World → Prop} {E : Prop} (hgd : o.guard = none) (dst : Option Nat) (hd : o.dst = dst) (t e : TypeId) (x : Operand) (ho : o.op = .buildSlice t 1 #[(0, x)]) (v : Value) (hx : a.eval x = v) (cs : List Value)
    (hrun : ∀ w, (Instr.buildSlice t 1 #[(0, v)]).run P w = .ok (.slice (some ⟨w.heap.size, 0, none⟩) 1 1) (w.alloc (.cells cs.toArray e)))
    (h : ∀ g w', w.heap.size ≤ g → Below w.heap.size w w' → Blk w' g cs e → K (a.put dst (.slice (some ⟨g, 0, none⟩) 1 1)) w') : if Region.wanted o (yielded ops a.tmps) = true then Oper.wp P o a w K Q else E := by
  subst hd
  have hw : Region.wanted o (yielded ops a.tmps) = true := by simp [Region.wanted, hgd]
  rw [if_pos hw]
  unfold Oper.wp execOp
  simp only [ho, List.map_toArray, List.map_cons, List.map_nil, hx, Sem.run_bind, hrun, Result.andThen_ok, Sem.run_pure]
  exact h _ _ (Nat.le_refl _) (al w _) (blk_new w cs e)
theorem step_append_d {o : Oper} {a : Act} {w : World} {K : Act → World → Prop} {E : Prop} (hgd : o.guard = none) (dst : Option Nat) (hd : o.dst = dst) (s x : Operand) (t : TypeId)
    (ho : o.op = .call { callee := .builtin .append, args := #[s, x], argTypes := #[t, t] }) (hty : o.type = t) (v y : Value) (hs : a.eval s = v) (hx : a.eval x = y) {R : Value → World → Prop} (hrun : ∃ u w', (Builtin.append_ #[t, t] t #[v, y]).run P w = .ok u w' ∧ R u w')
    (h : ∀ u w', R u w' → K (a.put dst u) w') : if Region.wanted o (yielded ops a.tmps) = true then Oper.wp P o a w K Q else E := by
  subst hd
  obtain ⟨u, w', h1, h2⟩ := hrun
  exact step_append_run hgd s x t ho v y hs hx u w' (by rw [hty]; exact h1) (h u w' h2)
end
theorem b1run (p : Pr) (w : World) : (Instr.buildSlice 37 1 #[(0, .agg #[.string p.1, .string p.2])]).run Try.prog w = .ok (.slice (some ⟨w.heap.size, 0, none⟩) 1 1) (w.alloc (.cells ([.string p.1, .string p.2] : List Value).toArray 33)) := by
  go_simp
end Go.Proofs.Ytgimjjlkniplnaa
