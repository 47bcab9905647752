/- A row that came in, as a parameter of its own. -/
import Derived.Test.YtolggmmlaohpdabDoorArgk
namespace Go.Proofs.YtolggmmlaohpdabDoor
open Go.ChangeShapes Go.WideShapes Go.ChangeAt Go.RowKit Go.Lib Go.Joins Go.Deep
set_option maxRecDepth 100000

theorem openRowV {H : Type} {enc : TypeId × Value → H} {W : World} {base : Nat} {v : Value} {d : DataW H} {p : List MemPlace} (hv : Value.okWide Tryd.prog W .any base 26 v) (h : DataW.Trod enc Tryd.prog W 0 (fun _ => true) true 26 v d p) :
    ∃ u a f t c, v = .agg #[u, .int .i64 f, .int .i64 t] ∧ RowIn W c d u a f t := by
  obtain ⟨cs, rfl, _⟩ := okWide_struct Tryd.underlying26 hv
  obtain ⟨fuel, hf⟩ := h
  obtain ⟨u, a, f, t, hr⟩ := openRow hf
  have e := hr.1
  obtain ⟨l⟩ := cs
  simp only [Value.cells] at e
  subst e
  exact ⟨u, a, f, t, _, rfl, hr⟩

/-- The sizes of a row that came in, among the parameters. -/
theorem sized_param {H : Type} {ts : List TypeId} {ds : List (DataW H)} (h : (DataW.weightsEach Tryd.prog ts ds).all (· ≤ reachBytes) = true) {j : Nat} {d : DataW H} (ht : ts[j]? = some 26) (hd : ds[j]? = some d) : (d.weights Tryd.prog 26).all (· ≤ reachBytes) = true :=
  all_less h fun n hn => DataW.weights_mem_each ht hd n hn

end Go.Proofs.YtolggmmlaohpdabDoor
