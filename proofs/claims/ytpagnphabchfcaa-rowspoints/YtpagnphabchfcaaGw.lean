/- A drawn region whose callees keep a predicate. -/
import Derived.Test.YtpagnphabchfcaaLo
namespace Go.Proofs.Ytpagnphabchfcaa
open Go.RowKit Go.Shelf
theorem mixedTry : Try.prog.follows .mixedOrders = true := by kernel_rfl
/-- A world of which S is known. -/
structure GW (S : World → Prop) where
  w : World
  h : S w
theorem wp_region_gw {id : Nat} {Q : Exit → Act → World → Prop} {a : Act} {w : World} {l : List Oper} (S : World → Prop) (hB : Region.lexB .any l.toArray = true) (hS : S w.drew)
    (h : wpQuiet Try.prog l.toArray (fun w' => ∃ p : GW S, w' = p.w) (fun a' => ∀ w', (∃ p : GW S, w' = p.w) → Q .normal a' w') l a) : (Code.region id l.toArray true).wp Try.prog Q a w :=
  wp_region_quiet (C := fun w' => ∃ p : GW S, w' = p.w) mixedTry hB ⟨⟨_, hS⟩, rfl⟩ (by simpa using h)
theorem calls_gw {S : World → Prop} {f : FuncId} {args : Array Value} {v : Value} (p : GW S) (h : Calls Try.prog f args p.w fun e w' => e = .returned v ∧ S w') : Calls Try.prog f args p.w fun e w'' => e = .returned v ∧ ∃ p' : GW S, w'' = p'.w :=
  h.mono fun _ _ ⟨he, hs⟩ => ⟨he, ⟨_, hs⟩, rfl⟩
end Go.Proofs.Ytpagnphabchfcaa
