/- The tree's list and the document's are the same. -/
import Derived.Test.YtgglhicpfjihlaaRv
namespace Go.Proofs.Ytgglhicpfjihlaa
open Go.RowKit Go.Shelf
set_option maxRecDepth 100000
theorem lt_asymm' {a b : St} (h : lt a b) (k : lt b a) : False := by
  unfold lt at h k
  omega
theorem sorted_eq {l₁ l₂ : List St} (h1 : Sorted l₁) (h2 : Sorted l₂) (hp : l₁.Perm l₂) : l₁ = l₂ := by
  unfold Sorted at h1 h2
  exact List.Perm.eq_of_pairwise (fun a b _ _ h k => (lt_asymm' h k).elim) h1 h2 hp
theorem ins_laid {t : T} {s : St} (h : Sorted t.inord) (hs : s ∉ t.inord) : (t.ins s).inord = t.inord.take (upto s t.inord) ++ s :: t.inord.drop (upto s t.inord) :=
  sorted_eq (ins_sorted t s h hs) (laid_sorted h hs) ((ins_perm t s).trans (laid_perm s _ _).symm)
end Go.Proofs.Ytgglhicpfjihlaa
