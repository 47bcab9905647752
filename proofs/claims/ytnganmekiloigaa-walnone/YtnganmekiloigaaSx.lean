/- Bytes as a string. -/
import Derived.Test.YtnganmekiloigaaLaw
import Derived.Laws.BytesArg
namespace Go.Proofs.Ytnganmekiloigaa
open Go.RowKit
def strB (l : Bs) : ByteArray := ⟨l.toArray⟩
theorem strOf_eq (l : Bs) : strOfNums (l.map fun b => (b.toNat : Int)) = strB l := by
  unfold strOfNums strB
  congr 2
  rw [List.map_map]
  conv => rhs; rw [← List.map_id l]
  apply List.map_congr_left
  intro b _
  simp
end Go.Proofs.Ytnganmekiloigaa
