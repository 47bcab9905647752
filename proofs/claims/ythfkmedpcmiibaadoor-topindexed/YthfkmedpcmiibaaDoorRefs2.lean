/- The reference's Right and Front. -/
import Derived.Test.YthfkmedpcmiibaaDoorRefs
namespace Go.Proofs.YthfkmedpcmiibaaDoor
open Go.RowKit Go.Lib

theorem okBytes_step {s : ByteArray} {pos : Nat} (h : pos < s.size) : okBytes ((bs s).drop pos) = (okByte (s[pos]'h) && okBytes ((bs s).drop (pos + 1))) := by
  rw [rest_cons h]; rfl
theorem rightR_byte {l : Bs} (h : okBytes l = false) : rightR l = false := by simp [rightR, h]
theorem rightR_inv {l : Bs} (h : validD l = false) : rightR l = false := by simp [rightR, h]
theorem rightR_all {l : Bs} (h1 : validD l = true) (h2 : lenR l ≤ 8) (h3 : okBytes l = true) : rightR l = true := by simp [rightR, h1, h2, h3]

end Go.Proofs.YthfkmedpcmiibaaDoor
