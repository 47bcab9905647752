/- Texts of bytes. -/
import Derived.Test.YthfkmedpcmiibaaDoorCmp
namespace Go.Proofs.YthfkmedpcmiibaaDoor
open Go.RowKit Go.Lib

/-- A text of these bytes. -/
abbrev str (l : Bs) : ByteArray := ⟨l.toArray⟩
theorem bs_str (l : Bs) : bs (str l) = l := by simp [bs]
theorem str_bs (s : ByteArray) : str (bs s) = s := str_of_list s
theorem str_size (l : Bs) : (str l).size = l.length := by rw [← bs_length, bs_str]
theorem str_append (a b : Bs) : str a ++ str b = str (a ++ b) := by
  apply ByteArray.ext
  simp [str, ByteArray.data_append]

end Go.Proofs.YthfkmedpcmiibaaDoor
