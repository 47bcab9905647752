/- Key words: word.keyWords, word.Key. -/
import Derived.Test.YtipnaphikbjhbaaDoorRefs2
import Derived.Maps.OwnSet
import Derived.StringKeys
import Derived.Carry
namespace Go.Proofs.YtipnaphikbjhbaaDoor
open Go.RowKit Go.Lib

/-- The key words. -/
def words : List Bs := [[99, 114, 101, 97, 116, 101], [116, 97, 98, 108, 101], [105, 110, 116], [116, 101, 120, 116], [114, 101, 102, 101, 114, 101, 110, 99, 101, 115],
  [105, 110, 115, 101, 114, 116], [105, 110, 116, 111], [118, 97, 108, 117, 101, 115], [102, 114, 111, 109], [116, 111],
  [117, 112, 100, 97, 116, 101], [115, 101, 116], [119, 104, 101, 114, 101], [100, 101, 108, 101, 116, 101], [115, 101, 108, 101, 99, 116],
  [105, 110], [106, 111, 105, 110], [111, 110], [97, 115], [111, 102],
  [98, 101, 116, 119, 101, 101, 110], [97, 110, 100], [111, 114, 100, 101, 114], [98, 101, 103, 105, 110], [99, 111, 109, 109, 105, 116],
  [114, 111, 108, 108, 98, 97, 99, 107], [112, 114, 117, 110, 101], [111, 114], [110, 111, 116]]
def keyR (l : Bs) : Bool := words.contains l

end Go.Proofs.YtipnaphikbjhbaaDoor
