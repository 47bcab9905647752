/- lex.Signed. -/
import Derived.Test.YtipnaphikbjhbaaDoorLw
namespace Go.Proofs.YtipnaphikbjhbaaDoor
open Go.RowKit Go.Lib Go.Joins
set_option maxRecDepth 100000

end Go.Proofs.YtipnaphikbjhbaaDoor
