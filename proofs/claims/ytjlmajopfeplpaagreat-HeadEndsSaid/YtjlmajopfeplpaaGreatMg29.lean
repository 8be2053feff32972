import Derived.Lib.QuietBelow
import Derived.Test.YtjlmajopfeplpaaGreatMg7
namespace Go.Proofs.YtjlmajopfeplpaaGreat
open Go.RowKit Go.Shelf

end Go.Proofs.YtjlmajopfeplpaaGreat
