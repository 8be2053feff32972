import Derived.Lib.QuietBelow
import Derived.Test.YtempgjollkdmnaaGreatMg7
namespace Go.Proofs.YtempgjollkdmnaaGreat
open Go.RowKit Go.Shelf

end Go.Proofs.YtempgjollkdmnaaGreat
