import Derived.Lib.QuietBelow
import Derived.Test.YtempgjollkdmnaaMg7
namespace Go.Proofs.Ytempgjollkdmnaa
open Go.RowKit Go.Shelf

end Go.Proofs.Ytempgjollkdmnaa
