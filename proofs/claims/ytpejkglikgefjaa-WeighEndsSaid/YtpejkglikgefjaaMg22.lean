import Derived.Lib.QuietBelow
import Derived.Test.YtpejkglikgefjaaMg7
namespace Go.Proofs.Ytpejkglikgefjaa
open Go.RowKit Go.Shelf

end Go.Proofs.Ytpejkglikgefjaa
