import Derived.Laws.AppendOwnNone
import Derived.Test.YtpejkglikgefjaaMg19
namespace Go.Proofs.Ytpejkglikgefjaa
open Go.RowKit Go.Shelf

end Go.Proofs.Ytpejkglikgefjaa

namespace Go.Proofs.Ytpejkglikgefjaa
open Go.RowKit Go.Shelf

end Go.Proofs.Ytpejkglikgefjaa
