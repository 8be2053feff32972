import Derived.Lib.QuietBelow
import Derived.Test.YtkejabhjlflknaaMg7
namespace Go.Proofs.Ytkejabhjlflknaa
open Go.RowKit Go.Shelf

end Go.Proofs.Ytkejabhjlflknaa
