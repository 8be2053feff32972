import Derived.Laws.AppendOwnNone
import Derived.Test.YtkejabhjlflknaaMg6
namespace Go.Proofs.Ytkejabhjlflknaa
open Go.RowKit Go.Shelf
end Go.Proofs.Ytkejabhjlflknaa
