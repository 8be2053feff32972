import Derived.Laws.AppendOwnNone
import Derived.Test.YtkejabhjlflknaaGreatMg3
namespace Go.Proofs.YtkejabhjlflknaaGreat
open Go.RowKit Go.Shelf
end Go.Proofs.YtkejabhjlflknaaGreat
