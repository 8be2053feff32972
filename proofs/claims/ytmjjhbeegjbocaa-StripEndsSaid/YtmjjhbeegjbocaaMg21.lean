import Derived.Laws.AppendOwnNone
import Derived.Test.YtmjjhbeegjbocaaMg10
namespace Go.Proofs.Ytmjjhbeegjbocaa
open Go.RowKit Go.Shelf
end Go.Proofs.Ytmjjhbeegjbocaa
