import Derived.Laws.AppendOwnNone
import Derived.Test.YtmjbgfjjlgpieaaMg10
namespace Go.Proofs.Ytmjbgfjjlgpieaa
open Go.RowKit Go.Shelf
end Go.Proofs.Ytmjbgfjjlgpieaa
