import Derived.Laws.AppendOwnNone
import Derived.Test.YthkcacnlinajgaaMg6
namespace Go.Proofs.Ythkcacnlinajgaa
open Go.RowKit Go.Shelf
end Go.Proofs.Ythkcacnlinajgaa
