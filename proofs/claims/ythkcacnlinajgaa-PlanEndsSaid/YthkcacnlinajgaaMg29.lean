import Derived.Lib.QuietBelow
import Derived.Test.YthkcacnlinajgaaMg7
namespace Go.Proofs.Ythkcacnlinajgaa
open Go.RowKit Go.Shelf

end Go.Proofs.Ythkcacnlinajgaa
