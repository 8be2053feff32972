import Derived.Test.YtdempjkkahjekaaP2
import Derived.Test.YtdempjkkahjekaaPg
namespace Go.Proofs.Ytdempjkkahjekaa
open Go.RowKit Go.Shelf

end Go.Proofs.Ytdempjkkahjekaa
