import Derived.Test.YtdempjkkahjekaaMw
import Derived.Test.YtdempjkkahjekaaFy
import Derived.StillTailTactics
import Derived.Outline
namespace Go.Proofs.Ytdempjkkahjekaa
open Go.RowKit Go.Shelf

end Go.Proofs.Ytdempjkkahjekaa
