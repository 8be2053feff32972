import Derived.RegionTactic
import Derived.Deep.DeepCutAuto
import Derived.BigRegion
import Derived.BigQuiet
import Derived.Test.YtempgjollkdmnaaMg2
import Derived.Test.YtempgjollkdmnaaMg7
namespace Go.Proofs.Ytempgjollkdmnaa
open Go.RowKit Go.Shelf

end Go.Proofs.Ytempgjollkdmnaa

namespace Go.Proofs.Ytempgjollkdmnaa
open Go.RowKit Go.Shelf

end Go.Proofs.Ytempgjollkdmnaa

namespace Go.Proofs.Ytempgjollkdmnaa
open Go.RowKit Go.Shelf

theorem Bel.trans {B n : Nat} {a : Nat → Option Addr} {w w1 w2 : World} (h : Bel B n a w w1) (k : Bel B n a w1 w2) : Bel B n a w w2 :=
  ⟨h.be.trans k.be, fun g hl hn => (k.kp g (Nat.lt_of_lt_of_le hl h.size) hn).trans (h.kp g hl hn)⟩

end Go.Proofs.Ytempgjollkdmnaa
