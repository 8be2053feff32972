import Derived.Test.YtempgjollkdmnaaMg10
import Derived.Test.YtempgjollkdmnaaMg34
import Derived.Test.YtempgjollkdmnaaMg39

