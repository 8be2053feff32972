import Derived.Test.YtkejabhjlflknaaMg9
import Derived.Test.YtkejabhjlflknaaMg34
import Derived.Test.YtkejabhjlflknaaMg35

