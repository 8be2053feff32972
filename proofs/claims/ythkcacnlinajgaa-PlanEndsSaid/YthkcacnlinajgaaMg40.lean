import Derived.Test.YthkcacnlinajgaaMg9
import Derived.Test.YthkcacnlinajgaaMg34
import Derived.Test.YthkcacnlinajgaaMg35

