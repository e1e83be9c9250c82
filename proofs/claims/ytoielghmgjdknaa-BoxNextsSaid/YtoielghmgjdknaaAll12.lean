/-
  All that the four proofs of stage 12 stand on.
-/
import Derived.Test.YtoielghmgjdknaaBoxVa
import Derived.Test.YtoielghmgjdknaaBxC
import Derived.Test.YtoielghmgjdknaaLBoxPuts
import Derived.Test.YtoielghmgjdknaaLBoxCut
import Derived.Test.YtoielghmgjdknaaLBoxSpoilt
import Derived.Test.YtoielghmgjdknaaLists1
import Derived.Test.YtoielghmgjdknaaArr
