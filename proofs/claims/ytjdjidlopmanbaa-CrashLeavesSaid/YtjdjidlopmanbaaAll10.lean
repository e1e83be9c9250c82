/-
  All that the two proofs of stage 10 stand on.
-/
import Derived.Test.YtjdjidlopmanbaaLCrashMusts
import Derived.Test.YtjdjidlopmanbaaLCrashLeaves
import Derived.Test.YtjdjidlopmanbaaCrs4
import Derived.Test.YtjdjidlopmanbaaArr
namespace Go.Proofs.Ytjdjidlopmanbaa
end Go.Proofs.Ytjdjidlopmanbaa
