/-
  All that the two proofs of stage 9 stand on.
-/
import Derived.Test.YtillnfjedjahnaaPDskL
import Derived.Test.YtillnfjedjahnaaAwake09
namespace Go.Proofs.Ytillnfjedjahnaa
end Go.Proofs.Ytillnfjedjahnaa
