/-
  All that the three proofs of stage 11 stand on.
-/
import Derived.Test.YtolpggmcjengcaaDoorRec2
import Derived.Test.YtolpggmcjengcaaDoorRcB
import Derived.Test.YtolpggmcjengcaaDoorRcC
import Derived.Test.YtolpggmcjengcaaDoorRcD
import Derived.Test.YtolpggmcjengcaaDoorRecP
import Derived.Test.YtolpggmcjengcaaDoorLRecChecks
import Derived.Test.YtolpggmcjengcaaDoorLRecDecodes
import Derived.Test.YtolpggmcjengcaaDoorLRecEncodes
import Derived.Test.YtolpggmcjengcaaDoorArr
namespace Go.Proofs.YtolpggmcjengcaaDoor
theorem check_law : CheckLaw := check_law_over has_law
theorem encode_law : EncodeLaw := encode_law_over has_law check_law
theorem decode_law : DecodeLaw := decode_law_over has_law check_law
end Go.Proofs.YtolpggmcjengcaaDoor
