import Derived.Test.YtogbcknpnelbgaaRef01
namespace Go.Proofs.Ytogbcknpnelbgaa
open Go.RowKit
set_option linter.unusedVariables false

end Go.Proofs.Ytogbcknpnelbgaa
