/-
  Contract: what StoreFault, the document's answer to Check, answers at every list of entries.
-/
import Derived.Test.YtemohlknifhppadCheck
namespace Go.Proofs.Ytemohlknifhppad
open Go.RowKit
set_option maxRecDepth 20000

end Go.Proofs.Ytemohlknifhppad
