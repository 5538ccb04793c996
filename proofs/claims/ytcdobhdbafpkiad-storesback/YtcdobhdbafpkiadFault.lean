/-
  Contract: what StoreFault, the document's answer to Check, answers at every list of entries.
-/
import Derived.Test.YtcdobhdbafpkiadCheck
namespace Go.Proofs.Ytcdobhdbafpkiad
open Go.RowKit
set_option maxRecDepth 20000

end Go.Proofs.Ytcdobhdbafpkiad
