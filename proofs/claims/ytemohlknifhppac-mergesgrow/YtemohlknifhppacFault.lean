/-
  Contract: what StoreFault, the document's answer to Check, answers at every list of entries.
-/
import Derived.Test.YtemohlknifhppacCheck
namespace Go.Proofs.Ytemohlknifhppac
open Go.RowKit

end Go.Proofs.Ytemohlknifhppac
