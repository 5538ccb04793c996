/-
  Contracts: what CheckAdj and AdjFault answer at every list of sides.
-/
import Derived.Test.YtemohlknifhppacPair
namespace Go.Proofs.Ytemohlknifhppac
open Go.RowKit

end Go.Proofs.Ytemohlknifhppac
