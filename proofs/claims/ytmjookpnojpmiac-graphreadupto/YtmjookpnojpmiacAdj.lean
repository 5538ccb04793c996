/-
  Contracts: what CheckAdj and AdjFault answer at every list of sides.
-/
import Derived.Test.YtmjookpnojpmiacPair
namespace Go.Proofs.Ytmjookpnojpmiac
open Go.RowKit

end Go.Proofs.Ytmjookpnojpmiac
