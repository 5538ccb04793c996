/-
  Contracts: what CheckAdj and AdjFault answer at every list of sides.
-/
import Derived.Test.YtcdobhdbafpkiacPair
namespace Go.Proofs.Ytcdobhdbafpkiac
open Go.RowKit

end Go.Proofs.Ytcdobhdbafpkiac
