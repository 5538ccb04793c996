/-
  Contract: what StoreFault, the document's answer to Check, answers at every list of entries.
-/
import Derived.Test.YtmjookpnojpmiacCheck
namespace Go.Proofs.Ytmjookpnojpmiac
open Go.RowKit

end Go.Proofs.Ytmjookpnojpmiac
