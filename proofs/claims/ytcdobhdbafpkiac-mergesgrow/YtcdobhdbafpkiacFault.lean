/-
  Contract: what StoreFault, the document's answer to Check, answers at every list of entries.
-/
import Derived.Test.YtcdobhdbafpkiacCheck
namespace Go.Proofs.Ytcdobhdbafpkiac
open Go.RowKit

end Go.Proofs.Ytcdobhdbafpkiac
