/-
  Contract: what StoreFault, the document's answer to Check, answers at every list of entries.
-/
import Derived.Test.YtceliogdnpfbjacCheck
namespace Go.Proofs.Ytceliogdnpfbjac
open Go.RowKit

end Go.Proofs.Ytceliogdnpfbjac
