/-
  Contract: what the document's MergedOf answers at every two lists of entries.
-/
import Derived.Test.YtceliogdnpfbjacMerge
import Derived.Test.YtceliogdnpfbjacWith
import Derived.Test.YtceliogdnpfbjacFault
import Derived.Test.YtceliogdnpfbjacQuiet
namespace Go.Proofs.Ytceliogdnpfbjac
open Go.RowKit

end Go.Proofs.Ytceliogdnpfbjac
