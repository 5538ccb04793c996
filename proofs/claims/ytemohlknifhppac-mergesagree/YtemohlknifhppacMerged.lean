/-
  Contract: what the document's MergedOf answers at every two lists of entries.
-/
import Derived.Test.YtemohlknifhppacMerge
import Derived.Test.YtemohlknifhppacWith
import Derived.Test.YtemohlknifhppacFault
import Derived.Test.YtemohlknifhppacQuiet
namespace Go.Proofs.Ytemohlknifhppac
open Go.RowKit

end Go.Proofs.Ytemohlknifhppac
