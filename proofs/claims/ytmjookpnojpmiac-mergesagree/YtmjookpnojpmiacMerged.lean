/-
  Contract: what the document's MergedOf answers at every two lists of entries.
-/
import Derived.Test.YtmjookpnojpmiacMerge
import Derived.Test.YtmjookpnojpmiacWith
import Derived.Test.YtmjookpnojpmiacFault
import Derived.Test.YtmjookpnojpmiacQuiet
namespace Go.Proofs.Ytmjookpnojpmiac
open Go.RowKit

end Go.Proofs.Ytmjookpnojpmiac
