/-
  Contract: what the document's MergedOf answers at every two lists of entries.
-/
import Derived.Test.YtcdobhdbafpkiacMerge
import Derived.Test.YtcdobhdbafpkiacWith
import Derived.Test.YtcdobhdbafpkiacFault
import Derived.Test.YtcdobhdbafpkiacQuiet
namespace Go.Proofs.Ytcdobhdbafpkiac
open Go.RowKit

end Go.Proofs.Ytcdobhdbafpkiac
