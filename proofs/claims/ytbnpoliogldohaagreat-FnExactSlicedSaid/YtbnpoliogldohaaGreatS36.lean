/- The contracts of the library's slices.Grow (onto nothing) and slices.Concat, at numbers. -/
import Derived.Test.YtbnpoliogldohaaGreatS11
import Derived.Lib.AppendZeros
namespace Go.Proofs.YtbnpoliogldohaaGreat
open Go.RowKit

/-- The first k, one behind the other. -/
def flatTo (css : List (List Int)) : Nat → List Int
  | 0 => []
  | k + 1 => flatTo css k ++ intsAt css k
end Go.Proofs.YtbnpoliogldohaaGreat
