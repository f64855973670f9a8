/- The contract of the model's EndOf. -/
import Derived.Test.YtmooecbdpfhnlaaT5
namespace Go.Proofs.Ytmooecbdpfhnlaa
open Go.RowKit

/-- What EndOf answers. -/
def endB (ss : List Stm) (z : Int) : Int × Int := if 0 ≤ z ∧ z ≤ (ss.length : Int) - 1 ∧ ss.length ≤ 40 then endOf ss z.toNat else (-1, -1)
end Go.Proofs.Ytmooecbdpfhnlaa
