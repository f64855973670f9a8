/- The contracts of the model's l5Bit, l5Shift, l5Bits, l5Op: what a Term makes of values. -/
import Derived.Test.YtmooecbdpfhnlaaT18
import Derived.Test.YtmooecbdpfhnlaaT6
namespace Go.Proofs.Ytmooecbdpfhnlaa
open Go.RowKit

def shiftF (up : Bool) (S a k : Nat) : Nat := match up with | true => a * 2 ^ k % S | false => a / 2 ^ k
def bi (b : Bool) : Nat := if b = true then 1 else 0

end Go.Proofs.Ytmooecbdpfhnlaa
