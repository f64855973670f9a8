/- What a law's arguments are, as the statement's own reading gives them: a slice of Terms. -/
import Derived.Test.YtbnpoliogldohaaGreatS2
import Derived.Deep.SlicePairs
import Derived.ChangeArms
namespace Go.Proofs.YtbnpoliogldohaaGreat
open Go.RowKit Go.ChangeShapes Go.WideShapes

/-- An argument that is a slice of Terms: of no more than 2^20, it reads as such. -/
def ArgTerms (w : World) (a : Option Addr) (len : Nat) : Prop := len ≤ maxLen ∧ (len ≤ 1048576 → ∃ ts, Terms w a len ts)

end Go.Proofs.YtbnpoliogldohaaGreat
