/- Inputs in plain mathematics: how many there are, their numbers, their bits. -/
import Derived.Test.YtbnpoliogldohaaGreatS34
import Derived.Test.YtbnpoliogldohaaGreatS17
namespace Go.Proofs.YtbnpoliogldohaaGreat
open Go.RowKit

/-- The Maxes. -/
def maxesL (ts : List Tm) : List Int := ts.map (fun t => t.1)
def maxesP (p : Prg) : List Int := maxesL (p.lows ++ p.secrets)
/-- Right Maxes: at most six, of eight bits each. -/
def MaxOk (ms : List Int) : Prop := ms.length ≤ 6 ∧ ∀ i, i < ms.length → 0 ≤ ms.getD i 0 ∧ ms.getD i 0 ≤ 255
/-- How many the first k make. -/
def countTo (ms : List Int) : Nat → Int
  | 0 => 1
  | k + 1 => countTo ms k * (ms.getD k 0 + 1)
/-- Answers. -/
noncomputable def countB (p : Prg) : Int := if codeB p = 0 then countTo (maxesP p) (maxesP p).length else -1
noncomputable def bitsInB (p : Prg) : Int := if codeB p = 0 then ((bitsTo p.lows p.lows.length + bitsTo p.secrets p.secrets.length : Nat) : Int) else -1
/-- The number of the values from the i-th on. -/
def numFrom (ms zs : List Int) : Nat → Int
  | 0 => 0
  | k + 1 => numFrom ms zs k * (ms.getD (ms.length - 1 - k) 0 + 1) + zs.getD (ms.length - 1 - k) 0
end Go.Proofs.YtbnpoliogldohaaGreat
