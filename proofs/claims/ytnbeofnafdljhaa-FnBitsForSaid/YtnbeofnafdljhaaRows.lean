/-
  No cell of these rows narrows 'for every input' (looked for: loops, veiled, ifaces, maps, wideKeys, modest, calm, conditions, laid).
  DERIVED. THE GIVEN ROWS OF THIS SEAT. 11 by the template 'for every input the law returns true; each argument reads behind the call as it read before'; 0 by the template 'total and deterministic' (their statements: YtnbeofnafdljhaaTotals.lean).
  GIVEN WITH THE SEED: the statements are not yours to turn. If you find one false, say at which input.
  Laid BY PROGRAM, IN A SANDBOX (cutbox-rows.mjs): the forced cells as the released guide's own fill.sh prints them over the translation a387bcf03c2e3dc4… (all of the seat's roots in one cut). By AI agents, Wed Nov 11 2026. No macro, syntax, notation, axiom, sorry.
-/
import Derived.Test.YtnbeofnafdljhaaChecked
import GoSem.Claim
import GoSem.ClaimJoined
import GoSem.ClaimMapViews
import Derived.JoinedTies
import Derived.KernelRfl
namespace Go.Proofs.Ytnbeofnafdljhaa
/- THE CELL 'sum', in the pinned program and in every row, IS THE sha256 OF THE DUMP (.gsa) THAT YtnbeofnafdljhaaProg.lean LOADS. Nothing in Lean hashes anything: it is a label: what it is worth is what the hold of that sum in a sandbox is worth. -/
noncomputable def Try.pinned : Pinned := { name := "ytnbeofnafdljhaa", sum := "a387bcf03c2e3dc4a0b13c1ed9295a1efd629688b8c207a97cc28850d82a30fa", checked := Try.checked }
namespace Rows
def none {H : Type} : Left H := { results := [], args := [] }

/-- 'laws.FnNatSums': WHATEVER THE INPUT: true; the input reads as it did. -/
def fnNatSumsSpec : ChangeSpec := { name := "fnNatSums", fn := fun _ => fun
  | [d] => { results := [.lit (.bool true)], args := [d] }
  | _ => none }
def fnNatSumsRow : OpenClaim := { program := "ytnbeofnafdljhaa", sum := "a387bcf03c2e3dc4a0b13c1ed9295a1efd629688b8c207a97cc28850d82a30fa", func := "loop.example/g00697/laws.FnNatSums", spec := "fnNatSums", unfollowed := true, recurses := true, apart := false }
def FnNatSumsSaid : Prop := fnNatSumsRow.holds Try.pinned (OpenSpec.ofChange fnNatSumsSpec)

/-- ITS FALSE NEIGHBOUR: 'it returns false'. Refute it at one input. -/
def fnNatSumsWrong : ChangeSpec := { name := "fnNatSums", fn := fun _ => fun
  | [d] => { results := [.lit (.bool false)], args := [d] }
  | _ => none }
def FnNatSumsWrongFalsely : Prop := fnNatSumsRow.holds Try.pinned (OpenSpec.ofChange fnNatSumsWrong)

/-- 'laws.FnNatTimes': WHATEVER THE INPUT: true; the input reads as it did. -/
def fnNatTimesSpec : ChangeSpec := { name := "fnNatTimes", fn := fun _ => fun
  | [d] => { results := [.lit (.bool true)], args := [d] }
  | _ => none }
def fnNatTimesRow : OpenClaim := { program := "ytnbeofnafdljhaa", sum := "a387bcf03c2e3dc4a0b13c1ed9295a1efd629688b8c207a97cc28850d82a30fa", func := "loop.example/g00697/laws.FnNatTimes", spec := "fnNatTimes", unfollowed := true, recurses := true, apart := false }
def FnNatTimesSaid : Prop := fnNatTimesRow.holds Try.pinned (OpenSpec.ofChange fnNatTimesSpec)

/-- ITS FALSE NEIGHBOUR: 'it returns false'. Refute it at one input. -/
def fnNatTimesWrong : ChangeSpec := { name := "fnNatTimes", fn := fun _ => fun
  | [d] => { results := [.lit (.bool false)], args := [d] }
  | _ => none }
def FnNatTimesWrongFalsely : Prop := fnNatTimesRow.holds Try.pinned (OpenSpec.ofChange fnNatTimesWrong)

/-- 'laws.FnBitsFor': WHATEVER THE INPUT: true; the input reads as it did. -/
def fnBitsForSpec : ChangeSpec := { name := "fnBitsFor", fn := fun _ => fun
  | [d] => { results := [.lit (.bool true)], args := [d] }
  | _ => none }
def fnBitsForRow : OpenClaim := { program := "ytnbeofnafdljhaa", sum := "a387bcf03c2e3dc4a0b13c1ed9295a1efd629688b8c207a97cc28850d82a30fa", func := "loop.example/g00697/laws.FnBitsFor", spec := "fnBitsFor", unfollowed := true, recurses := true, apart := false }
def FnBitsForSaid : Prop := fnBitsForRow.holds Try.pinned (OpenSpec.ofChange fnBitsForSpec)

/-- ITS FALSE NEIGHBOUR: 'it returns false'. Refute it at one input. -/
def fnBitsForWrong : ChangeSpec := { name := "fnBitsFor", fn := fun _ => fun
  | [d] => { results := [.lit (.bool false)], args := [d] }
  | _ => none }
def FnBitsForWrongFalsely : Prop := fnBitsForRow.holds Try.pinned (OpenSpec.ofChange fnBitsForWrong)

/-- 'laws.FnExactNatOk': WHATEVER THE INPUT: true; the input reads as it did. -/
def fnExactNatOkSpec : ChangeSpec := { name := "fnExactNatOk", fn := fun _ => fun
  | [d] => { results := [.lit (.bool true)], args := [d] }
  | _ => none }
def fnExactNatOkRow : OpenClaim := { program := "ytnbeofnafdljhaa", sum := "a387bcf03c2e3dc4a0b13c1ed9295a1efd629688b8c207a97cc28850d82a30fa", func := "loop.example/g00697/laws.FnExactNatOk", spec := "fnExactNatOk", apart := false }
def FnExactNatOkSaid : Prop := fnExactNatOkRow.holds Try.pinned (OpenSpec.ofChange fnExactNatOkSpec)

/-- ITS FALSE NEIGHBOUR: 'it returns false'. Refute it at one input. -/
def fnExactNatOkWrong : ChangeSpec := { name := "fnExactNatOk", fn := fun _ => fun
  | [d] => { results := [.lit (.bool false)], args := [d] }
  | _ => none }
def FnExactNatOkWrongFalsely : Prop := fnExactNatOkRow.holds Try.pinned (OpenSpec.ofChange fnExactNatOkWrong)

/-- 'laws.FnExactNatOf': WHATEVER THE INPUT: true; the input reads as it did. -/
def fnExactNatOfSpec : ChangeSpec := { name := "fnExactNatOf", fn := fun _ => fun
  | [d] => { results := [.lit (.bool true)], args := [d] }
  | _ => none }
def fnExactNatOfRow : OpenClaim := { program := "ytnbeofnafdljhaa", sum := "a387bcf03c2e3dc4a0b13c1ed9295a1efd629688b8c207a97cc28850d82a30fa", func := "loop.example/g00697/laws.FnExactNatOf", spec := "fnExactNatOf", apart := false }
def FnExactNatOfSaid : Prop := fnExactNatOfRow.holds Try.pinned (OpenSpec.ofChange fnExactNatOfSpec)

/-- ITS FALSE NEIGHBOUR: 'it returns false'. Refute it at one input. -/
def fnExactNatOfWrong : ChangeSpec := { name := "fnExactNatOf", fn := fun _ => fun
  | [d] => { results := [.lit (.bool false)], args := [d] }
  | _ => none }
def FnExactNatOfWrongFalsely : Prop := fnExactNatOfRow.holds Try.pinned (OpenSpec.ofChange fnExactNatOfWrong)

/-- 'laws.FnExactAddNat': WHATEVER THE INPUT: true; the input reads as it did. -/
def fnExactAddNatSpec : ChangeSpec := { name := "fnExactAddNat", fn := fun _ => fun
  | [d1, d2] => { results := [.lit (.bool true)], args := [d1, d2] }
  | _ => none }
def fnExactAddNatRow : OpenClaim := { program := "ytnbeofnafdljhaa", sum := "a387bcf03c2e3dc4a0b13c1ed9295a1efd629688b8c207a97cc28850d82a30fa", func := "loop.example/g00697/laws.FnExactAddNat", spec := "fnExactAddNat", unfollowed := true, recurses := true, apart := false }
def FnExactAddNatSaid : Prop := fnExactAddNatRow.holds Try.pinned (OpenSpec.ofChange fnExactAddNatSpec)

/-- ITS FALSE NEIGHBOUR: 'it returns false'. Refute it at one input. -/
def fnExactAddNatWrong : ChangeSpec := { name := "fnExactAddNat", fn := fun _ => fun
  | [d1, d2] => { results := [.lit (.bool false)], args := [d1, d2] }
  | _ => none }
def FnExactAddNatWrongFalsely : Prop := fnExactAddNatRow.holds Try.pinned (OpenSpec.ofChange fnExactAddNatWrong)

/-- 'laws.FnExactSubNat': WHATEVER THE INPUT: true; the input reads as it did. -/
def fnExactSubNatSpec : ChangeSpec := { name := "fnExactSubNat", fn := fun _ => fun
  | [d1, d2] => { results := [.lit (.bool true)], args := [d1, d2] }
  | _ => none }
def fnExactSubNatRow : OpenClaim := { program := "ytnbeofnafdljhaa", sum := "a387bcf03c2e3dc4a0b13c1ed9295a1efd629688b8c207a97cc28850d82a30fa", func := "loop.example/g00697/laws.FnExactSubNat", spec := "fnExactSubNat", unfollowed := true, recurses := true, apart := false }
def FnExactSubNatSaid : Prop := fnExactSubNatRow.holds Try.pinned (OpenSpec.ofChange fnExactSubNatSpec)

/-- ITS FALSE NEIGHBOUR: 'it returns false'. Refute it at one input. -/
def fnExactSubNatWrong : ChangeSpec := { name := "fnExactSubNat", fn := fun _ => fun
  | [d1, d2] => { results := [.lit (.bool false)], args := [d1, d2] }
  | _ => none }
def FnExactSubNatWrongFalsely : Prop := fnExactSubNatRow.holds Try.pinned (OpenSpec.ofChange fnExactSubNatWrong)

/-- 'laws.FnExactMulNat': WHATEVER THE INPUT: true; the input reads as it did. -/
def fnExactMulNatSpec : ChangeSpec := { name := "fnExactMulNat", fn := fun _ => fun
  | [d1, d2] => { results := [.lit (.bool true)], args := [d1, d2] }
  | _ => none }
def fnExactMulNatRow : OpenClaim := { program := "ytnbeofnafdljhaa", sum := "a387bcf03c2e3dc4a0b13c1ed9295a1efd629688b8c207a97cc28850d82a30fa", func := "loop.example/g00697/laws.FnExactMulNat", spec := "fnExactMulNat", unfollowed := true, recurses := true, apart := false }
def FnExactMulNatSaid : Prop := fnExactMulNatRow.holds Try.pinned (OpenSpec.ofChange fnExactMulNatSpec)

/-- ITS FALSE NEIGHBOUR: 'it returns false'. Refute it at one input. -/
def fnExactMulNatWrong : ChangeSpec := { name := "fnExactMulNat", fn := fun _ => fun
  | [d1, d2] => { results := [.lit (.bool false)], args := [d1, d2] }
  | _ => none }
def FnExactMulNatWrongFalsely : Prop := fnExactMulNatRow.holds Try.pinned (OpenSpec.ofChange fnExactMulNatWrong)

/-- 'laws.FnExactCmpNat': WHATEVER THE INPUT: true; the input reads as it did. -/
def fnExactCmpNatSpec : ChangeSpec := { name := "fnExactCmpNat", fn := fun _ => fun
  | [d1, d2] => { results := [.lit (.bool true)], args := [d1, d2] }
  | _ => none }
def fnExactCmpNatRow : OpenClaim := { program := "ytnbeofnafdljhaa", sum := "a387bcf03c2e3dc4a0b13c1ed9295a1efd629688b8c207a97cc28850d82a30fa", func := "loop.example/g00697/laws.FnExactCmpNat", spec := "fnExactCmpNat", apart := false }
def FnExactCmpNatSaid : Prop := fnExactCmpNatRow.holds Try.pinned (OpenSpec.ofChange fnExactCmpNatSpec)

/-- ITS FALSE NEIGHBOUR: 'it returns false'. Refute it at one input. -/
def fnExactCmpNatWrong : ChangeSpec := { name := "fnExactCmpNat", fn := fun _ => fun
  | [d1, d2] => { results := [.lit (.bool false)], args := [d1, d2] }
  | _ => none }
def FnExactCmpNatWrongFalsely : Prop := fnExactCmpNatRow.holds Try.pinned (OpenSpec.ofChange fnExactCmpNatWrong)

/-- 'laws.FnExactPowerNat': WHATEVER THE INPUT: true; the input reads as it did. -/
def fnExactPowerNatSpec : ChangeSpec := { name := "fnExactPowerNat", fn := fun _ => fun
  | [d] => { results := [.lit (.bool true)], args := [d] }
  | _ => none }
def fnExactPowerNatRow : OpenClaim := { program := "ytnbeofnafdljhaa", sum := "a387bcf03c2e3dc4a0b13c1ed9295a1efd629688b8c207a97cc28850d82a30fa", func := "loop.example/g00697/laws.FnExactPowerNat", spec := "fnExactPowerNat", recurses := true, apart := false }
def FnExactPowerNatSaid : Prop := fnExactPowerNatRow.holds Try.pinned (OpenSpec.ofChange fnExactPowerNatSpec)

/-- ITS FALSE NEIGHBOUR: 'it returns false'. Refute it at one input. -/
def fnExactPowerNatWrong : ChangeSpec := { name := "fnExactPowerNat", fn := fun _ => fun
  | [d] => { results := [.lit (.bool false)], args := [d] }
  | _ => none }
def FnExactPowerNatWrongFalsely : Prop := fnExactPowerNatRow.holds Try.pinned (OpenSpec.ofChange fnExactPowerNatWrong)

/-- 'laws.FnExactBitsFor': WHATEVER THE INPUT: true; the input reads as it did. -/
def fnExactBitsForSpec : ChangeSpec := { name := "fnExactBitsFor", fn := fun _ => fun
  | [d] => { results := [.lit (.bool true)], args := [d] }
  | _ => none }
def fnExactBitsForRow : OpenClaim := { program := "ytnbeofnafdljhaa", sum := "a387bcf03c2e3dc4a0b13c1ed9295a1efd629688b8c207a97cc28850d82a30fa", func := "loop.example/g00697/laws.FnExactBitsFor", spec := "fnExactBitsFor", unfollowed := true, recurses := true, apart := false }
def FnExactBitsForSaid : Prop := fnExactBitsForRow.holds Try.pinned (OpenSpec.ofChange fnExactBitsForSpec)

/-- ITS FALSE NEIGHBOUR: 'it returns false'. Refute it at one input. -/
def fnExactBitsForWrong : ChangeSpec := { name := "fnExactBitsFor", fn := fun _ => fun
  | [d] => { results := [.lit (.bool false)], args := [d] }
  | _ => none }
def FnExactBitsForWrongFalsely : Prop := fnExactBitsForRow.holds Try.pinned (OpenSpec.ofChange fnExactBitsForWrong)

/- THE SECOND FORM. 'bulk': how many values and letters a reading holds, each counted each time it is reached (what is shared counts as often as it is met; a slice's spare places count too). A statement '..UptoSaid' is the law's where the arguments, and the package variables that the reading takes, are together of bulk at most 1048576: NARROWER than '..Said'. Prove '..Said' where nothing that the law and all that it calls make is longer than what came in: it says more and counts as full. Else prove '..UptoSaid'. A law counts once. -/
mutual
def uptoBulk {H : Type} : DataW H → Nat
  | .lit (.string bytes) => bytes.length + 1
  | .lit _ => 1
  | .nil => 1
  | .ptr d => uptoBulk d + 1
  | .slice elems spare => uptoBulkAll elems + uptoBulkAll spare + 1
  | .agg parts => uptoBulkAll parts + 1
  | .iface _ d => uptoBulk d + 1
  | .map entries => uptoBulkEntries entries + 1
  | .held _ => 1
def uptoBulkAll {H : Type} : List (DataW H) → Nat
  | [] => 0
  | d :: r => uptoBulk d + uptoBulkAll r
def uptoBulkEntries {H : Type} : List (Lit × DataW H) → Nat
  | [] => 0
  | x :: r => uptoBulkEntry x + uptoBulkEntries r
def uptoBulkEntry {H : Type} : Lit × DataW H → Nat
  | (.string bytes, d) => bytes.length + uptoBulk d + 1
  | (_, d) => uptoBulk d + 1
 end
def uptoSmall : (H : Type) → List (DataW H) → Bool := fun _ ds => decide (uptoBulkAll ds ≤ 1048576)
def OpenSpec.upto (s : _root_.Go.ChangeSpec) : _root_.Go.OpenSpec := { _root_.Go.OpenSpec.ofChange s with cond := some uptoSmall }

/-- 'laws.FnNatSums', WHERE WHAT IT READS IS OF BULK AT MOST 1048576: true; the input reads as it did. -/
def fnNatSumsUptoRow : OpenClaim := { program := "ytnbeofnafdljhaa", sum := "a387bcf03c2e3dc4a0b13c1ed9295a1efd629688b8c207a97cc28850d82a30fa", func := "loop.example/g00697/laws.FnNatSums", spec := "fnNatSums", unfollowed := true, recurses := true, apart := false, narrowed := true }
def FnNatSumsUptoSaid : Prop := fnNatSumsUptoRow.holds Try.pinned (OpenSpec.upto fnNatSumsSpec)

/-- 'laws.FnNatTimes', WHERE WHAT IT READS IS OF BULK AT MOST 1048576: true; the input reads as it did. -/
def fnNatTimesUptoRow : OpenClaim := { program := "ytnbeofnafdljhaa", sum := "a387bcf03c2e3dc4a0b13c1ed9295a1efd629688b8c207a97cc28850d82a30fa", func := "loop.example/g00697/laws.FnNatTimes", spec := "fnNatTimes", unfollowed := true, recurses := true, apart := false, narrowed := true }
def FnNatTimesUptoSaid : Prop := fnNatTimesUptoRow.holds Try.pinned (OpenSpec.upto fnNatTimesSpec)

/-- 'laws.FnBitsFor', WHERE WHAT IT READS IS OF BULK AT MOST 1048576: true; the input reads as it did. -/
def fnBitsForUptoRow : OpenClaim := { program := "ytnbeofnafdljhaa", sum := "a387bcf03c2e3dc4a0b13c1ed9295a1efd629688b8c207a97cc28850d82a30fa", func := "loop.example/g00697/laws.FnBitsFor", spec := "fnBitsFor", unfollowed := true, recurses := true, apart := false, narrowed := true }
def FnBitsForUptoSaid : Prop := fnBitsForUptoRow.holds Try.pinned (OpenSpec.upto fnBitsForSpec)

/-- 'laws.FnExactNatOk', WHERE WHAT IT READS IS OF BULK AT MOST 1048576: true; the input reads as it did. -/
def fnExactNatOkUptoRow : OpenClaim := { program := "ytnbeofnafdljhaa", sum := "a387bcf03c2e3dc4a0b13c1ed9295a1efd629688b8c207a97cc28850d82a30fa", func := "loop.example/g00697/laws.FnExactNatOk", spec := "fnExactNatOk", apart := false, narrowed := true }
def FnExactNatOkUptoSaid : Prop := fnExactNatOkUptoRow.holds Try.pinned (OpenSpec.upto fnExactNatOkSpec)

/-- 'laws.FnExactNatOf', WHERE WHAT IT READS IS OF BULK AT MOST 1048576: true; the input reads as it did. -/
def fnExactNatOfUptoRow : OpenClaim := { program := "ytnbeofnafdljhaa", sum := "a387bcf03c2e3dc4a0b13c1ed9295a1efd629688b8c207a97cc28850d82a30fa", func := "loop.example/g00697/laws.FnExactNatOf", spec := "fnExactNatOf", apart := false, narrowed := true }
def FnExactNatOfUptoSaid : Prop := fnExactNatOfUptoRow.holds Try.pinned (OpenSpec.upto fnExactNatOfSpec)

/-- 'laws.FnExactAddNat', WHERE WHAT IT READS IS OF BULK AT MOST 1048576: true; the input reads as it did. -/
def fnExactAddNatUptoRow : OpenClaim := { program := "ytnbeofnafdljhaa", sum := "a387bcf03c2e3dc4a0b13c1ed9295a1efd629688b8c207a97cc28850d82a30fa", func := "loop.example/g00697/laws.FnExactAddNat", spec := "fnExactAddNat", unfollowed := true, recurses := true, apart := false, narrowed := true }
def FnExactAddNatUptoSaid : Prop := fnExactAddNatUptoRow.holds Try.pinned (OpenSpec.upto fnExactAddNatSpec)

/-- 'laws.FnExactSubNat', WHERE WHAT IT READS IS OF BULK AT MOST 1048576: true; the input reads as it did. -/
def fnExactSubNatUptoRow : OpenClaim := { program := "ytnbeofnafdljhaa", sum := "a387bcf03c2e3dc4a0b13c1ed9295a1efd629688b8c207a97cc28850d82a30fa", func := "loop.example/g00697/laws.FnExactSubNat", spec := "fnExactSubNat", unfollowed := true, recurses := true, apart := false, narrowed := true }
def FnExactSubNatUptoSaid : Prop := fnExactSubNatUptoRow.holds Try.pinned (OpenSpec.upto fnExactSubNatSpec)

/-- 'laws.FnExactMulNat', WHERE WHAT IT READS IS OF BULK AT MOST 1048576: true; the input reads as it did. -/
def fnExactMulNatUptoRow : OpenClaim := { program := "ytnbeofnafdljhaa", sum := "a387bcf03c2e3dc4a0b13c1ed9295a1efd629688b8c207a97cc28850d82a30fa", func := "loop.example/g00697/laws.FnExactMulNat", spec := "fnExactMulNat", unfollowed := true, recurses := true, apart := false, narrowed := true }
def FnExactMulNatUptoSaid : Prop := fnExactMulNatUptoRow.holds Try.pinned (OpenSpec.upto fnExactMulNatSpec)

/-- 'laws.FnExactCmpNat', WHERE WHAT IT READS IS OF BULK AT MOST 1048576: true; the input reads as it did. -/
def fnExactCmpNatUptoRow : OpenClaim := { program := "ytnbeofnafdljhaa", sum := "a387bcf03c2e3dc4a0b13c1ed9295a1efd629688b8c207a97cc28850d82a30fa", func := "loop.example/g00697/laws.FnExactCmpNat", spec := "fnExactCmpNat", apart := false, narrowed := true }
def FnExactCmpNatUptoSaid : Prop := fnExactCmpNatUptoRow.holds Try.pinned (OpenSpec.upto fnExactCmpNatSpec)

/-- 'laws.FnExactPowerNat', WHERE WHAT IT READS IS OF BULK AT MOST 1048576: true; the input reads as it did. -/
def fnExactPowerNatUptoRow : OpenClaim := { program := "ytnbeofnafdljhaa", sum := "a387bcf03c2e3dc4a0b13c1ed9295a1efd629688b8c207a97cc28850d82a30fa", func := "loop.example/g00697/laws.FnExactPowerNat", spec := "fnExactPowerNat", recurses := true, apart := false, narrowed := true }
def FnExactPowerNatUptoSaid : Prop := fnExactPowerNatUptoRow.holds Try.pinned (OpenSpec.upto fnExactPowerNatSpec)

/-- 'laws.FnExactBitsFor', WHERE WHAT IT READS IS OF BULK AT MOST 1048576: true; the input reads as it did. -/
def fnExactBitsForUptoRow : OpenClaim := { program := "ytnbeofnafdljhaa", sum := "a387bcf03c2e3dc4a0b13c1ed9295a1efd629688b8c207a97cc28850d82a30fa", func := "loop.example/g00697/laws.FnExactBitsFor", spec := "fnExactBitsFor", unfollowed := true, recurses := true, apart := false, narrowed := true }
def FnExactBitsForUptoSaid : Prop := fnExactBitsForUptoRow.holds Try.pinned (OpenSpec.upto fnExactBitsForSpec)

end Rows
end Go.Proofs.Ytnbeofnafdljhaa
