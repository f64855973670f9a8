/-
  No cell of these rows narrows 'for every input' (looked for: loops, veiled, ifaces, maps, wideKeys, modest, calm, conditions, laid).
  DERIVED. THE GIVEN ROWS OF THIS SEAT. 7 by the template 'for every input the law returns true; each argument reads behind the call as it read before'; 0 by the template 'total and deterministic' (their statements: YtflojbjeloilaaaGreatTotals.lean).
  GIVEN WITH THE SEED: the statements are not yours to turn. If you find one false, say at which input.
  Laid BY PROGRAM, IN A SANDBOX (cutbox-rows.mjs): the forced cells as the released guide's own fill.sh prints them over the translation 256096db21e8bdbd… (all of the seat's roots in one cut). By AI agents, Wed Nov 11 2026. No macro, syntax, notation, axiom, sorry.
-/
import Derived.Test.YtflojbjeloilaaaGreatChecked
import GoSem.Claim
import GoSem.ClaimJoined
import GoSem.ClaimMapViews
import Derived.JoinedTies
import Derived.KernelRfl
namespace Go.Proofs.YtflojbjeloilaaaGreat
/- THE CELL 'sum', in the pinned program and in every row, IS THE sha256 OF THE DUMP (.gsa) THAT YtflojbjeloilaaaGreatProg.lean LOADS. Nothing in Lean hashes anything: it is a label: what it is worth is what the hold of that sum in a sandbox is worth. -/
noncomputable def Tryz.pinned : Pinned := { name := "ytflojbjeloilaaagreat", sum := "256096db21e8bdbd67f2290a7efd034d2174870b2fcee75b182f2a8bacfe0e8e", checked := Tryz.checked }
namespace Rows
def none {H : Type} : Left H := { results := [], args := [] }

/-- 'laws.FnRun': WHATEVER THE INPUT: true; the input reads as it did. -/
def fnRunSpec : ChangeSpec := { name := "fnRun", fn := fun _ => fun
  | [d] => { results := [.lit (.bool true)], args := [d] }
  | _ => none }
def fnRunRow : OpenClaim := { program := "ytflojbjeloilaaagreat", sum := "256096db21e8bdbd67f2290a7efd034d2174870b2fcee75b182f2a8bacfe0e8e", func := "loop.example/g00697/laws.FnRun", spec := "fnRun", unfollowed := true, recurses := true, plainKeys := false, apart := false }
def FnRunSaid : Prop := fnRunRow.holds Tryz.pinned (OpenSpec.ofChange fnRunSpec)

/-- ITS FALSE NEIGHBOUR: 'it returns false'. Refute it at one input. -/
def fnRunWrong : ChangeSpec := { name := "fnRun", fn := fun _ => fun
  | [d] => { results := [.lit (.bool false)], args := [d] }
  | _ => none }
def FnRunWrongFalsely : Prop := fnRunRow.holds Tryz.pinned (OpenSpec.ofChange fnRunWrong)

/-- 'laws.FnFree': WHATEVER THE INPUT: true; the input reads as it did. -/
def fnFreeSpec : ChangeSpec := { name := "fnFree", fn := fun _ => fun
  | [d] => { results := [.lit (.bool true)], args := [d] }
  | _ => none }
def fnFreeRow : OpenClaim := { program := "ytflojbjeloilaaagreat", sum := "256096db21e8bdbd67f2290a7efd034d2174870b2fcee75b182f2a8bacfe0e8e", func := "loop.example/g00697/laws.FnFree", spec := "fnFree", unfollowed := true, recurses := true, plainKeys := false, apart := false }
def FnFreeSaid : Prop := fnFreeRow.holds Tryz.pinned (OpenSpec.ofChange fnFreeSpec)

/-- ITS FALSE NEIGHBOUR: 'it returns false'. Refute it at one input. -/
def fnFreeWrong : ChangeSpec := { name := "fnFree", fn := fun _ => fun
  | [d] => { results := [.lit (.bool false)], args := [d] }
  | _ => none }
def FnFreeWrongFalsely : Prop := fnFreeRow.holds Tryz.pinned (OpenSpec.ofChange fnFreeWrong)

/-- 'laws.FnMost': WHATEVER THE INPUT: true; the input reads as it did. -/
def fnMostSpec : ChangeSpec := { name := "fnMost", fn := fun _ => fun
  | [d] => { results := [.lit (.bool true)], args := [d] }
  | _ => none }
def fnMostRow : OpenClaim := { program := "ytflojbjeloilaaagreat", sum := "256096db21e8bdbd67f2290a7efd034d2174870b2fcee75b182f2a8bacfe0e8e", func := "loop.example/g00697/laws.FnMost", spec := "fnMost", unfollowed := true, recurses := true, plainKeys := false, apart := false }
def FnMostSaid : Prop := fnMostRow.holds Tryz.pinned (OpenSpec.ofChange fnMostSpec)

/-- ITS FALSE NEIGHBOUR: 'it returns false'. Refute it at one input. -/
def fnMostWrong : ChangeSpec := { name := "fnMost", fn := fun _ => fun
  | [d] => { results := [.lit (.bool false)], args := [d] }
  | _ => none }
def FnMostWrongFalsely : Prop := fnMostRow.holds Tryz.pinned (OpenSpec.ofChange fnMostWrong)

/-- 'laws.FnExactOutcomesOf': WHATEVER THE INPUT: true; the input reads as it did. -/
def fnExactOutcomesOfSpec : ChangeSpec := { name := "fnExactOutcomesOf", fn := fun _ => fun
  | [d1, d2, d3, d4] => { results := [.lit (.bool true)], args := [d1, d2, d3, d4] }
  | _ => none }
def fnExactOutcomesOfRow : OpenClaim := { program := "ytflojbjeloilaaagreat", sum := "256096db21e8bdbd67f2290a7efd034d2174870b2fcee75b182f2a8bacfe0e8e", func := "loop.example/g00697/laws.FnExactOutcomesOf", spec := "fnExactOutcomesOf", unfollowed := true, recurses := true, plainKeys := false, apart := false }
def FnExactOutcomesOfSaid : Prop := fnExactOutcomesOfRow.holds Tryz.pinned (OpenSpec.ofChange fnExactOutcomesOfSpec)

/-- ITS FALSE NEIGHBOUR: 'it returns false'. Refute it at one input. -/
def fnExactOutcomesOfWrong : ChangeSpec := { name := "fnExactOutcomesOf", fn := fun _ => fun
  | [d1, d2, d3, d4] => { results := [.lit (.bool false)], args := [d1, d2, d3, d4] }
  | _ => none }
def FnExactOutcomesOfWrongFalsely : Prop := fnExactOutcomesOfRow.holds Tryz.pinned (OpenSpec.ofChange fnExactOutcomesOfWrong)

/-- 'laws.FnExactMostFor': WHATEVER THE INPUT: true; the input reads as it did. -/
def fnExactMostForSpec : ChangeSpec := { name := "fnExactMostFor", fn := fun _ => fun
  | [d1, d2] => { results := [.lit (.bool true)], args := [d1, d2] }
  | _ => none }
def fnExactMostForRow : OpenClaim := { program := "ytflojbjeloilaaagreat", sum := "256096db21e8bdbd67f2290a7efd034d2174870b2fcee75b182f2a8bacfe0e8e", func := "loop.example/g00697/laws.FnExactMostFor", spec := "fnExactMostFor", unfollowed := true, recurses := true, plainKeys := false, apart := false }
def FnExactMostForSaid : Prop := fnExactMostForRow.holds Tryz.pinned (OpenSpec.ofChange fnExactMostForSpec)

/-- ITS FALSE NEIGHBOUR: 'it returns false'. Refute it at one input. -/
def fnExactMostForWrong : ChangeSpec := { name := "fnExactMostFor", fn := fun _ => fun
  | [d1, d2] => { results := [.lit (.bool false)], args := [d1, d2] }
  | _ => none }
def FnExactMostForWrongFalsely : Prop := fnExactMostForRow.holds Tryz.pinned (OpenSpec.ofChange fnExactMostForWrong)

/-- 'laws.FnExactMostJoint': WHATEVER THE INPUT: true; the input reads as it did. -/
def fnExactMostJointSpec : ChangeSpec := { name := "fnExactMostJoint", fn := fun _ => fun
  | [d] => { results := [.lit (.bool true)], args := [d] }
  | _ => none }
def fnExactMostJointRow : OpenClaim := { program := "ytflojbjeloilaaagreat", sum := "256096db21e8bdbd67f2290a7efd034d2174870b2fcee75b182f2a8bacfe0e8e", func := "loop.example/g00697/laws.FnExactMostJoint", spec := "fnExactMostJoint", unfollowed := true, recurses := true, plainKeys := false, apart := false }
def FnExactMostJointSaid : Prop := fnExactMostJointRow.holds Tryz.pinned (OpenSpec.ofChange fnExactMostJointSpec)

/-- ITS FALSE NEIGHBOUR: 'it returns false'. Refute it at one input. -/
def fnExactMostJointWrong : ChangeSpec := { name := "fnExactMostJoint", fn := fun _ => fun
  | [d] => { results := [.lit (.bool false)], args := [d] }
  | _ => none }
def FnExactMostJointWrongFalsely : Prop := fnExactMostJointRow.holds Tryz.pinned (OpenSpec.ofChange fnExactMostJointWrong)

/-- 'laws.FnExactAllOutcomes': WHATEVER THE INPUT: true; the input reads as it did. -/
def fnExactAllOutcomesSpec : ChangeSpec := { name := "fnExactAllOutcomes", fn := fun _ => fun
  | [d] => { results := [.lit (.bool true)], args := [d] }
  | _ => none }
def fnExactAllOutcomesRow : OpenClaim := { program := "ytflojbjeloilaaagreat", sum := "256096db21e8bdbd67f2290a7efd034d2174870b2fcee75b182f2a8bacfe0e8e", func := "loop.example/g00697/laws.FnExactAllOutcomes", spec := "fnExactAllOutcomes", unfollowed := true, recurses := true, plainKeys := false, apart := false }
def FnExactAllOutcomesSaid : Prop := fnExactAllOutcomesRow.holds Tryz.pinned (OpenSpec.ofChange fnExactAllOutcomesSpec)

/-- ITS FALSE NEIGHBOUR: 'it returns false'. Refute it at one input. -/
def fnExactAllOutcomesWrong : ChangeSpec := { name := "fnExactAllOutcomes", fn := fun _ => fun
  | [d] => { results := [.lit (.bool false)], args := [d] }
  | _ => none }
def FnExactAllOutcomesWrongFalsely : Prop := fnExactAllOutcomesRow.holds Tryz.pinned (OpenSpec.ofChange fnExactAllOutcomesWrong)

/- THE SECOND FORM. 'bulk': how many values and letters a reading holds, each counted each time it is reached (what is shared counts as often as it is met; a slice's spare places count too). A statement '..UptoSaid' is the law's where the arguments, and the package variables that the reading takes, are together of bulk at most 1048576: NARROWER than '..Said'. Prove '..Said' where nothing that the law and all that it calls make is longer than what came in: it says more and counts as full. Else prove '..UptoSaid'. A law counts once. -/
mutual
def uptoBulk {H : Type} : DataW H → Nat
  | .lit (.string bytes) => bytes.length + 1
  | .lit _ => 1
  | .nil => 1
  | .ptr d => uptoBulk d + 1
  | .slice elems spare => uptoBulkAll elems + uptoBulkAll spare + 1
  | .agg parts => uptoBulkAll parts + 1
  | .iface _ d => uptoBulk d + 1
  | .map entries => uptoBulkEntries entries + 1
  | .held _ => 1
def uptoBulkAll {H : Type} : List (DataW H) → Nat
  | [] => 0
  | d :: r => uptoBulk d + uptoBulkAll r
def uptoBulkEntries {H : Type} : List (Lit × DataW H) → Nat
  | [] => 0
  | x :: r => uptoBulkEntry x + uptoBulkEntries r
def uptoBulkEntry {H : Type} : Lit × DataW H → Nat
  | (.string bytes, d) => bytes.length + uptoBulk d + 1
  | (_, d) => uptoBulk d + 1
 end
def uptoSmall : (H : Type) → List (DataW H) → Bool := fun _ ds => decide (uptoBulkAll ds ≤ 1048576)
def OpenSpec.upto (s : _root_.Go.ChangeSpec) : _root_.Go.OpenSpec := { _root_.Go.OpenSpec.ofChange s with cond := some uptoSmall }

/-- 'laws.FnRun', WHERE WHAT IT READS IS OF BULK AT MOST 1048576: true; the input reads as it did. -/
def fnRunUptoRow : OpenClaim := { program := "ytflojbjeloilaaagreat", sum := "256096db21e8bdbd67f2290a7efd034d2174870b2fcee75b182f2a8bacfe0e8e", func := "loop.example/g00697/laws.FnRun", spec := "fnRun", unfollowed := true, recurses := true, plainKeys := false, apart := false, narrowed := true }
def FnRunUptoSaid : Prop := fnRunUptoRow.holds Tryz.pinned (OpenSpec.upto fnRunSpec)

/-- 'laws.FnFree', WHERE WHAT IT READS IS OF BULK AT MOST 1048576: true; the input reads as it did. -/
def fnFreeUptoRow : OpenClaim := { program := "ytflojbjeloilaaagreat", sum := "256096db21e8bdbd67f2290a7efd034d2174870b2fcee75b182f2a8bacfe0e8e", func := "loop.example/g00697/laws.FnFree", spec := "fnFree", unfollowed := true, recurses := true, plainKeys := false, apart := false, narrowed := true }
def FnFreeUptoSaid : Prop := fnFreeUptoRow.holds Tryz.pinned (OpenSpec.upto fnFreeSpec)

/-- 'laws.FnMost', WHERE WHAT IT READS IS OF BULK AT MOST 1048576: true; the input reads as it did. -/
def fnMostUptoRow : OpenClaim := { program := "ytflojbjeloilaaagreat", sum := "256096db21e8bdbd67f2290a7efd034d2174870b2fcee75b182f2a8bacfe0e8e", func := "loop.example/g00697/laws.FnMost", spec := "fnMost", unfollowed := true, recurses := true, plainKeys := false, apart := false, narrowed := true }
def FnMostUptoSaid : Prop := fnMostUptoRow.holds Tryz.pinned (OpenSpec.upto fnMostSpec)

/-- 'laws.FnExactOutcomesOf', WHERE WHAT IT READS IS OF BULK AT MOST 1048576: true; the input reads as it did. -/
def fnExactOutcomesOfUptoRow : OpenClaim := { program := "ytflojbjeloilaaagreat", sum := "256096db21e8bdbd67f2290a7efd034d2174870b2fcee75b182f2a8bacfe0e8e", func := "loop.example/g00697/laws.FnExactOutcomesOf", spec := "fnExactOutcomesOf", unfollowed := true, recurses := true, plainKeys := false, apart := false, narrowed := true }
def FnExactOutcomesOfUptoSaid : Prop := fnExactOutcomesOfUptoRow.holds Tryz.pinned (OpenSpec.upto fnExactOutcomesOfSpec)

/-- 'laws.FnExactMostFor', WHERE WHAT IT READS IS OF BULK AT MOST 1048576: true; the input reads as it did. -/
def fnExactMostForUptoRow : OpenClaim := { program := "ytflojbjeloilaaagreat", sum := "256096db21e8bdbd67f2290a7efd034d2174870b2fcee75b182f2a8bacfe0e8e", func := "loop.example/g00697/laws.FnExactMostFor", spec := "fnExactMostFor", unfollowed := true, recurses := true, plainKeys := false, apart := false, narrowed := true }
def FnExactMostForUptoSaid : Prop := fnExactMostForUptoRow.holds Tryz.pinned (OpenSpec.upto fnExactMostForSpec)

/-- 'laws.FnExactMostJoint', WHERE WHAT IT READS IS OF BULK AT MOST 1048576: true; the input reads as it did. -/
def fnExactMostJointUptoRow : OpenClaim := { program := "ytflojbjeloilaaagreat", sum := "256096db21e8bdbd67f2290a7efd034d2174870b2fcee75b182f2a8bacfe0e8e", func := "loop.example/g00697/laws.FnExactMostJoint", spec := "fnExactMostJoint", unfollowed := true, recurses := true, plainKeys := false, apart := false, narrowed := true }
def FnExactMostJointUptoSaid : Prop := fnExactMostJointUptoRow.holds Tryz.pinned (OpenSpec.upto fnExactMostJointSpec)

/-- 'laws.FnExactAllOutcomes', WHERE WHAT IT READS IS OF BULK AT MOST 1048576: true; the input reads as it did. -/
def fnExactAllOutcomesUptoRow : OpenClaim := { program := "ytflojbjeloilaaagreat", sum := "256096db21e8bdbd67f2290a7efd034d2174870b2fcee75b182f2a8bacfe0e8e", func := "loop.example/g00697/laws.FnExactAllOutcomes", spec := "fnExactAllOutcomes", unfollowed := true, recurses := true, plainKeys := false, apart := false, narrowed := true }
def FnExactAllOutcomesUptoSaid : Prop := fnExactAllOutcomesUptoRow.holds Tryz.pinned (OpenSpec.upto fnExactAllOutcomesSpec)

end Rows
end Go.Proofs.YtflojbjeloilaaaGreat
