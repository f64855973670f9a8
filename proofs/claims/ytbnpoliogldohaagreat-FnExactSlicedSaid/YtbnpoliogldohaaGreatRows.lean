/-
  No cell of these rows narrows 'for every input' (looked for: loops, veiled, ifaces, maps, wideKeys, modest, calm, conditions, laid).
  DERIVED. THE GIVEN ROWS OF THIS SEAT. 7 by the template 'for every input the law returns true; each argument reads behind the call as it read before'; 0 by the template 'total and deterministic' (their statements: YtbnpoliogldohaaGreatTotals.lean).
  GIVEN WITH THE SEED: the statements are not yours to turn. If you find one false, say at which input.
  Laid BY PROGRAM, IN A SANDBOX (cutbox-rows.mjs): the forced cells as the released guide's own fill.sh prints them over the translation 682c4506f6b65afb… (all of the seat's roots in one cut). By AI agents, Wed Nov 11 2026. No macro, syntax, notation, axiom, sorry.
-/
import Derived.Test.YtbnpoliogldohaaGreatChecked
import GoSem.Claim
import GoSem.ClaimJoined
import GoSem.ClaimMapViews
import Derived.JoinedTies
import Derived.KernelRfl
namespace Go.Proofs.YtbnpoliogldohaaGreat
/- THE CELL 'sum', in the pinned program and in every row, IS THE sha256 OF THE DUMP (.gsa) THAT YtbnpoliogldohaaGreatProg.lean LOADS. Nothing in Lean hashes anything: it is a label: what it is worth is what the hold of that sum in a sandbox is worth. -/
noncomputable def Tryz.pinned : Pinned := { name := "ytbnpoliogldohaagreat", sum := "682c4506f6b65afbf094c0c438a63528917a5e55fd19f127562fcb9067788f80", checked := Tryz.checked }
namespace Rows
def none {H : Type} : Left H := { results := [], args := [] }

/-- 'laws.FnSlice': WHATEVER THE INPUT: true; the input reads as it did. -/
def fnSliceSpec : ChangeSpec := { name := "fnSlice", fn := fun _ => fun
  | [d] => { results := [.lit (.bool true)], args := [d] }
  | _ => none }
def fnSliceRow : OpenClaim := { program := "ytbnpoliogldohaagreat", sum := "682c4506f6b65afbf094c0c438a63528917a5e55fd19f127562fcb9067788f80", func := "loop.example/g00697/laws.FnSlice", spec := "fnSlice", unfollowed := true, recurses := true, plainKeys := false, apart := false }
def FnSliceSaid : Prop := fnSliceRow.holds Tryz.pinned (OpenSpec.ofChange fnSliceSpec)

/-- ITS FALSE NEIGHBOUR: 'it returns false'. Refute it at one input. -/
def fnSliceWrong : ChangeSpec := { name := "fnSlice", fn := fun _ => fun
  | [d] => { results := [.lit (.bool false)], args := [d] }
  | _ => none }
def FnSliceWrongFalsely : Prop := fnSliceRow.holds Tryz.pinned (OpenSpec.ofChange fnSliceWrong)

/-- 'laws.FnExactNeededIn': WHATEVER THE INPUT: true; the input reads as it did. -/
def fnExactNeededInSpec : ChangeSpec := { name := "fnExactNeededIn", fn := fun _ => fun
  | [d] => { results := [.lit (.bool true)], args := [d] }
  | _ => none }
def fnExactNeededInRow : OpenClaim := { program := "ytbnpoliogldohaagreat", sum := "682c4506f6b65afbf094c0c438a63528917a5e55fd19f127562fcb9067788f80", func := "loop.example/g00697/laws.FnExactNeededIn", spec := "fnExactNeededIn", unfollowed := true, recurses := true, plainKeys := false, apart := false }
def FnExactNeededInSaid : Prop := fnExactNeededInRow.holds Tryz.pinned (OpenSpec.ofChange fnExactNeededInSpec)

/-- ITS FALSE NEIGHBOUR: 'it returns false'. Refute it at one input. -/
def fnExactNeededInWrong : ChangeSpec := { name := "fnExactNeededIn", fn := fun _ => fun
  | [d] => { results := [.lit (.bool false)], args := [d] }
  | _ => none }
def FnExactNeededInWrongFalsely : Prop := fnExactNeededInRow.holds Tryz.pinned (OpenSpec.ofChange fnExactNeededInWrong)

/-- 'laws.FnExactSliced': WHATEVER THE INPUT: true; the input reads as it did. -/
def fnExactSlicedSpec : ChangeSpec := { name := "fnExactSliced", fn := fun _ => fun
  | [d] => { results := [.lit (.bool true)], args := [d] }
  | _ => none }
def fnExactSlicedRow : OpenClaim := { program := "ytbnpoliogldohaagreat", sum := "682c4506f6b65afbf094c0c438a63528917a5e55fd19f127562fcb9067788f80", func := "loop.example/g00697/laws.FnExactSliced", spec := "fnExactSliced", unfollowed := true, recurses := true, plainKeys := false, apart := false }
def FnExactSlicedSaid : Prop := fnExactSlicedRow.holds Tryz.pinned (OpenSpec.ofChange fnExactSlicedSpec)

/-- ITS FALSE NEIGHBOUR: 'it returns false'. Refute it at one input. -/
def fnExactSlicedWrong : ChangeSpec := { name := "fnExactSliced", fn := fun _ => fun
  | [d] => { results := [.lit (.bool false)], args := [d] }
  | _ => none }
def FnExactSlicedWrongFalsely : Prop := fnExactSlicedRow.holds Tryz.pinned (OpenSpec.ofChange fnExactSlicedWrong)

/-- 'laws.FnExactFlowOf': WHATEVER THE INPUT: true; the input reads as it did. -/
def fnExactFlowOfSpec : ChangeSpec := { name := "fnExactFlowOf", fn := fun _ => fun
  | [d] => { results := [.lit (.bool true)], args := [d] }
  | _ => none }
def fnExactFlowOfRow : OpenClaim := { program := "ytbnpoliogldohaagreat", sum := "682c4506f6b65afbf094c0c438a63528917a5e55fd19f127562fcb9067788f80", func := "loop.example/g00697/laws.FnExactFlowOf", spec := "fnExactFlowOf", inPlace := ["maps.clone"], unfollowed := true, recurses := true, plainKeys := false, apart := false }
def FnExactFlowOfSaid : Prop := fnExactFlowOfRow.holds Tryz.pinned (OpenSpec.ofChange fnExactFlowOfSpec)

/-- ITS FALSE NEIGHBOUR: 'it returns false'. Refute it at one input. -/
def fnExactFlowOfWrong : ChangeSpec := { name := "fnExactFlowOf", fn := fun _ => fun
  | [d] => { results := [.lit (.bool false)], args := [d] }
  | _ => none }
def FnExactFlowOfWrongFalsely : Prop := fnExactFlowOfRow.holds Tryz.pinned (OpenSpec.ofChange fnExactFlowOfWrong)

/-- 'laws.FnExactIsQuiet': WHATEVER THE INPUT: true; the input reads as it did. -/
def fnExactIsQuietSpec : ChangeSpec := { name := "fnExactIsQuiet", fn := fun _ => fun
  | [d1, d2] => { results := [.lit (.bool true)], args := [d1, d2] }
  | _ => none }
def fnExactIsQuietRow : OpenClaim := { program := "ytbnpoliogldohaagreat", sum := "682c4506f6b65afbf094c0c438a63528917a5e55fd19f127562fcb9067788f80", func := "loop.example/g00697/laws.FnExactIsQuiet", spec := "fnExactIsQuiet", inPlace := ["maps.clone"], unfollowed := true, recurses := true, plainKeys := false, apart := false }
def FnExactIsQuietSaid : Prop := fnExactIsQuietRow.holds Tryz.pinned (OpenSpec.ofChange fnExactIsQuietSpec)

/-- ITS FALSE NEIGHBOUR: 'it returns false'. Refute it at one input. -/
def fnExactIsQuietWrong : ChangeSpec := { name := "fnExactIsQuiet", fn := fun _ => fun
  | [d1, d2] => { results := [.lit (.bool false)], args := [d1, d2] }
  | _ => none }
def FnExactIsQuietWrongFalsely : Prop := fnExactIsQuietRow.holds Tryz.pinned (OpenSpec.ofChange fnExactIsQuietWrong)

/-- 'laws.FnMost': WHATEVER THE INPUT: true; the input reads as it did. -/
def fnMostSpec : ChangeSpec := { name := "fnMost", fn := fun _ => fun
  | [d] => { results := [.lit (.bool true)], args := [d] }
  | _ => none }
def fnMostRow : OpenClaim := { program := "ytbnpoliogldohaagreat", sum := "682c4506f6b65afbf094c0c438a63528917a5e55fd19f127562fcb9067788f80", func := "loop.example/g00697/laws.FnMost", spec := "fnMost", unfollowed := true, recurses := true, plainKeys := false, apart := false }
def FnMostSaid : Prop := fnMostRow.holds Tryz.pinned (OpenSpec.ofChange fnMostSpec)

/-- ITS FALSE NEIGHBOUR: 'it returns false'. Refute it at one input. -/
def fnMostWrong : ChangeSpec := { name := "fnMost", fn := fun _ => fun
  | [d] => { results := [.lit (.bool false)], args := [d] }
  | _ => none }
def FnMostWrongFalsely : Prop := fnMostRow.holds Tryz.pinned (OpenSpec.ofChange fnMostWrong)

/-- 'laws.FnQuiet': WHATEVER THE INPUT: true; the input reads as it did. -/
def fnQuietSpec : ChangeSpec := { name := "fnQuiet", fn := fun _ => fun
  | [d] => { results := [.lit (.bool true)], args := [d] }
  | _ => none }
def fnQuietRow : OpenClaim := { program := "ytbnpoliogldohaagreat", sum := "682c4506f6b65afbf094c0c438a63528917a5e55fd19f127562fcb9067788f80", func := "loop.example/g00697/laws.FnQuiet", spec := "fnQuiet", inPlace := ["maps.clone"], unfollowed := true, recurses := true, plainKeys := false, apart := false }
def FnQuietSaid : Prop := fnQuietRow.holds Tryz.pinned (OpenSpec.ofChange fnQuietSpec)

/-- ITS FALSE NEIGHBOUR: 'it returns false'. Refute it at one input. -/
def fnQuietWrong : ChangeSpec := { name := "fnQuiet", fn := fun _ => fun
  | [d] => { results := [.lit (.bool false)], args := [d] }
  | _ => none }
def FnQuietWrongFalsely : Prop := fnQuietRow.holds Tryz.pinned (OpenSpec.ofChange fnQuietWrong)

/- THE SECOND FORM. 'bulk': how many values and letters a reading holds, each counted each time it is reached (what is shared counts as often as it is met; a slice's spare places count too). A statement '..UptoSaid' is the law's where the arguments, and the package variables that the reading takes, are together of bulk at most 1048576: NARROWER than '..Said'. Prove '..Said' where nothing that the law and all that it calls make is longer than what came in: it says more and counts as full. Else prove '..UptoSaid'. A law counts once. -/
mutual
def uptoBulk {H : Type} : DataW H → Nat
  | .lit (.string bytes) => bytes.length + 1
  | .lit _ => 1
  | .nil => 1
  | .ptr d => uptoBulk d + 1
  | .slice elems spare => uptoBulkAll elems + uptoBulkAll spare + 1
  | .agg parts => uptoBulkAll parts + 1
  | .iface _ d => uptoBulk d + 1
  | .map entries => uptoBulkEntries entries + 1
  | .held _ => 1
def uptoBulkAll {H : Type} : List (DataW H) → Nat
  | [] => 0
  | d :: r => uptoBulk d + uptoBulkAll r
def uptoBulkEntries {H : Type} : List (Lit × DataW H) → Nat
  | [] => 0
  | x :: r => uptoBulkEntry x + uptoBulkEntries r
def uptoBulkEntry {H : Type} : Lit × DataW H → Nat
  | (.string bytes, d) => bytes.length + uptoBulk d + 1
  | (_, d) => uptoBulk d + 1
 end
def uptoSmall : (H : Type) → List (DataW H) → Bool := fun _ ds => decide (uptoBulkAll ds ≤ 1048576)
def OpenSpec.upto (s : _root_.Go.ChangeSpec) : _root_.Go.OpenSpec := { _root_.Go.OpenSpec.ofChange s with cond := some uptoSmall }

/-- 'laws.FnSlice', WHERE WHAT IT READS IS OF BULK AT MOST 1048576: true; the input reads as it did. -/
def fnSliceUptoRow : OpenClaim := { program := "ytbnpoliogldohaagreat", sum := "682c4506f6b65afbf094c0c438a63528917a5e55fd19f127562fcb9067788f80", func := "loop.example/g00697/laws.FnSlice", spec := "fnSlice", unfollowed := true, recurses := true, plainKeys := false, apart := false, narrowed := true }
def FnSliceUptoSaid : Prop := fnSliceUptoRow.holds Tryz.pinned (OpenSpec.upto fnSliceSpec)

/-- 'laws.FnExactNeededIn', WHERE WHAT IT READS IS OF BULK AT MOST 1048576: true; the input reads as it did. -/
def fnExactNeededInUptoRow : OpenClaim := { program := "ytbnpoliogldohaagreat", sum := "682c4506f6b65afbf094c0c438a63528917a5e55fd19f127562fcb9067788f80", func := "loop.example/g00697/laws.FnExactNeededIn", spec := "fnExactNeededIn", unfollowed := true, recurses := true, plainKeys := false, apart := false, narrowed := true }
def FnExactNeededInUptoSaid : Prop := fnExactNeededInUptoRow.holds Tryz.pinned (OpenSpec.upto fnExactNeededInSpec)

/-- 'laws.FnExactSliced', WHERE WHAT IT READS IS OF BULK AT MOST 1048576: true; the input reads as it did. -/
def fnExactSlicedUptoRow : OpenClaim := { program := "ytbnpoliogldohaagreat", sum := "682c4506f6b65afbf094c0c438a63528917a5e55fd19f127562fcb9067788f80", func := "loop.example/g00697/laws.FnExactSliced", spec := "fnExactSliced", unfollowed := true, recurses := true, plainKeys := false, apart := false, narrowed := true }
def FnExactSlicedUptoSaid : Prop := fnExactSlicedUptoRow.holds Tryz.pinned (OpenSpec.upto fnExactSlicedSpec)

/-- 'laws.FnExactFlowOf', WHERE WHAT IT READS IS OF BULK AT MOST 1048576: true; the input reads as it did. -/
def fnExactFlowOfUptoRow : OpenClaim := { program := "ytbnpoliogldohaagreat", sum := "682c4506f6b65afbf094c0c438a63528917a5e55fd19f127562fcb9067788f80", func := "loop.example/g00697/laws.FnExactFlowOf", spec := "fnExactFlowOf", inPlace := ["maps.clone"], unfollowed := true, recurses := true, plainKeys := false, apart := false, narrowed := true }
def FnExactFlowOfUptoSaid : Prop := fnExactFlowOfUptoRow.holds Tryz.pinned (OpenSpec.upto fnExactFlowOfSpec)

/-- 'laws.FnExactIsQuiet', WHERE WHAT IT READS IS OF BULK AT MOST 1048576: true; the input reads as it did. -/
def fnExactIsQuietUptoRow : OpenClaim := { program := "ytbnpoliogldohaagreat", sum := "682c4506f6b65afbf094c0c438a63528917a5e55fd19f127562fcb9067788f80", func := "loop.example/g00697/laws.FnExactIsQuiet", spec := "fnExactIsQuiet", inPlace := ["maps.clone"], unfollowed := true, recurses := true, plainKeys := false, apart := false, narrowed := true }
def FnExactIsQuietUptoSaid : Prop := fnExactIsQuietUptoRow.holds Tryz.pinned (OpenSpec.upto fnExactIsQuietSpec)

/-- 'laws.FnMost', WHERE WHAT IT READS IS OF BULK AT MOST 1048576: true; the input reads as it did. -/
def fnMostUptoRow : OpenClaim := { program := "ytbnpoliogldohaagreat", sum := "682c4506f6b65afbf094c0c438a63528917a5e55fd19f127562fcb9067788f80", func := "loop.example/g00697/laws.FnMost", spec := "fnMost", unfollowed := true, recurses := true, plainKeys := false, apart := false, narrowed := true }
def FnMostUptoSaid : Prop := fnMostUptoRow.holds Tryz.pinned (OpenSpec.upto fnMostSpec)

/-- 'laws.FnQuiet', WHERE WHAT IT READS IS OF BULK AT MOST 1048576: true; the input reads as it did. -/
def fnQuietUptoRow : OpenClaim := { program := "ytbnpoliogldohaagreat", sum := "682c4506f6b65afbf094c0c438a63528917a5e55fd19f127562fcb9067788f80", func := "loop.example/g00697/laws.FnQuiet", spec := "fnQuiet", inPlace := ["maps.clone"], unfollowed := true, recurses := true, plainKeys := false, apart := false, narrowed := true }
def FnQuietUptoSaid : Prop := fnQuietUptoRow.holds Tryz.pinned (OpenSpec.upto fnQuietSpec)

end Rows
end Go.Proofs.YtbnpoliogldohaaGreat
