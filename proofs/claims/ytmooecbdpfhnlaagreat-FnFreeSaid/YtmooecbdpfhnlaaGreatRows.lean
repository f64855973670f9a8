/-
  No cell of these rows narrows 'for every input' (looked for: loops, veiled, ifaces, maps, wideKeys, modest, calm, conditions, laid).
  DERIVED. THE GIVEN ROWS OF THIS SEAT. 9 by the template 'for every input the law returns true; each argument reads behind the call as it read before'; 0 by the template 'total and deterministic' (their statements: YtmooecbdpfhnlaaGreatTotals.lean).
  GIVEN WITH THE SEED: the statements are not yours to turn. If you find one false, say at which input.
  Laid BY PROGRAM, IN A SANDBOX (cutbox-rows.mjs): the forced cells as the released guide's own fill.sh prints them over the translation 3f8b2b13ee893cd1… (all of the seat's roots in one cut). By AI agents, Wed Nov 11 2026. No macro, syntax, notation, axiom, sorry.
-/
import Derived.Test.YtmooecbdpfhnlaaGreatChecked
import GoSem.Claim
import GoSem.ClaimJoined
import GoSem.ClaimMapViews
import Derived.JoinedTies
import Derived.KernelRfl
namespace Go.Proofs.YtmooecbdpfhnlaaGreat
/- THE CELL 'sum', in the pinned program and in every row, IS THE sha256 OF THE DUMP (.gsa) THAT YtmooecbdpfhnlaaGreatProg.lean LOADS. Nothing in Lean hashes anything: it is a label: what it is worth is what the hold of that sum in a sandbox is worth. -/
noncomputable def Tryz.pinned : Pinned := { name := "ytmooecbdpfhnlaagreat", sum := "3f8b2b13ee893cd1606fd09c312ecfeb7795edbfc9e8714580ee41dc3ab32f12", checked := Tryz.checked }
namespace Rows
def none {H : Type} : Left H := { results := [], args := [] }

/-- 'laws.FnFree': WHATEVER THE INPUT: true; the input reads as it did. -/
def fnFreeSpec : ChangeSpec := { name := "fnFree", fn := fun _ => fun
  | [d] => { results := [.lit (.bool true)], args := [d] }
  | _ => none }
def fnFreeRow : OpenClaim := { program := "ytmooecbdpfhnlaagreat", sum := "3f8b2b13ee893cd1606fd09c312ecfeb7795edbfc9e8714580ee41dc3ab32f12", func := "loop.example/g00697/laws.FnFree", spec := "fnFree", unfollowed := true, recurses := true, plainKeys := false, apart := false }
def FnFreeSaid : Prop := fnFreeRow.holds Tryz.pinned (OpenSpec.ofChange fnFreeSpec)

/-- ITS FALSE NEIGHBOUR: 'it returns false'. Refute it at one input. -/
def fnFreeWrong : ChangeSpec := { name := "fnFree", fn := fun _ => fun
  | [d] => { results := [.lit (.bool false)], args := [d] }
  | _ => none }
def FnFreeWrongFalsely : Prop := fnFreeRow.holds Tryz.pinned (OpenSpec.ofChange fnFreeWrong)

/-- 'laws.FnMost': WHATEVER THE INPUT: true; the input reads as it did. -/
def fnMostSpec : ChangeSpec := { name := "fnMost", fn := fun _ => fun
  | [d] => { results := [.lit (.bool true)], args := [d] }
  | _ => none }
def fnMostRow : OpenClaim := { program := "ytmooecbdpfhnlaagreat", sum := "3f8b2b13ee893cd1606fd09c312ecfeb7795edbfc9e8714580ee41dc3ab32f12", func := "loop.example/g00697/laws.FnMost", spec := "fnMost", unfollowed := true, recurses := true, plainKeys := false, apart := false }
def FnMostSaid : Prop := fnMostRow.holds Tryz.pinned (OpenSpec.ofChange fnMostSpec)

/-- ITS FALSE NEIGHBOUR: 'it returns false'. Refute it at one input. -/
def fnMostWrong : ChangeSpec := { name := "fnMost", fn := fun _ => fun
  | [d] => { results := [.lit (.bool false)], args := [d] }
  | _ => none }
def FnMostWrongFalsely : Prop := fnMostRow.holds Tryz.pinned (OpenSpec.ofChange fnMostWrong)

/-- 'laws.FnQuiet': WHATEVER THE INPUT: true; the input reads as it did. -/
def fnQuietSpec : ChangeSpec := { name := "fnQuiet", fn := fun _ => fun
  | [d] => { results := [.lit (.bool true)], args := [d] }
  | _ => none }
def fnQuietRow : OpenClaim := { program := "ytmooecbdpfhnlaagreat", sum := "3f8b2b13ee893cd1606fd09c312ecfeb7795edbfc9e8714580ee41dc3ab32f12", func := "loop.example/g00697/laws.FnQuiet", spec := "fnQuiet", inPlace := ["maps.clone"], unfollowed := true, recurses := true, plainKeys := false, apart := false }
def FnQuietSaid : Prop := fnQuietRow.holds Tryz.pinned (OpenSpec.ofChange fnQuietSpec)

/-- ITS FALSE NEIGHBOUR: 'it returns false'. Refute it at one input. -/
def fnQuietWrong : ChangeSpec := { name := "fnQuiet", fn := fun _ => fun
  | [d] => { results := [.lit (.bool false)], args := [d] }
  | _ => none }
def FnQuietWrongFalsely : Prop := fnQuietRow.holds Tryz.pinned (OpenSpec.ofChange fnQuietWrong)

/-- 'laws.FnExactOutcomesOf': WHATEVER THE INPUT: true; the input reads as it did. -/
def fnExactOutcomesOfSpec : ChangeSpec := { name := "fnExactOutcomesOf", fn := fun _ => fun
  | [d1, d2, d3, d4] => { results := [.lit (.bool true)], args := [d1, d2, d3, d4] }
  | _ => none }
def fnExactOutcomesOfRow : OpenClaim := { program := "ytmooecbdpfhnlaagreat", sum := "3f8b2b13ee893cd1606fd09c312ecfeb7795edbfc9e8714580ee41dc3ab32f12", func := "loop.example/g00697/laws.FnExactOutcomesOf", spec := "fnExactOutcomesOf", unfollowed := true, recurses := true, plainKeys := false, apart := false }
def FnExactOutcomesOfSaid : Prop := fnExactOutcomesOfRow.holds Tryz.pinned (OpenSpec.ofChange fnExactOutcomesOfSpec)

/-- ITS FALSE NEIGHBOUR: 'it returns false'. Refute it at one input. -/
def fnExactOutcomesOfWrong : ChangeSpec := { name := "fnExactOutcomesOf", fn := fun _ => fun
  | [d1, d2, d3, d4] => { results := [.lit (.bool false)], args := [d1, d2, d3, d4] }
  | _ => none }
def FnExactOutcomesOfWrongFalsely : Prop := fnExactOutcomesOfRow.holds Tryz.pinned (OpenSpec.ofChange fnExactOutcomesOfWrong)

/-- 'laws.FnExactMostFor': WHATEVER THE INPUT: true; the input reads as it did. -/
def fnExactMostForSpec : ChangeSpec := { name := "fnExactMostFor", fn := fun _ => fun
  | [d1, d2] => { results := [.lit (.bool true)], args := [d1, d2] }
  | _ => none }
def fnExactMostForRow : OpenClaim := { program := "ytmooecbdpfhnlaagreat", sum := "3f8b2b13ee893cd1606fd09c312ecfeb7795edbfc9e8714580ee41dc3ab32f12", func := "loop.example/g00697/laws.FnExactMostFor", spec := "fnExactMostFor", unfollowed := true, recurses := true, plainKeys := false, apart := false }
def FnExactMostForSaid : Prop := fnExactMostForRow.holds Tryz.pinned (OpenSpec.ofChange fnExactMostForSpec)

/-- ITS FALSE NEIGHBOUR: 'it returns false'. Refute it at one input. -/
def fnExactMostForWrong : ChangeSpec := { name := "fnExactMostFor", fn := fun _ => fun
  | [d1, d2] => { results := [.lit (.bool false)], args := [d1, d2] }
  | _ => none }
def FnExactMostForWrongFalsely : Prop := fnExactMostForRow.holds Tryz.pinned (OpenSpec.ofChange fnExactMostForWrong)

/-- 'laws.FnExactMostJoint': WHATEVER THE INPUT: true; the input reads as it did. -/
def fnExactMostJointSpec : ChangeSpec := { name := "fnExactMostJoint", fn := fun _ => fun
  | [d] => { results := [.lit (.bool true)], args := [d] }
  | _ => none }
def fnExactMostJointRow : OpenClaim := { program := "ytmooecbdpfhnlaagreat", sum := "3f8b2b13ee893cd1606fd09c312ecfeb7795edbfc9e8714580ee41dc3ab32f12", func := "loop.example/g00697/laws.FnExactMostJoint", spec := "fnExactMostJoint", unfollowed := true, recurses := true, plainKeys := false, apart := false }
def FnExactMostJointSaid : Prop := fnExactMostJointRow.holds Tryz.pinned (OpenSpec.ofChange fnExactMostJointSpec)

/-- ITS FALSE NEIGHBOUR: 'it returns false'. Refute it at one input. -/
def fnExactMostJointWrong : ChangeSpec := { name := "fnExactMostJoint", fn := fun _ => fun
  | [d] => { results := [.lit (.bool false)], args := [d] }
  | _ => none }
def FnExactMostJointWrongFalsely : Prop := fnExactMostJointRow.holds Tryz.pinned (OpenSpec.ofChange fnExactMostJointWrong)

/-- 'laws.FnExactAllOutcomes': WHATEVER THE INPUT: true; the input reads as it did. -/
def fnExactAllOutcomesSpec : ChangeSpec := { name := "fnExactAllOutcomes", fn := fun _ => fun
  | [d] => { results := [.lit (.bool true)], args := [d] }
  | _ => none }
def fnExactAllOutcomesRow : OpenClaim := { program := "ytmooecbdpfhnlaagreat", sum := "3f8b2b13ee893cd1606fd09c312ecfeb7795edbfc9e8714580ee41dc3ab32f12", func := "loop.example/g00697/laws.FnExactAllOutcomes", spec := "fnExactAllOutcomes", unfollowed := true, recurses := true, plainKeys := false, apart := false }
def FnExactAllOutcomesSaid : Prop := fnExactAllOutcomesRow.holds Tryz.pinned (OpenSpec.ofChange fnExactAllOutcomesSpec)

/-- ITS FALSE NEIGHBOUR: 'it returns false'. Refute it at one input. -/
def fnExactAllOutcomesWrong : ChangeSpec := { name := "fnExactAllOutcomes", fn := fun _ => fun
  | [d] => { results := [.lit (.bool false)], args := [d] }
  | _ => none }
def FnExactAllOutcomesWrongFalsely : Prop := fnExactAllOutcomesRow.holds Tryz.pinned (OpenSpec.ofChange fnExactAllOutcomesWrong)

/-- 'laws.FnExactFlowOf': WHATEVER THE INPUT: true; the input reads as it did. -/
def fnExactFlowOfSpec : ChangeSpec := { name := "fnExactFlowOf", fn := fun _ => fun
  | [d] => { results := [.lit (.bool true)], args := [d] }
  | _ => none }
def fnExactFlowOfRow : OpenClaim := { program := "ytmooecbdpfhnlaagreat", sum := "3f8b2b13ee893cd1606fd09c312ecfeb7795edbfc9e8714580ee41dc3ab32f12", func := "loop.example/g00697/laws.FnExactFlowOf", spec := "fnExactFlowOf", inPlace := ["maps.clone"], unfollowed := true, recurses := true, plainKeys := false, apart := false }
def FnExactFlowOfSaid : Prop := fnExactFlowOfRow.holds Tryz.pinned (OpenSpec.ofChange fnExactFlowOfSpec)

/-- ITS FALSE NEIGHBOUR: 'it returns false'. Refute it at one input. -/
def fnExactFlowOfWrong : ChangeSpec := { name := "fnExactFlowOf", fn := fun _ => fun
  | [d] => { results := [.lit (.bool false)], args := [d] }
  | _ => none }
def FnExactFlowOfWrongFalsely : Prop := fnExactFlowOfRow.holds Tryz.pinned (OpenSpec.ofChange fnExactFlowOfWrong)

/-- 'laws.FnExactIsQuiet': WHATEVER THE INPUT: true; the input reads as it did. -/
def fnExactIsQuietSpec : ChangeSpec := { name := "fnExactIsQuiet", fn := fun _ => fun
  | [d1, d2] => { results := [.lit (.bool true)], args := [d1, d2] }
  | _ => none }
def fnExactIsQuietRow : OpenClaim := { program := "ytmooecbdpfhnlaagreat", sum := "3f8b2b13ee893cd1606fd09c312ecfeb7795edbfc9e8714580ee41dc3ab32f12", func := "loop.example/g00697/laws.FnExactIsQuiet", spec := "fnExactIsQuiet", inPlace := ["maps.clone"], unfollowed := true, recurses := true, plainKeys := false, apart := false }
def FnExactIsQuietSaid : Prop := fnExactIsQuietRow.holds Tryz.pinned (OpenSpec.ofChange fnExactIsQuietSpec)

/-- ITS FALSE NEIGHBOUR: 'it returns false'. Refute it at one input. -/
def fnExactIsQuietWrong : ChangeSpec := { name := "fnExactIsQuiet", fn := fun _ => fun
  | [d1, d2] => { results := [.lit (.bool false)], args := [d1, d2] }
  | _ => none }
def FnExactIsQuietWrongFalsely : Prop := fnExactIsQuietRow.holds Tryz.pinned (OpenSpec.ofChange fnExactIsQuietWrong)

/- THE SECOND FORM. 'bulk': how many values and letters a reading holds, each counted each time it is reached (what is shared counts as often as it is met; a slice's spare places count too). A statement '..UptoSaid' is the law's where the arguments, and the package variables that the reading takes, are together of bulk at most 1048576: NARROWER than '..Said'. Prove '..Said' where nothing that the law and all that it calls make is longer than what came in: it says more and counts as full. Else prove '..UptoSaid'. A law counts once. -/
mutual
def uptoBulk {H : Type} : DataW H → Nat
  | .lit (.string bytes) => bytes.length + 1
  | .lit _ => 1
  | .nil => 1
  | .ptr d => uptoBulk d + 1
  | .slice elems spare => uptoBulkAll elems + uptoBulkAll spare + 1
  | .agg parts => uptoBulkAll parts + 1
  | .iface _ d => uptoBulk d + 1
  | .map entries => uptoBulkEntries entries + 1
  | .held _ => 1
def uptoBulkAll {H : Type} : List (DataW H) → Nat
  | [] => 0
  | d :: r => uptoBulk d + uptoBulkAll r
def uptoBulkEntries {H : Type} : List (Lit × DataW H) → Nat
  | [] => 0
  | x :: r => uptoBulkEntry x + uptoBulkEntries r
def uptoBulkEntry {H : Type} : Lit × DataW H → Nat
  | (.string bytes, d) => bytes.length + uptoBulk d + 1
  | (_, d) => uptoBulk d + 1
 end
def uptoSmall : (H : Type) → List (DataW H) → Bool := fun _ ds => decide (uptoBulkAll ds ≤ 1048576)
def OpenSpec.upto (s : _root_.Go.ChangeSpec) : _root_.Go.OpenSpec := { _root_.Go.OpenSpec.ofChange s with cond := some uptoSmall }

/-- 'laws.FnFree', WHERE WHAT IT READS IS OF BULK AT MOST 1048576: true; the input reads as it did. -/
def fnFreeUptoRow : OpenClaim := { program := "ytmooecbdpfhnlaagreat", sum := "3f8b2b13ee893cd1606fd09c312ecfeb7795edbfc9e8714580ee41dc3ab32f12", func := "loop.example/g00697/laws.FnFree", spec := "fnFree", unfollowed := true, recurses := true, plainKeys := false, apart := false, narrowed := true }
def FnFreeUptoSaid : Prop := fnFreeUptoRow.holds Tryz.pinned (OpenSpec.upto fnFreeSpec)

/-- 'laws.FnMost', WHERE WHAT IT READS IS OF BULK AT MOST 1048576: true; the input reads as it did. -/
def fnMostUptoRow : OpenClaim := { program := "ytmooecbdpfhnlaagreat", sum := "3f8b2b13ee893cd1606fd09c312ecfeb7795edbfc9e8714580ee41dc3ab32f12", func := "loop.example/g00697/laws.FnMost", spec := "fnMost", unfollowed := true, recurses := true, plainKeys := false, apart := false, narrowed := true }
def FnMostUptoSaid : Prop := fnMostUptoRow.holds Tryz.pinned (OpenSpec.upto fnMostSpec)

/-- 'laws.FnQuiet', WHERE WHAT IT READS IS OF BULK AT MOST 1048576: true; the input reads as it did. -/
def fnQuietUptoRow : OpenClaim := { program := "ytmooecbdpfhnlaagreat", sum := "3f8b2b13ee893cd1606fd09c312ecfeb7795edbfc9e8714580ee41dc3ab32f12", func := "loop.example/g00697/laws.FnQuiet", spec := "fnQuiet", inPlace := ["maps.clone"], unfollowed := true, recurses := true, plainKeys := false, apart := false, narrowed := true }
def FnQuietUptoSaid : Prop := fnQuietUptoRow.holds Tryz.pinned (OpenSpec.upto fnQuietSpec)

/-- 'laws.FnExactOutcomesOf', WHERE WHAT IT READS IS OF BULK AT MOST 1048576: true; the input reads as it did. -/
def fnExactOutcomesOfUptoRow : OpenClaim := { program := "ytmooecbdpfhnlaagreat", sum := "3f8b2b13ee893cd1606fd09c312ecfeb7795edbfc9e8714580ee41dc3ab32f12", func := "loop.example/g00697/laws.FnExactOutcomesOf", spec := "fnExactOutcomesOf", unfollowed := true, recurses := true, plainKeys := false, apart := false, narrowed := true }
def FnExactOutcomesOfUptoSaid : Prop := fnExactOutcomesOfUptoRow.holds Tryz.pinned (OpenSpec.upto fnExactOutcomesOfSpec)

/-- 'laws.FnExactMostFor', WHERE WHAT IT READS IS OF BULK AT MOST 1048576: true; the input reads as it did. -/
def fnExactMostForUptoRow : OpenClaim := { program := "ytmooecbdpfhnlaagreat", sum := "3f8b2b13ee893cd1606fd09c312ecfeb7795edbfc9e8714580ee41dc3ab32f12", func := "loop.example/g00697/laws.FnExactMostFor", spec := "fnExactMostFor", unfollowed := true, recurses := true, plainKeys := false, apart := false, narrowed := true }
def FnExactMostForUptoSaid : Prop := fnExactMostForUptoRow.holds Tryz.pinned (OpenSpec.upto fnExactMostForSpec)

/-- 'laws.FnExactMostJoint', WHERE WHAT IT READS IS OF BULK AT MOST 1048576: true; the input reads as it did. -/
def fnExactMostJointUptoRow : OpenClaim := { program := "ytmooecbdpfhnlaagreat", sum := "3f8b2b13ee893cd1606fd09c312ecfeb7795edbfc9e8714580ee41dc3ab32f12", func := "loop.example/g00697/laws.FnExactMostJoint", spec := "fnExactMostJoint", unfollowed := true, recurses := true, plainKeys := false, apart := false, narrowed := true }
def FnExactMostJointUptoSaid : Prop := fnExactMostJointUptoRow.holds Tryz.pinned (OpenSpec.upto fnExactMostJointSpec)

/-- 'laws.FnExactAllOutcomes', WHERE WHAT IT READS IS OF BULK AT MOST 1048576: true; the input reads as it did. -/
def fnExactAllOutcomesUptoRow : OpenClaim := { program := "ytmooecbdpfhnlaagreat", sum := "3f8b2b13ee893cd1606fd09c312ecfeb7795edbfc9e8714580ee41dc3ab32f12", func := "loop.example/g00697/laws.FnExactAllOutcomes", spec := "fnExactAllOutcomes", unfollowed := true, recurses := true, plainKeys := false, apart := false, narrowed := true }
def FnExactAllOutcomesUptoSaid : Prop := fnExactAllOutcomesUptoRow.holds Tryz.pinned (OpenSpec.upto fnExactAllOutcomesSpec)

/-- 'laws.FnExactFlowOf', WHERE WHAT IT READS IS OF BULK AT MOST 1048576: true; the input reads as it did. -/
def fnExactFlowOfUptoRow : OpenClaim := { program := "ytmooecbdpfhnlaagreat", sum := "3f8b2b13ee893cd1606fd09c312ecfeb7795edbfc9e8714580ee41dc3ab32f12", func := "loop.example/g00697/laws.FnExactFlowOf", spec := "fnExactFlowOf", inPlace := ["maps.clone"], unfollowed := true, recurses := true, plainKeys := false, apart := false, narrowed := true }
def FnExactFlowOfUptoSaid : Prop := fnExactFlowOfUptoRow.holds Tryz.pinned (OpenSpec.upto fnExactFlowOfSpec)

/-- 'laws.FnExactIsQuiet', WHERE WHAT IT READS IS OF BULK AT MOST 1048576: true; the input reads as it did. -/
def fnExactIsQuietUptoRow : OpenClaim := { program := "ytmooecbdpfhnlaagreat", sum := "3f8b2b13ee893cd1606fd09c312ecfeb7795edbfc9e8714580ee41dc3ab32f12", func := "loop.example/g00697/laws.FnExactIsQuiet", spec := "fnExactIsQuiet", inPlace := ["maps.clone"], unfollowed := true, recurses := true, plainKeys := false, apart := false, narrowed := true }
def FnExactIsQuietUptoSaid : Prop := fnExactIsQuietUptoRow.holds Tryz.pinned (OpenSpec.upto fnExactIsQuietSpec)

end Rows
end Go.Proofs.YtmooecbdpfhnlaaGreat
