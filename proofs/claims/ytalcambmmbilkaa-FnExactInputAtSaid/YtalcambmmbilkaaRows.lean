/-
  No cell of these rows narrows 'for every input' (looked for: loops, veiled, ifaces, maps, wideKeys, modest, calm, conditions, laid).
  DERIVED. THE GIVEN ROWS OF THIS SEAT. 8 by the template 'for every input the law returns true; each argument reads behind the call as it read before'; 0 by the template 'total and deterministic' (their statements: YtalcambmmbilkaaTotals.lean).
  GIVEN WITH THE SEED: the statements are not yours to turn. If you find one false, say at which input.
  Laid BY PROGRAM, IN A SANDBOX (cutbox-rows.mjs): the forced cells as the released guide's own fill.sh prints them over the translation d5b0d1daa4288d0c… (all of the seat's roots in one cut). By AI agents, Wed Nov 11 2026. No macro, syntax, notation, axiom, sorry.
-/
import Derived.Test.YtalcambmmbilkaaChecked
import GoSem.Claim
import GoSem.ClaimJoined
import GoSem.ClaimMapViews
import Derived.JoinedTies
import Derived.KernelRfl
namespace Go.Proofs.Ytalcambmmbilkaa
/- THE CELL 'sum', in the pinned program and in every row, IS THE sha256 OF THE DUMP (.gsa) THAT YtalcambmmbilkaaProg.lean LOADS. Nothing in Lean hashes anything: it is a label: what it is worth is what the hold of that sum in a sandbox is worth. -/
noncomputable def Try.pinned : Pinned := { name := "ytalcambmmbilkaa", sum := "d5b0d1daa4288d0c6c997f533f7b2a159f7ea0e4d89c6ee5bf8cfcf52331c167", checked := Try.checked }
namespace Rows
def none {H : Type} : Left H := { results := [], args := [] }

/-- 'laws.FnLoops': WHATEVER THE INPUT: true; the input reads as it did. -/
def fnLoopsSpec : ChangeSpec := { name := "fnLoops", fn := fun _ => fun
  | [d] => { results := [.lit (.bool true)], args := [d] }
  | _ => none }
def fnLoopsRow : OpenClaim := { program := "ytalcambmmbilkaa", sum := "d5b0d1daa4288d0c6c997f533f7b2a159f7ea0e4d89c6ee5bf8cfcf52331c167", func := "loop.example/g00697/laws.FnLoops", spec := "fnLoops", unfollowed := true, recurses := true, apart := false }
def FnLoopsSaid : Prop := fnLoopsRow.holds Try.pinned (OpenSpec.ofChange fnLoopsSpec)

/-- ITS FALSE NEIGHBOUR: 'it returns false'. Refute it at one input. -/
def fnLoopsWrong : ChangeSpec := { name := "fnLoops", fn := fun _ => fun
  | [d] => { results := [.lit (.bool false)], args := [d] }
  | _ => none }
def FnLoopsWrongFalsely : Prop := fnLoopsRow.holds Try.pinned (OpenSpec.ofChange fnLoopsWrong)

/-- 'laws.FnNumbers': WHATEVER THE INPUT: true; the input reads as it did. -/
def fnNumbersSpec : ChangeSpec := { name := "fnNumbers", fn := fun _ => fun
  | [d] => { results := [.lit (.bool true)], args := [d] }
  | _ => none }
def fnNumbersRow : OpenClaim := { program := "ytalcambmmbilkaa", sum := "d5b0d1daa4288d0c6c997f533f7b2a159f7ea0e4d89c6ee5bf8cfcf52331c167", func := "loop.example/g00697/laws.FnNumbers", spec := "fnNumbers", unfollowed := true, recurses := true, apart := false }
def FnNumbersSaid : Prop := fnNumbersRow.holds Try.pinned (OpenSpec.ofChange fnNumbersSpec)

/-- ITS FALSE NEIGHBOUR: 'it returns false'. Refute it at one input. -/
def fnNumbersWrong : ChangeSpec := { name := "fnNumbers", fn := fun _ => fun
  | [d] => { results := [.lit (.bool false)], args := [d] }
  | _ => none }
def FnNumbersWrongFalsely : Prop := fnNumbersRow.holds Try.pinned (OpenSpec.ofChange fnNumbersWrong)

/-- 'laws.FnExactStartOf': WHATEVER THE INPUT: true; the input reads as it did. -/
def fnExactStartOfSpec : ChangeSpec := { name := "fnExactStartOf", fn := fun _ => fun
  | [d1, d2, d3] => { results := [.lit (.bool true)], args := [d1, d2, d3] }
  | _ => none }
def fnExactStartOfRow : OpenClaim := { program := "ytalcambmmbilkaa", sum := "d5b0d1daa4288d0c6c997f533f7b2a159f7ea0e4d89c6ee5bf8cfcf52331c167", func := "loop.example/g00697/laws.FnExactStartOf", spec := "fnExactStartOf", recurses := true, apart := false }
def FnExactStartOfSaid : Prop := fnExactStartOfRow.holds Try.pinned (OpenSpec.ofChange fnExactStartOfSpec)

/-- ITS FALSE NEIGHBOUR: 'it returns false'. Refute it at one input. -/
def fnExactStartOfWrong : ChangeSpec := { name := "fnExactStartOf", fn := fun _ => fun
  | [d1, d2, d3] => { results := [.lit (.bool false)], args := [d1, d2, d3] }
  | _ => none }
def FnExactStartOfWrongFalsely : Prop := fnExactStartOfRow.holds Try.pinned (OpenSpec.ofChange fnExactStartOfWrong)

/-- 'laws.FnExactInputsIn': WHATEVER THE INPUT: true; the input reads as it did. -/
def fnExactInputsInSpec : ChangeSpec := { name := "fnExactInputsIn", fn := fun _ => fun
  | [d] => { results := [.lit (.bool true)], args := [d] }
  | _ => none }
def fnExactInputsInRow : OpenClaim := { program := "ytalcambmmbilkaa", sum := "d5b0d1daa4288d0c6c997f533f7b2a159f7ea0e4d89c6ee5bf8cfcf52331c167", func := "loop.example/g00697/laws.FnExactInputsIn", spec := "fnExactInputsIn", recurses := true, apart := false }
def FnExactInputsInSaid : Prop := fnExactInputsInRow.holds Try.pinned (OpenSpec.ofChange fnExactInputsInSpec)

/-- ITS FALSE NEIGHBOUR: 'it returns false'. Refute it at one input. -/
def fnExactInputsInWrong : ChangeSpec := { name := "fnExactInputsIn", fn := fun _ => fun
  | [d] => { results := [.lit (.bool false)], args := [d] }
  | _ => none }
def FnExactInputsInWrongFalsely : Prop := fnExactInputsInRow.holds Try.pinned (OpenSpec.ofChange fnExactInputsInWrong)

/-- 'laws.FnExactInputAt': WHATEVER THE INPUT: true; the input reads as it did. -/
def fnExactInputAtSpec : ChangeSpec := { name := "fnExactInputAt", fn := fun _ => fun
  | [d1, d2] => { results := [.lit (.bool true)], args := [d1, d2] }
  | _ => none }
def fnExactInputAtRow : OpenClaim := { program := "ytalcambmmbilkaa", sum := "d5b0d1daa4288d0c6c997f533f7b2a159f7ea0e4d89c6ee5bf8cfcf52331c167", func := "loop.example/g00697/laws.FnExactInputAt", spec := "fnExactInputAt", unfollowed := true, recurses := true, apart := false }
def FnExactInputAtSaid : Prop := fnExactInputAtRow.holds Try.pinned (OpenSpec.ofChange fnExactInputAtSpec)

/-- ITS FALSE NEIGHBOUR: 'it returns false'. Refute it at one input. -/
def fnExactInputAtWrong : ChangeSpec := { name := "fnExactInputAt", fn := fun _ => fun
  | [d1, d2] => { results := [.lit (.bool false)], args := [d1, d2] }
  | _ => none }
def FnExactInputAtWrongFalsely : Prop := fnExactInputAtRow.holds Try.pinned (OpenSpec.ofChange fnExactInputAtWrong)

/-- 'laws.FnExactNumberOf': WHATEVER THE INPUT: true; the input reads as it did. -/
def fnExactNumberOfSpec : ChangeSpec := { name := "fnExactNumberOf", fn := fun _ => fun
  | [d1, d2, d3] => { results := [.lit (.bool true)], args := [d1, d2, d3] }
  | _ => none }
def fnExactNumberOfRow : OpenClaim := { program := "ytalcambmmbilkaa", sum := "d5b0d1daa4288d0c6c997f533f7b2a159f7ea0e4d89c6ee5bf8cfcf52331c167", func := "loop.example/g00697/laws.FnExactNumberOf", spec := "fnExactNumberOf", unfollowed := true, recurses := true, apart := false }
def FnExactNumberOfSaid : Prop := fnExactNumberOfRow.holds Try.pinned (OpenSpec.ofChange fnExactNumberOfSpec)

/-- ITS FALSE NEIGHBOUR: 'it returns false'. Refute it at one input. -/
def fnExactNumberOfWrong : ChangeSpec := { name := "fnExactNumberOf", fn := fun _ => fun
  | [d1, d2, d3] => { results := [.lit (.bool false)], args := [d1, d2, d3] }
  | _ => none }
def FnExactNumberOfWrongFalsely : Prop := fnExactNumberOfRow.holds Try.pinned (OpenSpec.ofChange fnExactNumberOfWrong)

/-- 'laws.FnExactBitsIn': WHATEVER THE INPUT: true; the input reads as it did. -/
def fnExactBitsInSpec : ChangeSpec := { name := "fnExactBitsIn", fn := fun _ => fun
  | [d] => { results := [.lit (.bool true)], args := [d] }
  | _ => none }
def fnExactBitsInRow : OpenClaim := { program := "ytalcambmmbilkaa", sum := "d5b0d1daa4288d0c6c997f533f7b2a159f7ea0e4d89c6ee5bf8cfcf52331c167", func := "loop.example/g00697/laws.FnExactBitsIn", spec := "fnExactBitsIn", recurses := true, apart := false }
def FnExactBitsInSaid : Prop := fnExactBitsInRow.holds Try.pinned (OpenSpec.ofChange fnExactBitsInSpec)

/-- ITS FALSE NEIGHBOUR: 'it returns false'. Refute it at one input. -/
def fnExactBitsInWrong : ChangeSpec := { name := "fnExactBitsIn", fn := fun _ => fun
  | [d] => { results := [.lit (.bool false)], args := [d] }
  | _ => none }
def FnExactBitsInWrongFalsely : Prop := fnExactBitsInRow.holds Try.pinned (OpenSpec.ofChange fnExactBitsInWrong)

/-- 'laws.FnExactInputBits': WHATEVER THE INPUT: true; the input reads as it did. -/
def fnExactInputBitsSpec : ChangeSpec := { name := "fnExactInputBits", fn := fun _ => fun
  | [d1, d2, d3] => { results := [.lit (.bool true)], args := [d1, d2, d3] }
  | _ => none }
def fnExactInputBitsRow : OpenClaim := { program := "ytalcambmmbilkaa", sum := "d5b0d1daa4288d0c6c997f533f7b2a159f7ea0e4d89c6ee5bf8cfcf52331c167", func := "loop.example/g00697/laws.FnExactInputBits", spec := "fnExactInputBits", recurses := true, apart := false }
def FnExactInputBitsSaid : Prop := fnExactInputBitsRow.holds Try.pinned (OpenSpec.ofChange fnExactInputBitsSpec)

/-- ITS FALSE NEIGHBOUR: 'it returns false'. Refute it at one input. -/
def fnExactInputBitsWrong : ChangeSpec := { name := "fnExactInputBits", fn := fun _ => fun
  | [d1, d2, d3] => { results := [.lit (.bool false)], args := [d1, d2, d3] }
  | _ => none }
def FnExactInputBitsWrongFalsely : Prop := fnExactInputBitsRow.holds Try.pinned (OpenSpec.ofChange fnExactInputBitsWrong)

/- THE SECOND FORM. 'bulk': how many values and letters a reading holds, each counted each time it is reached (what is shared counts as often as it is met; a slice's spare places count too). A statement '..UptoSaid' is the law's where the arguments, and the package variables that the reading takes, are together of bulk at most 1048576: NARROWER than '..Said'. Prove '..Said' where nothing that the law and all that it calls make is longer than what came in: it says more and counts as full. Else prove '..UptoSaid'. A law counts once. -/
mutual
def uptoBulk {H : Type} : DataW H → Nat
  | .lit (.string bytes) => bytes.length + 1
  | .lit _ => 1
  | .nil => 1
  | .ptr d => uptoBulk d + 1
  | .slice elems spare => uptoBulkAll elems + uptoBulkAll spare + 1
  | .agg parts => uptoBulkAll parts + 1
  | .iface _ d => uptoBulk d + 1
  | .map entries => uptoBulkEntries entries + 1
  | .held _ => 1
def uptoBulkAll {H : Type} : List (DataW H) → Nat
  | [] => 0
  | d :: r => uptoBulk d + uptoBulkAll r
def uptoBulkEntries {H : Type} : List (Lit × DataW H) → Nat
  | [] => 0
  | x :: r => uptoBulkEntry x + uptoBulkEntries r
def uptoBulkEntry {H : Type} : Lit × DataW H → Nat
  | (.string bytes, d) => bytes.length + uptoBulk d + 1
  | (_, d) => uptoBulk d + 1
 end
def uptoSmall : (H : Type) → List (DataW H) → Bool := fun _ ds => decide (uptoBulkAll ds ≤ 1048576)
def OpenSpec.upto (s : _root_.Go.ChangeSpec) : _root_.Go.OpenSpec := { _root_.Go.OpenSpec.ofChange s with cond := some uptoSmall }

/-- 'laws.FnLoops', WHERE WHAT IT READS IS OF BULK AT MOST 1048576: true; the input reads as it did. -/
def fnLoopsUptoRow : OpenClaim := { program := "ytalcambmmbilkaa", sum := "d5b0d1daa4288d0c6c997f533f7b2a159f7ea0e4d89c6ee5bf8cfcf52331c167", func := "loop.example/g00697/laws.FnLoops", spec := "fnLoops", unfollowed := true, recurses := true, apart := false, narrowed := true }
def FnLoopsUptoSaid : Prop := fnLoopsUptoRow.holds Try.pinned (OpenSpec.upto fnLoopsSpec)

/-- 'laws.FnNumbers', WHERE WHAT IT READS IS OF BULK AT MOST 1048576: true; the input reads as it did. -/
def fnNumbersUptoRow : OpenClaim := { program := "ytalcambmmbilkaa", sum := "d5b0d1daa4288d0c6c997f533f7b2a159f7ea0e4d89c6ee5bf8cfcf52331c167", func := "loop.example/g00697/laws.FnNumbers", spec := "fnNumbers", unfollowed := true, recurses := true, apart := false, narrowed := true }
def FnNumbersUptoSaid : Prop := fnNumbersUptoRow.holds Try.pinned (OpenSpec.upto fnNumbersSpec)

/-- 'laws.FnExactStartOf', WHERE WHAT IT READS IS OF BULK AT MOST 1048576: true; the input reads as it did. -/
def fnExactStartOfUptoRow : OpenClaim := { program := "ytalcambmmbilkaa", sum := "d5b0d1daa4288d0c6c997f533f7b2a159f7ea0e4d89c6ee5bf8cfcf52331c167", func := "loop.example/g00697/laws.FnExactStartOf", spec := "fnExactStartOf", recurses := true, apart := false, narrowed := true }
def FnExactStartOfUptoSaid : Prop := fnExactStartOfUptoRow.holds Try.pinned (OpenSpec.upto fnExactStartOfSpec)

/-- 'laws.FnExactInputsIn', WHERE WHAT IT READS IS OF BULK AT MOST 1048576: true; the input reads as it did. -/
def fnExactInputsInUptoRow : OpenClaim := { program := "ytalcambmmbilkaa", sum := "d5b0d1daa4288d0c6c997f533f7b2a159f7ea0e4d89c6ee5bf8cfcf52331c167", func := "loop.example/g00697/laws.FnExactInputsIn", spec := "fnExactInputsIn", recurses := true, apart := false, narrowed := true }
def FnExactInputsInUptoSaid : Prop := fnExactInputsInUptoRow.holds Try.pinned (OpenSpec.upto fnExactInputsInSpec)

/-- 'laws.FnExactInputAt', WHERE WHAT IT READS IS OF BULK AT MOST 1048576: true; the input reads as it did. -/
def fnExactInputAtUptoRow : OpenClaim := { program := "ytalcambmmbilkaa", sum := "d5b0d1daa4288d0c6c997f533f7b2a159f7ea0e4d89c6ee5bf8cfcf52331c167", func := "loop.example/g00697/laws.FnExactInputAt", spec := "fnExactInputAt", unfollowed := true, recurses := true, apart := false, narrowed := true }
def FnExactInputAtUptoSaid : Prop := fnExactInputAtUptoRow.holds Try.pinned (OpenSpec.upto fnExactInputAtSpec)

/-- 'laws.FnExactNumberOf', WHERE WHAT IT READS IS OF BULK AT MOST 1048576: true; the input reads as it did. -/
def fnExactNumberOfUptoRow : OpenClaim := { program := "ytalcambmmbilkaa", sum := "d5b0d1daa4288d0c6c997f533f7b2a159f7ea0e4d89c6ee5bf8cfcf52331c167", func := "loop.example/g00697/laws.FnExactNumberOf", spec := "fnExactNumberOf", unfollowed := true, recurses := true, apart := false, narrowed := true }
def FnExactNumberOfUptoSaid : Prop := fnExactNumberOfUptoRow.holds Try.pinned (OpenSpec.upto fnExactNumberOfSpec)

/-- 'laws.FnExactBitsIn', WHERE WHAT IT READS IS OF BULK AT MOST 1048576: true; the input reads as it did. -/
def fnExactBitsInUptoRow : OpenClaim := { program := "ytalcambmmbilkaa", sum := "d5b0d1daa4288d0c6c997f533f7b2a159f7ea0e4d89c6ee5bf8cfcf52331c167", func := "loop.example/g00697/laws.FnExactBitsIn", spec := "fnExactBitsIn", recurses := true, apart := false, narrowed := true }
def FnExactBitsInUptoSaid : Prop := fnExactBitsInUptoRow.holds Try.pinned (OpenSpec.upto fnExactBitsInSpec)

/-- 'laws.FnExactInputBits', WHERE WHAT IT READS IS OF BULK AT MOST 1048576: true; the input reads as it did. -/
def fnExactInputBitsUptoRow : OpenClaim := { program := "ytalcambmmbilkaa", sum := "d5b0d1daa4288d0c6c997f533f7b2a159f7ea0e4d89c6ee5bf8cfcf52331c167", func := "loop.example/g00697/laws.FnExactInputBits", spec := "fnExactInputBits", recurses := true, apart := false, narrowed := true }
def FnExactInputBitsUptoSaid : Prop := fnExactInputBitsUptoRow.holds Try.pinned (OpenSpec.upto fnExactInputBitsSpec)

end Rows
end Go.Proofs.Ytalcambmmbilkaa
