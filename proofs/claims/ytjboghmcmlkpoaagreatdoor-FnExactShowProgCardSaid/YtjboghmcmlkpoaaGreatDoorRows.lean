/-
  NARROWER THAN 'FOR EVERY INPUT', by the rows' own cells (each row's printed sentence says how): FnProgBack: ifaces, laid · FnExpBack: ifaces, laid · FnExactShowExp: laid · FnExactReadExp: ifaces, laid · FnExactShowProg: laid · FnExactReadProg: ifaces, laid.
  DERIVED. THE GIVEN ROWS OF THIS SEAT. 6 by the template 'for every input the law returns true; each argument reads behind the call as it read before'; 0 by the template 'total and deterministic' (their statements: YtjboghmcmlkpoaaGreatDoorTotals.lean).
  GIVEN WITH THE SEED: the statements are not yours to turn. If you find one false, say at which input.
  Laid BY PROGRAM, IN A SANDBOX (cutbox-rows.mjs): the forced cells as the released guide's own fill.sh prints them over the translation 147bb615cfbdc3a5… (all of the seat's roots in one cut). By AI agents, Wed Nov 11 2026. No macro, syntax, notation, axiom, sorry.
-/
import Derived.Test.YtjboghmcmlkpoaaGreatDoorChecked
import GoSem.PinnedTables
import GoSem.Claim
import GoSem.ClaimJoined
import GoSem.ClaimMapViews
import Derived.JoinedTies
import Derived.KernelRfl
namespace Go.Proofs.YtjboghmcmlkpoaaGreatDoor
/- THE CELL 'sum', in the pinned program and in every row, IS THE sha256 OF THE DUMP (.gsa) THAT YtjboghmcmlkpoaaGreatDoorProg.lean LOADS. Nothing in Lean hashes anything: it is a label: what it is worth is what the hold of that sum in a sandbox is worth. -/
noncomputable def Tryz.pinned : Pinned := { name := "ytjboghmcmlkpoaagreatdoor", sum := "147bb615cfbdc3a593800e054378975c03181e9987754febbf327663e0a84d8e", checked := Tryz.checked }
namespace Rows
def none {H : Type} : Left H := { results := [], args := [] }

/- WHAT THE LISTED PACKAGE-LEVEL VARIABLES READ AS WHEN THE CALL BEGINS. Each datum BY PROGRAM (the guide's laid-datum.mjs) off the statement by which the dump's own 'gosem.cut.vars' lays the variable. In a bare row this is a premise. The card (YtjboghmcmlkpoaaGreatDoorCards.lean) ties it to the program's text. -/
def laid_math_bits_deBruijn32tab {H : Type} : DataW H := .agg [.lit (.int .u8 0), .lit (.int .u8 1), .lit (.int .u8 28), .lit (.int .u8 2), .lit (.int .u8 29), .lit (.int .u8 14), .lit (.int .u8 24), .lit (.int .u8 3), .lit (.int .u8 30), .lit (.int .u8 22), .lit (.int .u8 20), .lit (.int .u8 15), .lit (.int .u8 25), .lit (.int .u8 17), .lit (.int .u8 4), .lit (.int .u8 8), .lit (.int .u8 31), .lit (.int .u8 27), .lit (.int .u8 13), .lit (.int .u8 23), .lit (.int .u8 21), .lit (.int .u8 19), .lit (.int .u8 16), .lit (.int .u8 7), .lit (.int .u8 26), .lit (.int .u8 12), .lit (.int .u8 18), .lit (.int .u8 6), .lit (.int .u8 11), .lit (.int .u8 5), .lit (.int .u8 10), .lit (.int .u8 9)]
def laid_math_bits_deBruijn64tab {H : Type} : DataW H := .agg [.lit (.int .u8 0), .lit (.int .u8 1), .lit (.int .u8 56), .lit (.int .u8 2), .lit (.int .u8 57), .lit (.int .u8 49), .lit (.int .u8 28), .lit (.int .u8 3), .lit (.int .u8 61), .lit (.int .u8 58), .lit (.int .u8 42), .lit (.int .u8 50), .lit (.int .u8 38), .lit (.int .u8 29), .lit (.int .u8 17), .lit (.int .u8 4), .lit (.int .u8 62), .lit (.int .u8 47), .lit (.int .u8 59), .lit (.int .u8 36), .lit (.int .u8 45), .lit (.int .u8 43), .lit (.int .u8 51), .lit (.int .u8 22), .lit (.int .u8 53), .lit (.int .u8 39), .lit (.int .u8 33), .lit (.int .u8 30), .lit (.int .u8 24), .lit (.int .u8 18), .lit (.int .u8 12), .lit (.int .u8 5), .lit (.int .u8 63), .lit (.int .u8 55), .lit (.int .u8 48), .lit (.int .u8 27), .lit (.int .u8 60), .lit (.int .u8 41), .lit (.int .u8 37), .lit (.int .u8 16), .lit (.int .u8 46), .lit (.int .u8 35), .lit (.int .u8 44), .lit (.int .u8 21), .lit (.int .u8 52), .lit (.int .u8 32), .lit (.int .u8 23), .lit (.int .u8 11), .lit (.int .u8 54), .lit (.int .u8 26), .lit (.int .u8 40), .lit (.int .u8 15), .lit (.int .u8 34), .lit (.int .u8 20), .lit (.int .u8 31), .lit (.int .u8 10), .lit (.int .u8 25), .lit (.int .u8 14), .lit (.int .u8 19), .lit (.int .u8 9), .lit (.int .u8 13), .lit (.int .u8 8), .lit (.int .u8 7), .lit (.int .u8 6)]
def laid_internal_strconv_uint64pow10 {H : Type} : DataW H := .agg [.lit (.int .u64 1), .lit (.int .u64 10), .lit (.int .u64 100), .lit (.int .u64 1000), .lit (.int .u64 10000), .lit (.int .u64 100000), .lit (.int .u64 1000000), .lit (.int .u64 10000000), .lit (.int .u64 100000000), .lit (.int .u64 1000000000), .lit (.int .u64 10000000000), .lit (.int .u64 100000000000), .lit (.int .u64 1000000000000), .lit (.int .u64 10000000000000), .lit (.int .u64 100000000000000), .lit (.int .u64 1000000000000000), .lit (.int .u64 10000000000000000), .lit (.int .u64 100000000000000000), .lit (.int .u64 1000000000000000000), .lit (.int .u64 10000000000000000000)]
def laid_unicode_utf8_acceptRanges {H : Type} : DataW H := .agg [.agg [.lit (.int .u8 128), .lit (.int .u8 191)], .agg [.lit (.int .u8 160), .lit (.int .u8 191)], .agg [.lit (.int .u8 128), .lit (.int .u8 159)], .agg [.lit (.int .u8 144), .lit (.int .u8 191)], .agg [.lit (.int .u8 128), .lit (.int .u8 143)], .agg [.lit (.int .u8 0), .lit (.int .u8 0)], .agg [.lit (.int .u8 0), .lit (.int .u8 0)], .agg [.lit (.int .u8 0), .lit (.int .u8 0)], .agg [.lit (.int .u8 0), .lit (.int .u8 0)], .agg [.lit (.int .u8 0), .lit (.int .u8 0)], .agg [.lit (.int .u8 0), .lit (.int .u8 0)], .agg [.lit (.int .u8 0), .lit (.int .u8 0)], .agg [.lit (.int .u8 0), .lit (.int .u8 0)], .agg [.lit (.int .u8 0), .lit (.int .u8 0)], .agg [.lit (.int .u8 0), .lit (.int .u8 0)], .agg [.lit (.int .u8 0), .lit (.int .u8 0)]]
def laid_errors_errorType {H : Type} : DataW H := .iface "internal/reflectlite.rtype" (.agg [.ptr (.lit (.string [101, 114, 114, 111, 114]))])
def laid_loop_example_g00697_impl_signs {H : Type} : DataW H := .agg [.lit (.string [43]), .lit (.string [45]), .lit (.string [42]), .lit (.string [47]), .lit (.string [37]), .lit (.string [38]), .lit (.string [124]), .lit (.string [94]), .lit (.string [60, 60]), .lit (.string [62, 62]), .lit (.string [61, 61]), .lit (.string [60])]
def laid_loop_example_g00697_impl_stmtWords {H : Type} : DataW H := .agg [.lit (.string [105, 102]), .lit (.string [101, 108, 115, 101]), .lit (.string [101, 110, 100]), .lit (.string [108, 111, 111, 112]), .lit (.string [111, 117, 116]), .lit (.string [116, 104, 114, 111, 119]), .lit (.string [116, 114, 121]), .lit (.string [99, 97, 116, 99, 104])]
def laid_loop_example_g00697_impl_errUnfit {H : Type} : DataW H := .iface "*errors.errorString" (.ptr (.agg [.lit (.string [116, 104, 101, 32, 116, 101, 120, 116, 32, 105, 115, 32, 110, 111, 116, 32, 111, 102, 32, 116, 104, 105, 115, 32, 102, 111, 114, 109])]))
def laid_loop_example_g00697_impl_errTooMany {H : Type} : DataW H := .iface "*errors.errorString" (.ptr (.agg [.lit (.string [116, 104, 101, 32, 101, 120, 112, 114, 101, 115, 115, 105, 111, 110, 32, 104, 97, 115, 32, 116, 111, 111, 32, 109, 97, 110, 121, 32, 84, 101, 114, 109, 115])]))
/-- One of Go's own tables, pinned by name: the form's constant. -/
def laid_unicode_utf8_first : DataW Unit := Go.Pinned.utf8First

/-- 'laws.FnProgBack': WHATEVER THE INPUT: true; the input reads as it did. -/
def fnProgBackSpec : ChangeSpec := { name := "fnProgBack", vars := ["loop.example/g00697/impl.stmtWords", "loop.example/g00697/impl.signs", "loop.example/g00697/impl.errUnfit", "loop.example/g00697/impl.errTooMany"], fn := fun _ => fun
  | [d, g1, g2, g3, g4] => { results := [.lit (.bool true)], args := [d], vars := [g1, g2, g3, g4] }
  | _ => none }
def fnProgBackRow : OpenClaim := { program := "ytjboghmcmlkpoaagreatdoor", sum := "147bb615cfbdc3a593800e054378975c03181e9987754febbf327663e0a84d8e", func := "loop.example/g00697/laws.FnProgBack", spec := "fnProgBack", inPlace := ["internal/abi.NoEscape", "internal/bytealg.IndexByteString", "internal/bytealg.IndexString", "internal/reflectlite.ValueOf", "(internal/reflectlite.Value).Type", "(internal/reflectlite.Value).IsNil", "internal/reflectlite.TypeOf", "(internal/reflectlite.Value).Elem", "(internal/reflectlite.Value).Set"], unfollowed := true, recurses := true, named := ["internal/strconv.uint64pow10", "math/bits.deBruijn32tab", "math/bits.deBruijn64tab", "loop.example/g00697/impl.stmtWords", "loop.example/g00697/impl.signs", "loop.example/g00697/impl.errUnfit", "unicode/utf8.first", "unicode/utf8.acceptRanges", "errors.errorType", "loop.example/g00697/impl.errTooMany", "internal/bytealg.MaxLen"], ifaces := true, apart := false, laid := [("math/bits.deBruijn32tab", laid_math_bits_deBruijn32tab), ("math/bits.deBruijn64tab", laid_math_bits_deBruijn64tab), ("internal/strconv.uint64pow10", laid_internal_strconv_uint64pow10), ("unicode/utf8.acceptRanges", laid_unicode_utf8_acceptRanges), ("errors.errorType", laid_errors_errorType), ("loop.example/g00697/impl.signs", laid_loop_example_g00697_impl_signs), ("loop.example/g00697/impl.stmtWords", laid_loop_example_g00697_impl_stmtWords), ("loop.example/g00697/impl.errUnfit", laid_loop_example_g00697_impl_errUnfit), ("loop.example/g00697/impl.errTooMany", laid_loop_example_g00697_impl_errTooMany), ("unicode/utf8.first", laid_unicode_utf8_first)] }
def FnProgBackSaid : Prop := fnProgBackRow.holds Tryz.pinned (OpenSpec.ofChange fnProgBackSpec)

/-- ITS FALSE NEIGHBOUR: 'it returns false'. Refute it at one input. -/
def fnProgBackWrong : ChangeSpec := { name := "fnProgBack", vars := ["loop.example/g00697/impl.stmtWords", "loop.example/g00697/impl.signs", "loop.example/g00697/impl.errUnfit", "loop.example/g00697/impl.errTooMany"], fn := fun _ => fun
  | [d, g1, g2, g3, g4] => { results := [.lit (.bool false)], args := [d], vars := [g1, g2, g3, g4] }
  | _ => none }
def FnProgBackWrongFalsely : Prop := fnProgBackRow.holds Tryz.pinned (OpenSpec.ofChange fnProgBackWrong)

/-- 'laws.FnExpBack': WHATEVER THE INPUT: true; the input reads as it did. -/
def fnExpBackSpec : ChangeSpec := { name := "fnExpBack", vars := ["loop.example/g00697/impl.signs", "loop.example/g00697/impl.errUnfit", "loop.example/g00697/impl.errTooMany"], fn := fun _ => fun
  | [d, g1, g2, g3] => { results := [.lit (.bool true)], args := [d], vars := [g1, g2, g3] }
  | _ => none }
def fnExpBackRow : OpenClaim := { program := "ytjboghmcmlkpoaagreatdoor", sum := "147bb615cfbdc3a593800e054378975c03181e9987754febbf327663e0a84d8e", func := "loop.example/g00697/laws.FnExpBack", spec := "fnExpBack", inPlace := ["internal/bytealg.IndexByteString", "internal/bytealg.IndexString", "internal/reflectlite.TypeOf"], unfollowed := true, recurses := true, named := ["loop.example/g00697/impl.signs", "internal/strconv.uint64pow10", "math/bits.deBruijn32tab", "math/bits.deBruijn64tab", "loop.example/g00697/impl.errUnfit", "loop.example/g00697/impl.errTooMany", "unicode/utf8.first", "unicode/utf8.acceptRanges", "internal/bytealg.MaxLen"], ifaces := true, apart := false, laid := [("math/bits.deBruijn32tab", laid_math_bits_deBruijn32tab), ("math/bits.deBruijn64tab", laid_math_bits_deBruijn64tab), ("internal/strconv.uint64pow10", laid_internal_strconv_uint64pow10), ("unicode/utf8.acceptRanges", laid_unicode_utf8_acceptRanges), ("loop.example/g00697/impl.signs", laid_loop_example_g00697_impl_signs), ("loop.example/g00697/impl.errUnfit", laid_loop_example_g00697_impl_errUnfit), ("loop.example/g00697/impl.errTooMany", laid_loop_example_g00697_impl_errTooMany), ("unicode/utf8.first", laid_unicode_utf8_first)] }
def FnExpBackSaid : Prop := fnExpBackRow.holds Tryz.pinned (OpenSpec.ofChange fnExpBackSpec)

/-- ITS FALSE NEIGHBOUR: 'it returns false'. Refute it at one input. -/
def fnExpBackWrong : ChangeSpec := { name := "fnExpBack", vars := ["loop.example/g00697/impl.signs", "loop.example/g00697/impl.errUnfit", "loop.example/g00697/impl.errTooMany"], fn := fun _ => fun
  | [d, g1, g2, g3] => { results := [.lit (.bool false)], args := [d], vars := [g1, g2, g3] }
  | _ => none }
def FnExpBackWrongFalsely : Prop := fnExpBackRow.holds Tryz.pinned (OpenSpec.ofChange fnExpBackWrong)

/-- 'laws.FnExactShowExp': WHATEVER THE INPUT: true; the input reads as it did. -/
def fnExactShowExpSpec : ChangeSpec := { name := "fnExactShowExp", vars := ["loop.example/g00697/impl.signs"], fn := fun _ => fun
  | [d1, d2, g1] => { results := [.lit (.bool true)], args := [d1, d2], vars := [g1] }
  | _ => none }
def fnExactShowExpRow : OpenClaim := { program := "ytjboghmcmlkpoaagreatdoor", sum := "147bb615cfbdc3a593800e054378975c03181e9987754febbf327663e0a84d8e", func := "loop.example/g00697/laws.FnExactShowExp", spec := "fnExactShowExp", unfollowed := true, recurses := true, named := ["loop.example/g00697/impl.signs", "internal/strconv.uint64pow10", "math/bits.deBruijn32tab", "math/bits.deBruijn64tab"], apart := false, laid := [("math/bits.deBruijn32tab", laid_math_bits_deBruijn32tab), ("math/bits.deBruijn64tab", laid_math_bits_deBruijn64tab), ("internal/strconv.uint64pow10", laid_internal_strconv_uint64pow10), ("loop.example/g00697/impl.signs", laid_loop_example_g00697_impl_signs)] }
def FnExactShowExpSaid : Prop := fnExactShowExpRow.holds Tryz.pinned (OpenSpec.ofChange fnExactShowExpSpec)

/-- ITS FALSE NEIGHBOUR: 'it returns false'. Refute it at one input. -/
def fnExactShowExpWrong : ChangeSpec := { name := "fnExactShowExp", vars := ["loop.example/g00697/impl.signs"], fn := fun _ => fun
  | [d1, d2, g1] => { results := [.lit (.bool false)], args := [d1, d2], vars := [g1] }
  | _ => none }
def FnExactShowExpWrongFalsely : Prop := fnExactShowExpRow.holds Tryz.pinned (OpenSpec.ofChange fnExactShowExpWrong)

/-- 'laws.FnExactReadExp': WHATEVER THE INPUT: true; the input reads as it did. -/
def fnExactReadExpSpec : ChangeSpec := { name := "fnExactReadExp", vars := ["loop.example/g00697/impl.errUnfit", "loop.example/g00697/impl.errTooMany", "loop.example/g00697/impl.signs"], fn := fun _ => fun
  | [d1, d2, g1, g2, g3] => { results := [.lit (.bool true)], args := [d1, d2], vars := [g1, g2, g3] }
  | _ => none }
def fnExactReadExpRow : OpenClaim := { program := "ytjboghmcmlkpoaagreatdoor", sum := "147bb615cfbdc3a593800e054378975c03181e9987754febbf327663e0a84d8e", func := "loop.example/g00697/laws.FnExactReadExp", spec := "fnExactReadExp", inPlace := ["internal/bytealg.IndexByteString", "internal/bytealg.IndexString", "internal/reflectlite.TypeOf"], unfollowed := true, recurses := true, named := ["loop.example/g00697/impl.errUnfit", "loop.example/g00697/impl.errTooMany", "unicode/utf8.first", "unicode/utf8.acceptRanges", "internal/strconv.uint64pow10", "math/bits.deBruijn32tab", "math/bits.deBruijn64tab", "loop.example/g00697/impl.signs", "internal/bytealg.MaxLen"], ifaces := true, apart := false, laid := [("math/bits.deBruijn32tab", laid_math_bits_deBruijn32tab), ("math/bits.deBruijn64tab", laid_math_bits_deBruijn64tab), ("internal/strconv.uint64pow10", laid_internal_strconv_uint64pow10), ("unicode/utf8.acceptRanges", laid_unicode_utf8_acceptRanges), ("loop.example/g00697/impl.signs", laid_loop_example_g00697_impl_signs), ("loop.example/g00697/impl.errUnfit", laid_loop_example_g00697_impl_errUnfit), ("loop.example/g00697/impl.errTooMany", laid_loop_example_g00697_impl_errTooMany), ("unicode/utf8.first", laid_unicode_utf8_first)] }
def FnExactReadExpSaid : Prop := fnExactReadExpRow.holds Tryz.pinned (OpenSpec.ofChange fnExactReadExpSpec)

/-- ITS FALSE NEIGHBOUR: 'it returns false'. Refute it at one input. -/
def fnExactReadExpWrong : ChangeSpec := { name := "fnExactReadExp", vars := ["loop.example/g00697/impl.errUnfit", "loop.example/g00697/impl.errTooMany", "loop.example/g00697/impl.signs"], fn := fun _ => fun
  | [d1, d2, g1, g2, g3] => { results := [.lit (.bool false)], args := [d1, d2], vars := [g1, g2, g3] }
  | _ => none }
def FnExactReadExpWrongFalsely : Prop := fnExactReadExpRow.holds Tryz.pinned (OpenSpec.ofChange fnExactReadExpWrong)

/-- 'laws.FnExactShowProg': WHATEVER THE INPUT: true; the input reads as it did. -/
def fnExactShowProgSpec : ChangeSpec := { name := "fnExactShowProg", vars := ["loop.example/g00697/impl.stmtWords", "loop.example/g00697/impl.signs"], fn := fun _ => fun
  | [d, g1, g2] => { results := [.lit (.bool true)], args := [d], vars := [g1, g2] }
  | _ => none }
def fnExactShowProgRow : OpenClaim := { program := "ytjboghmcmlkpoaagreatdoor", sum := "147bb615cfbdc3a593800e054378975c03181e9987754febbf327663e0a84d8e", func := "loop.example/g00697/laws.FnExactShowProg", spec := "fnExactShowProg", inPlace := ["internal/abi.NoEscape"], unfollowed := true, recurses := true, named := ["internal/strconv.uint64pow10", "math/bits.deBruijn32tab", "math/bits.deBruijn64tab", "loop.example/g00697/impl.stmtWords", "loop.example/g00697/impl.signs"], apart := false, laid := [("math/bits.deBruijn32tab", laid_math_bits_deBruijn32tab), ("math/bits.deBruijn64tab", laid_math_bits_deBruijn64tab), ("internal/strconv.uint64pow10", laid_internal_strconv_uint64pow10), ("loop.example/g00697/impl.signs", laid_loop_example_g00697_impl_signs), ("loop.example/g00697/impl.stmtWords", laid_loop_example_g00697_impl_stmtWords)] }
def FnExactShowProgSaid : Prop := fnExactShowProgRow.holds Tryz.pinned (OpenSpec.ofChange fnExactShowProgSpec)

/-- ITS FALSE NEIGHBOUR: 'it returns false'. Refute it at one input. -/
def fnExactShowProgWrong : ChangeSpec := { name := "fnExactShowProg", vars := ["loop.example/g00697/impl.stmtWords", "loop.example/g00697/impl.signs"], fn := fun _ => fun
  | [d, g1, g2] => { results := [.lit (.bool false)], args := [d], vars := [g1, g2] }
  | _ => none }
def FnExactShowProgWrongFalsely : Prop := fnExactShowProgRow.holds Tryz.pinned (OpenSpec.ofChange fnExactShowProgWrong)

/-- 'laws.FnExactReadProg': WHATEVER THE INPUT: true; the input reads as it did. -/
def fnExactReadProgSpec : ChangeSpec := { name := "fnExactReadProg", vars := ["loop.example/g00697/impl.errUnfit", "loop.example/g00697/impl.errTooMany", "loop.example/g00697/impl.signs", "loop.example/g00697/impl.stmtWords"], fn := fun _ => fun
  | [d, g1, g2, g3, g4] => { results := [.lit (.bool true)], args := [d], vars := [g1, g2, g3, g4] }
  | _ => none }
def fnExactReadProgRow : OpenClaim := { program := "ytjboghmcmlkpoaagreatdoor", sum := "147bb615cfbdc3a593800e054378975c03181e9987754febbf327663e0a84d8e", func := "loop.example/g00697/laws.FnExactReadProg", spec := "fnExactReadProg", inPlace := ["internal/bytealg.IndexByteString", "internal/bytealg.IndexString", "internal/reflectlite.ValueOf", "(internal/reflectlite.Value).Type", "(internal/reflectlite.Value).IsNil", "internal/reflectlite.TypeOf", "(internal/reflectlite.Value).Elem", "(internal/reflectlite.Value).Set"], unfollowed := true, recurses := true, named := ["loop.example/g00697/impl.errUnfit", "unicode/utf8.first", "unicode/utf8.acceptRanges", "errors.errorType", "internal/strconv.uint64pow10", "math/bits.deBruijn32tab", "math/bits.deBruijn64tab", "loop.example/g00697/impl.errTooMany", "loop.example/g00697/impl.signs", "loop.example/g00697/impl.stmtWords", "internal/bytealg.MaxLen"], ifaces := true, apart := false, laid := [("math/bits.deBruijn32tab", laid_math_bits_deBruijn32tab), ("math/bits.deBruijn64tab", laid_math_bits_deBruijn64tab), ("internal/strconv.uint64pow10", laid_internal_strconv_uint64pow10), ("unicode/utf8.acceptRanges", laid_unicode_utf8_acceptRanges), ("errors.errorType", laid_errors_errorType), ("loop.example/g00697/impl.signs", laid_loop_example_g00697_impl_signs), ("loop.example/g00697/impl.stmtWords", laid_loop_example_g00697_impl_stmtWords), ("loop.example/g00697/impl.errUnfit", laid_loop_example_g00697_impl_errUnfit), ("loop.example/g00697/impl.errTooMany", laid_loop_example_g00697_impl_errTooMany), ("unicode/utf8.first", laid_unicode_utf8_first)] }
def FnExactReadProgSaid : Prop := fnExactReadProgRow.holds Tryz.pinned (OpenSpec.ofChange fnExactReadProgSpec)

/-- ITS FALSE NEIGHBOUR: 'it returns false'. Refute it at one input. -/
def fnExactReadProgWrong : ChangeSpec := { name := "fnExactReadProg", vars := ["loop.example/g00697/impl.errUnfit", "loop.example/g00697/impl.errTooMany", "loop.example/g00697/impl.signs", "loop.example/g00697/impl.stmtWords"], fn := fun _ => fun
  | [d, g1, g2, g3, g4] => { results := [.lit (.bool false)], args := [d], vars := [g1, g2, g3, g4] }
  | _ => none }
def FnExactReadProgWrongFalsely : Prop := fnExactReadProgRow.holds Tryz.pinned (OpenSpec.ofChange fnExactReadProgWrong)

/- THE SECOND FORM. 'bulk': how many values and letters a reading holds, each counted each time it is reached (what is shared counts as often as it is met; a slice's spare places count too). A statement '..UptoSaid' is the law's where the arguments, and the package variables that the reading takes, are together of bulk at most 1048576: NARROWER than '..Said'. Prove '..Said' where nothing that the law and all that it calls make is longer than what came in: it says more and counts as full. Else prove '..UptoSaid'. A law counts once. -/
mutual
def uptoBulk {H : Type} : DataW H → Nat
  | .lit (.string bytes) => bytes.length + 1
  | .lit _ => 1
  | .nil => 1
  | .ptr d => uptoBulk d + 1
  | .slice elems spare => uptoBulkAll elems + uptoBulkAll spare + 1
  | .agg parts => uptoBulkAll parts + 1
  | .iface _ d => uptoBulk d + 1
  | .map entries => uptoBulkEntries entries + 1
  | .held _ => 1
def uptoBulkAll {H : Type} : List (DataW H) → Nat
  | [] => 0
  | d :: r => uptoBulk d + uptoBulkAll r
def uptoBulkEntries {H : Type} : List (Lit × DataW H) → Nat
  | [] => 0
  | x :: r => uptoBulkEntry x + uptoBulkEntries r
def uptoBulkEntry {H : Type} : Lit × DataW H → Nat
  | (.string bytes, d) => bytes.length + uptoBulk d + 1
  | (_, d) => uptoBulk d + 1
 end
def uptoSmall : (H : Type) → List (DataW H) → Bool := fun _ ds => decide (uptoBulkAll ds ≤ 1048576)
def OpenSpec.upto (s : _root_.Go.ChangeSpec) : _root_.Go.OpenSpec := { _root_.Go.OpenSpec.ofChange s with cond := some uptoSmall }

/-- 'laws.FnProgBack', WHERE WHAT IT READS IS OF BULK AT MOST 1048576: true; the input reads as it did. -/
def fnProgBackUptoRow : OpenClaim := { program := "ytjboghmcmlkpoaagreatdoor", sum := "147bb615cfbdc3a593800e054378975c03181e9987754febbf327663e0a84d8e", func := "loop.example/g00697/laws.FnProgBack", spec := "fnProgBack", inPlace := ["internal/abi.NoEscape", "internal/bytealg.IndexByteString", "internal/bytealg.IndexString", "internal/reflectlite.ValueOf", "(internal/reflectlite.Value).Type", "(internal/reflectlite.Value).IsNil", "internal/reflectlite.TypeOf", "(internal/reflectlite.Value).Elem", "(internal/reflectlite.Value).Set"], unfollowed := true, recurses := true, named := ["internal/strconv.uint64pow10", "math/bits.deBruijn32tab", "math/bits.deBruijn64tab", "loop.example/g00697/impl.stmtWords", "loop.example/g00697/impl.signs", "loop.example/g00697/impl.errUnfit", "unicode/utf8.first", "unicode/utf8.acceptRanges", "errors.errorType", "loop.example/g00697/impl.errTooMany", "internal/bytealg.MaxLen"], ifaces := true, apart := false, laid := [("math/bits.deBruijn32tab", laid_math_bits_deBruijn32tab), ("math/bits.deBruijn64tab", laid_math_bits_deBruijn64tab), ("internal/strconv.uint64pow10", laid_internal_strconv_uint64pow10), ("unicode/utf8.acceptRanges", laid_unicode_utf8_acceptRanges), ("errors.errorType", laid_errors_errorType), ("loop.example/g00697/impl.signs", laid_loop_example_g00697_impl_signs), ("loop.example/g00697/impl.stmtWords", laid_loop_example_g00697_impl_stmtWords), ("loop.example/g00697/impl.errUnfit", laid_loop_example_g00697_impl_errUnfit), ("loop.example/g00697/impl.errTooMany", laid_loop_example_g00697_impl_errTooMany), ("unicode/utf8.first", laid_unicode_utf8_first)], narrowed := true }
def FnProgBackUptoSaid : Prop := fnProgBackUptoRow.holds Tryz.pinned (OpenSpec.upto fnProgBackSpec)

/-- 'laws.FnExpBack', WHERE WHAT IT READS IS OF BULK AT MOST 1048576: true; the input reads as it did. -/
def fnExpBackUptoRow : OpenClaim := { program := "ytjboghmcmlkpoaagreatdoor", sum := "147bb615cfbdc3a593800e054378975c03181e9987754febbf327663e0a84d8e", func := "loop.example/g00697/laws.FnExpBack", spec := "fnExpBack", inPlace := ["internal/bytealg.IndexByteString", "internal/bytealg.IndexString", "internal/reflectlite.TypeOf"], unfollowed := true, recurses := true, named := ["loop.example/g00697/impl.signs", "internal/strconv.uint64pow10", "math/bits.deBruijn32tab", "math/bits.deBruijn64tab", "loop.example/g00697/impl.errUnfit", "loop.example/g00697/impl.errTooMany", "unicode/utf8.first", "unicode/utf8.acceptRanges", "internal/bytealg.MaxLen"], ifaces := true, apart := false, laid := [("math/bits.deBruijn32tab", laid_math_bits_deBruijn32tab), ("math/bits.deBruijn64tab", laid_math_bits_deBruijn64tab), ("internal/strconv.uint64pow10", laid_internal_strconv_uint64pow10), ("unicode/utf8.acceptRanges", laid_unicode_utf8_acceptRanges), ("loop.example/g00697/impl.signs", laid_loop_example_g00697_impl_signs), ("loop.example/g00697/impl.errUnfit", laid_loop_example_g00697_impl_errUnfit), ("loop.example/g00697/impl.errTooMany", laid_loop_example_g00697_impl_errTooMany), ("unicode/utf8.first", laid_unicode_utf8_first)], narrowed := true }
def FnExpBackUptoSaid : Prop := fnExpBackUptoRow.holds Tryz.pinned (OpenSpec.upto fnExpBackSpec)

/-- 'laws.FnExactShowExp', WHERE WHAT IT READS IS OF BULK AT MOST 1048576: true; the input reads as it did. -/
def fnExactShowExpUptoRow : OpenClaim := { program := "ytjboghmcmlkpoaagreatdoor", sum := "147bb615cfbdc3a593800e054378975c03181e9987754febbf327663e0a84d8e", func := "loop.example/g00697/laws.FnExactShowExp", spec := "fnExactShowExp", unfollowed := true, recurses := true, named := ["loop.example/g00697/impl.signs", "internal/strconv.uint64pow10", "math/bits.deBruijn32tab", "math/bits.deBruijn64tab"], apart := false, laid := [("math/bits.deBruijn32tab", laid_math_bits_deBruijn32tab), ("math/bits.deBruijn64tab", laid_math_bits_deBruijn64tab), ("internal/strconv.uint64pow10", laid_internal_strconv_uint64pow10), ("loop.example/g00697/impl.signs", laid_loop_example_g00697_impl_signs)], narrowed := true }
def FnExactShowExpUptoSaid : Prop := fnExactShowExpUptoRow.holds Tryz.pinned (OpenSpec.upto fnExactShowExpSpec)

/-- 'laws.FnExactReadExp', WHERE WHAT IT READS IS OF BULK AT MOST 1048576: true; the input reads as it did. -/
def fnExactReadExpUptoRow : OpenClaim := { program := "ytjboghmcmlkpoaagreatdoor", sum := "147bb615cfbdc3a593800e054378975c03181e9987754febbf327663e0a84d8e", func := "loop.example/g00697/laws.FnExactReadExp", spec := "fnExactReadExp", inPlace := ["internal/bytealg.IndexByteString", "internal/bytealg.IndexString", "internal/reflectlite.TypeOf"], unfollowed := true, recurses := true, named := ["loop.example/g00697/impl.errUnfit", "loop.example/g00697/impl.errTooMany", "unicode/utf8.first", "unicode/utf8.acceptRanges", "internal/strconv.uint64pow10", "math/bits.deBruijn32tab", "math/bits.deBruijn64tab", "loop.example/g00697/impl.signs", "internal/bytealg.MaxLen"], ifaces := true, apart := false, laid := [("math/bits.deBruijn32tab", laid_math_bits_deBruijn32tab), ("math/bits.deBruijn64tab", laid_math_bits_deBruijn64tab), ("internal/strconv.uint64pow10", laid_internal_strconv_uint64pow10), ("unicode/utf8.acceptRanges", laid_unicode_utf8_acceptRanges), ("loop.example/g00697/impl.signs", laid_loop_example_g00697_impl_signs), ("loop.example/g00697/impl.errUnfit", laid_loop_example_g00697_impl_errUnfit), ("loop.example/g00697/impl.errTooMany", laid_loop_example_g00697_impl_errTooMany), ("unicode/utf8.first", laid_unicode_utf8_first)], narrowed := true }
def FnExactReadExpUptoSaid : Prop := fnExactReadExpUptoRow.holds Tryz.pinned (OpenSpec.upto fnExactReadExpSpec)

/-- 'laws.FnExactShowProg', WHERE WHAT IT READS IS OF BULK AT MOST 1048576: true; the input reads as it did. -/
def fnExactShowProgUptoRow : OpenClaim := { program := "ytjboghmcmlkpoaagreatdoor", sum := "147bb615cfbdc3a593800e054378975c03181e9987754febbf327663e0a84d8e", func := "loop.example/g00697/laws.FnExactShowProg", spec := "fnExactShowProg", inPlace := ["internal/abi.NoEscape"], unfollowed := true, recurses := true, named := ["internal/strconv.uint64pow10", "math/bits.deBruijn32tab", "math/bits.deBruijn64tab", "loop.example/g00697/impl.stmtWords", "loop.example/g00697/impl.signs"], apart := false, laid := [("math/bits.deBruijn32tab", laid_math_bits_deBruijn32tab), ("math/bits.deBruijn64tab", laid_math_bits_deBruijn64tab), ("internal/strconv.uint64pow10", laid_internal_strconv_uint64pow10), ("loop.example/g00697/impl.signs", laid_loop_example_g00697_impl_signs), ("loop.example/g00697/impl.stmtWords", laid_loop_example_g00697_impl_stmtWords)], narrowed := true }
def FnExactShowProgUptoSaid : Prop := fnExactShowProgUptoRow.holds Tryz.pinned (OpenSpec.upto fnExactShowProgSpec)

/-- 'laws.FnExactReadProg', WHERE WHAT IT READS IS OF BULK AT MOST 1048576: true; the input reads as it did. -/
def fnExactReadProgUptoRow : OpenClaim := { program := "ytjboghmcmlkpoaagreatdoor", sum := "147bb615cfbdc3a593800e054378975c03181e9987754febbf327663e0a84d8e", func := "loop.example/g00697/laws.FnExactReadProg", spec := "fnExactReadProg", inPlace := ["internal/bytealg.IndexByteString", "internal/bytealg.IndexString", "internal/reflectlite.ValueOf", "(internal/reflectlite.Value).Type", "(internal/reflectlite.Value).IsNil", "internal/reflectlite.TypeOf", "(internal/reflectlite.Value).Elem", "(internal/reflectlite.Value).Set"], unfollowed := true, recurses := true, named := ["loop.example/g00697/impl.errUnfit", "unicode/utf8.first", "unicode/utf8.acceptRanges", "errors.errorType", "internal/strconv.uint64pow10", "math/bits.deBruijn32tab", "math/bits.deBruijn64tab", "loop.example/g00697/impl.errTooMany", "loop.example/g00697/impl.signs", "loop.example/g00697/impl.stmtWords", "internal/bytealg.MaxLen"], ifaces := true, apart := false, laid := [("math/bits.deBruijn32tab", laid_math_bits_deBruijn32tab), ("math/bits.deBruijn64tab", laid_math_bits_deBruijn64tab), ("internal/strconv.uint64pow10", laid_internal_strconv_uint64pow10), ("unicode/utf8.acceptRanges", laid_unicode_utf8_acceptRanges), ("errors.errorType", laid_errors_errorType), ("loop.example/g00697/impl.signs", laid_loop_example_g00697_impl_signs), ("loop.example/g00697/impl.stmtWords", laid_loop_example_g00697_impl_stmtWords), ("loop.example/g00697/impl.errUnfit", laid_loop_example_g00697_impl_errUnfit), ("loop.example/g00697/impl.errTooMany", laid_loop_example_g00697_impl_errTooMany), ("unicode/utf8.first", laid_unicode_utf8_first)], narrowed := true }
def FnExactReadProgUptoSaid : Prop := fnExactReadProgUptoRow.holds Tryz.pinned (OpenSpec.upto fnExactReadProgSpec)

end Rows
end Go.Proofs.YtjboghmcmlkpoaaGreatDoor
