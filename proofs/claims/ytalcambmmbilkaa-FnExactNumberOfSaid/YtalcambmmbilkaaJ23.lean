/- The answers of NumberOf, as a law asks for them. -/
import Derived.Test.YtalcambmmbilkaaJ20
import Derived.Test.YtalcambmmbilkaaJ22
namespace Go.Proofs.Ytalcambmmbilkaa
open Go.RowKit

theorem specNumberOf_ans (r : PRow) (p : Prg) (a a' : Option Addr) (n c n' c' : Nat) (ls ss : List Int) (w : World) (h : ProgAt w r p) (h1 : Ints w a n ls) (h2 : Ints w a' n' ss) :
    Calls Try.prog 43 #[progV r, .slice a n c, .slice a' n' c'] w fun e w' => e = .returned (.int .i64 (numB p ls ss)) ∧ Below w.heap.size w w' := specNumberOf_any r p a a' n c n' c' ls ss w h h1 h2
theorem implNumberOf_ans (r : PRow) (p : Prg) (a a' : Option Addr) (n c n' c' : Nat) (ls ss : List Int) (w : World) (h : ProgAt w r p) (hcap : r.body.2.1 ≤ r.body.2.2) (h1 : Ints w a n ls) (h2 : Ints w a' n' ss) :
    Calls Try.prog 27 #[progV r, .slice a n c, .slice a' n' c'] w fun e w' => e = .returned (.int .i64 (numB p ls ss)) ∧ Below w.heap.size w w' := implNumberOf_any r p a a' n c n' c' ls ss w h hcap h1 h2
end Go.Proofs.Ytalcambmmbilkaa
