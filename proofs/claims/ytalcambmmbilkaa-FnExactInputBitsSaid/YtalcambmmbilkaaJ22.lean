/- The answers of InputBits, as a law asks for them; the marks on slices of bools, likewise. -/
import Derived.Test.YtalcambmmbilkaaJ21
namespace Go.Proofs.Ytalcambmmbilkaa
open Go.RowKit

theorem specInputBits_ans (r : PRow) (p : Prg) (a a' : Option Addr) (n c n' c' : Nat) (ls ss : List Int) (w : World) (h : ProgAt w r p) (h1 : Ints w a n ls) (h2 : Ints w a' n' ss) :
    Calls Try.prog 44 #[progV r, .slice a n c, .slice a' n' c'] w (AnsB w (bitsB p ls ss)) := (specInputBits_any r p a a' n c n' c' ls ss w h h1 h2).mono (fun _ _ h => ansB_of h)
theorem implInputBits_ans (r : PRow) (p : Prg) (a a' : Option Addr) (n c n' c' : Nat) (ls ss : List Int) (w : World) (h : ProgAt w r p) (hcap : r.body.2.1 ≤ r.body.2.2) (h1 : Ints w a n ls) (h2 : Ints w a' n' ss) :
    Calls Try.prog 28 #[progV r, .slice a n c, .slice a' n' c'] w (AnsB w (bitsB p ls ss)) := (implInputBits_any r p a a' n c n' c' ls ss w h hcap h1 h2).mono (fun _ _ h => ansB_of h)
end Go.Proofs.Ytalcambmmbilkaa
