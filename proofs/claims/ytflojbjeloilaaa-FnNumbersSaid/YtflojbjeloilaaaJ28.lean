/- Joined texts of this proof (NumAns, SpecBits, BoolAns, BitsAns), in build order. -/
import Derived.Test.YtflojbjeloilaaaJ27
/- The answers of NumberOf, as a law asks for them. -/
namespace Go.Proofs.Ytflojbjeloilaaa
open Go.RowKit

theorem implNumberOf_ans (r : PRow) (p : Prg) (a a' : Option Addr) (n c n' c' : Nat) (ls ss : List Int) (w : World) (h : ProgAt w r p) (hcap : r.body.2.1 ≤ r.body.2.2) (h1 : Ints w a n ls) (h2 : Ints w a' n' ss) :
    Calls Try.prog 27 #[progV r, .slice a n c, .slice a' n' c'] w fun e w' => e = .returned (.int .i64 (numB p ls ss)) ∧ Below w.heap.size w w' := implNumberOf_any r p a a' n c n' c' ls ss w h hcap h1 h2
end Go.Proofs.Ytflojbjeloilaaa
/- The contract of the model's InputBits. -/
namespace Go.Proofs.Ytflojbjeloilaaa
open Go.RowKit

theorem OwnB.keep {w w' : World} {B : Nat} {a : Option Addr} {n c : Nat} {bs : List Bool} {row : Option Nat} (h : OwnB w B a n c bs) (hg : w.grownBy w' row) (hr : ∀ g, (Value.slice a n c).ownBlock = some g → row ≠ some g) : OwnB w' B a n c bs := by
  refine ⟨h.1.kept hg ?_, h.2⟩
  cases hv : (Value.slice a n c).ownBlock with
  | none => exact .inl rfl
  | some g => exact .inr fun e => hr g hv e.symm
end Go.Proofs.Ytflojbjeloilaaa
/- Slices of bools as answers of a law. -/
namespace Go.Proofs.Ytflojbjeloilaaa
open Go.RowKit

def AnsB (w : World) (bs : List Bool) (e : Ending) (w' : World) : Prop :=
  Below w.heap.size w w' ∧ ∃ s : Sl, e = .returned (slV s) ∧ OwnB w' w.heap.size s.1 s.2.1 s.2.2 bs
theorem ansB_of {w : World} {bs : List Bool} {e : Ending} {w' : World} (h : MadeB w bs e w') : AnsB w bs e w' := by
  obtain ⟨a, n, c, he, ho, hb⟩ := h
  exact ⟨hb, (a, n, c), he, ho⟩
end Go.Proofs.Ytflojbjeloilaaa
/- The answers of InputBits, as a law asks for them; the marks on slices of bools, likewise. -/
namespace Go.Proofs.Ytflojbjeloilaaa
open Go.RowKit

theorem implInputBits_ans (r : PRow) (p : Prg) (a a' : Option Addr) (n c n' c' : Nat) (ls ss : List Int) (w : World) (h : ProgAt w r p) (hcap : r.body.2.1 ≤ r.body.2.2) (h1 : Ints w a n ls) (h2 : Ints w a' n' ss) :
    Calls Try.prog 28 #[progV r, .slice a n c, .slice a' n' c'] w (AnsB w (bitsB p ls ss)) := (implInputBits_any r p a a' n c n' c' ls ss w h hcap h1 h2).mono (fun _ _ h => ansB_of h)
end Go.Proofs.Ytflojbjeloilaaa
