/- The contracts of the model's draws of two great numbers, of one for BitsFor; of the laws' own small helpers. -/
import Derived.Test.YtnbeofnafdljhaaDoorDrawNat
import Derived.Test.YtnbeofnafdljhaaDoorBits
import Derived.Test.YtnbeofnafdljhaaDoorCopies
namespace Go.Proofs.YtnbeofnafdljhaaDoor
open Go.RowKit

/-- Two lists of numbers were drawn. -/
def DrewPair (w : World) (e : Ending) (w' : World) : Prop :=
  ∃ a n c xs b m d ys, e = .returned (.tuple #[.slice a n c, .slice b m d]) ∧ n ≤ 102 ∧ m ≤ 102 ∧ Ints w' a n xs ∧ Ints w' b m ys ∧ Below w.heap.size w w'
def DrewOne (w : World) (e : Ending) (w' : World) : Prop :=
  ∃ a n c xs, e = .returned (.slice a n c) ∧ Ints w' a n xs ∧ Below w.heap.size w w'

theorem below_cur {w w1 w2 : World} {p : Nat} (hb : Below w.heap.size w w1) (hp : w.heap.size ≤ p) (hg : w1.grownBy w2 (some p)) : Below w.heap.size w w2 :=
  hb.grown hg hb.size (fun k e => by cases e; exact hp)

theorem big_any (a : Option Addr) (n c : Nat) (w : World) : Calls Tryd.prog 5 #[.slice a n c] w fun e w' => e = .returned (.bool (decide (4096 < n))) ∧ w = w' := by
  go_enter Tryd.func5, Tryd.ntmps5
  go_wp2
  go_ret
  exact ⟨ret_bool (by simp only [decide_eq_decide]; omega), rfl⟩

end Go.Proofs.YtnbeofnafdljhaaDoor
