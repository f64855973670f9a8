/- The contracts of the laws' own helpers big and likeInts. -/
import Derived.Test.YteigeihbokkpiaaCopies
namespace Go.Proofs.Yteigeihbokkpiaa
open Go.RowKit

theorem big_any (a : Option Addr) (n c : Nat) (w : World) : Calls Try.prog 9 #[.slice a n c] w fun e w' => e = .returned (.bool (decide (4096 < n))) ∧ w = w' := by
  go_enter Try.func9, Try.ntmps9
  go_wp2
  go_ret
  exact ⟨ret_bool (by simp only [decide_eq_decide]; omega), rfl⟩

end Go.Proofs.Yteigeihbokkpiaa
