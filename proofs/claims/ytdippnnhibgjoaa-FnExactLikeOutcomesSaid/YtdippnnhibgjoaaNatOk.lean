/- The contracts of the two functions NatOk (the program's and the model's): each answers 'okB' of the numbers, and leaves the world as it is. -/
import Derived.Test.YtdippnnhibgjoaaBase
namespace Go.Proofs.Ytdippnnhibgjoaa
open Go.RowKit

theorem in_any (x lo hi : Int) (w : World) :
    Calls Try.prog 46 #[.int .i64 x, .int .i64 lo, .int .i64 hi] w fun e w' => e = .returned (.bool (decide (lo ≤ x) && decide (x ≤ hi))) ∧ w = w' := by
  by_cases h1 : lo ≤ x
  · by_cases h2 : x ≤ hi
    · go_enter Try.func46, Try.ntmps46
      go_wp2
      go_ret
      exact ⟨ret_bool (by simp [h1, h2]), rfl⟩
    · go_enter Try.func46, Try.ntmps46
      go_wp2
      go_ret
      exact ⟨ret_bool (by rw [decide_eq_false (p := x ≤ hi) (by omega)]), rfl⟩
  · go_enter Try.func46, Try.ntmps46
    go_wp2
    go_ret
    exact ⟨ret_bool (by rw [decide_eq_false (p := lo ≤ x) (by omega), Bool.false_and]), rfl⟩

end Go.Proofs.Ytdippnnhibgjoaa
