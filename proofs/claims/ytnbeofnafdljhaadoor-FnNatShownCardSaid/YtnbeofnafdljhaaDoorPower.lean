/- The contracts of the functions that make powers of 2. -/
import Derived.Test.YtnbeofnafdljhaaDoorMulNat
namespace Go.Proofs.YtnbeofnafdljhaaDoor
open Go.RowKit

theorem pow2_lt (k : Nat) : 2 ^ k < 10000 ^ (k / 13 + 1) := by
  have h1 : 2 ^ k ≤ 2 ^ (13 * (k / 13 + 1)) := Nat.pow_le_pow_right (by omega) (by omega)
  have h2 : 2 ^ (13 * (k / 13 + 1)) = 8192 ^ (k / 13 + 1) := by rw [Nat.pow_mul]
  have h3 : 8192 ^ (k / 13 + 1) < 10000 ^ (k / 13 + 1) := Nat.pow_lt_pow_left (by omega) (by omega)
  omega
theorem pow2_len (k : Nat) : (toL (2 ^ k)).length ≤ k / 13 + 1 := toL_len_lt (pow2_lt k)
theorem pow2_ok {k : Nat} (h : k ≤ 1200) : okB (toL (2 ^ k)) = true := by
  rw [okB_toL, decide_eq_true_eq]
  have := pow2_len k
  omega
theorem toL_one : toL 1 = [1] := rfl

/-- What PowerNat answers. -/
def powB (k : Int) : Bool := decide (0 ≤ k) && decide (k ≤ 1000)
def powL (k : Int) : List Int := if powB k then toL (2 ^ k.toNat) else []
theorem powB_no {k : Int} (h : k < 0 ∨ 1000 < k) : powB k = false := by
  unfold powB
  rcases h with h | h
  · rw [decide_eq_false (by omega)]; rfl
  · rw [decide_eq_false (p := k ≤ 1000) (by omega)]; simp
theorem powB_yes {k : Int} (h0 : 0 ≤ k) (h1 : k ≤ 1000) : powB k = true := by unfold powB; rw [decide_eq_true h0, decide_eq_true h1]; rfl

theorem fit_double {j : Nat} (h : j < 1000) : fitL (toL (2 ^ j)) (toL (2 ^ j)) (val (toL (2 ^ j)) + val (toL (2 ^ j))) = toL (2 ^ (j + 1)) := by
  have e : val (toL (2 ^ j)) + val (toL (2 ^ j)) = 2 ^ (j + 1) := by rw [val_toL, Nat.pow_succ]; omega
  rw [e, fitL_yes (pow2_ok (by omega)) (pow2_ok (by omega)) (pow2_ok (by omega))]

end Go.Proofs.YtnbeofnafdljhaaDoor
