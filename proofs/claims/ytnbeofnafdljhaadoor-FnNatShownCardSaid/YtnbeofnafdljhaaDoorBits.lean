/- The contracts of the functions BitsFor. -/
import Derived.Test.YtnbeofnafdljhaaDoorPower
namespace Go.Proofs.YtnbeofnafdljhaaDoor
open Go.RowKit

/-- k is the least one for which v is at most 2 to the k. -/
def IsLog (v k : Nat) : Prop := v ≤ 2 ^ k ∧ ∀ j, j < k → 2 ^ j < v
theorem isLog_ex (v : Nat) : ∀ n, v ≤ 2 ^ n → ∃ k, k ≤ n ∧ IsLog v k := by
  intro n
  induction n with
  | zero => intro h; exact ⟨0, Nat.le_refl _, h, fun j hj => absurd hj (by omega)⟩
  | succ n ih =>
    intro h
    by_cases h2 : v ≤ 2 ^ n
    · obtain ⟨k, hk, hl⟩ := ih h2
      exact ⟨k, by omega, hl⟩
    · refine ⟨n + 1, Nat.le_refl _, h, fun j hj => ?_⟩
      have : 2 ^ j ≤ 2 ^ n := Nat.pow_le_pow_right (by omega) (by omega)
      omega
theorem IsLog.le_iff {v k h : Nat} (hl : IsLog v k) : v ≤ 2 ^ h ↔ k ≤ h := by
  constructor
  · intro hv
    rcases Nat.lt_or_ge h k with h' | h'
    · have := hl.2 h h'; omega
    · exact h'
  · intro hk
    have : 2 ^ k ≤ 2 ^ h := Nat.pow_le_pow_right (by omega) hk
    have := hl.1
    omega
theorem val_le_pow {l : List Int} (h : Good l) : val l ≤ 2 ^ (14 * l.length) := by
  have h1 := val_lt h
  have h2 : 10000 ^ l.length ≤ 16384 ^ l.length := Nat.pow_le_pow_left (by omega) _
  have h3 : 2 ^ (14 * l.length) = 16384 ^ l.length := by rw [Nat.pow_mul]
  omega

theorem cmpI_le (x y : Nat) : decide (cmpI (x : Int) (y : Int) ≤ 0) = decide (x ≤ y) := by
  rcases Nat.lt_trichotomy x y with h | h | h
  · rw [cmpI_lt (by omega), decide_eq_true (by omega), decide_eq_true (by omega)]
  · subst h; rw [cmpI_eq, decide_eq_true (by omega), decide_eq_true (by omega)]
  · rw [cmpI_gt (by omega), decide_eq_false (by omega), decide_eq_false (by omega)]

/-- What BitsFor answers. -/
def IsBits (xs : List Int) (r : Int) : Prop := (okB xs = false ∧ r = -1) ∨ (okB xs = true ∧ ∃ k : Nat, k ≤ 14 * xs.length ∧ IsLog (val xs) k ∧ r = (k : Int))
theorem isBits_ex (xs : List Int) : ∃ r, IsBits xs r := by
  cases h : okB xs
  · exact ⟨-1, .inl ⟨h, rfl⟩⟩
  · obtain ⟨k, hk, hl⟩ := isLog_ex (val xs) _ (val_le_pow ((okB_iff xs).1 h).2.1)
    exact ⟨k, .inr ⟨h, k, hk, hl, rfl⟩⟩

/-- Twice each limb. -/
theorem twice_succ {xs : List Int} {k : Nat} {x : Int} (hx : Hid (x = xs.getD k 0)) : sumTo xs xs k ++ [2 * x] = sumTo xs xs (k + 1) := by
  rw [show 2 * x = x + x by omega]; exact sumTo_succ hx hx

end Go.Proofs.YtnbeofnafdljhaaDoor
