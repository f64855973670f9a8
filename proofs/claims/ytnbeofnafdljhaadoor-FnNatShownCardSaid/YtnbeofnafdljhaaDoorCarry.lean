/- Sums of limbs carried over: plain lemmas, and the contract of the model's l1Carry. -/
import Derived.Test.YtnbeofnafdljhaaDoorTrim
namespace Go.Proofs.YtnbeofnafdljhaaDoor
open Go.RowKit

theorem pow_pos (k : Nat) : 0 < 10000 ^ k := Nat.pow_pos (by omega)

theorem carry_step {d : List Int} {k T : Nat} {c s : Int} (hd : d.length = k) (hc : 0 ≤ c) (hcs : c ≤ s) (h : val d + 10000 ^ k * c.toNat = T) :
    val (d ++ [s % 10000]) + 10000 ^ (k + 1) * (s / 10000).toNat = T + 10000 ^ k * (s - c).toNat := by
  rw [val_snoc, hd, Nat.pow_succ, Nat.mul_assoc, Nat.add_assoc, ← Nat.mul_add, ← h, Nat.add_assoc, ← Nat.mul_add]
  congr 2
  omega

/-- All are from 0 to L. -/
def Upto (L : Int) (l : List Int) : Prop := ∀ z ∈ l, 0 ≤ z ∧ z ≤ L
theorem Upto.getD {L : Int} {l : List Int} (h : Upto L l) (hL : 0 ≤ L) (i : Nat) : 0 ≤ l.getD i 0 ∧ l.getD i 0 ≤ L := by
  by_cases hi : i < l.length
  · exact h _ (getD_mem hi)
  · rw [List.getD_eq_getElem?_getD, List.getElem?_eq_none (by omega)]; simpa using hL
theorem val_upto {L : Nat} {l : List Int} (h : Upto L l) : val l + L ≤ L * 10000 ^ l.length := by
  induction l with
  | nil => simp [val]
  | cons z r ih =>
    have h1 := ih (fun x hx => h x (List.mem_cons_of_mem _ hx))
    have h2 := h z (by simp)
    rw [val, List.length_cons, Nat.pow_succ]
    have h3 := Nat.mul_le_mul_right 10000 h1
    rw [Nat.add_mul, Nat.mul_assoc] at h3
    omega
theorem val_upto_lt {L : Nat} {l : List Int} (h : Upto L l) (hL : L < 1000000000000) : val l < 10000 ^ (l.length + 3) := by
  have h1 := val_upto h
  have h2 : L * 10000 ^ l.length ≤ 1000000000000 * 10000 ^ l.length := Nat.mul_le_mul_right _ (by omega)
  have h3 : 10000 ^ (l.length + 3) = 1000000000000 * 10000 ^ l.length := by rw [Nat.pow_add, Nat.mul_comm]
  have h4 := pow_pos l.length
  rcases Nat.eq_zero_or_pos L with h0 | h0
  · subst h0; omega
  · omega
theorem val_take_le (l : List Int) (k : Nat) : val (l.take k) ≤ val l := by rw [val_split l k]; omega
theorem carry_short {d l : List Int} {k : Nat} {c : Int} (h : val d + 10000 ^ k * c.toNat = val (l.take k)) (hc : 0 < c) (hv : val l < 10000 ^ (l.length + 3)) : k < l.length + 3 := by
  have h1 := val_take_le l k
  have h2 : 10000 ^ k * 1 ≤ 10000 ^ k * c.toNat := Nat.mul_le_mul_left _ (by omega)
  have h3 : 10000 ^ k < 10000 ^ (l.length + 3) := by omega
  exact (Nat.pow_lt_pow_iff_right (by omega)).1 h3

end Go.Proofs.YtnbeofnafdljhaaDoor
