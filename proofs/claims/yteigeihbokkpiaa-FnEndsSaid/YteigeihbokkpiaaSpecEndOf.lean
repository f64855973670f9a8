/- The contract of the model's EndOf. -/
import Derived.Test.YteigeihbokkpiaaSpecEnd
namespace Go.Proofs.Yteigeihbokkpiaa
open Go.RowKit

/-- What EndOf answers. -/
def endB (ss : List Stm) (z : Int) : Int × Int := if 0 ≤ z ∧ z ≤ (ss.length : Int) - 1 ∧ ss.length ≤ 40 then endOf ss z.toNat else (-1, -1)
set_option maxHeartbeats 800000 in
theorem specEndOf_any (a : Option Addr) (n c : Nat) (rs : List SRow) (ss : List Stm) (z : Int) (w : World) (h : Stmts w a n rs ss) :
    Calls Try.prog 21 #[.slice a n c, .int .i64 z] w fun e w' => e = .returned (.tuple #[.int .i64 (endB ss z).1, .int .i64 (endB ss z).2]) ∧ w = w' := by
  have hbd := h.2.2.1
  have hlen := h.2.1
  obtain ⟨P, HP⟩ : ∃ P, Hid (endB ss z = P) := ⟨_, rfl⟩
  rw [HP.out]
  by_cases hz : 0 ≤ z ∧ z ≤ (n : Int) - 1
  · have hin : (decide (0 ≤ z) && decide (z ≤ (n : Int) - 1)) = true := by simpa using hz
    by_cases h40 : n ≤ 40
    · have hd : decide ((n : Int) > 40) = false := by simp; omega
      obtain ⟨k, rfl⟩ : ∃ k : Nat, z = (k : Int) := ⟨z.toNat, by omega⟩
      have hc := l3End_any a n c rs ss k w h (by omega)
      have he : P = endOf ss k := by rw [← HP.out, endB, if_pos (by omega), Int.toNat_natCast]
      rw [← he] at hc
      obtain ⟨p1, p2⟩ := P
      simp only [] at hc ⊢
      have HC := Lib.hid hc
      clear hc he h HP
      go_enter Try.func21, Try.ntmps21
      go_wp2_with (first | (go_at_call 38; refine (in_any _ _ _ _).mono ?_; rintro e w' ⟨rfl, rfl⟩; rw [hin]) | (go_at_call 56; refine HC.out.mono ?_; rintro e w' ⟨rfl, rfl⟩))
      go_ret2
      exact ⟨rfl, rfl⟩
    · have hd : decide ((n : Int) > 40) = true := by simp; omega
      have he : P = (-1, -1) := by rw [← HP.out, endB, if_neg (by omega)]
      subst he
      go_enter Try.func21, Try.ntmps21
      go_wp2_with (go_at_call 38; refine (in_any _ _ _ _).mono ?_; rintro e w' ⟨rfl, rfl⟩; rw [hin])
      go_ret2
      exact ⟨rfl, rfl⟩
  · have hin : (decide (0 ≤ z) && decide (z ≤ (n : Int) - 1)) = false := by rw [← Bool.not_eq_true]; simpa using hz
    have he : P = (-1, -1) := by rw [← HP.out, endB, if_neg (by omega)]
    subst he
    go_enter Try.func21, Try.ntmps21
    go_wp2_with (go_at_call 38; refine (in_any _ _ _ _).mono ?_; rintro e w' ⟨rfl, rfl⟩; rw [hin])
    go_ret2
    exact ⟨rfl, rfl⟩
end Go.Proofs.Yteigeihbokkpiaa
