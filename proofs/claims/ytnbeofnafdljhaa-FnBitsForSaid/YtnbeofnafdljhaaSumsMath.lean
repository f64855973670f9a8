/- Plain facts for the laws on sums, products and bits of great numbers. -/
import Derived.Test.YtnbeofnafdljhaaDrawPair
import Derived.Test.YtnbeofnafdljhaaSubNat
import Derived.Test.YtnbeofnafdljhaaMulNat
namespace Go.Proofs.Ytnbeofnafdljhaa
open Go.RowKit

theorem fitB_comm (xs ys : List Int) (v : Nat) : fitB ys xs v = fitB xs ys v := by unfold fitB; rw [Bool.and_comm (okB ys)]
theorem fitL_comm (xs ys : List Int) (v : Nat) : fitL ys xs v = fitL xs ys v := by unfold fitL; rw [fitB_comm]
theorem fit_parts {xs ys : List Int} {v : Nat} (h : fitB xs ys v = true) : okB xs = true ∧ okB ys = true ∧ okB (toL v) = true := by
  unfold fitB at h; simpa [Bool.and_eq_true, and_assoc] using h
theorem sub_back {xs ys : List Int} (h : fitB xs ys (val xs + val ys) = true) : subB (toL (val xs + val ys)) ys = true ∧ subL (toL (val xs + val ys)) ys = xs := by
  obtain ⟨h1, h2, h3⟩ := fit_parts h
  have hb : subB (toL (val xs + val ys)) ys = true := by unfold subB; rw [h3, h2, val_toL, decide_eq_true (by omega)]; rfl
  refine ⟨hb, ?_⟩
  unfold subL; rw [hb, val_toL, if_pos rfl, Nat.add_sub_cancel, ok_toL h1]
theorem val_zero {xs : List Int} (h : okB xs = true) : val xs = 0 ↔ xs.length = 0 := by
  have h1 := (okB_iff xs).1 h
  constructor
  · intro hv
    rcases Nat.eq_zero_or_pos xs.length with h0 | h0
    · exact h0
    · have := val_pos h1.2.1 h1.2.2 h0; omega
  · intro hl
    have : xs = [] := List.eq_nil_of_length_eq_zero hl
    subst this; rfl
theorem sub_over {xs ys : List Int} (h : fitB xs ys (val xs + val ys) = true) : subB ys (toL (val xs + val ys)) = decide (xs.length = 0) := by
  obtain ⟨h1, h2, h3⟩ := fit_parts h
  unfold subB
  rw [h3, h2, val_toL]
  simp only [Bool.and_self, Bool.true_and, decide_eq_decide]
  rw [← val_zero h1]; omega
theorem cmp_sum {xs ys : List Int} (h : fitB xs ys (val xs + val ys) = true) : 0 ≤ cmpB (toL (val xs + val ys)) xs ∧ cmpB (toL (val xs + val ys)) xs ≤ 1 := by
  obtain ⟨h1, h2, h3⟩ := fit_parts h
  unfold cmpB
  rw [if_pos ⟨h3, h1⟩, val_toL]
  unfold cmpI
  split
  · omega
  · split <;> omega
theorem cmp_turn {xs ys : List Int} (h1 : okB xs = true) (h2 : okB ys = true) : ∃ q : Int, -1 ≤ q ∧ q ≤ 1 ∧ cmpB ys xs = q ∧ cmpB xs ys = -q := by
  refine ⟨cmpB ys xs, ?_, ?_, rfl, ?_⟩
  · unfold cmpB; rw [if_pos ⟨h2, h1⟩]; unfold cmpI; split <;> (try split) <;> omega
  · unfold cmpB; rw [if_pos ⟨h2, h1⟩]; unfold cmpI; split <;> (try split) <;> omega
  · unfold cmpB; rw [if_pos ⟨h1, h2⟩, if_pos ⟨h2, h1⟩]; unfold cmpI
    split <;> split <;> (try split) <;> (try split) <;> omega

theorem fitL_true {xs ys : List Int} {v : Nat} (h : fitB xs ys v = true) : fitL xs ys v = toL v := by unfold fitL; rw [h]; rfl
theorem times_sum {xs ys zs s : List Int} (k1 : fitB xs ys (val xs * val ys) = true) (k2 : fitB ys zs (val ys + val zs) = true) (hs : fitL ys zs (val ys + val zs) = s)
    (k3 : fitB xs s (val xs * val s) = true) (k4 : fitB xs zs (val xs * val zs) = true) :
    fitL xs ys (val xs * val ys) = toL (val xs * val ys) ∧ fitL xs s (val xs * val s) = toL (val xs * val s) ∧ fitL xs zs (val xs * val zs) = toL (val xs * val zs) ∧
    fitB (toL (val xs * val ys)) (toL (val xs * val zs)) (val (toL (val xs * val ys)) + val (toL (val xs * val zs))) = true ∧
    fitL (toL (val xs * val ys)) (toL (val xs * val zs)) (val (toL (val xs * val ys)) + val (toL (val xs * val zs))) = toL (val xs * val s) ∧ okB (toL (val xs * val s)) = true := by
  have e1 := fitL_true k1
  have e2 := fitL_true k2
  have e3 := fitL_true k3
  have e4 := fitL_true k4
  have hv : val s = val ys + val zs := by rw [← hs, e2, val_toL]
  have o1 := (fit_parts k1).2.2
  have o3 := (fit_parts k3).2.2
  have o4 := (fit_parts k4).2.2
  have hsum : val (toL (val xs * val ys)) + val (toL (val xs * val zs)) = val xs * val s := by rw [val_toL, val_toL, hv, Nat.mul_add]
  have hf : fitB (toL (val xs * val ys)) (toL (val xs * val zs)) (val (toL (val xs * val ys)) + val (toL (val xs * val zs))) = true := by
    rw [hsum]; exact fit_yes o1 o4 o3
  refine ⟨e1, e3, e4, hf, ?_, o3⟩
  rw [fitL_true hf, hsum]

/-- What the law on bits asks of the powers. -/
theorem bits_powers {xs : List Int} {k : Nat} (h : okB xs = true) (hk : k ≤ 1000) (hl : IsLog (val xs) k) :
    cmpB xs (toL (2 ^ k)) ≤ 0 ∧ -1 ≤ cmpB xs (toL (2 ^ k)) ∧ (0 < k → cmpB xs (toL (2 ^ (k - 1))) = 1) := by
  have o1 := pow2_ok (show k ≤ 1200 by omega)
  refine ⟨?_, ?_, fun hp => ?_⟩
  · unfold cmpB
    rw [if_pos ⟨h, o1⟩, val_toL]
    have := hl.1
    unfold cmpI
    split
    · omega
    · split <;> omega
  · unfold cmpB
    rw [if_pos ⟨h, o1⟩, val_toL]
    unfold cmpI
    split
    · omega
    · split <;> omega
  · have o2 := pow2_ok (show k - 1 ≤ 1200 by omega)
    unfold cmpB
    rw [if_pos ⟨h, o2⟩, val_toL, cmpI_gt]
    have := hl.2 (k - 1) (by omega)
    omega
end Go.Proofs.Ytnbeofnafdljhaa
