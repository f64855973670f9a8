/- The contracts of the functions that make powers of 2. -/
import Derived.Test.YtnbeofnafdljhaaMulNat
namespace Go.Proofs.Ytnbeofnafdljhaa
open Go.RowKit

theorem pow2_lt (k : Nat) : 2 ^ k < 10000 ^ (k / 13 + 1) := by
  have h1 : 2 ^ k ≤ 2 ^ (13 * (k / 13 + 1)) := Nat.pow_le_pow_right (by omega) (by omega)
  have h2 : 2 ^ (13 * (k / 13 + 1)) = 8192 ^ (k / 13 + 1) := by rw [Nat.pow_mul]
  have h3 : 8192 ^ (k / 13 + 1) < 10000 ^ (k / 13 + 1) := Nat.pow_lt_pow_left (by omega) (by omega)
  omega
theorem pow2_len (k : Nat) : (toL (2 ^ k)).length ≤ k / 13 + 1 := toL_len_lt (pow2_lt k)
theorem pow2_ok {k : Nat} (h : k ≤ 1200) : okB (toL (2 ^ k)) = true := by
  rw [okB_toL, decide_eq_true_eq]
  have := pow2_len k
  omega
theorem toL_one : toL 1 = [1] := rfl

set_option maxHeartbeats 400000 in
theorem pow2_any (N : Nat) : ∀ (k : Nat) (w : World), k ≤ N → k ≤ 2000 → Calls Try.prog 57 #[.int .i64 (k : Int)] w (MadeInts w (toL (2 ^ k))) := by
  induction N with
  | zero =>
    intro k w hk _
    obtain rfl : k = 0 := by omega
    go_enter Try.func57, Try.ntmps57
    go_wp2_with fail
    go_ret
    exact ⟨_, _, _, rfl, own_one w _ 1 ⟨by omega, by omega⟩ (Nat.le_refl _), (Below.refl _ _).alloc (Nat.le_refl _) _⟩
  | succ N ih =>
    intro k w hk hk2
    have IH := Lib.hid ih
    clear ih
    by_cases h0 : k = 0
    · subst h0
      go_enter Try.func57, Try.ntmps57
      go_wp2_with fail
      go_ret
      exact ⟨_, _, _, rfl, own_one w _ 1 ⟨by omega, by omega⟩ (Nat.le_refl _), (Below.refl _ _).alloc (Nat.le_refl _) _⟩
    · have hne : ((k : Int) == 0) = false := by simp; omega
      have hl := pow2_len (k / 2)
      have hl2 := pow2_len (2 * (k / 2))
      have e2 : 2 ^ (k / 2) * 2 ^ (k / 2) = 2 ^ (2 * (k / 2)) := by rw [← Nat.pow_add]; congr 1; omega
      have E2 := Lib.hid e2
      clear e2
      obtain ⟨j, hj⟩ : ∃ j, Hid (k / 2 = j) := ⟨_, rfl⟩
      rw [hj.out] at hl hl2 E2
      have hjk : (k : Int) / 2 = (j : Int) := by rw [← hj.out]; omega
      have HJK := Lib.hid hjk
      have hj1 : j ≤ 1000 := by rw [← hj.out]; omega
      have hj2 : j ≤ N := by rw [← hj.out]; omega
      clear hjk
      by_cases hodd : k % 2 = 1
      · have hd : (((k : Int) % 2) == 1) = true := by simp; omega
        have EK : Hid (2 ^ (2 * j) + 2 ^ (2 * j) = 2 ^ k) := by
          show _ = _
          have : k = 2 * j + 1 := by rw [← hj.out]; omega
          rw [this, Nat.pow_succ]; omega
        clear hodd
        go_enter Try.func57, Try.ntmps57
        go_wp2_with fail
        rw [HJK.out]
        refine (IH.out j _ hj2 (by omega)).mono ?_
        rintro e w1 ⟨a1, n1, c1, rfl, ho1, hb1⟩
        have hn1 : n1 ≤ 2000 := by rw [← ho1.len]; omega
        go_wp2_with fail
        refine (times_any _ _ _ _ _ _ _ _ _ ho1.ints ho1.ints (good_toL _) (good_toL _) hn1 hn1).mono ?_
        rintro e w2 ⟨a2, n2, c2, rfl, ho2, hb2⟩
        rw [val_toL, E2.out] at ho2
        have hn2 : n2 ≤ 2000 := by rw [← ho2.len]; omega
        have hb12 : Below w.heap.size w w2 := hb1.trans (hb2.mono hb1.size)
        go_wp2_with fail
        refine (plus_any _ _ _ _ _ _ _ _ _ ho2.ints ho2.ints (good_toL _) (good_toL _) hn2 hn2).mono ?_
        rintro e w3 ⟨a3, n3, c3, rfl, ho3, hb3⟩
        rw [val_toL, EK.out] at ho3
        go_wp2_with fail
        go_ret
        exact ⟨_, _, _, rfl, ho3.base hb12.size, hb12.trans (hb3.mono hb12.size)⟩
      · have hd : (((k : Int) % 2) == 1) = false := by simp; omega
        have EK : Hid (2 ^ (2 * j) = 2 ^ k) := by
          show _ = _
          have : k = 2 * j := by rw [← hj.out]; omega
          rw [this]
        clear hodd
        go_enter Try.func57, Try.ntmps57
        go_wp2_with fail
        rw [HJK.out]
        refine (IH.out j _ hj2 (by omega)).mono ?_
        rintro e w1 ⟨a1, n1, c1, rfl, ho1, hb1⟩
        have hn1 : n1 ≤ 2000 := by rw [← ho1.len]; omega
        go_wp2_with fail
        refine (times_any _ _ _ _ _ _ _ _ _ ho1.ints ho1.ints (good_toL _) (good_toL _) hn1 hn1).mono ?_
        rintro e w2 ⟨a2, n2, c2, rfl, ho2, hb2⟩
        rw [val_toL, E2.out, EK.out] at ho2
        have hb12 : Below w.heap.size w w2 := hb1.trans (hb2.mono hb1.size)
        go_wp2_with fail
        go_ret
        exact ⟨_, _, _, rfl, ho2.base hb1.size, hb12⟩

/-- What PowerNat answers. -/
def powB (k : Int) : Bool := decide (0 ≤ k) && decide (k ≤ 1000)
def powL (k : Int) : List Int := if powB k then toL (2 ^ k.toNat) else []
theorem powB_no {k : Int} (h : k < 0 ∨ 1000 < k) : powB k = false := by
  unfold powB
  rcases h with h | h
  · rw [decide_eq_false (by omega)]; rfl
  · rw [decide_eq_false (p := k ≤ 1000) (by omega)]; simp
theorem powB_yes {k : Int} (h0 : 0 ≤ k) (h1 : k ≤ 1000) : powB k = true := by unfold powB; rw [decide_eq_true h0, decide_eq_true h1]; rfl

set_option maxHeartbeats 400000 in
theorem powerNat_any (k : Int) (w : World) : Calls Try.prog 29 #[.int .i64 k] w (PairInts w (powL k) (powB k)) := by
  by_cases h0 : k < 0
  · go_enter Try.func29, Try.ntmps29
    go_wp2_with fail
    go_ret2
    exact ⟨none, 0, 0, ret_pair (powB_no (.inl h0)).symm, by unfold powL; rw [powB_no (.inl h0)]; exact own_nil _ _, Below.refl _ _⟩
  · by_cases h1 : 1000 < k
    · go_enter Try.func29, Try.ntmps29
      go_wp2_with fail
      go_ret2
      exact ⟨none, 0, 0, ret_pair (powB_no (.inr h1)).symm, by unfold powL; rw [powB_no (.inr h1)]; exact own_nil _ _, Below.refl _ _⟩
    · obtain ⟨j, rfl⟩ := Int.eq_ofNat_of_zero_le (show 0 ≤ k by omega)
      have hj : j ≤ 1000 := by omega
      have HY := Lib.hid (powB_yes (k := (j : Int)) (by omega) (by omega))
      go_enter Try.func29, Try.ntmps29
      go_wp2_with fail
      refine (pow2_any j j _ (Nat.le_refl _) (by omega)).mono ?_
      rintro e w1 ⟨a1, n1, c1, rfl, ho1, hb1⟩
      go_wp2_with fail
      go_ret2
      exact ⟨_, _, _, ret_pair HY.out.symm, by unfold powL; rw [HY.out]; exact ho1, hb1⟩

theorem fit_double {j : Nat} (h : j < 1000) : fitL (toL (2 ^ j)) (toL (2 ^ j)) (val (toL (2 ^ j)) + val (toL (2 ^ j))) = toL (2 ^ (j + 1)) := by
  have e : val (toL (2 ^ j)) + val (toL (2 ^ j)) = 2 ^ (j + 1) := by rw [val_toL, Nat.pow_succ]; omega
  rw [e, fitL_yes (pow2_ok (by omega)) (pow2_ok (by omega)) (pow2_ok (by omega))]

set_option maxHeartbeats 400000 in
theorem specPowerNat_any (k : Int) (w : World) : Calls Try.prog 39 #[.int .i64 k] w (PairInts w (powL k) (powB k)) := by
  cases hp : (decide (0 ≤ k) && decide (k ≤ 1000)) with
  | false =>
    go_enter Try.func39, Try.ntmps39
    go_wp2_with (go_at_call 58; refine (in_any _ _ _ _).mono ?_; rintro e w1 ⟨rfl, rfl⟩; rw [hp])
    go_ret2
    have hno : powB k = false := hp
    exact ⟨_, _, _, ret_pair hno.symm, by unfold powL; rw [hno]; exact own_empty _ _ (Nat.le_refl _), (Below.refl _ _).alloc (Nat.le_refl _) _⟩
  | true =>
    have HY : Hid (powB k = true) := hp
    have hk : 0 ≤ k ∧ k ≤ 1000 := by simpa using hp
    obtain ⟨hk0, hk1⟩ := hk
    go_enter Try.func39, Try.ntmps39
    go_wp2_with (go_at_call 58; refine (in_any _ _ _ _).mono ?_; rintro e w1 ⟨rfl, rfl⟩; rw [hp])
    go_loopw [0, 4] (fun q v wr => ∃ (j : Nat) (a1 : Option Addr) (n1 c1 : Nat), (j : Int) ≤ k ∧ q = .int .i64 (k - j) ∧ v = .slice a1 n1 c1 ∧ Own wr w.heap.size a1 n1 c1 (toL (2 ^ j)) ∧ Below w.heap.size w wr) (fun q _ _ => (intOf q).toNat)
    case atStart => exact ⟨0, _, _, _, by omega, by go_num, rfl, own_one w _ 1 ⟨by omega, by omega⟩ (Nat.le_refl _), (Below.refl _ _).alloc (Nat.le_refl _) _⟩
    case round =>
      obtain ⟨j, a1, n1, c1, hj, rfl, rfl, hown, hbel⟩ := hrel
      by_cases hlt : (j : Int) < k
      · go_wp2_with fail
        refine (specAddNat_any _ _ _ _ _ _ _ _ _ hown.ints hown.ints).mono ?_
        rintro e w2 ⟨a2, n2, c2, rfl, ho2, hb2⟩
        rw [fit_double (by omega)] at ho2
        have hb12 := hbel.trans (hb2.mono hbel.size)
        have ho2' := ho2.base hbel.size
        clear ho2 hown hb2
        go_wp2_with fail
        go_roundw
        case rel => exact ⟨j + 1, a2, n2, c2, by omega, by go_num, rfl, ho2', hb12⟩
        case measure => simp [intOf]; omega
      · obtain rfl : k = (j : Int) := by omega
        go_wp2_with fail
        go_ret2
        exact ⟨_, _, _, ret_pair HY.out.symm, by unfold powL; rw [HY.out]; exact hown, hbel⟩
end Go.Proofs.Ytnbeofnafdljhaa
