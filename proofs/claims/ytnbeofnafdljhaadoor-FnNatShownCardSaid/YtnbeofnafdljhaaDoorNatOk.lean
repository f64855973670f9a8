/- The contracts of the two functions NatOk (the program's and the model's): each answers 'okB' of the numbers, and leaves the world as it is. -/
import Derived.Test.YtnbeofnafdljhaaDoorBase
namespace Go.Proofs.YtnbeofnafdljhaaDoor
open Go.RowKit

set_option maxHeartbeats 400000 in
theorem ok_any (a : Option Addr) (n c : Nat) (zs : List Int) (w : World) (h : Ints w a n zs) :
    Calls Tryd.prog 24 #[.slice a n c] w fun e w' => e = .returned (.bool (okB zs)) ∧ w = w' := by
  have HL := Lib.hid h.1
  have hbd := h.2.1
  by_cases hn : 100 < n
  · go_enter Tryd.func24, Tryd.ntmps24
    go_wp2
    go_ret
    exact ⟨ret_bool (okB_long (by rw [HL.out]; exact hn)).symm, rfl⟩
  · go_enter Tryd.func24, Tryd.ntmps24
    go_wp2
    go_loop [10] (fun i => ∃ k : Nat, k ≤ n ∧ i = .int .i64 k ∧ GoodTo zs k) (fun i => n - (intOf i).toNat)
    case atStart => exact ⟨0, Nat.zero_le _, rfl, GoodTo.zero _⟩
    case round =>
      obtain ⟨k, hk, rfl, hg⟩ := hrel
      by_cases hlt : k < n
      · obtain ⟨b, o, z, rfl, hb, hz, hin, hc⟩ := h.at_ hlt
        by_cases h0 : z < 0
        · go_wp2
          go_ret
          exact ⟨ret_bool (okB_bad (by rw [HL.out]; exact hlt) hz (.inl h0)).symm, rfl⟩
        · by_cases h1 : 9999 < z
          · go_wp2
            go_ret
            exact ⟨ret_bool (okB_bad (by rw [HL.out]; exact hlt) hz (.inr h1)).symm, rfl⟩
          · go_wp2
            go_round
            case rel => exact ⟨k + 1, by omega, by go_num, hg.succ hz (by omega) (by omega)⟩
            case measure => simp [intOf]; omega
      · obtain rfl : n = k := by omega
        by_cases h0 : n = 0
        · subst h0
          go_wp2
          go_ret
          exact ⟨ret_bool (okB_nil HL.out).symm, rfl⟩
        · obtain ⟨b, o, z, rfl, hb, hz, hin, hc⟩ := h.at_ (k := n - 1) (by omega)
          have hne : ((n : Int) == 0) = false := by simp; omega
          go_wp2
          go_ret
          exact ⟨ret_bool (by rw [okB_last (z := z) (by rw [HL.out]; omega) (by rw [HL.out]; exact hg) (by rw [HL.out]; omega) (by rw [HL.out]; exact hz)]), rfl⟩

theorem natOk_any (a : Option Addr) (n c : Nat) (zs : List Int) (w : World) (h : Ints w a n zs) :
    Calls Tryd.prog 20 #[.slice a n c] w fun e w' => e = .returned (.bool (okB zs)) ∧ w = w' := by
  go_enter Tryd.func20, Tryd.ntmps20
  go_wp2_with (go_at_call 24; refine (ok_any _ _ _ zs _ h).mono ?_; rintro e w' ⟨rfl, rfl⟩)
  go_ret
  exact ⟨rfl, rfl⟩

theorem in_any (x lo hi : Int) (w : World) :
    Calls Tryd.prog 33 #[.int .i64 x, .int .i64 lo, .int .i64 hi] w fun e w' => e = .returned (.bool (decide (lo ≤ x) && decide (x ≤ hi))) ∧ w = w' := by
  by_cases h1 : lo ≤ x
  · by_cases h2 : x ≤ hi
    · go_enter Tryd.func33, Tryd.ntmps33
      go_wp2
      go_ret
      exact ⟨ret_bool (by simp [h1, h2]), rfl⟩
    · go_enter Tryd.func33, Tryd.ntmps33
      go_wp2
      go_ret
      exact ⟨ret_bool (by rw [decide_eq_false (p := x ≤ hi) (by omega)]), rfl⟩
  · go_enter Tryd.func33, Tryd.ntmps33
    go_wp2
    go_ret
    exact ⟨ret_bool (by rw [decide_eq_false (p := lo ≤ x) (by omega), Bool.false_and]), rfl⟩

set_option maxHeartbeats 400000 in
theorem specNatOk_any (a : Option Addr) (n c : Nat) (zs : List Int) (w : World) (h : Ints w a n zs) :
    Calls Tryd.prog 22 #[.slice a n c] w fun e w' => e = .returned (.bool (okB zs)) ∧ w = w' := by
  have HL := Lib.hid h.1
  have hbd := h.2.1
  go_enter Tryd.func22, Tryd.ntmps22
  go_wp2
  go_loop [3] (fun i => ∃ k : Nat, k ≤ n ∧ i = .int .i64 k ∧ GoodTo zs k) (fun i => n - (intOf i).toNat)
  case atStart => exact ⟨0, Nat.zero_le _, rfl, GoodTo.zero _⟩
  case round =>
    obtain ⟨k, hk, rfl, hg⟩ := hrel
    by_cases hlt : k < n
    · obtain ⟨b, o, z, rfl, hb, hz, hin, hc⟩ := h.at_ hlt
      by_cases h0 : 0 ≤ z ∧ z ≤ 9999
      · have hd : (decide (0 ≤ z) && decide (z ≤ 9999)) = true := by simp [h0]
        go_wp2_with (go_at_call 33; refine (in_any _ _ _ _).mono ?_; rintro e w' ⟨rfl, rfl⟩; rw [hd])
        go_round
        case rel => exact ⟨k + 1, by omega, by go_num, hg.succ hz (by omega) (by omega)⟩
        case measure => simp [intOf]; omega
      · have hd : (decide (0 ≤ z) && decide (z ≤ 9999)) = false := by rw [← Bool.not_eq_true]; simpa using h0
        go_wp2_with (go_at_call 33; refine (in_any _ _ _ _).mono ?_; rintro e w' ⟨rfl, rfl⟩; rw [hd])
        go_ret
        exact ⟨ret_bool (okB_bad (by rw [HL.out]; exact hlt) hz (by omega)).symm, rfl⟩
    · obtain rfl : n = k := by omega
      by_cases hn : 100 < n
      · have hd : decide ((n : Int) ≤ 100) = false := by simp; omega
        go_wp2
        go_ret
        exact ⟨ret_bool (okB_long (by rw [HL.out]; exact hn)).symm, rfl⟩
      · have hd : decide ((n : Int) ≤ 100) = true := by simp; omega
        by_cases h0 : n = 0
        · subst h0
          go_wp2
          go_ret
          exact ⟨ret_bool (okB_nil HL.out).symm, rfl⟩
        · obtain ⟨b, o, z, rfl, hb, hz, hin, hc⟩ := h.at_ (k := n - 1) (by omega)
          have hne : ((n : Int) == 0) = false := by simp; omega
          go_wp2
          go_ret
          exact ⟨ret_bool (by rw [okB_last (z := z) (by rw [HL.out]; omega) (by rw [HL.out]; exact hg) (by rw [HL.out]; omega) (by rw [HL.out]; exact hz)]), rfl⟩
end Go.Proofs.YtnbeofnafdljhaaDoor
