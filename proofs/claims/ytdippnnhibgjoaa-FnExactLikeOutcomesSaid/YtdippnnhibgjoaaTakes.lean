/- The contracts of the two functions TakesOf (the program's and the model's), and of the program's termOk. -/
import Derived.Test.YtdippnnhibgjoaaTermMath
import Derived.Test.YtdippnnhibgjoaaNatOk
namespace Go.Proofs.Ytdippnnhibgjoaa
open Go.RowKit

theorem takesI_mid {op : Int} (h : 5 ≤ op) (h' : op ≤ 16) : takesI op = 2 := by unfold takesI; rw [if_neg (by omega), if_neg (by omega), if_neg (by omega), if_pos ⟨h, h'⟩]
theorem takesI_out {op : Int} (h : op < 0 ∨ 17 < op) : takesI op = -1 := (takesI_neg op).2 h

set_option maxHeartbeats 400000 in
theorem takes_any (op : Int) (w : World) :
    Calls Try.prog 125 #[.int .i64 op] w fun e w' => e = .returned (.int .i64 (takesI op)) ∧ w = w' := by
  have hc : op = 0 ∨ op = 1 ∨ op = 2 ∨ op = 3 ∨ op = 4 ∨ op = 17 ∨ (5 ≤ op ∧ op ≤ 16) ∨ (op < 0 ∨ 17 < op) := by omega
  rcases hc with rfl | rfl | rfl | rfl | rfl | rfl | ⟨h5, h16⟩ | h
  iterate 6
    · go_enter Try.func125, Try.ntmps125
      go_wp2
      go_ret
      exact ⟨rfl, rfl⟩
  · have e := takesI_mid h5 h16
    have HE := Lib.hid e
    clear e
    have n0 : (op == 0) = false := by simp; omega
    have n1 : (op == 1) = false := by simp; omega
    have n2 : (op == 2) = false := by simp; omega
    have n3 : (op == 3) = false := by simp; omega
    have n4 : (op == 4) = false := by simp; omega
    have n17 : (op == 17) = false := by simp; omega
    go_enter Try.func125, Try.ntmps125
    go_wp2
    go_ret
    exact ⟨ret_int HE.out.symm, rfl⟩
  · have e := takesI_out h
    have HE := Lib.hid e
    clear e
    have n0 : (op == 0) = false := by simp; omega
    have n1 : (op == 1) = false := by simp; omega
    have n2 : (op == 2) = false := by simp; omega
    have n3 : (op == 3) = false := by simp; omega
    have n4 : (op == 4) = false := by simp; omega
    have n17 : (op == 17) = false := by simp; omega
    rcases h with h | h
    all_goals
      go_enter Try.func125, Try.ntmps125
      go_wp2
      go_ret
      exact ⟨ret_int HE.out.symm, rfl⟩

theorem takes_row (k : Nat) (hk : k ≤ 17) : ([Value.int IntKind.i64 0, Value.int IntKind.i64 0, Value.int IntKind.i64 1, Value.int IntKind.i64 1, Value.int IntKind.i64 1, Value.int IntKind.i64 2, Value.int IntKind.i64 2, Value.int IntKind.i64 2, Value.int IntKind.i64 2, Value.int IntKind.i64 2, Value.int IntKind.i64 2, Value.int IntKind.i64 2, Value.int IntKind.i64 2, Value.int IntKind.i64 2, Value.int IntKind.i64 2, Value.int IntKind.i64 2, Value.int IntKind.i64 2, Value.int IntKind.i64 3] : List Value)[k]? = some (.int .i64 (takesI k)) := by
  match k, hk with
  | 0, _ => rfl
  | 1, _ => rfl
  | 2, _ => rfl
  | 3, _ => rfl
  | 4, _ => rfl
  | 5, _ => rfl
  | 6, _ => rfl
  | 7, _ => rfl
  | 8, _ => rfl
  | 9, _ => rfl
  | 10, _ => rfl
  | 11, _ => rfl
  | 12, _ => rfl
  | 13, _ => rfl
  | 14, _ => rfl
  | 15, _ => rfl
  | 16, _ => rfl
  | 17, _ => rfl
  | j + 18, h => exact absurd h (by omega)

set_option maxHeartbeats 400000 in
theorem specTakes_any (op : Int) (w : World) :
    Calls Try.prog 130 #[.int .i64 op] w fun e w' => e = .returned (.int .i64 (takesI op)) ∧ Below w.heap.size w w' := by
  by_cases h : 0 ≤ op ∧ op ≤ 17
  · obtain ⟨k, rfl⟩ := Int.eq_ofNat_of_zero_le h.1
    have hk : k ≤ 17 := by omega
    clear h
    have hb : (decide ((0 : Int) ≤ (k : Int)) && decide ((k : Int) ≤ 17)) = true := by simp; omega
    have HB := Lib.hid hb
    clear hb
    have hrow := takes_row k hk
    generalize takesI (k : Int) = q at hrow ⊢
    go_enter Try.func130, Try.ntmps130
    go_wp2_with fail
    refine (in_any _ _ _ _).mono ?_
    rintro e w' ⟨rfl, rfl⟩
    rw [HB.out]
    go_wp2
    go_ret
    exact ⟨rfl, (Below.refl _ _).alloc (Nat.le_refl _) _⟩
  · have e : takesI op = -1 := takesI_out (by omega)
    have HE := Lib.hid e
    clear e
    have hb : (decide (0 ≤ op) && decide (op ≤ 17)) = false := by
      by_cases h0 : 0 ≤ op
      · rw [decide_eq_true h0, decide_eq_false (by omega)]; rfl
      · rw [decide_eq_false h0]; rfl
    have HB := Lib.hid hb
    clear hb
    go_enter Try.func130, Try.ntmps130
    go_wp2_with fail
    refine (in_any _ _ _ _).mono ?_
    rintro e w' ⟨rfl, rfl⟩
    rw [HB.out]
    go_wp2_with fail
    go_ret
    exact ⟨ret_int HE.out.symm, Below.refl _ _⟩
end Go.Proofs.Ytdippnnhibgjoaa
