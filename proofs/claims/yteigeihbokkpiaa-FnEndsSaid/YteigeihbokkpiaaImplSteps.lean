/- The contracts of the program's wellNested, bodiesAt, stepsWith, stepsIn. -/
import Derived.Test.YteigeihbokkpiaaSegMath
import Derived.Test.YteigeihbokkpiaaImplEnd
import Derived.Lib.SliceRun
namespace Go.Proofs.Yteigeihbokkpiaa
open Go.RowKit

theorem endB_in {ss : List Stm} {k : Nat} (hk : k < ss.length) (h40 : ss.length ≤ 40) : endB ss (k : Int) = endOf ss k := by rw [endB, if_pos (by omega), Int.toNat_natCast]
set_option maxHeartbeats 1600000 in
theorem wellNested_any (a : Option Addr) (n c : Nat) (rs : List SRow) (ss : List Stm) (w : World) (h : Stmts w a n rs ss) (h40 : n ≤ 40) :
    Calls Try.prog 36 #[.slice a n c] w fun e w' => e = .returned (.bool (decide (blockOf ss 0 = (n : Int)))) ∧ Below w.heap.size w w' := by
  have HL := Lib.hid h.2.1
  obtain ⟨R, HR⟩ : ∃ R, Hid (decide (blockOf ss 0 = (n : Int)) = R) := ⟨_, rfl⟩
  rw [HR.out]
  go_enter Try.func36, Try.ntmps36
  go_wp2
  go_loopw [3] (fun i wr => ∃ k : Nat, k ≤ n ∧ i = .int .i64 (k : Int) ∧ Hid (decide (blockOf ss k = (n : Int)) = R) ∧ Below w.heap.size w wr) (fun i _ => n - (intOf i).toNat)
  case atStart => exact ⟨0, Nat.zero_le _, rfl, HR, Below.refl _ _⟩
  case round =>
    clear HR
    obtain ⟨k, hk, rfl, HR, hbel⟩ := hrel
    by_cases hlt : k < n
    case neg =>
      obtain rfl : k = n := by omega
      have hR : R = true := by rw [← HR.out, block_past (by rw [HL.out]; exact Nat.le_refl _)]; exact decide_eq_true rfl
      subst hR
      go_wp2
      go_ret
      exact ⟨rfl, hbel⟩
    have hl : k < ss.length := by rw [HL.out]; exact hlt
    obtain ⟨b, o, x, rfl, hx, hix, hc⟩ := (h.below hbel).op hlt
    by_cases hs : x = 3 ∨ x = 9 ∨ x = 4
    · have hR : R = false := by rw [← HR.out, block_stop hl (by rw [hx.out]; exact hs)]; exact decide_eq_false (by omega)
      subst hR
      have hsb : secondB x = (x == 3 || x == 9) := rfl
      rcases hs with rfl | rfl | rfl
      all_goals
        go_wp2_with (go_at_call 53; refine (startsSecond_any _ _).mono ?_; rintro e w' ⟨rfl, rfl⟩; rw [hsb])
        go_ret
        exact ⟨rfl, hbel⟩
    have hsb : secondB x = false := by rw [← Bool.not_eq_true, second_iff]; omega
    have k4 : (x == 4) = false := by simp; omega
    by_cases ho : x = 2 ∨ x = 5 ∨ x = 8
    case neg =>
      have hob : opensB x = false := by rw [← Bool.not_eq_true, opens_iff]; exact ho
      have HR2 := Lib.hid (show decide (blockOf ss (k + 1) = (n : Int)) = R by rw [← block_next hl (by rw [hx.out]; exact hs) (by rw [hx.out]; exact ho)]; exact HR.out)
      clear HR hs ho
      go_wp2_with (first | (go_at_call 53; refine (startsSecond_any _ _).mono ?_; rintro e w' ⟨rfl, rfl⟩; rw [hsb]) | (go_at_call 52; refine (opensBlock_any _ _).mono ?_; rintro e w' ⟨rfl, rfl⟩; rw [hob]))
      go_roundw
      case rel => exact ⟨k + 1, by omega, by go_num, HR2, hbel⟩
      case measure => simp [intOf]; omega
    have hob : opensB x = true := (opens_iff _).2 ho
    have hoo : opAt ss k = 2 ∨ opAt ss k = 5 ∨ opAt ss k = 8 := by rw [hx.out]; exact ho
    have hend := end_in ss hl
    have hc2 := implEndOf_any (some ⟨b, o, none⟩) n c rs ss (k : Int) wr (h.below hbel)
    rw [endB_in hl (by rw [HL.out]; exact h40)] at hc2
    have HRo := Lib.hid (fun he => block_over hl hoo he)
    have HRb := Lib.hid (fun he => block_bad hl hoo he)
    obtain ⟨⟨M, E⟩, HP⟩ : ∃ P, Hid (endOf ss k = P) := ⟨_, rfl⟩
    rw [HP.out] at hc2 hend HRo HRb
    simp only [] at hc2 HRo HRb
    have HC := Lib.hid hc2
    clear hc2 hs ho hoo
    go_wp2_with (first | (go_at_call 53; refine (startsSecond_any _ _).mono ?_; rintro e w' ⟨rfl, rfl⟩; rw [hsb]) | (go_at_call 52; refine (opensBlock_any _ _).mono ?_; rintro e w' ⟨rfl, rfl⟩; rw [hob]))
    refine HC.out.mono ?_
    rintro e w1 ⟨rfl, hb1⟩
    have hbel1 := hbel.trans (hb1.mono hbel.size)
    clear hc hb1
    by_cases hE : E < 0
    · have hR : R = false := by rw [← HR.out, HRb.out hE]; exact decide_eq_false (by omega)
      subst hR
      clear hend
      go_wp2
      go_ret
      exact ⟨rfl, hbel1⟩
    · have hin2 : (k : Int) < E ∧ E < n := by
        have := HL.out
        rcases hend with q | q
        · injection q with q1 q2; omega
        · simp only [] at q; omega
      obtain ⟨e, rfl⟩ : ∃ e : Nat, E = (e : Int) := ⟨E.toNat, by omega⟩
      have HR2 := Lib.hid (show decide (blockOf ss (e + 1) = (n : Int)) = R by rw [← HR.out, HRo.out (Int.natCast_nonneg e), Int.toNat_natCast])
      clear hend HR
      go_wp2
      go_roundw
      case rel => exact ⟨e + 1, by omega, by go_num, HR2, hbel1⟩
      case measure => simp [intOf]; omega
theorem Stmts.part {w : World} {b o n : Nat} {rs : List SRow} {ss : List Stm} (h : Stmts w (some ⟨b, o, none⟩) n rs ss) {lo hi : Nat} (h1 : lo ≤ hi) (h2 : hi ≤ n) :
    Stmts w (some ⟨b, o + lo * 4, none⟩) (hi - lo) ((rs.drop lo).take (hi - lo)) (seg ss lo hi) := by
  obtain ⟨q1, q2, q3, q4, q5⟩ := h
  have hr : ∀ i, i < hi - lo → srAt ((rs.drop lo).take (hi - lo)) i = srAt rs (lo + i) := fun i hi' => by
    unfold srAt
    rw [List.getD_eq_getElem?_getD, List.getD_eq_getElem?_getD, List.getElem?_take_of_lt hi', List.getElem?_drop]
  refine ⟨by rw [List.length_take, List.length_drop]; omega, by rw [seg_len h1 (by omega)], by omega, fun hp => ?_, fun i hi' => ?_⟩
  · obtain ⟨b', o', e, hb, hc⟩ := q4 (by omega)
    injection e with e
    injection e with e1 e2
    subst e1 e2
    refine ⟨b, o + lo * 4, rfl, hb, fun i hi' => ?_⟩
    have := hc (lo + i) (by omega)
    rw [hr i hi']
    rw [show o + lo * 4 + i * 4 = o + (lo + i) * 4 by omega]
    exact this
  · rw [hr i hi', seg_at (by omega)]
    exact q5 (lo + i) (by omega)
set_option maxHeartbeats 1600000 in
theorem bodiesAt_plain (a : Option Addr) (n c : Nat) (rs : List SRow) (ss : List Stm) (k : Nat) (w : World) (h : Stmts w a n rs ss) (h40 : n ≤ 40) (hk : k < n) (he : endOf ss k = (-1, -1)) :
    Calls Try.prog 76 #[.slice a n c, .int .i64 (k : Int)] w fun e w' => e = .returned (.tuple #[.slice none 0 0, .slice none 0 0, .int .i64 (k : Int)]) ∧ Below w.heap.size w w' := by
  have hc := implEndOf_any a n c rs ss (k : Int) w h
  rw [endB_in (by rw [h.2.1]; exact hk) (by rw [h.2.1]; exact h40), he] at hc
  simp only [] at hc
  have HC := Lib.hid hc
  clear hc he
  go_enter Try.func76, Try.ntmps76
  go_wp2_with fail
  refine HC.out.mono ?_
  rintro e w1 ⟨rfl, hb1⟩
  go_wp2
  go_ret3
  exact ⟨rfl, hb1⟩
set_option maxHeartbeats 1600000 in
theorem bodiesAt_one (b o n c : Nat) (rs : List SRow) (ss : List Stm) (k e : Nat) (w : World) (h : Stmts w (some ⟨b, o, none⟩) n rs ss) (h40 : n ≤ 40) (hcap : n ≤ c) (hk : k < n) (hke : k < e) (hen : e < n) (he : endOf ss k = (-1, (e : Int))) :
    Calls Try.prog 76 #[.slice (some ⟨b, o, none⟩) n c, .int .i64 (k : Int)] w fun ed w' => ed = .returned (.tuple #[.slice (some ⟨b, o + (k + 1) * 4, none⟩) (e - (k + 1)) (c - (k + 1)), .slice none 0 0, .int .i64 (e : Int)]) ∧ Below w.heap.size w w' := by
  have hc := implEndOf_any (some ⟨b, o, none⟩) n c rs ss (k : Int) w h
  rw [endB_in (by rw [h.2.1]; exact hk) (by rw [h.2.1]; exact h40), he] at hc
  simp only [] at hc
  have HC := Lib.hid hc
  clear hc he
  go_enter Try.func76, Try.ntmps76
  go_wp2_with fail
  refine HC.out.mono ?_
  rintro e w1 ⟨rfl, hb1⟩
  go_wp2
  go_ret3
  exact ⟨rfl, hb1⟩
set_option maxHeartbeats 1600000 in
theorem bodiesAt_two (b o n c : Nat) (rs : List SRow) (ss : List Stm) (k m e : Nat) (w : World) (h : Stmts w (some ⟨b, o, none⟩) n rs ss) (h40 : n ≤ 40) (hcap : n ≤ c) (hk : k < m) (hme : m < e) (hen : e < n) (he : endOf ss k = ((m : Int), (e : Int))) :
    Calls Try.prog 76 #[.slice (some ⟨b, o, none⟩) n c, .int .i64 (k : Int)] w fun ed w' => ed = .returned (.tuple #[.slice (some ⟨b, o + (k + 1) * 4, none⟩) (m - (k + 1)) (c - (k + 1)), .slice (some ⟨b, o + (m + 1) * 4, none⟩) (e - (m + 1)) (c - (m + 1)), .int .i64 (e : Int)]) ∧ Below w.heap.size w w' := by
  have hc := implEndOf_any (some ⟨b, o, none⟩) n c rs ss (k : Int) w h
  rw [endB_in (by rw [h.2.1]; omega) (by rw [h.2.1]; exact h40), he] at hc
  simp only [] at hc
  have HC := Lib.hid hc
  clear hc he
  go_enter Try.func76, Try.ntmps76
  go_wp2_with fail
  refine HC.out.mono ?_
  rintro e w1 ⟨rfl, hb1⟩
  go_wp2
  go_quiet (fail)
  go_wp2
  go_ret3
  exact ⟨rfl, below_dn hb1 _⟩
def stepI (x : Int) (y : Int) (s1 s2 : Int) : Int := if x = 2 then 1 + max s1 s2 else if x = 5 then 1 + y * (1 + s1) else 1 + s1 + s2
set_option maxHeartbeats 1600000 in
theorem stepsWith_any (x y : Int) (b1 b2 : Option Addr) (m1 m2 d1 d2 : Nat) (s1 s2 : Nat) (w : World) (h1 : s1 < 3656158440062976) (h2 : s2 < 3656158440062976) (hy : x = 5 → ∃ k : Nat, k ≤ 4 ∧ y = (k : Int)) :
    Calls Try.prog 77 #[.agg #[.int .i64 x, .int .i64 y, .slice b1 m1 d1, .slice b2 m2 d2], .int .i64 (s1 : Int), .int .i64 (s2 : Int)] w fun e w' => e = .returned (.int .i64 (stepI x y s1 s2)) ∧ Below w.heap.size w w' := by
  obtain ⟨R, HR⟩ : ∃ R, Hid (stepI x y (s1 : Int) (s2 : Int) = R) := ⟨_, rfl⟩
  rw [HR.out]
  by_cases hx : x = 2
  · subst hx
    have hR : R = 1 + max (s1 : Int) (s2 : Int) := by rw [← HR.out]; rfl
    clear HR
    have HR := Lib.hid hR
    clear hR hy
    by_cases hlt : s1 < s2
    · go_enter Try.func77, Try.ntmps77
      go_wp2
      go_ret
      exact ⟨ret_int (by rw [HR.out]; omega), (Below.refl _ _).alloc (Nat.le_refl _) _⟩
    · go_enter Try.func77, Try.ntmps77
      go_wp2
      go_ret
      exact ⟨ret_int (by rw [HR.out]; omega), (Below.refl _ _).alloc (Nat.le_refl _) _⟩
  have k2 : (x == 2) = false := by simpa using hx
  by_cases h5 : x = 5
  · subst h5
    obtain ⟨k, hk, rfl⟩ := hy rfl
    have hR : R = 1 + (k : Int) * (1 + (s1 : Int)) := by rw [← HR.out]; rfl
    clear HR
    obtain ⟨X, HX⟩ : ∃ X : Nat, Hid (k * (1 + s1) = X) := ⟨_, Lib.hid rfl⟩
    have hXb : X ≤ 14624633760251908 := by
      have : k * (1 + s1) ≤ 4 * (1 + s1) := Nat.mul_le_mul_right _ hk
      have := HX.out
      omega
    have hmul : (k : Int) * (1 + (s1 : Int)) = (X : Int) := by rw [← HX.out]; push_cast; rfl
    rw [hmul] at hR
    have HR := Lib.hid hR
    clear hR hy k2 hx
    go_enter Try.func77, Try.ntmps77
    go_wp2
    go_ret
    exact ⟨ret_int (by rw [HR.out]), (Below.refl _ _).alloc (Nat.le_refl _) _⟩
  have k5 : (x == 5) = false := by simpa using h5
  have hR : R = 1 + (s1 : Int) + (s2 : Int) := by rw [← HR.out]; unfold stepI; rw [if_neg hx, if_neg h5]
  clear HR
  have HR := Lib.hid hR
  clear hR hy hx h5
  go_enter Try.func77, Try.ntmps77
  go_wp2
  go_ret
  exact ⟨ret_int (by rw [HR.out]), (Below.refl _ _).alloc (Nat.le_refl _) _⟩
end Go.Proofs.Yteigeihbokkpiaa
