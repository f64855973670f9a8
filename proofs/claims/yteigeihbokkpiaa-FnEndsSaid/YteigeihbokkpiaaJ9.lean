/- Joined texts of this proof (ImplSteps, NestBal, SpecStmt, SpecStmts, SpecCode, SpecCodeOf), in build order. -/
import Derived.Test.YteigeihbokkpiaaJ5
import Derived.Test.YteigeihbokkpiaaImplEnd
import Derived.Lib.SliceRun
import Derived.Test.YteigeihbokkpiaaJ4
import Derived.Test.YteigeihbokkpiaaJ7
import Derived.Test.YteigeihbokkpiaaJ8
/- The contracts of the program's wellNested, bodiesAt, stepsWith, stepsIn. -/
namespace Go.Proofs.Yteigeihbokkpiaa
open Go.RowKit

theorem endB_in {ss : List Stm} {k : Nat} (hk : k < ss.length) (h40 : ss.length ≤ 40) : endB ss (k : Int) = endOf ss k := by rw [endB, if_pos (by omega), Int.toNat_natCast]
set_option maxHeartbeats 1600000 in
theorem wellNested_any (a : Option Addr) (n c : Nat) (rs : List SRow) (ss : List Stm) (w : World) (h : Stmts w a n rs ss) (h40 : n ≤ 40) :
    Calls Try.prog 36 #[.slice a n c] w fun e w' => e = .returned (.bool (decide (blockOf ss 0 = (n : Int)))) ∧ Below w.heap.size w w' := by
  have HL := Lib.hid h.2.1
  obtain ⟨R, HR⟩ : ∃ R, Hid (decide (blockOf ss 0 = (n : Int)) = R) := ⟨_, rfl⟩
  rw [HR.out]
  go_enter Try.func36, Try.ntmps36
  go_wp2
  go_loopw [3] (fun i wr => ∃ k : Nat, k ≤ n ∧ i = .int .i64 (k : Int) ∧ Hid (decide (blockOf ss k = (n : Int)) = R) ∧ Below w.heap.size w wr) (fun i _ => n - (intOf i).toNat)
  case atStart => exact ⟨0, Nat.zero_le _, rfl, HR, Below.refl _ _⟩
  case round =>
    clear HR
    obtain ⟨k, hk, rfl, HR, hbel⟩ := hrel
    by_cases hlt : k < n
    case neg =>
      obtain rfl : k = n := by omega
      have hR : R = true := by rw [← HR.out, block_past (by rw [HL.out]; exact Nat.le_refl _)]; exact decide_eq_true rfl
      subst hR
      go_wp2
      go_ret
      exact ⟨rfl, hbel⟩
    have hl : k < ss.length := by rw [HL.out]; exact hlt
    obtain ⟨b, o, x, rfl, hx, hix, hc⟩ := (h.below hbel).op hlt
    by_cases hs : x = 3 ∨ x = 9 ∨ x = 4
    · have hR : R = false := by rw [← HR.out, block_stop hl (by rw [hx.out]; exact hs)]; exact decide_eq_false (by omega)
      subst hR
      have hsb : secondB x = (x == 3 || x == 9) := rfl
      rcases hs with rfl | rfl | rfl
      all_goals
        go_wp2_with (go_at_call 53; refine (startsSecond_any _ _).mono ?_; rintro e w' ⟨rfl, rfl⟩; rw [hsb])
        go_ret
        exact ⟨rfl, hbel⟩
    have hsb : secondB x = false := by rw [← Bool.not_eq_true, second_iff]; omega
    have k4 : (x == 4) = false := by simp; omega
    by_cases ho : x = 2 ∨ x = 5 ∨ x = 8
    case neg =>
      have hob : opensB x = false := by rw [← Bool.not_eq_true, opens_iff]; exact ho
      have HR2 := Lib.hid (show decide (blockOf ss (k + 1) = (n : Int)) = R by rw [← block_next hl (by rw [hx.out]; exact hs) (by rw [hx.out]; exact ho)]; exact HR.out)
      clear HR hs ho
      go_wp2_with (first | (go_at_call 53; refine (startsSecond_any _ _).mono ?_; rintro e w' ⟨rfl, rfl⟩; rw [hsb]) | (go_at_call 52; refine (opensBlock_any _ _).mono ?_; rintro e w' ⟨rfl, rfl⟩; rw [hob]))
      go_roundw
      case rel => exact ⟨k + 1, by omega, by go_num, HR2, hbel⟩
      case measure => simp [intOf]; omega
    have hob : opensB x = true := (opens_iff _).2 ho
    have hoo : opAt ss k = 2 ∨ opAt ss k = 5 ∨ opAt ss k = 8 := by rw [hx.out]; exact ho
    have hend := end_in ss hl
    have hc2 := implEndOf_any (some ⟨b, o, none⟩) n c rs ss (k : Int) wr (h.below hbel)
    rw [endB_in hl (by rw [HL.out]; exact h40)] at hc2
    have HRo := Lib.hid (fun he => block_over hl hoo he)
    have HRb := Lib.hid (fun he => block_bad hl hoo he)
    obtain ⟨⟨M, E⟩, HP⟩ : ∃ P, Hid (endOf ss k = P) := ⟨_, rfl⟩
    rw [HP.out] at hc2 hend HRo HRb
    simp only [] at hc2 HRo HRb
    have HC := Lib.hid hc2
    clear hc2 hs ho hoo
    go_wp2_with (first | (go_at_call 53; refine (startsSecond_any _ _).mono ?_; rintro e w' ⟨rfl, rfl⟩; rw [hsb]) | (go_at_call 52; refine (opensBlock_any _ _).mono ?_; rintro e w' ⟨rfl, rfl⟩; rw [hob]))
    refine HC.out.mono ?_
    rintro e w1 ⟨rfl, hb1⟩
    have hbel1 := hbel.trans (hb1.mono hbel.size)
    clear hc hb1
    by_cases hE : E < 0
    · have hR : R = false := by rw [← HR.out, HRb.out hE]; exact decide_eq_false (by omega)
      subst hR
      clear hend
      go_wp2
      go_ret
      exact ⟨rfl, hbel1⟩
    · have hin2 : (k : Int) < E ∧ E < n := by
        have := HL.out
        rcases hend with q | q
        · injection q with q1 q2; omega
        · simp only [] at q; omega
      obtain ⟨e, rfl⟩ : ∃ e : Nat, E = (e : Int) := ⟨E.toNat, by omega⟩
      have HR2 := Lib.hid (show decide (blockOf ss (e + 1) = (n : Int)) = R by rw [← HR.out, HRo.out (Int.natCast_nonneg e), Int.toNat_natCast])
      clear hend HR
      go_wp2
      go_roundw
      case rel => exact ⟨e + 1, by omega, by go_num, HR2, hbel1⟩
      case measure => simp [intOf]; omega
theorem Stmts.part {w : World} {b o n : Nat} {rs : List SRow} {ss : List Stm} (h : Stmts w (some ⟨b, o, none⟩) n rs ss) {lo hi : Nat} (h1 : lo ≤ hi) (h2 : hi ≤ n) :
    Stmts w (some ⟨b, o + lo * 4, none⟩) (hi - lo) ((rs.drop lo).take (hi - lo)) (seg ss lo hi) := by
  obtain ⟨q1, q2, q3, q4, q5⟩ := h
  have hr : ∀ i, i < hi - lo → srAt ((rs.drop lo).take (hi - lo)) i = srAt rs (lo + i) := fun i hi' => by
    unfold srAt
    rw [List.getD_eq_getElem?_getD, List.getD_eq_getElem?_getD, List.getElem?_take_of_lt hi', List.getElem?_drop]
  refine ⟨by rw [List.length_take, List.length_drop]; omega, by rw [seg_len h1 (by omega)], by omega, fun hp => ?_, fun i hi' => ?_⟩
  · obtain ⟨b', o', e, hb, hc⟩ := q4 (by omega)
    injection e with e
    injection e with e1 e2
    subst e1 e2
    refine ⟨b, o + lo * 4, rfl, hb, fun i hi' => ?_⟩
    have := hc (lo + i) (by omega)
    rw [hr i hi']
    rw [show o + lo * 4 + i * 4 = o + (lo + i) * 4 by omega]
    exact this
  · rw [hr i hi', seg_at (by omega)]
    exact q5 (lo + i) (by omega)
set_option maxHeartbeats 1600000 in
theorem bodiesAt_plain (a : Option Addr) (n c : Nat) (rs : List SRow) (ss : List Stm) (k : Nat) (w : World) (h : Stmts w a n rs ss) (h40 : n ≤ 40) (hk : k < n) (he : endOf ss k = (-1, -1)) :
    Calls Try.prog 76 #[.slice a n c, .int .i64 (k : Int)] w fun e w' => e = .returned (.tuple #[.slice none 0 0, .slice none 0 0, .int .i64 (k : Int)]) ∧ Below w.heap.size w w' := by
  have hc := implEndOf_any a n c rs ss (k : Int) w h
  rw [endB_in (by rw [h.2.1]; exact hk) (by rw [h.2.1]; exact h40), he] at hc
  simp only [] at hc
  have HC := Lib.hid hc
  clear hc he
  go_enter Try.func76, Try.ntmps76
  go_wp2_with fail
  refine HC.out.mono ?_
  rintro e w1 ⟨rfl, hb1⟩
  go_wp2
  go_ret3
  exact ⟨rfl, hb1⟩
set_option maxHeartbeats 1600000 in
theorem bodiesAt_one (b o n c : Nat) (rs : List SRow) (ss : List Stm) (k e : Nat) (w : World) (h : Stmts w (some ⟨b, o, none⟩) n rs ss) (h40 : n ≤ 40) (hcap : n ≤ c) (hk : k < n) (hke : k < e) (hen : e < n) (he : endOf ss k = (-1, (e : Int))) :
    Calls Try.prog 76 #[.slice (some ⟨b, o, none⟩) n c, .int .i64 (k : Int)] w fun ed w' => ed = .returned (.tuple #[.slice (some ⟨b, o + (k + 1) * 4, none⟩) (e - (k + 1)) (c - (k + 1)), .slice none 0 0, .int .i64 (e : Int)]) ∧ Below w.heap.size w w' := by
  have hc := implEndOf_any (some ⟨b, o, none⟩) n c rs ss (k : Int) w h
  rw [endB_in (by rw [h.2.1]; exact hk) (by rw [h.2.1]; exact h40), he] at hc
  simp only [] at hc
  have HC := Lib.hid hc
  clear hc he
  go_enter Try.func76, Try.ntmps76
  go_wp2_with fail
  refine HC.out.mono ?_
  rintro e w1 ⟨rfl, hb1⟩
  go_wp2
  go_ret3
  exact ⟨rfl, hb1⟩
set_option maxHeartbeats 1600000 in
theorem bodiesAt_two (b o n c : Nat) (rs : List SRow) (ss : List Stm) (k m e : Nat) (w : World) (h : Stmts w (some ⟨b, o, none⟩) n rs ss) (h40 : n ≤ 40) (hcap : n ≤ c) (hk : k < m) (hme : m < e) (hen : e < n) (he : endOf ss k = ((m : Int), (e : Int))) :
    Calls Try.prog 76 #[.slice (some ⟨b, o, none⟩) n c, .int .i64 (k : Int)] w fun ed w' => ed = .returned (.tuple #[.slice (some ⟨b, o + (k + 1) * 4, none⟩) (m - (k + 1)) (c - (k + 1)), .slice (some ⟨b, o + (m + 1) * 4, none⟩) (e - (m + 1)) (c - (m + 1)), .int .i64 (e : Int)]) ∧ Below w.heap.size w w' := by
  have hc := implEndOf_any (some ⟨b, o, none⟩) n c rs ss (k : Int) w h
  rw [endB_in (by rw [h.2.1]; omega) (by rw [h.2.1]; exact h40), he] at hc
  simp only [] at hc
  have HC := Lib.hid hc
  clear hc he
  go_enter Try.func76, Try.ntmps76
  go_wp2_with fail
  refine HC.out.mono ?_
  rintro e w1 ⟨rfl, hb1⟩
  go_wp2
  go_quiet (fail)
  go_wp2
  go_ret3
  exact ⟨rfl, below_dn hb1 _⟩
def stepI (x : Int) (y : Int) (s1 s2 : Int) : Int := if x = 2 then 1 + max s1 s2 else if x = 5 then 1 + y * (1 + s1) else 1 + s1 + s2
set_option maxHeartbeats 1600000 in
theorem stepsWith_any (x y : Int) (b1 b2 : Option Addr) (m1 m2 d1 d2 : Nat) (s1 s2 : Nat) (w : World) (h1 : s1 < 3656158440062976) (h2 : s2 < 3656158440062976) (hy : x = 5 → ∃ k : Nat, k ≤ 4 ∧ y = (k : Int)) :
    Calls Try.prog 77 #[.agg #[.int .i64 x, .int .i64 y, .slice b1 m1 d1, .slice b2 m2 d2], .int .i64 (s1 : Int), .int .i64 (s2 : Int)] w fun e w' => e = .returned (.int .i64 (stepI x y s1 s2)) ∧ Below w.heap.size w w' := by
  obtain ⟨R, HR⟩ : ∃ R, Hid (stepI x y (s1 : Int) (s2 : Int) = R) := ⟨_, rfl⟩
  rw [HR.out]
  by_cases hx : x = 2
  · subst hx
    have hR : R = 1 + max (s1 : Int) (s2 : Int) := by rw [← HR.out]; rfl
    clear HR
    have HR := Lib.hid hR
    clear hR hy
    by_cases hlt : s1 < s2
    · go_enter Try.func77, Try.ntmps77
      go_wp2
      go_ret
      exact ⟨ret_int (by rw [HR.out]; omega), (Below.refl _ _).alloc (Nat.le_refl _) _⟩
    · go_enter Try.func77, Try.ntmps77
      go_wp2
      go_ret
      exact ⟨ret_int (by rw [HR.out]; omega), (Below.refl _ _).alloc (Nat.le_refl _) _⟩
  have k2 : (x == 2) = false := by simpa using hx
  by_cases h5 : x = 5
  · subst h5
    obtain ⟨k, hk, rfl⟩ := hy rfl
    have hR : R = 1 + (k : Int) * (1 + (s1 : Int)) := by rw [← HR.out]; rfl
    clear HR
    obtain ⟨X, HX⟩ : ∃ X : Nat, Hid (k * (1 + s1) = X) := ⟨_, Lib.hid rfl⟩
    have hXb : X ≤ 14624633760251908 := by
      have : k * (1 + s1) ≤ 4 * (1 + s1) := Nat.mul_le_mul_right _ hk
      have := HX.out
      omega
    have hmul : (k : Int) * (1 + (s1 : Int)) = (X : Int) := by rw [← HX.out]; push_cast; rfl
    rw [hmul] at hR
    have HR := Lib.hid hR
    clear hR hy k2 hx
    go_enter Try.func77, Try.ntmps77
    go_wp2
    go_ret
    exact ⟨ret_int (by rw [HR.out]), (Below.refl _ _).alloc (Nat.le_refl _) _⟩
  have k5 : (x == 5) = false := by simpa using h5
  have hR : R = 1 + (s1 : Int) + (s2 : Int) := by rw [← HR.out]; unfold stepI; rw [if_neg hx, if_neg h5]
  clear HR
  have HR := Lib.hid hR
  clear hR hy hx h5
  go_enter Try.func77, Try.ntmps77
  go_wp2
  go_ret
  exact ⟨ret_int (by rw [HR.out]), (Below.refl _ _).alloc (Nat.le_refl _) _⟩
end Go.Proofs.Yteigeihbokkpiaa
/- Plain mathematics of nested bodies: what an end is; beginnings and ends are as many. -/
namespace Go.Proofs.Yteigeihbokkpiaa

theorem end_shape {ss : List Stm} {i : Nat} (hi : i < ss.length) (h0 : 0 ≤ (endOf ss i).2) :
    ∃ e : Nat, (endOf ss i).2 = (e : Int) ∧ i < e ∧ e < ss.length ∧ opAt ss e = 4 ∧
      (((opAt ss i = 5 ∨ opAt ss i = 2) ∧ (endOf ss i).1 = -1 ∧ blockOf ss (i + 1) = (e : Int)) ∨
       ∃ m : Nat, (endOf ss i).1 = (m : Int) ∧ i < m ∧ m < e ∧ blockOf ss (i + 1) = (m : Int) ∧ blockOf ss (m + 1) = (e : Int) ∧ ((opAt ss i = 2 ∧ opAt ss m = 3) ∨ (opAt ss i = 8 ∧ opAt ss m = 9))) := by
  have hin := end_in ss hi
  rcases hin with hbad | ⟨q1, q2, q3⟩
  · rw [hbad] at h0; simp only [] at h0; omega
  refine ⟨(endOf ss i).2.toNat, by omega, by omega, by omega, ?_⟩
  have one : ∀ z : Int, isAt ss z 4 = true → endOf ss i = (-1, z) → blockOf ss (i + 1) = z → (opAt ss i = 5 ∨ opAt ss i = 2) → opAt ss (endOf ss i).2.toNat = 4 ∧
      (((opAt ss i = 5 ∨ opAt ss i = 2) ∧ (endOf ss i).1 = -1 ∧ blockOf ss (i + 1) = ((endOf ss i).2.toNat : Int)) ∨
       ∃ m : Nat, (endOf ss i).1 = (m : Int) ∧ i < m ∧ m < (endOf ss i).2.toNat ∧ blockOf ss (i + 1) = (m : Int) ∧ blockOf ss (m + 1) = ((endOf ss i).2.toNat : Int) ∧ ((opAt ss i = 2 ∧ opAt ss m = 3) ∨ (opAt ss i = 8 ∧ opAt ss m = 9))) := by
    intro z hz he hb ho
    have := isAt_range hz
    rw [he]
    exact ⟨isAt_op hz, .inl ⟨ho, rfl, by rw [hb]; simp only []; omega⟩⟩
  have two : ∀ z y : Int, isAt ss z 4 = true → endOf ss i = (y, z) → blockOf ss (i + 1) = y → blockOf ss (y.toNat + 1) = z → (opAt ss i = 2 ∧ isAt ss y 3 = true ∨ opAt ss i = 8 ∧ isAt ss y 9 = true) → i < y.toNat → opAt ss (endOf ss i).2.toNat = 4 ∧
      (((opAt ss i = 5 ∨ opAt ss i = 2) ∧ (endOf ss i).1 = -1 ∧ blockOf ss (i + 1) = ((endOf ss i).2.toNat : Int)) ∨
       ∃ m : Nat, (endOf ss i).1 = (m : Int) ∧ i < m ∧ m < (endOf ss i).2.toNat ∧ blockOf ss (i + 1) = (m : Int) ∧ blockOf ss (m + 1) = ((endOf ss i).2.toNat : Int) ∧ ((opAt ss i = 2 ∧ opAt ss m = 3) ∨ (opAt ss i = 8 ∧ opAt ss m = 9))) := by
    intro z y hz he hb hb2 ho hiy
    have r1 := isAt_range hz
    have r2 : 0 ≤ y ∧ y < ss.length := by rcases ho with ⟨_, h⟩ | ⟨_, h⟩ <;> exact isAt_range h
    have r3 : y < z := by
      rw [he] at q3
      simp only [] at q3
      omega
    rw [he]
    refine ⟨isAt_op hz, .inr ⟨y.toNat, by simp only []; omega, hiy, by simp only []; omega, by rw [hb]; omega, by rw [hb2]; simp only []; omega, ?_⟩⟩
    rcases ho with ⟨h1, h2⟩ | ⟨h1, h2⟩
    · exact .inl ⟨h1, isAt_op h2⟩
    · exact .inr ⟨h1, isAt_op h2⟩
  have hu : endOf ss i = endOf ss i := rfl
  conv at hu => rhs; rw [endOf, if_pos hi]
  clear q1 q2
  split at hu
  · rename_i h5
    split at hu
    · rename_i h; exact one _ h hu rfl (.inl h5)
    · rw [hu] at h0; simp only [] at h0; omega
  · split at hu
    · rename_i h2
      split at hu
      · rename_i h; exact one _ h hu rfl (.inr h2)
      · split at hu
        · rename_i h
          split at hu
          · rename_i h3; exact two _ _ h3 hu rfl rfl (.inl ⟨h2, h.1⟩) h.2
          · rw [hu] at h0; simp only [] at h0; omega
        · rw [hu] at h0; simp only [] at h0; omega
    · split at hu
      · rename_i h8
        split at hu
        · rename_i h
          split at hu
          · rename_i h3; exact two _ _ h3 hu rfl rfl (.inr ⟨h8, h.1⟩) h.2
          · rw [hu] at h0; simp only [] at h0; omega
        · rw [hu] at h0; simp only [] at h0; omega
      · rw [hu] at h0; simp only [] at h0; omega

/-- What a statement adds to the count of open blocks. -/
def tilt (x : Int) : Int := if x = 2 ∨ x = 5 ∨ x = 8 then 1 else if x = 4 then -1 else 0
def bal (ss : List Stm) : Nat → Int
  | 0 => 0
  | k + 1 => bal ss k + tilt (opAt ss k)
def EndsOk (ss : List Stm) (k : Nat) : Prop := (opAt ss k = 2 ∨ opAt ss k = 5 ∨ opAt ss k = 8) → 0 ≤ (endOf ss k).2
def BalB (ss : List Stm) (i : Nat) : Prop := ∀ j : Nat, blockOf ss i = (j : Int) → bal ss j = bal ss i ∧ ∀ k, i ≤ k → k < j → EndsOk ss k
def BalE (ss : List Stm) (i : Nat) : Prop := ∀ e : Nat, (endOf ss i).2 = (e : Int) → bal ss (e + 1) = bal ss i ∧ ∀ k, i ≤ k → k ≤ e → EndsOk ss k
theorem good_not {ss : List Stm} {k : Nat} {x : Int} (h : opAt ss k = x) (h2 : x ≠ 2) (h5 : x ≠ 5) (h8 : x ≠ 8) : EndsOk ss k := fun ho => by rw [h] at ho; omega
theorem tilt_two {x : Int} (h : x = 2 ∨ x = 5 ∨ x = 8) : tilt x = 1 := if_pos h
theorem tilt_none {x : Int} (h : ¬ (x = 2 ∨ x = 5 ∨ x = 8)) (h4 : x ≠ 4) : tilt x = 0 := by rw [tilt, if_neg h, if_neg h4]
theorem tilt_four : tilt 4 = -1 := rfl
theorem balE_of {ss : List Stm} {i : Nat} (hi : i < ss.length) (hb : ∀ j, i < j → j ≤ ss.length → BalB ss j) : BalE ss i := by
  intro e he
  obtain ⟨e', h1, h2, h3, h4, h5⟩ := end_shape hi (by omega)
  obtain rfl : e = e' := by omega
  have hg : EndsOk ss i := fun _ => by omega
  have hge : EndsOk ss e := good_not h4 (by omega) (by omega) (by omega)
  rcases h5 with ⟨ho, _, hbl⟩ | ⟨m, _, hm1, hm2, hbm, hbe, ho⟩
  · obtain ⟨b1, g1⟩ := hb (i + 1) (by omega) (by omega) e hbl
    refine ⟨?_, fun k hk1 hk2 => ?_⟩
    · show bal ss e + tilt (opAt ss e) = _
      rw [b1, h4, tilt_four]
      show bal ss i + tilt (opAt ss i) + -1 = _
      rw [tilt_two (by omega)]; omega
    · rcases Nat.lt_or_ge i k with h | h
      · rcases Nat.lt_or_ge k e with h' | h'
        · exact g1 k (by omega) h'
        · obtain rfl : k = e := by omega
          exact hge
      · obtain rfl : k = i := by omega
        exact hg
  · obtain ⟨b1, g1⟩ := hb (i + 1) (by omega) (by omega) m hbm
    obtain ⟨b2, g2⟩ := hb (m + 1) (by omega) (by omega) e hbe
    have hom : opAt ss m = 3 ∨ opAt ss m = 9 := by rcases ho with h | h <;> omega
    have hgm : EndsOk ss m := fun h => by omega
    refine ⟨?_, fun k hk1 hk2 => ?_⟩
    · show bal ss e + tilt (opAt ss e) = _
      rw [b2, h4, tilt_four]
      show bal ss m + tilt (opAt ss m) + -1 = _
      rw [tilt_none (by omega) (by omega), b1]
      show bal ss i + tilt (opAt ss i) + 0 + -1 = _
      rw [tilt_two (by omega)]; omega
    · rcases Nat.lt_or_ge i k with h | h
      · rcases Nat.lt_or_ge k m with h' | h'
        · exact g1 k (by omega) h'
        · rcases Nat.lt_or_ge m k with h'' | h''
          · rcases Nat.lt_or_ge k e with h3' | h3'
            · exact g2 k (by omega) h3'
            · obtain rfl : k = e := by omega
              exact hge
          · obtain rfl : k = m := by omega
            exact hgm
      · obtain rfl : k = i := by omega
        exact hg
theorem balB_of {ss : List Stm} {i : Nat} (hi : i ≤ ss.length) (he : i < ss.length → BalE ss i) (hb : ∀ j, i < j → j ≤ ss.length → BalB ss j) : BalB ss i := by
  intro j hj
  by_cases h : i < ss.length
  · by_cases hs : opAt ss i = 3 ∨ opAt ss i = 9 ∨ opAt ss i = 4
    · rw [block_stop h hs] at hj
      obtain rfl : i = j := by omega
      exact ⟨rfl, fun k h1 h2 => by omega⟩
    · by_cases ho : opAt ss i = 2 ∨ opAt ss i = 5 ∨ opAt ss i = 8
      · by_cases h0 : 0 ≤ (endOf ss i).2
        · obtain ⟨e, h1, h2, h3, _⟩ := end_shape h h0
          obtain ⟨b1, g1⟩ := he h e h1
          rw [block_over h ho h0, h1, Int.toNat_natCast] at hj
          obtain ⟨b2, g2⟩ := hb (e + 1) (by omega) (by omega) j hj
          refine ⟨b2.trans b1, fun k hk1 hk2 => ?_⟩
          rcases Nat.lt_or_ge e k with h' | h'
          · exact g2 k (by omega) hk2
          · exact g1 k hk1 h'
        · rw [block_bad h ho (by omega)] at hj; omega
      · rw [block_next h hs ho] at hj
        obtain ⟨b2, g2⟩ := hb (i + 1) (by omega) (by omega) j hj
        refine ⟨?_, fun k hk1 hk2 => ?_⟩
        · rw [b2]
          show bal ss i + tilt (opAt ss i) = _
          rw [tilt_none ho (by omega)]; omega
        · rcases Nat.lt_or_ge i k with h' | h'
          · exact g2 k (by omega) hk2
          · obtain rfl : k = i := by omega
            exact fun h => absurd h ho
  · rw [block_past (by omega)] at hj
    obtain rfl : i = j := by omega
    exact ⟨rfl, fun k h1 h2 => by omega⟩
theorem bal_all (ss : List Stm) : ∀ (d i : Nat), ss.length - i ≤ d → i ≤ ss.length → BalB ss i ∧ (i < ss.length → BalE ss i)
  | 0, i, hd, hi => ⟨balB_of hi (fun h => absurd h (by omega)) (fun j h1 h2 => absurd h1 (by omega)), fun h => absurd h (by omega)⟩
  | d + 1, i, hd, hi => by
    have hb : ∀ j, i < j → j ≤ ss.length → BalB ss j := fun j h1 h2 => (bal_all ss d j (by omega) h2).1
    exact ⟨balB_of hi (fun h => balE_of h hb) hb, fun h => balE_of h hb⟩
/-- A well nested body: every beginning has its end, and they are as many. -/
theorem nested {ss : List Stm} (h : blockOf ss 0 = (ss.length : Int)) : bal ss ss.length = 0 ∧ ∀ k, k < ss.length → EndsOk ss k := by
  obtain ⟨b, g⟩ := (bal_all ss _ 0 (Nat.le_refl _) (Nat.zero_le _)).1 ss.length h
  exact ⟨b, fun k hk => g k (Nat.zero_le _) hk⟩
theorem end_else {ss : List Stm} {i : Nat} (h : i < ss.length) (ho : ¬ (opAt ss i = 2 ∨ opAt ss i = 5 ∨ opAt ss i = 8)) : endOf ss i = (-1, -1) := by
  rw [endOf, if_pos h, if_neg (by omega), if_neg (by omega), if_neg (by omega)]
end Go.Proofs.Yteigeihbokkpiaa
/- The contract of the model's l3Stmt (written by tools/gen_specstmt.py). -/
namespace Go.Proofs.Yteigeihbokkpiaa
open Go.RowKit

/-- Which statements bear an expression. -/
def bears (op : Int) : Bool := op == 0 || op == 1 || op == 2 || op == 6
/-- The number that a statement may bear. -/
def numOk (I T A : Nat) (op n : Int) : Bool :=
  if op = 0 then decide ((I : Int) ≤ n) && decide (n ≤ (I : Int) + (T : Int) - 1)
  else if op = 1 then decide (0 ≤ n) && decide (n ≤ (A : Int) - 1)
  else if op = 5 then decide (0 ≤ n) && decide (n ≤ 4)
  else if op = 7 ∨ op = 9 then decide (0 ≤ n) && decide (n ≤ 9)
  else n == 0
/-- A right statement, nesting apart. -/
def stmtB (S I T A : Nat) (s : Stm) : Bool :=
  (decide (0 ≤ s.op) && decide (s.op ≤ 9)) && (bears s.op == decide (0 < s.exp.length)) && ((s.op == 1) == decide (0 < s.at_.length)) &&
  (!bears s.op || bodyB S (I + T) A s.exp) && (!(s.op == 1) || bodyB S (I + T) A s.at_) && numOk I T A s.op s.n

set_option maxHeartbeats 1600000 in
theorem l3Stmt_plain (x : Int) (hx : x = 3 ∨ x = 4 ∨ x = 8) (y wd : Int) (a1 a2 a3 a4 b1 b2 : Option Addr) (n1 n2 n4 m1 m2 c1 c2 c3 c4 d1 d2 W T A : Nat) (rows : List SRow) (ts us : List Tm) (w : World)
    (hr : Lim ⟨wd, (a1, n1, c1), (a2, n2, c2), (T : Int), (a3, A, c3), (a4, n4, c4), rows⟩ W (n1 + n2) T A) (h1 : Terms w b1 m1 ts) (h2 : Terms w b2 m2 us) :
    Calls Try.prog 80 #[.agg #[.int .i64 wd, .slice a1 n1 c1, .slice a2 n2 c2, .int .i64 (T : Int), .slice a3 A c3, .slice a4 n4 c4], .agg #[.int .i64 x, .int .i64 y, .slice b1 m1 d1, .slice b2 m2 d2]] w fun e w' => e = .returned (.bool (stmtB (2 ^ W) (n1 + n2) T A ⟨x, y, ts, us⟩)) ∧ Below w.heap.size w w' := by
  have HX : Hid (∀ (w' : World) (a : Option Addr) (n c : Nat) (vs : List Tm), Terms w' a n vs → Calls Try.prog 103 #[.agg #[.int .i64 wd, .slice a1 n1 c1, .slice a2 n2 c2, .int .i64 (T : Int), .slice a3 A c3, .slice a4 n4 c4], .slice a n c] w' fun e w'' => e = .returned (.bool (bodyB (2 ^ W) (n1 + n2 + T) A vs)) ∧ Below w'.heap.size w' w'') := Lib.hid (fun w' a n c vs h' => l3Exp_any ⟨wd, (a1, n1, c1), (a2, n2, c2), (T : Int), (a3, A, c3), (a4, n4, c4), rows⟩ W (n1 + n2) T A a n c vs w' hr h')
  have hI := hr.few
  have hT := hr.fewT
  have hA := hr.fewA
  have hm1 := h1.2.1
  have hm2 := h2.2.1
  have L1 := Lib.hid h1.1
  have L2 := Lib.hid h2.1
  clear hr
  have k0 : (x == 0) = false := by simp; omega
  have k1 : (x == 1) = false := by simp; omega
  have k2 : (x == 2) = false := by simp; omega
  have k6 : (x == 6) = false := by simp; omega
  have k5 : (x == 5) = false := by simp; omega
  have k7 : (x == 7) = false := by simp; omega
  have k9 : (x == 9) = false := by simp; omega
  have hin : (decide (0 ≤ x) && decide (x ≤ 9)) = true := by simp; omega
  have hput : (x == 1) = false := k1
  have hbears : bears x = false := by simp only [bears, k0, k1, k2, k6, Bool.or_self]
  have hnum : numOk (n1 + n2) T A x y = (y == 0) := by unfold numOk; rw [if_neg (by omega), if_neg (by omega), if_neg (by omega), if_neg (by omega)]
  obtain ⟨R, HR⟩ : ∃ R, Hid (stmtB (2 ^ W) (n1 + n2) T A ⟨x, y, ts, us⟩ = R) := ⟨_, rfl⟩
  obtain ⟨X1, HX1⟩ : ∃ X1, Hid (bodyB (2 ^ W) (n1 + n2 + T) A ts = X1) := ⟨_, rfl⟩
  obtain ⟨X2, HX2⟩ : ∃ X2, Hid (bodyB (2 ^ W) (n1 + n2 + T) A us = X2) := ⟨_, rfl⟩
  have hR := HR.out
  simp only [stmtB, L1.out, L2.out, HX1.out, HX2.out] at hR
  rw [hin, hbears, hput, hnum] at hR
  have HRR := Lib.hid hR
  clear hR
  simp only [HR.out]
  clear HR
  obtain ⟨wa, HW⟩ : ∃ wa, Hid (wa = (w.alloc (.cells #[.int .i64 wd, .slice a1 n1 c1, .slice a2 n2 c2, .int .i64 (T : Int), .slice a3 A c3, .slice a4 n4 c4] 28)).alloc (.cells #[.int .i64 x, .int .i64 y, .slice b1 m1 d1, .slice b2 m2 d2] 46)) := ⟨_, rfl⟩
  have B0 : Blk wa w.heap.size 28 [.int .i64 wd, .slice a1 n1 c1, .slice a2 n2 c2, .int .i64 (T : Int), .slice a3 A c3, .slice a4 n4 c4] := by rw [HW.out]; exact (Blk.new w _ _).alloc _
  have B1 : Blk wa (w.heap.size + 1) 46 [.int .i64 x, .int .i64 y, .slice b1 m1 d1, .slice b2 m2 d2] := by rw [HW.out]; simpa using Blk.new (w.alloc _) 46 [.int .i64 x, .int .i64 y, .slice b1 m1 d1, .slice b2 m2 d2]
  have HB : Below w.heap.size w wa := by rw [HW.out]; exact ((Below.refl _ _).alloc (Nat.le_refl _) _).alloc (by simp) _
  go_enter Try.func80, Try.ntmps80
  by_cases hp2 : 0 < m2
  · have hd2 : decide ((m2 : Int) > 0) = true := by simp; omega
    go_wp2_with (go_at_call 38; refine (in_any _ _ _ _).mono ?_; rintro e w' ⟨rfl, rfl⟩; try rw [hin])
    go_ret
    exact ⟨ret_bool (by rw [← HRR.out, decide_eq_true hp2]; simp), by rw [← HW.out]; exact HB⟩
  · by_cases hp1 : 0 < m1
    · have hd2 : decide ((m2 : Int) > 0) = false := by simp; omega
      have hd1 : decide ((m1 : Int) > 0) = true := by simp; omega
      go_wp2_with (go_at_call 38; refine (in_any _ _ _ _).mono ?_; rintro e w' ⟨rfl, rfl⟩; try rw [hin])
      go_ret
      exact ⟨ret_bool (by rw [← HRR.out, decide_eq_false hp2, decide_eq_true hp1]; simp), by rw [← HW.out]; exact HB⟩
    · have hd2 : decide ((m2 : Int) > 0) = false := by simp; omega
      have hd1 : decide ((m1 : Int) > 0) = false := by simp; omega
      go_wp2_with (go_at_call 38; refine (in_any _ _ _ _).mono ?_; rintro e w' ⟨rfl, rfl⟩; try rw [hin])
      go_ret
      exact ⟨ret_bool (by rw [← HRR.out, decide_eq_false hp2, decide_eq_false hp1]; simp), by rw [← HW.out]; exact HB⟩
set_option maxHeartbeats 1600000 in
theorem l3Stmt_out (x : Int) (hx : x < 0 ∨ 9 < x) (y wd : Int) (a1 a2 a3 a4 b1 b2 : Option Addr) (n1 n2 n4 m1 m2 c1 c2 c3 c4 d1 d2 W T A : Nat) (rows : List SRow) (ts us : List Tm) (w : World)
    (hr : Lim ⟨wd, (a1, n1, c1), (a2, n2, c2), (T : Int), (a3, A, c3), (a4, n4, c4), rows⟩ W (n1 + n2) T A) (h1 : Terms w b1 m1 ts) (h2 : Terms w b2 m2 us) :
    Calls Try.prog 80 #[.agg #[.int .i64 wd, .slice a1 n1 c1, .slice a2 n2 c2, .int .i64 (T : Int), .slice a3 A c3, .slice a4 n4 c4], .agg #[.int .i64 x, .int .i64 y, .slice b1 m1 d1, .slice b2 m2 d2]] w fun e w' => e = .returned (.bool (stmtB (2 ^ W) (n1 + n2) T A ⟨x, y, ts, us⟩)) ∧ Below w.heap.size w w' := by
  have HX : Hid (∀ (w' : World) (a : Option Addr) (n c : Nat) (vs : List Tm), Terms w' a n vs → Calls Try.prog 103 #[.agg #[.int .i64 wd, .slice a1 n1 c1, .slice a2 n2 c2, .int .i64 (T : Int), .slice a3 A c3, .slice a4 n4 c4], .slice a n c] w' fun e w'' => e = .returned (.bool (bodyB (2 ^ W) (n1 + n2 + T) A vs)) ∧ Below w'.heap.size w' w'') := Lib.hid (fun w' a n c vs h' => l3Exp_any ⟨wd, (a1, n1, c1), (a2, n2, c2), (T : Int), (a3, A, c3), (a4, n4, c4), rows⟩ W (n1 + n2) T A a n c vs w' hr h')
  have hI := hr.few
  have hT := hr.fewT
  have hA := hr.fewA
  have hm1 := h1.2.1
  have hm2 := h2.2.1
  have L1 := Lib.hid h1.1
  have L2 := Lib.hid h2.1
  clear hr
  have k0 : (x == 0) = false := by simp; omega
  have k1 : (x == 1) = false := by simp; omega
  have k2 : (x == 2) = false := by simp; omega
  have k6 : (x == 6) = false := by simp; omega
  have hin : (decide (0 ≤ x) && decide (x ≤ 9)) = false := by rw [← Bool.not_eq_true]; simp; omega
  have hput : (x == 1) = false := k1
  have hbears : bears x = false := by simp only [bears, k0, k1, k2, k6, Bool.or_self]
  obtain ⟨Y, hnum⟩ : ∃ Y, numOk (n1 + n2) T A x y = Y := ⟨_, rfl⟩
  obtain ⟨R, HR⟩ : ∃ R, Hid (stmtB (2 ^ W) (n1 + n2) T A ⟨x, y, ts, us⟩ = R) := ⟨_, rfl⟩
  obtain ⟨X1, HX1⟩ : ∃ X1, Hid (bodyB (2 ^ W) (n1 + n2 + T) A ts = X1) := ⟨_, rfl⟩
  obtain ⟨X2, HX2⟩ : ∃ X2, Hid (bodyB (2 ^ W) (n1 + n2 + T) A us = X2) := ⟨_, rfl⟩
  have hR := HR.out
  simp only [stmtB, L1.out, L2.out, HX1.out, HX2.out] at hR
  rw [hin, hbears, hput, hnum] at hR
  have HRR := Lib.hid hR
  clear hR
  simp only [HR.out]
  clear HR
  obtain ⟨wa, HW⟩ : ∃ wa, Hid (wa = (w.alloc (.cells #[.int .i64 wd, .slice a1 n1 c1, .slice a2 n2 c2, .int .i64 (T : Int), .slice a3 A c3, .slice a4 n4 c4] 28)).alloc (.cells #[.int .i64 x, .int .i64 y, .slice b1 m1 d1, .slice b2 m2 d2] 46)) := ⟨_, rfl⟩
  have B0 : Blk wa w.heap.size 28 [.int .i64 wd, .slice a1 n1 c1, .slice a2 n2 c2, .int .i64 (T : Int), .slice a3 A c3, .slice a4 n4 c4] := by rw [HW.out]; exact (Blk.new w _ _).alloc _
  have B1 : Blk wa (w.heap.size + 1) 46 [.int .i64 x, .int .i64 y, .slice b1 m1 d1, .slice b2 m2 d2] := by rw [HW.out]; simpa using Blk.new (w.alloc _) 46 [.int .i64 x, .int .i64 y, .slice b1 m1 d1, .slice b2 m2 d2]
  have HB : Below w.heap.size w wa := by rw [HW.out]; exact ((Below.refl _ _).alloc (Nat.le_refl _) _).alloc (by simp) _
  go_enter Try.func80, Try.ntmps80
  go_wp2_with (go_at_call 38; refine (in_any _ _ _ _).mono ?_; rintro e w' ⟨rfl, rfl⟩; try rw [hin])
  go_ret
  exact ⟨ret_bool (by rw [← HRR.out]; simp), by rw [← HW.out]; exact HB⟩
set_option maxHeartbeats 1600000 in
theorem l3Stmt_5 (y wd : Int) (a1 a2 a3 a4 b1 b2 : Option Addr) (n1 n2 n4 m1 m2 c1 c2 c3 c4 d1 d2 W T A : Nat) (rows : List SRow) (ts us : List Tm) (w : World)
    (hr : Lim ⟨wd, (a1, n1, c1), (a2, n2, c2), (T : Int), (a3, A, c3), (a4, n4, c4), rows⟩ W (n1 + n2) T A) (h1 : Terms w b1 m1 ts) (h2 : Terms w b2 m2 us) :
    Calls Try.prog 80 #[.agg #[.int .i64 wd, .slice a1 n1 c1, .slice a2 n2 c2, .int .i64 (T : Int), .slice a3 A c3, .slice a4 n4 c4], .agg #[.int .i64 5, .int .i64 y, .slice b1 m1 d1, .slice b2 m2 d2]] w fun e w' => e = .returned (.bool (stmtB (2 ^ W) (n1 + n2) T A ⟨5, y, ts, us⟩)) ∧ Below w.heap.size w w' := by
  have HX : Hid (∀ (w' : World) (a : Option Addr) (n c : Nat) (vs : List Tm), Terms w' a n vs → Calls Try.prog 103 #[.agg #[.int .i64 wd, .slice a1 n1 c1, .slice a2 n2 c2, .int .i64 (T : Int), .slice a3 A c3, .slice a4 n4 c4], .slice a n c] w' fun e w'' => e = .returned (.bool (bodyB (2 ^ W) (n1 + n2 + T) A vs)) ∧ Below w'.heap.size w' w'') := Lib.hid (fun w' a n c vs h' => l3Exp_any ⟨wd, (a1, n1, c1), (a2, n2, c2), (T : Int), (a3, A, c3), (a4, n4, c4), rows⟩ W (n1 + n2) T A a n c vs w' hr h')
  have hI := hr.few
  have hT := hr.fewT
  have hA := hr.fewA
  have hm1 := h1.2.1
  have hm2 := h2.2.1
  have L1 := Lib.hid h1.1
  have L2 := Lib.hid h2.1
  clear hr
  have hin : (decide ((0 : Int) ≤ 5) && decide ((5 : Int) ≤ 9)) = true := rfl
  have hput : ((5 : Int) == 1) = false := rfl
  have hbears : bears 5 = false := rfl
  have hnum : numOk (n1 + n2) T A 5 y = (decide (0 ≤ y) && decide (y ≤ 4)) := rfl
  obtain ⟨R, HR⟩ : ∃ R, Hid (stmtB (2 ^ W) (n1 + n2) T A ⟨5, y, ts, us⟩ = R) := ⟨_, rfl⟩
  obtain ⟨X1, HX1⟩ : ∃ X1, Hid (bodyB (2 ^ W) (n1 + n2 + T) A ts = X1) := ⟨_, rfl⟩
  obtain ⟨X2, HX2⟩ : ∃ X2, Hid (bodyB (2 ^ W) (n1 + n2 + T) A us = X2) := ⟨_, rfl⟩
  have hR := HR.out
  simp only [stmtB, L1.out, L2.out, HX1.out, HX2.out] at hR
  rw [hin, hbears, hput, hnum] at hR
  have HRR := Lib.hid hR
  clear hR
  simp only [HR.out]
  clear HR
  obtain ⟨wa, HW⟩ : ∃ wa, Hid (wa = (w.alloc (.cells #[.int .i64 wd, .slice a1 n1 c1, .slice a2 n2 c2, .int .i64 (T : Int), .slice a3 A c3, .slice a4 n4 c4] 28)).alloc (.cells #[.int .i64 5, .int .i64 y, .slice b1 m1 d1, .slice b2 m2 d2] 46)) := ⟨_, rfl⟩
  have B0 : Blk wa w.heap.size 28 [.int .i64 wd, .slice a1 n1 c1, .slice a2 n2 c2, .int .i64 (T : Int), .slice a3 A c3, .slice a4 n4 c4] := by rw [HW.out]; exact (Blk.new w _ _).alloc _
  have B1 : Blk wa (w.heap.size + 1) 46 [.int .i64 5, .int .i64 y, .slice b1 m1 d1, .slice b2 m2 d2] := by rw [HW.out]; simpa using Blk.new (w.alloc _) 46 [.int .i64 5, .int .i64 y, .slice b1 m1 d1, .slice b2 m2 d2]
  have HB : Below w.heap.size w wa := by rw [HW.out]; exact ((Below.refl _ _).alloc (Nat.le_refl _) _).alloc (by simp) _
  go_enter Try.func80, Try.ntmps80
  by_cases hp2 : 0 < m2
  · have hd2 : decide ((m2 : Int) > 0) = true := by simp; omega
    go_wp2_with (go_at_call 38; refine (in_any _ _ _ _).mono ?_; rintro e w' ⟨rfl, rfl⟩; try rw [hin])
    go_ret
    exact ⟨ret_bool (by rw [← HRR.out, decide_eq_true hp2]; simp), by rw [← HW.out]; exact HB⟩
  · by_cases hp1 : 0 < m1
    · have hd2 : decide ((m2 : Int) > 0) = false := by simp; omega
      have hd1 : decide ((m1 : Int) > 0) = true := by simp; omega
      go_wp2_with (go_at_call 38; refine (in_any _ _ _ _).mono ?_; rintro e w' ⟨rfl, rfl⟩; try rw [hin])
      go_ret
      exact ⟨ret_bool (by rw [← HRR.out, decide_eq_false hp2, decide_eq_true hp1]; simp), by rw [← HW.out]; exact HB⟩
    · have hd2 : decide ((m2 : Int) > 0) = false := by simp; omega
      have hd1 : decide ((m1 : Int) > 0) = false := by simp; omega
      go_wp2_with (go_at_call 38; refine (in_any _ _ _ _).mono ?_; rintro e w' ⟨rfl, rfl⟩; try rw [hin])
      go_ret
      exact ⟨ret_bool (by rw [← HRR.out, decide_eq_false hp2, decide_eq_false hp1]; simp), by rw [← HW.out]; exact HB⟩
set_option maxHeartbeats 1600000 in
theorem l3Stmt_7 (y wd : Int) (a1 a2 a3 a4 b1 b2 : Option Addr) (n1 n2 n4 m1 m2 c1 c2 c3 c4 d1 d2 W T A : Nat) (rows : List SRow) (ts us : List Tm) (w : World)
    (hr : Lim ⟨wd, (a1, n1, c1), (a2, n2, c2), (T : Int), (a3, A, c3), (a4, n4, c4), rows⟩ W (n1 + n2) T A) (h1 : Terms w b1 m1 ts) (h2 : Terms w b2 m2 us) :
    Calls Try.prog 80 #[.agg #[.int .i64 wd, .slice a1 n1 c1, .slice a2 n2 c2, .int .i64 (T : Int), .slice a3 A c3, .slice a4 n4 c4], .agg #[.int .i64 7, .int .i64 y, .slice b1 m1 d1, .slice b2 m2 d2]] w fun e w' => e = .returned (.bool (stmtB (2 ^ W) (n1 + n2) T A ⟨7, y, ts, us⟩)) ∧ Below w.heap.size w w' := by
  have HX : Hid (∀ (w' : World) (a : Option Addr) (n c : Nat) (vs : List Tm), Terms w' a n vs → Calls Try.prog 103 #[.agg #[.int .i64 wd, .slice a1 n1 c1, .slice a2 n2 c2, .int .i64 (T : Int), .slice a3 A c3, .slice a4 n4 c4], .slice a n c] w' fun e w'' => e = .returned (.bool (bodyB (2 ^ W) (n1 + n2 + T) A vs)) ∧ Below w'.heap.size w' w'') := Lib.hid (fun w' a n c vs h' => l3Exp_any ⟨wd, (a1, n1, c1), (a2, n2, c2), (T : Int), (a3, A, c3), (a4, n4, c4), rows⟩ W (n1 + n2) T A a n c vs w' hr h')
  have hI := hr.few
  have hT := hr.fewT
  have hA := hr.fewA
  have hm1 := h1.2.1
  have hm2 := h2.2.1
  have L1 := Lib.hid h1.1
  have L2 := Lib.hid h2.1
  clear hr
  have hin : (decide ((0 : Int) ≤ 7) && decide ((7 : Int) ≤ 9)) = true := rfl
  have hput : ((7 : Int) == 1) = false := rfl
  have hbears : bears 7 = false := rfl
  have hnum : numOk (n1 + n2) T A 7 y = (decide (0 ≤ y) && decide (y ≤ 9)) := rfl
  obtain ⟨R, HR⟩ : ∃ R, Hid (stmtB (2 ^ W) (n1 + n2) T A ⟨7, y, ts, us⟩ = R) := ⟨_, rfl⟩
  obtain ⟨X1, HX1⟩ : ∃ X1, Hid (bodyB (2 ^ W) (n1 + n2 + T) A ts = X1) := ⟨_, rfl⟩
  obtain ⟨X2, HX2⟩ : ∃ X2, Hid (bodyB (2 ^ W) (n1 + n2 + T) A us = X2) := ⟨_, rfl⟩
  have hR := HR.out
  simp only [stmtB, L1.out, L2.out, HX1.out, HX2.out] at hR
  rw [hin, hbears, hput, hnum] at hR
  have HRR := Lib.hid hR
  clear hR
  simp only [HR.out]
  clear HR
  obtain ⟨wa, HW⟩ : ∃ wa, Hid (wa = (w.alloc (.cells #[.int .i64 wd, .slice a1 n1 c1, .slice a2 n2 c2, .int .i64 (T : Int), .slice a3 A c3, .slice a4 n4 c4] 28)).alloc (.cells #[.int .i64 7, .int .i64 y, .slice b1 m1 d1, .slice b2 m2 d2] 46)) := ⟨_, rfl⟩
  have B0 : Blk wa w.heap.size 28 [.int .i64 wd, .slice a1 n1 c1, .slice a2 n2 c2, .int .i64 (T : Int), .slice a3 A c3, .slice a4 n4 c4] := by rw [HW.out]; exact (Blk.new w _ _).alloc _
  have B1 : Blk wa (w.heap.size + 1) 46 [.int .i64 7, .int .i64 y, .slice b1 m1 d1, .slice b2 m2 d2] := by rw [HW.out]; simpa using Blk.new (w.alloc _) 46 [.int .i64 7, .int .i64 y, .slice b1 m1 d1, .slice b2 m2 d2]
  have HB : Below w.heap.size w wa := by rw [HW.out]; exact ((Below.refl _ _).alloc (Nat.le_refl _) _).alloc (by simp) _
  go_enter Try.func80, Try.ntmps80
  by_cases hp2 : 0 < m2
  · have hd2 : decide ((m2 : Int) > 0) = true := by simp; omega
    go_wp2_with (go_at_call 38; refine (in_any _ _ _ _).mono ?_; rintro e w' ⟨rfl, rfl⟩; try rw [hin])
    go_ret
    exact ⟨ret_bool (by rw [← HRR.out, decide_eq_true hp2]; simp), by rw [← HW.out]; exact HB⟩
  · by_cases hp1 : 0 < m1
    · have hd2 : decide ((m2 : Int) > 0) = false := by simp; omega
      have hd1 : decide ((m1 : Int) > 0) = true := by simp; omega
      go_wp2_with (go_at_call 38; refine (in_any _ _ _ _).mono ?_; rintro e w' ⟨rfl, rfl⟩; try rw [hin])
      go_ret
      exact ⟨ret_bool (by rw [← HRR.out, decide_eq_false hp2, decide_eq_true hp1]; simp), by rw [← HW.out]; exact HB⟩
    · have hd2 : decide ((m2 : Int) > 0) = false := by simp; omega
      have hd1 : decide ((m1 : Int) > 0) = false := by simp; omega
      go_wp2_with (go_at_call 38; refine (in_any _ _ _ _).mono ?_; rintro e w' ⟨rfl, rfl⟩; try rw [hin])
      go_ret
      exact ⟨ret_bool (by rw [← HRR.out, decide_eq_false hp2, decide_eq_false hp1]; simp), by rw [← HW.out]; exact HB⟩
set_option maxHeartbeats 1600000 in
theorem l3Stmt_9 (y wd : Int) (a1 a2 a3 a4 b1 b2 : Option Addr) (n1 n2 n4 m1 m2 c1 c2 c3 c4 d1 d2 W T A : Nat) (rows : List SRow) (ts us : List Tm) (w : World)
    (hr : Lim ⟨wd, (a1, n1, c1), (a2, n2, c2), (T : Int), (a3, A, c3), (a4, n4, c4), rows⟩ W (n1 + n2) T A) (h1 : Terms w b1 m1 ts) (h2 : Terms w b2 m2 us) :
    Calls Try.prog 80 #[.agg #[.int .i64 wd, .slice a1 n1 c1, .slice a2 n2 c2, .int .i64 (T : Int), .slice a3 A c3, .slice a4 n4 c4], .agg #[.int .i64 9, .int .i64 y, .slice b1 m1 d1, .slice b2 m2 d2]] w fun e w' => e = .returned (.bool (stmtB (2 ^ W) (n1 + n2) T A ⟨9, y, ts, us⟩)) ∧ Below w.heap.size w w' := by
  have HX : Hid (∀ (w' : World) (a : Option Addr) (n c : Nat) (vs : List Tm), Terms w' a n vs → Calls Try.prog 103 #[.agg #[.int .i64 wd, .slice a1 n1 c1, .slice a2 n2 c2, .int .i64 (T : Int), .slice a3 A c3, .slice a4 n4 c4], .slice a n c] w' fun e w'' => e = .returned (.bool (bodyB (2 ^ W) (n1 + n2 + T) A vs)) ∧ Below w'.heap.size w' w'') := Lib.hid (fun w' a n c vs h' => l3Exp_any ⟨wd, (a1, n1, c1), (a2, n2, c2), (T : Int), (a3, A, c3), (a4, n4, c4), rows⟩ W (n1 + n2) T A a n c vs w' hr h')
  have hI := hr.few
  have hT := hr.fewT
  have hA := hr.fewA
  have hm1 := h1.2.1
  have hm2 := h2.2.1
  have L1 := Lib.hid h1.1
  have L2 := Lib.hid h2.1
  clear hr
  have hin : (decide ((0 : Int) ≤ 9) && decide ((9 : Int) ≤ 9)) = true := rfl
  have hput : ((9 : Int) == 1) = false := rfl
  have hbears : bears 9 = false := rfl
  have hnum : numOk (n1 + n2) T A 9 y = (decide (0 ≤ y) && decide (y ≤ 9)) := rfl
  obtain ⟨R, HR⟩ : ∃ R, Hid (stmtB (2 ^ W) (n1 + n2) T A ⟨9, y, ts, us⟩ = R) := ⟨_, rfl⟩
  obtain ⟨X1, HX1⟩ : ∃ X1, Hid (bodyB (2 ^ W) (n1 + n2 + T) A ts = X1) := ⟨_, rfl⟩
  obtain ⟨X2, HX2⟩ : ∃ X2, Hid (bodyB (2 ^ W) (n1 + n2 + T) A us = X2) := ⟨_, rfl⟩
  have hR := HR.out
  simp only [stmtB, L1.out, L2.out, HX1.out, HX2.out] at hR
  rw [hin, hbears, hput, hnum] at hR
  have HRR := Lib.hid hR
  clear hR
  simp only [HR.out]
  clear HR
  obtain ⟨wa, HW⟩ : ∃ wa, Hid (wa = (w.alloc (.cells #[.int .i64 wd, .slice a1 n1 c1, .slice a2 n2 c2, .int .i64 (T : Int), .slice a3 A c3, .slice a4 n4 c4] 28)).alloc (.cells #[.int .i64 9, .int .i64 y, .slice b1 m1 d1, .slice b2 m2 d2] 46)) := ⟨_, rfl⟩
  have B0 : Blk wa w.heap.size 28 [.int .i64 wd, .slice a1 n1 c1, .slice a2 n2 c2, .int .i64 (T : Int), .slice a3 A c3, .slice a4 n4 c4] := by rw [HW.out]; exact (Blk.new w _ _).alloc _
  have B1 : Blk wa (w.heap.size + 1) 46 [.int .i64 9, .int .i64 y, .slice b1 m1 d1, .slice b2 m2 d2] := by rw [HW.out]; simpa using Blk.new (w.alloc _) 46 [.int .i64 9, .int .i64 y, .slice b1 m1 d1, .slice b2 m2 d2]
  have HB : Below w.heap.size w wa := by rw [HW.out]; exact ((Below.refl _ _).alloc (Nat.le_refl _) _).alloc (by simp) _
  go_enter Try.func80, Try.ntmps80
  by_cases hp2 : 0 < m2
  · have hd2 : decide ((m2 : Int) > 0) = true := by simp; omega
    go_wp2_with (go_at_call 38; refine (in_any _ _ _ _).mono ?_; rintro e w' ⟨rfl, rfl⟩; try rw [hin])
    go_ret
    exact ⟨ret_bool (by rw [← HRR.out, decide_eq_true hp2]; simp), by rw [← HW.out]; exact HB⟩
  · by_cases hp1 : 0 < m1
    · have hd2 : decide ((m2 : Int) > 0) = false := by simp; omega
      have hd1 : decide ((m1 : Int) > 0) = true := by simp; omega
      go_wp2_with (go_at_call 38; refine (in_any _ _ _ _).mono ?_; rintro e w' ⟨rfl, rfl⟩; try rw [hin])
      go_ret
      exact ⟨ret_bool (by rw [← HRR.out, decide_eq_false hp2, decide_eq_true hp1]; simp), by rw [← HW.out]; exact HB⟩
    · have hd2 : decide ((m2 : Int) > 0) = false := by simp; omega
      have hd1 : decide ((m1 : Int) > 0) = false := by simp; omega
      go_wp2_with (go_at_call 38; refine (in_any _ _ _ _).mono ?_; rintro e w' ⟨rfl, rfl⟩; try rw [hin])
      go_ret
      exact ⟨ret_bool (by rw [← HRR.out, decide_eq_false hp2, decide_eq_false hp1]; simp), by rw [← HW.out]; exact HB⟩
set_option maxHeartbeats 1600000 in
theorem l3Stmt_0 (y wd : Int) (a1 a2 a3 a4 b1 b2 : Option Addr) (n1 n2 n4 m1 m2 c1 c2 c3 c4 d1 d2 W T A : Nat) (rows : List SRow) (ts us : List Tm) (w : World)
    (hr : Lim ⟨wd, (a1, n1, c1), (a2, n2, c2), (T : Int), (a3, A, c3), (a4, n4, c4), rows⟩ W (n1 + n2) T A) (h1 : Terms w b1 m1 ts) (h2 : Terms w b2 m2 us) :
    Calls Try.prog 80 #[.agg #[.int .i64 wd, .slice a1 n1 c1, .slice a2 n2 c2, .int .i64 (T : Int), .slice a3 A c3, .slice a4 n4 c4], .agg #[.int .i64 0, .int .i64 y, .slice b1 m1 d1, .slice b2 m2 d2]] w fun e w' => e = .returned (.bool (stmtB (2 ^ W) (n1 + n2) T A ⟨0, y, ts, us⟩)) ∧ Below w.heap.size w w' := by
  have HX : Hid (∀ (w' : World) (a : Option Addr) (n c : Nat) (vs : List Tm), Terms w' a n vs → Calls Try.prog 103 #[.agg #[.int .i64 wd, .slice a1 n1 c1, .slice a2 n2 c2, .int .i64 (T : Int), .slice a3 A c3, .slice a4 n4 c4], .slice a n c] w' fun e w'' => e = .returned (.bool (bodyB (2 ^ W) (n1 + n2 + T) A vs)) ∧ Below w'.heap.size w' w'') := Lib.hid (fun w' a n c vs h' => l3Exp_any ⟨wd, (a1, n1, c1), (a2, n2, c2), (T : Int), (a3, A, c3), (a4, n4, c4), rows⟩ W (n1 + n2) T A a n c vs w' hr h')
  have hI := hr.few
  have hT := hr.fewT
  have hA := hr.fewA
  have hm1 := h1.2.1
  have hm2 := h2.2.1
  have L1 := Lib.hid h1.1
  have L2 := Lib.hid h2.1
  clear hr
  have hin : (decide ((0 : Int) ≤ 0) && decide ((0 : Int) ≤ 9)) = true := rfl
  have hput : ((0 : Int) == 1) = false := rfl
  have hbears : bears 0 = true := rfl
  have hnum : numOk (n1 + n2) T A 0 y = (decide (((n1 + n2 : Nat) : Int) ≤ y) && decide (y ≤ ((n1 + n2 : Nat) : Int) + (T : Int) - 1)) := rfl
  obtain ⟨R, HR⟩ : ∃ R, Hid (stmtB (2 ^ W) (n1 + n2) T A ⟨0, y, ts, us⟩ = R) := ⟨_, rfl⟩
  obtain ⟨X1, HX1⟩ : ∃ X1, Hid (bodyB (2 ^ W) (n1 + n2 + T) A ts = X1) := ⟨_, rfl⟩
  obtain ⟨X2, HX2⟩ : ∃ X2, Hid (bodyB (2 ^ W) (n1 + n2 + T) A us = X2) := ⟨_, rfl⟩
  have hR := HR.out
  simp only [stmtB, L1.out, L2.out, HX1.out, HX2.out] at hR
  rw [hin, hbears, hput, hnum] at hR
  have HRR := Lib.hid hR
  clear hR
  simp only [HR.out]
  clear HR
  obtain ⟨wa, HW⟩ : ∃ wa, Hid (wa = (w.alloc (.cells #[.int .i64 wd, .slice a1 n1 c1, .slice a2 n2 c2, .int .i64 (T : Int), .slice a3 A c3, .slice a4 n4 c4] 28)).alloc (.cells #[.int .i64 0, .int .i64 y, .slice b1 m1 d1, .slice b2 m2 d2] 46)) := ⟨_, rfl⟩
  have B0 : Blk wa w.heap.size 28 [.int .i64 wd, .slice a1 n1 c1, .slice a2 n2 c2, .int .i64 (T : Int), .slice a3 A c3, .slice a4 n4 c4] := by rw [HW.out]; exact (Blk.new w _ _).alloc _
  have B1 : Blk wa (w.heap.size + 1) 46 [.int .i64 0, .int .i64 y, .slice b1 m1 d1, .slice b2 m2 d2] := by rw [HW.out]; simpa using Blk.new (w.alloc _) 46 [.int .i64 0, .int .i64 y, .slice b1 m1 d1, .slice b2 m2 d2]
  have HB : Below w.heap.size w wa := by rw [HW.out]; exact ((Below.refl _ _).alloc (Nat.le_refl _) _).alloc (by simp) _
  go_enter Try.func80, Try.ntmps80
  by_cases hp2 : 0 < m2
  · by_cases hp1 : 0 < m1
    · have hd2 : decide ((m2 : Int) > 0) = true := by simp; omega
      have hd1 : decide ((m1 : Int) > 0) = true := by simp; omega
      go_wp2_with (go_at_call 38; refine (in_any _ _ _ _).mono ?_; rintro e w' ⟨rfl, rfl⟩; try rw [hin])
      go_ret
      exact ⟨ret_bool (by rw [← HRR.out, decide_eq_true hp2, decide_eq_true hp1]; simp), by rw [← HW.out]; exact HB⟩
    · have hd2 : decide ((m2 : Int) > 0) = true := by simp; omega
      have hd1 : decide ((m1 : Int) > 0) = false := by simp; omega
      go_wp2_with (go_at_call 38; refine (in_any _ _ _ _).mono ?_; rintro e w' ⟨rfl, rfl⟩; try rw [hin])
      rw [← HW.out]
      refine (HX.out _ _ _ _ _ (h2.below (Nat.le_refl _) HB)).mono ?_
      rintro e w1 ⟨rfl, hb1⟩
      have q0 := B0.below hb1 B0.lt
      have q1 := B1.below hb1 B1.lt
      have hbel := HB.trans (hb1.mono HB.size)
      rw [HX2.out]
      clear hb1 HW B0 B1 HB
      have u0 := q0.cell (j := 0) rfl
      have u1 := q0.cell (j := 1) rfl
      have u2 := q0.cell (j := 2) rfl
      have u3 := q0.cell (j := 3) rfl
      have u4 := q0.cell (j := 4) rfl
      have u5 := q0.cell (j := 5) rfl
      have v0 := q1.cell (j := 0) rfl
      have v1 := q1.cell (j := 1) rfl
      have v2 := q1.cell (j := 2) rfl
      have v3 := q1.cell (j := 3) rfl
      cases X2 with
      | false =>
        go_wp2_with fail
        go_ret
        exact ⟨ret_bool (by rw [← HRR.out, decide_eq_true hp2, decide_eq_false hp1]; simp), hbel⟩
      | true =>
        go_wp2_with (go_at_call 38; refine (in_any _ _ _ _).mono ?_; rintro e w' ⟨rfl, rfl⟩; try rw [hin])
        go_ret
        exact ⟨ret_bool (by rw [← HRR.out, decide_eq_true hp2, decide_eq_false hp1]; simp), hbel⟩
  · have hd2 : decide ((m2 : Int) > 0) = false := by simp; omega
    go_wp2_with (go_at_call 38; refine (in_any _ _ _ _).mono ?_; rintro e w' ⟨rfl, rfl⟩; try rw [hin])
    go_ret
    exact ⟨ret_bool (by rw [← HRR.out, decide_eq_false hp2]; simp), by rw [← HW.out]; exact HB⟩
set_option maxHeartbeats 1600000 in
theorem l3Stmt_2 (y wd : Int) (a1 a2 a3 a4 b1 b2 : Option Addr) (n1 n2 n4 m1 m2 c1 c2 c3 c4 d1 d2 W T A : Nat) (rows : List SRow) (ts us : List Tm) (w : World)
    (hr : Lim ⟨wd, (a1, n1, c1), (a2, n2, c2), (T : Int), (a3, A, c3), (a4, n4, c4), rows⟩ W (n1 + n2) T A) (h1 : Terms w b1 m1 ts) (h2 : Terms w b2 m2 us) :
    Calls Try.prog 80 #[.agg #[.int .i64 wd, .slice a1 n1 c1, .slice a2 n2 c2, .int .i64 (T : Int), .slice a3 A c3, .slice a4 n4 c4], .agg #[.int .i64 2, .int .i64 y, .slice b1 m1 d1, .slice b2 m2 d2]] w fun e w' => e = .returned (.bool (stmtB (2 ^ W) (n1 + n2) T A ⟨2, y, ts, us⟩)) ∧ Below w.heap.size w w' := by
  have HX : Hid (∀ (w' : World) (a : Option Addr) (n c : Nat) (vs : List Tm), Terms w' a n vs → Calls Try.prog 103 #[.agg #[.int .i64 wd, .slice a1 n1 c1, .slice a2 n2 c2, .int .i64 (T : Int), .slice a3 A c3, .slice a4 n4 c4], .slice a n c] w' fun e w'' => e = .returned (.bool (bodyB (2 ^ W) (n1 + n2 + T) A vs)) ∧ Below w'.heap.size w' w'') := Lib.hid (fun w' a n c vs h' => l3Exp_any ⟨wd, (a1, n1, c1), (a2, n2, c2), (T : Int), (a3, A, c3), (a4, n4, c4), rows⟩ W (n1 + n2) T A a n c vs w' hr h')
  have hI := hr.few
  have hT := hr.fewT
  have hA := hr.fewA
  have hm1 := h1.2.1
  have hm2 := h2.2.1
  have L1 := Lib.hid h1.1
  have L2 := Lib.hid h2.1
  clear hr
  have hin : (decide ((0 : Int) ≤ 2) && decide ((2 : Int) ≤ 9)) = true := rfl
  have hput : ((2 : Int) == 1) = false := rfl
  have hbears : bears 2 = true := rfl
  have hnum : numOk (n1 + n2) T A 2 y = (y == 0) := rfl
  obtain ⟨R, HR⟩ : ∃ R, Hid (stmtB (2 ^ W) (n1 + n2) T A ⟨2, y, ts, us⟩ = R) := ⟨_, rfl⟩
  obtain ⟨X1, HX1⟩ : ∃ X1, Hid (bodyB (2 ^ W) (n1 + n2 + T) A ts = X1) := ⟨_, rfl⟩
  obtain ⟨X2, HX2⟩ : ∃ X2, Hid (bodyB (2 ^ W) (n1 + n2 + T) A us = X2) := ⟨_, rfl⟩
  have hR := HR.out
  simp only [stmtB, L1.out, L2.out, HX1.out, HX2.out] at hR
  rw [hin, hbears, hput, hnum] at hR
  have HRR := Lib.hid hR
  clear hR
  simp only [HR.out]
  clear HR
  obtain ⟨wa, HW⟩ : ∃ wa, Hid (wa = (w.alloc (.cells #[.int .i64 wd, .slice a1 n1 c1, .slice a2 n2 c2, .int .i64 (T : Int), .slice a3 A c3, .slice a4 n4 c4] 28)).alloc (.cells #[.int .i64 2, .int .i64 y, .slice b1 m1 d1, .slice b2 m2 d2] 46)) := ⟨_, rfl⟩
  have B0 : Blk wa w.heap.size 28 [.int .i64 wd, .slice a1 n1 c1, .slice a2 n2 c2, .int .i64 (T : Int), .slice a3 A c3, .slice a4 n4 c4] := by rw [HW.out]; exact (Blk.new w _ _).alloc _
  have B1 : Blk wa (w.heap.size + 1) 46 [.int .i64 2, .int .i64 y, .slice b1 m1 d1, .slice b2 m2 d2] := by rw [HW.out]; simpa using Blk.new (w.alloc _) 46 [.int .i64 2, .int .i64 y, .slice b1 m1 d1, .slice b2 m2 d2]
  have HB : Below w.heap.size w wa := by rw [HW.out]; exact ((Below.refl _ _).alloc (Nat.le_refl _) _).alloc (by simp) _
  go_enter Try.func80, Try.ntmps80
  by_cases hp2 : 0 < m2
  · by_cases hp1 : 0 < m1
    · have hd2 : decide ((m2 : Int) > 0) = true := by simp; omega
      have hd1 : decide ((m1 : Int) > 0) = true := by simp; omega
      go_wp2_with (go_at_call 38; refine (in_any _ _ _ _).mono ?_; rintro e w' ⟨rfl, rfl⟩; try rw [hin])
      go_ret
      exact ⟨ret_bool (by rw [← HRR.out, decide_eq_true hp2, decide_eq_true hp1]; simp), by rw [← HW.out]; exact HB⟩
    · have hd2 : decide ((m2 : Int) > 0) = true := by simp; omega
      have hd1 : decide ((m1 : Int) > 0) = false := by simp; omega
      go_wp2_with (go_at_call 38; refine (in_any _ _ _ _).mono ?_; rintro e w' ⟨rfl, rfl⟩; try rw [hin])
      rw [← HW.out]
      refine (HX.out _ _ _ _ _ (h2.below (Nat.le_refl _) HB)).mono ?_
      rintro e w1 ⟨rfl, hb1⟩
      have q0 := B0.below hb1 B0.lt
      have q1 := B1.below hb1 B1.lt
      have hbel := HB.trans (hb1.mono HB.size)
      rw [HX2.out]
      clear hb1 HW B0 B1 HB
      have u0 := q0.cell (j := 0) rfl
      have u1 := q0.cell (j := 1) rfl
      have u2 := q0.cell (j := 2) rfl
      have u3 := q0.cell (j := 3) rfl
      have u4 := q0.cell (j := 4) rfl
      have u5 := q0.cell (j := 5) rfl
      have v0 := q1.cell (j := 0) rfl
      have v1 := q1.cell (j := 1) rfl
      have v2 := q1.cell (j := 2) rfl
      have v3 := q1.cell (j := 3) rfl
      cases X2 with
      | false =>
        go_wp2_with fail
        go_ret
        exact ⟨ret_bool (by rw [← HRR.out, decide_eq_true hp2, decide_eq_false hp1]; simp), hbel⟩
      | true =>
        go_wp2_with (go_at_call 38; refine (in_any _ _ _ _).mono ?_; rintro e w' ⟨rfl, rfl⟩; try rw [hin])
        go_ret
        exact ⟨ret_bool (by rw [← HRR.out, decide_eq_true hp2, decide_eq_false hp1]; simp), hbel⟩
  · have hd2 : decide ((m2 : Int) > 0) = false := by simp; omega
    go_wp2_with (go_at_call 38; refine (in_any _ _ _ _).mono ?_; rintro e w' ⟨rfl, rfl⟩; try rw [hin])
    go_ret
    exact ⟨ret_bool (by rw [← HRR.out, decide_eq_false hp2]; simp), by rw [← HW.out]; exact HB⟩
set_option maxHeartbeats 1600000 in
theorem l3Stmt_6 (y wd : Int) (a1 a2 a3 a4 b1 b2 : Option Addr) (n1 n2 n4 m1 m2 c1 c2 c3 c4 d1 d2 W T A : Nat) (rows : List SRow) (ts us : List Tm) (w : World)
    (hr : Lim ⟨wd, (a1, n1, c1), (a2, n2, c2), (T : Int), (a3, A, c3), (a4, n4, c4), rows⟩ W (n1 + n2) T A) (h1 : Terms w b1 m1 ts) (h2 : Terms w b2 m2 us) :
    Calls Try.prog 80 #[.agg #[.int .i64 wd, .slice a1 n1 c1, .slice a2 n2 c2, .int .i64 (T : Int), .slice a3 A c3, .slice a4 n4 c4], .agg #[.int .i64 6, .int .i64 y, .slice b1 m1 d1, .slice b2 m2 d2]] w fun e w' => e = .returned (.bool (stmtB (2 ^ W) (n1 + n2) T A ⟨6, y, ts, us⟩)) ∧ Below w.heap.size w w' := by
  have HX : Hid (∀ (w' : World) (a : Option Addr) (n c : Nat) (vs : List Tm), Terms w' a n vs → Calls Try.prog 103 #[.agg #[.int .i64 wd, .slice a1 n1 c1, .slice a2 n2 c2, .int .i64 (T : Int), .slice a3 A c3, .slice a4 n4 c4], .slice a n c] w' fun e w'' => e = .returned (.bool (bodyB (2 ^ W) (n1 + n2 + T) A vs)) ∧ Below w'.heap.size w' w'') := Lib.hid (fun w' a n c vs h' => l3Exp_any ⟨wd, (a1, n1, c1), (a2, n2, c2), (T : Int), (a3, A, c3), (a4, n4, c4), rows⟩ W (n1 + n2) T A a n c vs w' hr h')
  have hI := hr.few
  have hT := hr.fewT
  have hA := hr.fewA
  have hm1 := h1.2.1
  have hm2 := h2.2.1
  have L1 := Lib.hid h1.1
  have L2 := Lib.hid h2.1
  clear hr
  have hin : (decide ((0 : Int) ≤ 6) && decide ((6 : Int) ≤ 9)) = true := rfl
  have hput : ((6 : Int) == 1) = false := rfl
  have hbears : bears 6 = true := rfl
  have hnum : numOk (n1 + n2) T A 6 y = (y == 0) := rfl
  obtain ⟨R, HR⟩ : ∃ R, Hid (stmtB (2 ^ W) (n1 + n2) T A ⟨6, y, ts, us⟩ = R) := ⟨_, rfl⟩
  obtain ⟨X1, HX1⟩ : ∃ X1, Hid (bodyB (2 ^ W) (n1 + n2 + T) A ts = X1) := ⟨_, rfl⟩
  obtain ⟨X2, HX2⟩ : ∃ X2, Hid (bodyB (2 ^ W) (n1 + n2 + T) A us = X2) := ⟨_, rfl⟩
  have hR := HR.out
  simp only [stmtB, L1.out, L2.out, HX1.out, HX2.out] at hR
  rw [hin, hbears, hput, hnum] at hR
  have HRR := Lib.hid hR
  clear hR
  simp only [HR.out]
  clear HR
  obtain ⟨wa, HW⟩ : ∃ wa, Hid (wa = (w.alloc (.cells #[.int .i64 wd, .slice a1 n1 c1, .slice a2 n2 c2, .int .i64 (T : Int), .slice a3 A c3, .slice a4 n4 c4] 28)).alloc (.cells #[.int .i64 6, .int .i64 y, .slice b1 m1 d1, .slice b2 m2 d2] 46)) := ⟨_, rfl⟩
  have B0 : Blk wa w.heap.size 28 [.int .i64 wd, .slice a1 n1 c1, .slice a2 n2 c2, .int .i64 (T : Int), .slice a3 A c3, .slice a4 n4 c4] := by rw [HW.out]; exact (Blk.new w _ _).alloc _
  have B1 : Blk wa (w.heap.size + 1) 46 [.int .i64 6, .int .i64 y, .slice b1 m1 d1, .slice b2 m2 d2] := by rw [HW.out]; simpa using Blk.new (w.alloc _) 46 [.int .i64 6, .int .i64 y, .slice b1 m1 d1, .slice b2 m2 d2]
  have HB : Below w.heap.size w wa := by rw [HW.out]; exact ((Below.refl _ _).alloc (Nat.le_refl _) _).alloc (by simp) _
  go_enter Try.func80, Try.ntmps80
  by_cases hp2 : 0 < m2
  · by_cases hp1 : 0 < m1
    · have hd2 : decide ((m2 : Int) > 0) = true := by simp; omega
      have hd1 : decide ((m1 : Int) > 0) = true := by simp; omega
      go_wp2_with (go_at_call 38; refine (in_any _ _ _ _).mono ?_; rintro e w' ⟨rfl, rfl⟩; try rw [hin])
      go_ret
      exact ⟨ret_bool (by rw [← HRR.out, decide_eq_true hp2, decide_eq_true hp1]; simp), by rw [← HW.out]; exact HB⟩
    · have hd2 : decide ((m2 : Int) > 0) = true := by simp; omega
      have hd1 : decide ((m1 : Int) > 0) = false := by simp; omega
      go_wp2_with (go_at_call 38; refine (in_any _ _ _ _).mono ?_; rintro e w' ⟨rfl, rfl⟩; try rw [hin])
      rw [← HW.out]
      refine (HX.out _ _ _ _ _ (h2.below (Nat.le_refl _) HB)).mono ?_
      rintro e w1 ⟨rfl, hb1⟩
      have q0 := B0.below hb1 B0.lt
      have q1 := B1.below hb1 B1.lt
      have hbel := HB.trans (hb1.mono HB.size)
      rw [HX2.out]
      clear hb1 HW B0 B1 HB
      have u0 := q0.cell (j := 0) rfl
      have u1 := q0.cell (j := 1) rfl
      have u2 := q0.cell (j := 2) rfl
      have u3 := q0.cell (j := 3) rfl
      have u4 := q0.cell (j := 4) rfl
      have u5 := q0.cell (j := 5) rfl
      have v0 := q1.cell (j := 0) rfl
      have v1 := q1.cell (j := 1) rfl
      have v2 := q1.cell (j := 2) rfl
      have v3 := q1.cell (j := 3) rfl
      cases X2 with
      | false =>
        go_wp2_with fail
        go_ret
        exact ⟨ret_bool (by rw [← HRR.out, decide_eq_true hp2, decide_eq_false hp1]; simp), hbel⟩
      | true =>
        go_wp2_with (go_at_call 38; refine (in_any _ _ _ _).mono ?_; rintro e w' ⟨rfl, rfl⟩; try rw [hin])
        go_ret
        exact ⟨ret_bool (by rw [← HRR.out, decide_eq_true hp2, decide_eq_false hp1]; simp), hbel⟩
  · have hd2 : decide ((m2 : Int) > 0) = false := by simp; omega
    go_wp2_with (go_at_call 38; refine (in_any _ _ _ _).mono ?_; rintro e w' ⟨rfl, rfl⟩; try rw [hin])
    go_ret
    exact ⟨ret_bool (by rw [← HRR.out, decide_eq_false hp2]; simp), by rw [← HW.out]; exact HB⟩
set_option maxHeartbeats 1600000 in
theorem l3Stmt_1 (y wd : Int) (a1 a2 a3 a4 b1 b2 : Option Addr) (n1 n2 n4 m1 m2 c1 c2 c3 c4 d1 d2 W T A : Nat) (rows : List SRow) (ts us : List Tm) (w : World)
    (hr : Lim ⟨wd, (a1, n1, c1), (a2, n2, c2), (T : Int), (a3, A, c3), (a4, n4, c4), rows⟩ W (n1 + n2) T A) (h1 : Terms w b1 m1 ts) (h2 : Terms w b2 m2 us) :
    Calls Try.prog 80 #[.agg #[.int .i64 wd, .slice a1 n1 c1, .slice a2 n2 c2, .int .i64 (T : Int), .slice a3 A c3, .slice a4 n4 c4], .agg #[.int .i64 1, .int .i64 y, .slice b1 m1 d1, .slice b2 m2 d2]] w fun e w' => e = .returned (.bool (stmtB (2 ^ W) (n1 + n2) T A ⟨1, y, ts, us⟩)) ∧ Below w.heap.size w w' := by
  have HX : Hid (∀ (w' : World) (a : Option Addr) (n c : Nat) (vs : List Tm), Terms w' a n vs → Calls Try.prog 103 #[.agg #[.int .i64 wd, .slice a1 n1 c1, .slice a2 n2 c2, .int .i64 (T : Int), .slice a3 A c3, .slice a4 n4 c4], .slice a n c] w' fun e w'' => e = .returned (.bool (bodyB (2 ^ W) (n1 + n2 + T) A vs)) ∧ Below w'.heap.size w' w'') := Lib.hid (fun w' a n c vs h' => l3Exp_any ⟨wd, (a1, n1, c1), (a2, n2, c2), (T : Int), (a3, A, c3), (a4, n4, c4), rows⟩ W (n1 + n2) T A a n c vs w' hr h')
  have hI := hr.few
  have hT := hr.fewT
  have hA := hr.fewA
  have hm1 := h1.2.1
  have hm2 := h2.2.1
  have L1 := Lib.hid h1.1
  have L2 := Lib.hid h2.1
  clear hr
  have hin : (decide ((0 : Int) ≤ 1) && decide ((1 : Int) ≤ 9)) = true := rfl
  have hput : ((1 : Int) == 1) = true := rfl
  have hbears : bears 1 = true := rfl
  have hnum : numOk (n1 + n2) T A 1 y = (decide (0 ≤ y) && decide (y ≤ (A : Int) - 1)) := rfl
  obtain ⟨R, HR⟩ : ∃ R, Hid (stmtB (2 ^ W) (n1 + n2) T A ⟨1, y, ts, us⟩ = R) := ⟨_, rfl⟩
  obtain ⟨X1, HX1⟩ : ∃ X1, Hid (bodyB (2 ^ W) (n1 + n2 + T) A ts = X1) := ⟨_, rfl⟩
  obtain ⟨X2, HX2⟩ : ∃ X2, Hid (bodyB (2 ^ W) (n1 + n2 + T) A us = X2) := ⟨_, rfl⟩
  have hR := HR.out
  simp only [stmtB, L1.out, L2.out, HX1.out, HX2.out] at hR
  rw [hin, hbears, hput, hnum] at hR
  have HRR := Lib.hid hR
  clear hR
  simp only [HR.out]
  clear HR
  obtain ⟨wa, HW⟩ : ∃ wa, Hid (wa = (w.alloc (.cells #[.int .i64 wd, .slice a1 n1 c1, .slice a2 n2 c2, .int .i64 (T : Int), .slice a3 A c3, .slice a4 n4 c4] 28)).alloc (.cells #[.int .i64 1, .int .i64 y, .slice b1 m1 d1, .slice b2 m2 d2] 46)) := ⟨_, rfl⟩
  have B0 : Blk wa w.heap.size 28 [.int .i64 wd, .slice a1 n1 c1, .slice a2 n2 c2, .int .i64 (T : Int), .slice a3 A c3, .slice a4 n4 c4] := by rw [HW.out]; exact (Blk.new w _ _).alloc _
  have B1 : Blk wa (w.heap.size + 1) 46 [.int .i64 1, .int .i64 y, .slice b1 m1 d1, .slice b2 m2 d2] := by rw [HW.out]; simpa using Blk.new (w.alloc _) 46 [.int .i64 1, .int .i64 y, .slice b1 m1 d1, .slice b2 m2 d2]
  have HB : Below w.heap.size w wa := by rw [HW.out]; exact ((Below.refl _ _).alloc (Nat.le_refl _) _).alloc (by simp) _
  go_enter Try.func80, Try.ntmps80
  by_cases hp2 : 0 < m2
  · by_cases hp1 : 0 < m1
    · have hd2 : decide ((m2 : Int) > 0) = true := by simp; omega
      have hd1 : decide ((m1 : Int) > 0) = true := by simp; omega
      go_wp2_with (go_at_call 38; refine (in_any _ _ _ _).mono ?_; rintro e w' ⟨rfl, rfl⟩; try rw [hin])
      rw [← HW.out]
      refine (HX.out _ _ _ _ _ (h2.below (Nat.le_refl _) HB)).mono ?_
      rintro e w1 ⟨rfl, hb1⟩
      have q0 := B0.below hb1 B0.lt
      have q1 := B1.below hb1 B1.lt
      have hbel := HB.trans (hb1.mono HB.size)
      rw [HX2.out]
      clear hb1 HW B0 B1 HB
      have u0 := q0.cell (j := 0) rfl
      have u1 := q0.cell (j := 1) rfl
      have u2 := q0.cell (j := 2) rfl
      have u3 := q0.cell (j := 3) rfl
      have u4 := q0.cell (j := 4) rfl
      have u5 := q0.cell (j := 5) rfl
      have v0 := q1.cell (j := 0) rfl
      have v1 := q1.cell (j := 1) rfl
      have v2 := q1.cell (j := 2) rfl
      have v3 := q1.cell (j := 3) rfl
      cases X2 with
      | false =>
        go_wp2_with fail
        go_ret
        exact ⟨ret_bool (by rw [← HRR.out, decide_eq_true hp2, decide_eq_true hp1]; simp), hbel⟩
      | true =>
        go_wp2_with fail
        refine (HX.out _ _ _ _ _ (h1.below (Nat.le_refl _) hbel)).mono ?_
        rintro e w2 ⟨rfl, hb2⟩
        clear u0 u1 u2 u3 u4 u5 v0 v1 v2 v3
        have q0 := q0.below hb2 q0.lt
        have q1 := q1.below hb2 q1.lt
        have hbel := hbel.trans (hb2.mono hbel.size)
        rw [HX1.out]
        have u0 := q0.cell (j := 0) rfl
        have u1 := q0.cell (j := 1) rfl
        have u2 := q0.cell (j := 2) rfl
        have u3 := q0.cell (j := 3) rfl
        have u4 := q0.cell (j := 4) rfl
        have u5 := q0.cell (j := 5) rfl
        have v0 := q1.cell (j := 0) rfl
        have v1 := q1.cell (j := 1) rfl
        have v2 := q1.cell (j := 2) rfl
        have v3 := q1.cell (j := 3) rfl
        cases X1 with
        | false =>
          go_wp2_with fail
          go_ret
          exact ⟨ret_bool (by rw [← HRR.out, decide_eq_true hp2, decide_eq_true hp1]; simp), hbel⟩
        | true =>
          go_wp2_with (go_at_call 38; refine (in_any _ _ _ _).mono ?_; rintro e w' ⟨rfl, rfl⟩; try rw [hin])
          go_ret
          exact ⟨ret_bool (by rw [← HRR.out, decide_eq_true hp2, decide_eq_true hp1]; simp), hbel⟩
    · have hd2 : decide ((m2 : Int) > 0) = true := by simp; omega
      have hd1 : decide ((m1 : Int) > 0) = false := by simp; omega
      go_wp2_with (go_at_call 38; refine (in_any _ _ _ _).mono ?_; rintro e w' ⟨rfl, rfl⟩; try rw [hin])
      go_ret
      exact ⟨ret_bool (by rw [← HRR.out, decide_eq_true hp2, decide_eq_false hp1]; simp), by rw [← HW.out]; exact HB⟩
  · have hd2 : decide ((m2 : Int) > 0) = false := by simp; omega
    go_wp2_with (go_at_call 38; refine (in_any _ _ _ _).mono ?_; rintro e w' ⟨rfl, rfl⟩; try rw [hin])
    go_ret
    exact ⟨ret_bool (by rw [← HRR.out, decide_eq_false hp2]; simp), by rw [← HW.out]; exact HB⟩
end Go.Proofs.Yteigeihbokkpiaa
/- The contracts of the model's l3Stmt (all kinds together) and l3Stmts. -/
namespace Go.Proofs.Yteigeihbokkpiaa
open Go.RowKit

theorem l3Stmt_any (r : PRow) (W I T A : Nat) (x y : Int) (b1 b2 : Option Addr) (m1 m2 d1 d2 : Nat) (ts us : List Tm) (w : World) (hr : Lim r W I T A) (h1 : Terms w b1 m1 ts) (h2 : Terms w b2 m2 us) :
    Calls Try.prog 80 #[progV r, .agg #[.int .i64 x, .int .i64 y, .slice b1 m1 d1, .slice b2 m2 d2]] w fun e w' => e = .returned (.bool (stmtB (2 ^ W) I T A ⟨x, y, ts, us⟩)) ∧ Below w.heap.size w w' := by
  obtain ⟨wd, ⟨a1, n1, c1⟩, ⟨a2, n2, c2⟩, tp, ⟨a3, n3, c3⟩, ⟨a4, n4, c4⟩, rows⟩ := r
  have e1 := hr.inputs
  have e2 := hr.temps
  have e3 := hr.arrays
  simp only [] at e1 e2 e3
  subst e1 e2 e3
  by_cases h0 : x < 0 ∨ 9 < x
  · exact l3Stmt_out x h0 y wd a1 a2 a3 a4 b1 b2 n1 n2 n4 m1 m2 c1 c2 c3 c4 d1 d2 W T n3 rows ts us w hr h1 h2
  by_cases k : x = 3 ∨ x = 4 ∨ x = 8
  · exact l3Stmt_plain x k y wd a1 a2 a3 a4 b1 b2 n1 n2 n4 m1 m2 c1 c2 c3 c4 d1 d2 W T n3 rows ts us w hr h1 h2
  have hx : x = 0 ∨ x = 1 ∨ x = 2 ∨ x = 5 ∨ x = 6 ∨ x = 7 ∨ x = 9 := by omega
  rcases hx with rfl | rfl | rfl | rfl | rfl | rfl | rfl
  · exact l3Stmt_0 y wd a1 a2 a3 a4 b1 b2 n1 n2 n4 m1 m2 c1 c2 c3 c4 d1 d2 W T n3 rows ts us w hr h1 h2
  · exact l3Stmt_1 y wd a1 a2 a3 a4 b1 b2 n1 n2 n4 m1 m2 c1 c2 c3 c4 d1 d2 W T n3 rows ts us w hr h1 h2
  · exact l3Stmt_2 y wd a1 a2 a3 a4 b1 b2 n1 n2 n4 m1 m2 c1 c2 c3 c4 d1 d2 W T n3 rows ts us w hr h1 h2
  · exact l3Stmt_5 y wd a1 a2 a3 a4 b1 b2 n1 n2 n4 m1 m2 c1 c2 c3 c4 d1 d2 W T n3 rows ts us w hr h1 h2
  · exact l3Stmt_6 y wd a1 a2 a3 a4 b1 b2 n1 n2 n4 m1 m2 c1 c2 c3 c4 d1 d2 W T n3 rows ts us w hr h1 h2
  · exact l3Stmt_7 y wd a1 a2 a3 a4 b1 b2 n1 n2 n4 m1 m2 c1 c2 c3 c4 d1 d2 W T n3 rows ts us w hr h1 h2
  · exact l3Stmt_9 y wd a1 a2 a3 a4 b1 b2 n1 n2 n4 m1 m2 c1 c2 c3 c4 d1 d2 W T n3 rows ts us w hr h1 h2
def StTo (f : Stm → Bool) (ss : List Stm) (k : Nat) : Prop := ∀ i, i < k → f (stAt ss i) = true
theorem StTo.zero (f : Stm → Bool) (ss : List Stm) : StTo f ss 0 := fun i hi => absurd hi (by omega)
theorem StTo.succ {f : Stm → Bool} {ss : List Stm} {k : Nat} {t : Stm} (h : StTo f ss k) (hz : Hid (stAt ss k = t)) (ht : f t = true) : StTo f ss (k + 1) := by
  intro i hi
  rcases Nat.lt_or_ge i k with hlt | hge
  · exact h i hlt
  · have : i = k := by omega
    subst this; rw [hz.out]; exact ht
theorem stAt_mem {ss : List Stm} {k : Nat} (h : k < ss.length) : stAt ss k ∈ ss := by
  rw [stAt, List.getD_eq_getElem?_getD, List.getElem?_eq_getElem h]; exact List.getElem_mem h
theorem stTo_all {f : Stm → Bool} {ss : List Stm} (h : StTo f ss ss.length) : ss.all f = true := by
  rw [List.all_eq_true]
  intro z hz
  obtain ⟨i, hi, rfl⟩ := List.getElem_of_mem hz
  have := h i hi
  rw [stAt, List.getD_eq_getElem?_getD, List.getElem?_eq_getElem hi] at this
  simpa using this
theorem st_bad {f : Stm → Bool} {ss : List Stm} {k : Nat} {t : Stm} (hk : k < ss.length) (hz : Hid (stAt ss k = t)) (ht : f t = false) : ss.all f = false := by
  rw [← Bool.not_eq_true, List.all_eq_true]
  intro h
  have := h _ (stAt_mem hk)
  rw [hz.out, ht] at this
  exact absurd this (by simp)
set_option maxHeartbeats 3200000 in
theorem l3Stmts_any (r : PRow) (p : Prg) (W I T A : Nat) (w : World) (h : ProgAt w r p) (hr : Lim r W I T A) :
    Calls Try.prog 42 #[progV r] w fun e w' => e = .returned (.bool (p.body.all (stmtB (2 ^ W) I T A))) ∧ Below w.heap.size w w' := by
  have HX : Hid (∀ (x y : Int) (b1 b2 : Option Addr) (m1 m2 d1 d2 : Nat) (ts us : List Tm) (w' : World), Terms w' b1 m1 ts → Terms w' b2 m2 us → Calls Try.prog 80 #[progV r, .agg #[.int .i64 x, .int .i64 y, .slice b1 m1 d1, .slice b2 m2 d2]] w' fun e w'' => e = .returned (.bool (stmtB (2 ^ W) I T A ⟨x, y, ts, us⟩)) ∧ Below w'.heap.size w' w'') :=
    Lib.hid (fun x y b1 b2 m1 m2 d1 d2 ts us w' h1 h2 => l3Stmt_any r W I T A x y b1 b2 m1 m2 d1 d2 ts us w' hr h1 h2)
  have h4 := h.body
  clear h hr
  obtain ⟨wd, ⟨a1, n1, c1⟩, ⟨a2, n2, c2⟩, tp, ⟨a3, n3, c3⟩, ⟨a4, n4, c4⟩, rows⟩ := r
  obtain ⟨pw, pl, ps, pt, pa, pb⟩ := p
  simp only [] at h4
  obtain ⟨f, HF⟩ : ∃ f, Hid (stmtB (2 ^ W) I T A = f) := ⟨_, rfl⟩
  simp only [HF.out] at HX ⊢
  clear HF
  show Calls Try.prog 42 #[.agg #[.int .i64 wd, .slice a1 n1 c1, .slice a2 n2 c2, .int .i64 tp, .slice a3 n3 c3, .slice a4 n4 c4]] w _
  have HL := Lib.hid h4.2.1
  have hbd := h4.2.2.1
  obtain ⟨wa, HW⟩ : ∃ wa, Hid (wa = w.alloc (.cells #[.int .i64 wd, .slice a1 n1 c1, .slice a2 n2 c2, .int .i64 tp, .slice a3 n3 c3, .slice a4 n4 c4] 28)) := ⟨_, rfl⟩
  have BX : Blk wa w.heap.size 28 [.int .i64 wd, .slice a1 n1 c1, .slice a2 n2 c2, .int .i64 tp, .slice a3 n3 c3, .slice a4 n4 c4] := by rw [HW.out]; exact Blk.new w _ _
  have HB : Below w.heap.size w wa := by rw [HW.out]; exact (Below.refl _ _).alloc (Nat.le_refl _) _
  go_enter Try.func42, Try.ntmps42
  go_wp2
  rw [← HW.out]
  go_loopw [3] (fun i wr => ∃ k : Nat, k ≤ n4 ∧ i = .int .i64 (k : Int) ∧ StTo f pb k ∧ Below wa.heap.size wa wr) (fun i _ => n4 - (intOf i).toNat)
  case atStart => exact ⟨0, Nat.zero_le _, rfl, StTo.zero _ _, Below.refl _ _⟩
  case round =>
    obtain ⟨k, hk, rfl, hg, hbl⟩ := hrel
    have hbel := HB.trans (hbl.mono HB.size)
    have B1 := BX.below hbl BX.lt
    have t5 := B1.cell (j := 5) rfl
    by_cases hlt : k < n4
    · obtain ⟨b, o, x, y, p1, m1, d1, p2, m2, d2, ts, us, rfl, hb, hz, hin1, hin2, hc1, hc2, hc3, hc4, hT1, hT2⟩ := (h4.below hbel).at_ hlt
      have f1 := lat_cell hb hc1
      have f2 := lat_cell hb hc2
      have f3 := lat_cell hb hc3
      have f4 := lat_cell hb hc4
      have g0 := lat_cell B1.lt (B1.cell (j := 0) rfl)
      have g1 := lat_cell B1.lt (B1.cell (j := 1) rfl)
      have g2 := lat_cell B1.lt (B1.cell (j := 2) rfl)
      have g3 := lat_cell B1.lt (B1.cell (j := 3) rfl)
      have g4 := lat_cell B1.lt (B1.cell (j := 4) rfl)
      have g5 := lat_cell B1.lt (B1.cell (j := 5) rfl)
      clear hc1 hc2 hc3 hc4
      obtain ⟨q, HQ⟩ : ∃ q, Hid (f ⟨x, y, ts, us⟩ = q) := ⟨_, rfl⟩
      have HC : Hid (∀ p : Lat wr, Calls Try.prog 80 #[.agg #[.int .i64 wd, .slice a1 n1 c1, .slice a2 n2 c2, .int .i64 tp, .slice a3 n3 c3, .slice (some ⟨b, o, none⟩) n4 c4], .agg #[.int .i64 x, .int .i64 y, .slice p1 m1 d1, .slice p2 m2 d2]] p.wd fun e w' => e = .returned (.bool q) ∧ Below p.wd.heap.size p.wd w') := Lib.hid (fun p => by
        rw [← HQ.out]; exact HX.out _ _ _ _ _ _ _ _ _ _ _ (hT1.below (Nat.le_refl _) p.ok) (hT2.below (Nat.le_refl _) p.ok))
      clear hT1 hT2
      cases q with
      | true =>
        go_wp2
        refine wp_region_lat (by kernel_rfl) (by kernel_rfl) ?_
        repeat (go_big_quiet_step ((go_at_call 80; exact lat_calls (HC.out _))))
        refine wpQuiet_nil ?_
        intro _ hw'
        obtain ⟨⟨wq, hwq⟩, hw''⟩ := hw'
        subst hw''
        have ht := hbl.trans (hwq.mono hbl.size)
        clear f1 f2 f3 f4 g0 g1 g2 g3 g4 g5 HC t5
        go_wp2
        go_roundw
        case rel => exact ⟨k + 1, by omega, by go_num, hg.succ hz HQ.out, ht⟩
        case measure => simp [intOf]; omega
      | false =>
        go_wp2
        refine wp_region_lat (by kernel_rfl) (by kernel_rfl) ?_
        repeat (go_big_quiet_step ((go_at_call 80; exact lat_calls (HC.out _))))
        refine wpQuiet_nil ?_
        intro _ hw'
        obtain ⟨⟨wq, hwq⟩, hw''⟩ := hw'
        subst hw''
        have ht := hbl.trans (hwq.mono hbl.size)
        have ht2 := HB.trans (ht.mono HB.size)
        clear f1 f2 f3 f4 g0 g1 g2 g3 g4 g5 HC t5
        go_wp2
        go_ret
        exact ⟨ret_bool (st_bad (by rw [HL.out]; exact hlt) hz HQ.out).symm, ht2⟩
    · obtain rfl : n4 = k := by omega
      go_wp2
      go_ret
      exact ⟨ret_bool (stTo_all (by rw [HL.out]; exact hg)).symm, hbel⟩
end Go.Proofs.Yteigeihbokkpiaa
/- The contract of the model's CodeOf. -/
namespace Go.Proofs.Yteigeihbokkpiaa
open Go.RowKit

open Classical in
/-- The steps of a whole body. -/
noncomputable def stepsN (ss : List Stm) : Nat := if h : ∃ s, Steps ss 0 ss.length s then h.choose else 0
theorem stepsN_spec {ss : List Stm} (h : ∃ s, Steps ss 0 ss.length s) : Steps ss 0 ss.length (stepsN ss) := by
  unfold stepsN
  rw [dif_pos h]
  exact h.choose_spec
def inpB (p : Prg) : Bool := (inputsB (2 ^ p.width.toNat) true p.lows && inputsB (2 ^ p.width.toNat) false p.secrets) && decide (bitsTo p.lows p.lows.length + bitsTo p.secrets p.secrets.length ≤ 10)
def stmtsB (p : Prg) : Bool := p.body.all (stmtB (2 ^ p.width.toNat) (p.lows.length + p.secrets.length) p.temps.toNat p.arrays.length)
/-- What CodeOf answers. -/
noncomputable def codeB (p : Prg) : Int :=
  if ¬ (1 ≤ p.width ∧ p.width ≤ 8) then 1
  else if inpB p = false then 2
  else if roomB p = false then 3
  else if stmtsB p = false then 4
  else if blockOf p.body 0 ≠ (p.body.length : Int) then 5
  else if 400 < stepsN p.body then 6 else 0
theorem loops_ok {S I T A : Nat} {ss : List Stm} (h : ss.all (stmtB S I T A) = true) : LoopsOk ss := by
  intro i hi h5
  have := List.all_eq_true.1 h _ (stAt_mem hi)
  unfold opAt at h5
  simp only [stmtB, Bool.and_eq_true] at this
  have hn := this.2
  rw [h5] at hn
  simp only [numOk] at hn
  simp at hn
  exact ⟨(stAt ss i).n.toNat, by omega, by omega⟩
end Go.Proofs.Yteigeihbokkpiaa
/- The contract of the model's CodeOf. -/
namespace Go.Proofs.Yteigeihbokkpiaa
open Go.RowKit

set_option maxRecDepth 20000 in
set_option maxHeartbeats 3200000 in
theorem specCodeOf_any (r : PRow) (p : Prg) (w : World) (h : ProgAt w r p) :
    Calls Try.prog 13 #[progV r] w fun e w' => e = .returned (.int .i64 (codeB p)) ∧ Below w.heap.size w w' := by
  obtain ⟨Z, HZ⟩ : ∃ Z, Hid (codeB p = Z) := ⟨_, rfl⟩
  rw [HZ.out]
  have hZ := HZ.out
  unfold codeB at hZ
  by_cases hw : 1 ≤ p.width ∧ p.width ≤ 8
  case neg =>
    rw [if_pos hw] at hZ
    subst hZ
    have hin : (decide (1 ≤ p.width) && decide (p.width ≤ 8)) = false := by rw [← Bool.not_eq_true]; simpa using hw
    obtain ⟨wd, ⟨a1, n1, c1⟩, ⟨a2, n2, c2⟩, tp, ⟨a3, n3, c3⟩, ⟨a4, n4, c4⟩, rows⟩ := r
    have e1 := h.width
    simp only [] at e1
    rw [← e1] at hin
    clear e1 h hw HZ
    show Calls Try.prog 13 #[.agg #[.int .i64 wd, .slice a1 n1 c1, .slice a2 n2 c2, .int .i64 tp, .slice a3 n3 c3, .slice a4 n4 c4]] w _
    go_enter Try.func13, Try.ntmps13
    go_wp2_with (go_at_call 38; refine (in_any _ _ _ _).mono ?_; rintro e w' ⟨rfl, rfl⟩; rw [hin])
    go_ret
    exact ⟨rfl, (Below.refl _ _).alloc (Nat.le_refl _) _⟩
  rw [if_neg (by simpa using hw)] at hZ
  obtain ⟨wd, ⟨a1, n1, c1⟩, ⟨a2, n2, c2⟩, tp, ⟨a3, n3, c3⟩, ⟨a4, n4, c4⟩, rows⟩ := r
  obtain ⟨pw, pl, ps, pt, pa, pb⟩ := p
  have HPA := h
  obtain ⟨e1, e2, i1, i2, h1, h2, h3, h4⟩ := h
  simp only [] at e1 e2 i1 i2 h1 h2 h3 h4 hw
  subst e1 e2
  obtain ⟨W, rfl⟩ : ∃ W : Nat, wd = (W : Int) := ⟨wd.toNat, by omega⟩
  have hin : (decide (1 ≤ (W : Int)) && decide ((W : Int) ≤ 8)) = true := by simpa using hw
  have HIN := Lib.hid hin
  have hW8 : W ≤ 8 := by omega
  have HP := Lib.hid HPA
  have L1 := Lib.hid h1.1
  have L2 := Lib.hid h2.1
  have L3 := Lib.hid h3.1
  have L4 := Lib.hid h4.2.1
  have hm4 := h4.2.2.1
  clear HPA hin h1 h2 h3 h4 HZ
  have HZ := Lib.hid hZ
  clear hZ
  show Calls Try.prog 13 #[.agg #[.int .i64 (W : Int), .slice a1 n1 c1, .slice a2 n2 c2, .int .i64 tp, .slice a3 n3 c3, .slice a4 n4 c4]] w _
  obtain ⟨wa, HW⟩ : ∃ wa, Hid (wa = w.alloc (.cells #[.int .i64 (W : Int), .slice a1 n1 c1, .slice a2 n2 c2, .int .i64 tp, .slice a3 n3 c3, .slice a4 n4 c4] 28)) := ⟨_, rfl⟩
  have B : Blk wa w.heap.size 28 [.int .i64 (W : Int), .slice a1 n1 c1, .slice a2 n2 c2, .int .i64 tp, .slice a3 n3 c3, .slice a4 n4 c4] := by rw [HW.out]; exact Blk.new w _ _
  have HB : Below w.heap.size w wa := by rw [HW.out]; exact (Below.refl _ _).alloc (Nat.le_refl _) _
  go_enter Try.func13, Try.ntmps13
  go_wp2_with (go_at_call 38; refine (in_any _ _ _ _).mono ?_; rintro e w' ⟨rfl, rfl⟩; rw [HIN.out])
  obtain ⟨X1, H1⟩ : ∃ X1, Hid (inputsB (2 ^ W) true pl = X1) := ⟨_, rfl⟩
  obtain ⟨X2, H2⟩ : ∃ X2, Hid (inputsB (2 ^ W) false ps = X2) := ⟨_, rfl⟩
  obtain ⟨N, HN⟩ : ∃ N, Hid (bitsTo pl pl.length + bitsTo ps ps.length = N) := ⟨_, rfl⟩
  have HI : Hid (inpB ⟨(W : Int), pl, ps, tp, pa, pb⟩ = ((X1 && X2) && decide (N ≤ 10))) := Lib.hid (by simp only [inpB, Int.toNat_natCast, H1.out, H2.out, HN.out])
  rw [HI.out] at HZ
  rw [← HW.out]
  refine (l3Inputs_any ⟨(W : Int), (a1, n1, c1), (a2, n2, c2), tp, (a3, n3, c3), (a4, n4, c4), rows⟩ W _ _ _ _ _ _ rfl hW8 (HP.out.lows.below (Nat.le_refl _) HB)).mono ?_
  rintro e w1 ⟨rfl, hb1⟩
  simp only [H1.out]
  have B := B.below hb1 B.lt
  have HB := HB.trans (hb1.mono HB.size)
  clear hb1 HW
  have t0 := B.cell (j := 0) rfl
  have t1 := B.cell (j := 1) rfl
  have t2 := B.cell (j := 2) rfl
  have t3 := B.cell (j := 3) rfl
  have t4 := B.cell (j := 4) rfl
  have t5 := B.cell (j := 5) rfl
  cases X1 with
  | false =>
    have hz := HZ.out
    rw [Bool.false_and, Bool.false_and, if_pos rfl] at hz
    subst hz
    go_wp2
    go_ret
    exact ⟨rfl, HB⟩
  | true =>
  go_wp2_with fail
  refine (l3Inputs_any ⟨(W : Int), (a1, n1, c1), (a2, n2, c2), tp, (a3, n3, c3), (a4, n4, c4), rows⟩ W _ _ _ _ _ _ rfl hW8 (HP.out.secrets.below (Nat.le_refl _) HB)).mono ?_
  rintro e w2 ⟨rfl, hb2⟩
  simp only [H2.out]
  clear t0 t1 t2 t3 t4 t5
  have B := B.below hb2 B.lt
  have HB := HB.trans (hb2.mono HB.size)
  clear hb2
  have t0 := B.cell (j := 0) rfl
  have t1 := B.cell (j := 1) rfl
  have t2 := B.cell (j := 2) rfl
  have t3 := B.cell (j := 3) rfl
  have t4 := B.cell (j := 4) rfl
  have t5 := B.cell (j := 5) rfl
  cases X2 with
  | false =>
    have hz := HZ.out
    rw [Bool.and_false, Bool.false_and, if_pos rfl] at hz
    subst hz
    go_wp2
    go_ret
    exact ⟨rfl, HB⟩
  | true =>
  go_wp2_with fail
  refine (l3AllBits_any ⟨(W : Int), (a1, n1, c1), (a2, n2, c2), tp, (a3, n3, c3), (a4, n4, c4), rows⟩ ⟨(W : Int), pl, ps, tp, pa, pb⟩ _ (HP.out.below HB)).mono ?_
  rintro e w3 ⟨rfl, hb3⟩
  simp only [HN.out]
  clear t0 t1 t2 t3 t4 t5
  have B := B.below hb3 B.lt
  have HB := HB.trans (hb3.mono HB.size)
  clear hb3
  have t0 := B.cell (j := 0) rfl
  have t1 := B.cell (j := 1) rfl
  have t2 := B.cell (j := 2) rfl
  have t3 := B.cell (j := 3) rfl
  have t4 := B.cell (j := 4) rfl
  have t5 := B.cell (j := 5) rfl
  rw [Bool.and_self, Bool.true_and] at HZ
  by_cases hN : N ≤ 10
  case neg =>
    have hz := HZ.out
    rw [decide_eq_false hN, if_pos rfl] at hz
    subst hz
    have hd : decide ((N : Int) > 10) = true := by simp; omega
    go_wp2
    go_ret
    exact ⟨rfl, HB⟩
  have hd : decide ((N : Int) > 10) = false := by simp; omega
  rw [decide_eq_true hN, if_neg (by simp)] at HZ
  obtain ⟨X3, H3⟩ : ∃ X3, Hid (roomB ⟨(W : Int), pl, ps, tp, pa, pb⟩ = X3) := ⟨_, rfl⟩
  rw [H3.out] at HZ
  go_wp2_with fail
  refine (l3Room_any ⟨(W : Int), (a1, n1, c1), (a2, n2, c2), tp, (a3, n3, c3), (a4, n4, c4), rows⟩ ⟨(W : Int), pl, ps, tp, pa, pb⟩ _ (HP.out.below HB)).mono ?_
  rintro e w4 ⟨rfl, hb4⟩
  rw [H3.out]
  clear t0 t1 t2 t3 t4 t5 hd
  have B := B.below hb4 B.lt
  have HB := HB.trans (hb4.mono HB.size)
  clear hb4
  have t0 := B.cell (j := 0) rfl
  have t1 := B.cell (j := 1) rfl
  have t2 := B.cell (j := 2) rfl
  have t3 := B.cell (j := 3) rfl
  have t4 := B.cell (j := 4) rfl
  have t5 := B.cell (j := 5) rfl
  cases X3 with
  | false =>
    have hz := HZ.out
    rw [if_pos rfl] at hz
    subst hz
    go_wp2
    go_ret
    exact ⟨rfl, HB⟩
  | true =>
  rw [if_neg (by simp)] at HZ
  have hroom := H3.out
  simp only [roomB, Bool.and_eq_true, decide_eq_true_eq] at hroom
  have hl1 : n1 ≤ 3 := by have q := H1.out; simp only [inputsB, Bool.and_eq_true, decide_eq_true_eq] at q; have := L1.out; omega
  have hl2 : n2 ≤ 3 := by have q := H2.out; simp only [inputsB, Bool.and_eq_true, decide_eq_true_eq] at q; have := L2.out; omega
  have hl3 : n3 ≤ 2 := by have := L3.out; omega
  have hl4 : n4 ≤ 40 := by have := L4.out; omega
  obtain ⟨T, rfl⟩ : ∃ T : Nat, tp = (T : Int) := ⟨tp.toNat, by omega⟩
  have hT : T ≤ 6 := by omega
  have HLim := Lib.hid (show Lim ⟨(W : Int), (a1, n1, c1), (a2, n2, c2), (T : Int), (a3, n3, c3), (a4, n4, c4), rows⟩ W (n1 + n2) T n3 from ⟨rfl, hW8, rfl, by omega, rfl, by omega, rfl, by omega⟩)
  clear hroom
  obtain ⟨X4, H4⟩ : ∃ X4, Hid (pb.all (stmtB (2 ^ W) (n1 + n2) T n3) = X4) := ⟨_, rfl⟩
  have HS : Hid (stmtsB ⟨(W : Int), pl, ps, (T : Int), pa, pb⟩ = X4) := Lib.hid (by simp only [stmtsB, Int.toNat_natCast, L1.out, L2.out, L3.out, H4.out])
  rw [HS.out] at HZ
  go_wp2_with fail
  refine (l3Stmts_any _ ⟨(W : Int), pl, ps, (T : Int), pa, pb⟩ W (n1 + n2) T n3 _ (HP.out.below HB) HLim.out).mono ?_
  rintro e w5 ⟨rfl, hb5⟩
  simp only [H4.out]
  clear t0 t1 t2 t3 t4 t5
  have B := B.below hb5 B.lt
  have HB := HB.trans (hb5.mono HB.size)
  clear hb5
  have t0 := B.cell (j := 0) rfl
  have t1 := B.cell (j := 1) rfl
  have t2 := B.cell (j := 2) rfl
  have t3 := B.cell (j := 3) rfl
  have t4 := B.cell (j := 4) rfl
  have t5 := B.cell (j := 5) rfl
  cases X4 with
  | false =>
    have hz := HZ.out
    rw [if_pos rfl] at hz
    subst hz
    go_wp2
    go_ret
    exact ⟨rfl, HB⟩
  | true =>
  rw [if_neg (by simp)] at HZ
  have hlo := loops_ok H4.out
  obtain ⟨K, HK⟩ : ∃ K, Hid (blockOf pb 0 = K) := ⟨_, rfl⟩
  simp only [HK.out, L4.out] at HZ
  have hblk := l3Block_any a4 n4 c4 rows pb 0 w5 (HP.out.body.below HB) (Nat.zero_le _)
  rw [HK.out] at hblk
  have HC := Lib.hid hblk
  clear hblk
  by_cases hK : K = (n4 : Int)
  case neg =>
    have hz := HZ.out
    rw [if_pos hK] at hz
    subst hz
    have hd : (K != (n4 : Int)) = true := by simpa using hK
    go_wp2_with (go_at_call 43; refine HC.out.mono ?_; rintro e w' ⟨rfl, rfl⟩)
    go_ret
    exact ⟨rfl, HB⟩
  rw [if_neg (by simpa using hK)] at HZ
  have hex := part_steps hlo _ 0 pb.length (Nat.le_refl _) (Nat.zero_le _) (by rw [HK.out, hK, L4.out])
  have hst := stepsN_spec hex
  obtain ⟨Q, HQ⟩ : ∃ Q, Hid (stepsN pb = Q) := ⟨_, rfl⟩
  rw [HQ.out] at hst
  rw [HQ.out] at HZ
  rw [L4.out] at hst
  have HD : Hid (∀ w', Below w.heap.size w w' → Calls Try.prog 44 #[.slice a4 n4 c4, .int .i64 0, .int .i64 (n4 : Int)] w' fun e w'' => e = .returned (.int .i64 (Q : Int)) ∧ Still w' w'') := Lib.hid (fun w' hw' => l3Steps_any a4 n4 c4 rows pb 0 n4 Q w' (HP.out.body.below hw') hl4 (Nat.le_refl _) hst)
  clear hex hst hlo
  have hd : (K != (n4 : Int)) = false := by simpa using hK
  go_wp2_with (go_at_call 43; refine HC.out.mono ?_; rintro e w' ⟨rfl, rfl⟩)
  refine (HD.out _ HB).mono ?_
  rintro e w6 ⟨rfl, hs6⟩
  have HB := HB.trans (hs6.below _)
  by_cases hQ : 400 < Q
  · have hz := HZ.out
    rw [if_pos hQ] at hz
    subst hz
    have hd2 : decide ((Q : Int) > 400) = true := by simp; omega
    go_wp2
    go_ret
    exact ⟨rfl, HB⟩
  · have hz := HZ.out
    rw [if_neg hQ] at hz
    subst hz
    have hd2 : decide ((Q : Int) > 400) = false := by simp; omega
    go_wp2
    go_ret
    exact ⟨rfl, HB⟩
end Go.Proofs.Yteigeihbokkpiaa
