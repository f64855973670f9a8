/- The contract of the model's l3Stmt (written by tools/gen_specstmt.py). -/
import Derived.Test.YtdippnnhibgjoaaSpecExp
namespace Go.Proofs.Ytdippnnhibgjoaa
open Go.RowKit

/-- Which statements bear an expression. -/
def bears (op : Int) : Bool := op == 0 || op == 1 || op == 2 || op == 6
/-- The number that a statement may bear. -/
def numOk (I T A : Nat) (op n : Int) : Bool :=
  if op = 0 then decide ((I : Int) ≤ n) && decide (n ≤ (I : Int) + (T : Int) - 1)
  else if op = 1 then decide (0 ≤ n) && decide (n ≤ (A : Int) - 1)
  else if op = 5 then decide (0 ≤ n) && decide (n ≤ 4)
  else if op = 7 ∨ op = 9 then decide (0 ≤ n) && decide (n ≤ 9)
  else n == 0
/-- A right statement, nesting apart. -/
def stmtB (S I T A : Nat) (s : Stm) : Bool :=
  (decide (0 ≤ s.op) && decide (s.op ≤ 9)) && (bears s.op == decide (0 < s.exp.length)) && ((s.op == 1) == decide (0 < s.at_.length)) &&
  (!bears s.op || bodyB S (I + T) A s.exp) && (!(s.op == 1) || bodyB S (I + T) A s.at_) && numOk I T A s.op s.n

set_option maxHeartbeats 1600000 in
theorem l3Stmt_plain (x : Int) (hx : x = 3 ∨ x = 4 ∨ x = 8) (y wd : Int) (a1 a2 a3 a4 b1 b2 : Option Addr) (n1 n2 n4 m1 m2 c1 c2 c3 c4 d1 d2 W T A : Nat) (rows : List SRow) (ts us : List Tm) (w : World)
    (hr : Lim ⟨wd, (a1, n1, c1), (a2, n2, c2), (T : Int), (a3, A, c3), (a4, n4, c4), rows⟩ W (n1 + n2) T A) (h1 : Terms w b1 m1 ts) (h2 : Terms w b2 m2 us) :
    Calls Try.prog 84 #[.agg #[.int .i64 wd, .slice a1 n1 c1, .slice a2 n2 c2, .int .i64 (T : Int), .slice a3 A c3, .slice a4 n4 c4], .agg #[.int .i64 x, .int .i64 y, .slice b1 m1 d1, .slice b2 m2 d2]] w fun e w' => e = .returned (.bool (stmtB (2 ^ W) (n1 + n2) T A ⟨x, y, ts, us⟩)) ∧ Below w.heap.size w w' := by
  have HX : Hid (∀ (w' : World) (a : Option Addr) (n c : Nat) (vs : List Tm), Terms w' a n vs → Calls Try.prog 101 #[.agg #[.int .i64 wd, .slice a1 n1 c1, .slice a2 n2 c2, .int .i64 (T : Int), .slice a3 A c3, .slice a4 n4 c4], .slice a n c] w' fun e w'' => e = .returned (.bool (bodyB (2 ^ W) (n1 + n2 + T) A vs)) ∧ Below w'.heap.size w' w'') := Lib.hid (fun w' a n c vs h' => l3Exp_any ⟨wd, (a1, n1, c1), (a2, n2, c2), (T : Int), (a3, A, c3), (a4, n4, c4), rows⟩ W (n1 + n2) T A a n c vs w' hr h')
  have hI := hr.few
  have hT := hr.fewT
  have hA := hr.fewA
  have hm1 := h1.2.1
  have hm2 := h2.2.1
  have L1 := Lib.hid h1.1
  have L2 := Lib.hid h2.1
  clear hr
  have k0 : (x == 0) = false := by simp; omega
  have k1 : (x == 1) = false := by simp; omega
  have k2 : (x == 2) = false := by simp; omega
  have k6 : (x == 6) = false := by simp; omega
  have k5 : (x == 5) = false := by simp; omega
  have k7 : (x == 7) = false := by simp; omega
  have k9 : (x == 9) = false := by simp; omega
  have hin : (decide (0 ≤ x) && decide (x ≤ 9)) = true := by simp; omega
  have hput : (x == 1) = false := k1
  have hbears : bears x = false := by simp only [bears, k0, k1, k2, k6, Bool.or_self]
  have hnum : numOk (n1 + n2) T A x y = (y == 0) := by unfold numOk; rw [if_neg (by omega), if_neg (by omega), if_neg (by omega), if_neg (by omega)]
  obtain ⟨R, HR⟩ : ∃ R, Hid (stmtB (2 ^ W) (n1 + n2) T A ⟨x, y, ts, us⟩ = R) := ⟨_, rfl⟩
  obtain ⟨X1, HX1⟩ : ∃ X1, Hid (bodyB (2 ^ W) (n1 + n2 + T) A ts = X1) := ⟨_, rfl⟩
  obtain ⟨X2, HX2⟩ : ∃ X2, Hid (bodyB (2 ^ W) (n1 + n2 + T) A us = X2) := ⟨_, rfl⟩
  have hR := HR.out
  simp only [stmtB, L1.out, L2.out, HX1.out, HX2.out] at hR
  rw [hin, hbears, hput, hnum] at hR
  have HRR := Lib.hid hR
  clear hR
  simp only [HR.out]
  clear HR
  obtain ⟨wa, HW⟩ : ∃ wa, Hid (wa = (w.alloc (.cells #[.int .i64 wd, .slice a1 n1 c1, .slice a2 n2 c2, .int .i64 (T : Int), .slice a3 A c3, .slice a4 n4 c4] 31)).alloc (.cells #[.int .i64 x, .int .i64 y, .slice b1 m1 d1, .slice b2 m2 d2] 37)) := ⟨_, rfl⟩
  have B0 : Blk wa w.heap.size 31 [.int .i64 wd, .slice a1 n1 c1, .slice a2 n2 c2, .int .i64 (T : Int), .slice a3 A c3, .slice a4 n4 c4] := by rw [HW.out]; exact (Blk.new w _ _).alloc _
  have B1 : Blk wa (w.heap.size + 1) 37 [.int .i64 x, .int .i64 y, .slice b1 m1 d1, .slice b2 m2 d2] := by rw [HW.out]; simpa using Blk.new (w.alloc _) 37 [.int .i64 x, .int .i64 y, .slice b1 m1 d1, .slice b2 m2 d2]
  have HB : Below w.heap.size w wa := by rw [HW.out]; exact ((Below.refl _ _).alloc (Nat.le_refl _) _).alloc (by simp) _
  go_enter Try.func84, Try.ntmps84
  by_cases hp2 : 0 < m2
  · have hd2 : decide ((m2 : Int) > 0) = true := by simp; omega
    go_wp2_with (go_at_call 46; refine (in_any _ _ _ _).mono ?_; rintro e w' ⟨rfl, rfl⟩; try rw [hin])
    go_ret
    exact ⟨ret_bool (by rw [← HRR.out, decide_eq_true hp2]; simp), by rw [← HW.out]; exact HB⟩
  · by_cases hp1 : 0 < m1
    · have hd2 : decide ((m2 : Int) > 0) = false := by simp; omega
      have hd1 : decide ((m1 : Int) > 0) = true := by simp; omega
      go_wp2_with (go_at_call 46; refine (in_any _ _ _ _).mono ?_; rintro e w' ⟨rfl, rfl⟩; try rw [hin])
      go_ret
      exact ⟨ret_bool (by rw [← HRR.out, decide_eq_false hp2, decide_eq_true hp1]; simp), by rw [← HW.out]; exact HB⟩
    · have hd2 : decide ((m2 : Int) > 0) = false := by simp; omega
      have hd1 : decide ((m1 : Int) > 0) = false := by simp; omega
      go_wp2_with (go_at_call 46; refine (in_any _ _ _ _).mono ?_; rintro e w' ⟨rfl, rfl⟩; try rw [hin])
      go_ret
      exact ⟨ret_bool (by rw [← HRR.out, decide_eq_false hp2, decide_eq_false hp1]; simp), by rw [← HW.out]; exact HB⟩
set_option maxHeartbeats 1600000 in
theorem l3Stmt_out (x : Int) (hx : x < 0 ∨ 9 < x) (y wd : Int) (a1 a2 a3 a4 b1 b2 : Option Addr) (n1 n2 n4 m1 m2 c1 c2 c3 c4 d1 d2 W T A : Nat) (rows : List SRow) (ts us : List Tm) (w : World)
    (hr : Lim ⟨wd, (a1, n1, c1), (a2, n2, c2), (T : Int), (a3, A, c3), (a4, n4, c4), rows⟩ W (n1 + n2) T A) (h1 : Terms w b1 m1 ts) (h2 : Terms w b2 m2 us) :
    Calls Try.prog 84 #[.agg #[.int .i64 wd, .slice a1 n1 c1, .slice a2 n2 c2, .int .i64 (T : Int), .slice a3 A c3, .slice a4 n4 c4], .agg #[.int .i64 x, .int .i64 y, .slice b1 m1 d1, .slice b2 m2 d2]] w fun e w' => e = .returned (.bool (stmtB (2 ^ W) (n1 + n2) T A ⟨x, y, ts, us⟩)) ∧ Below w.heap.size w w' := by
  have HX : Hid (∀ (w' : World) (a : Option Addr) (n c : Nat) (vs : List Tm), Terms w' a n vs → Calls Try.prog 101 #[.agg #[.int .i64 wd, .slice a1 n1 c1, .slice a2 n2 c2, .int .i64 (T : Int), .slice a3 A c3, .slice a4 n4 c4], .slice a n c] w' fun e w'' => e = .returned (.bool (bodyB (2 ^ W) (n1 + n2 + T) A vs)) ∧ Below w'.heap.size w' w'') := Lib.hid (fun w' a n c vs h' => l3Exp_any ⟨wd, (a1, n1, c1), (a2, n2, c2), (T : Int), (a3, A, c3), (a4, n4, c4), rows⟩ W (n1 + n2) T A a n c vs w' hr h')
  have hI := hr.few
  have hT := hr.fewT
  have hA := hr.fewA
  have hm1 := h1.2.1
  have hm2 := h2.2.1
  have L1 := Lib.hid h1.1
  have L2 := Lib.hid h2.1
  clear hr
  have k0 : (x == 0) = false := by simp; omega
  have k1 : (x == 1) = false := by simp; omega
  have k2 : (x == 2) = false := by simp; omega
  have k6 : (x == 6) = false := by simp; omega
  have hin : (decide (0 ≤ x) && decide (x ≤ 9)) = false := by rw [← Bool.not_eq_true]; simp; omega
  have hput : (x == 1) = false := k1
  have hbears : bears x = false := by simp only [bears, k0, k1, k2, k6, Bool.or_self]
  obtain ⟨Y, hnum⟩ : ∃ Y, numOk (n1 + n2) T A x y = Y := ⟨_, rfl⟩
  obtain ⟨R, HR⟩ : ∃ R, Hid (stmtB (2 ^ W) (n1 + n2) T A ⟨x, y, ts, us⟩ = R) := ⟨_, rfl⟩
  obtain ⟨X1, HX1⟩ : ∃ X1, Hid (bodyB (2 ^ W) (n1 + n2 + T) A ts = X1) := ⟨_, rfl⟩
  obtain ⟨X2, HX2⟩ : ∃ X2, Hid (bodyB (2 ^ W) (n1 + n2 + T) A us = X2) := ⟨_, rfl⟩
  have hR := HR.out
  simp only [stmtB, L1.out, L2.out, HX1.out, HX2.out] at hR
  rw [hin, hbears, hput, hnum] at hR
  have HRR := Lib.hid hR
  clear hR
  simp only [HR.out]
  clear HR
  obtain ⟨wa, HW⟩ : ∃ wa, Hid (wa = (w.alloc (.cells #[.int .i64 wd, .slice a1 n1 c1, .slice a2 n2 c2, .int .i64 (T : Int), .slice a3 A c3, .slice a4 n4 c4] 31)).alloc (.cells #[.int .i64 x, .int .i64 y, .slice b1 m1 d1, .slice b2 m2 d2] 37)) := ⟨_, rfl⟩
  have B0 : Blk wa w.heap.size 31 [.int .i64 wd, .slice a1 n1 c1, .slice a2 n2 c2, .int .i64 (T : Int), .slice a3 A c3, .slice a4 n4 c4] := by rw [HW.out]; exact (Blk.new w _ _).alloc _
  have B1 : Blk wa (w.heap.size + 1) 37 [.int .i64 x, .int .i64 y, .slice b1 m1 d1, .slice b2 m2 d2] := by rw [HW.out]; simpa using Blk.new (w.alloc _) 37 [.int .i64 x, .int .i64 y, .slice b1 m1 d1, .slice b2 m2 d2]
  have HB : Below w.heap.size w wa := by rw [HW.out]; exact ((Below.refl _ _).alloc (Nat.le_refl _) _).alloc (by simp) _
  go_enter Try.func84, Try.ntmps84
  go_wp2_with (go_at_call 46; refine (in_any _ _ _ _).mono ?_; rintro e w' ⟨rfl, rfl⟩; try rw [hin])
  go_ret
  exact ⟨ret_bool (by rw [← HRR.out]; simp), by rw [← HW.out]; exact HB⟩
set_option maxHeartbeats 1600000 in
theorem l3Stmt_5 (y wd : Int) (a1 a2 a3 a4 b1 b2 : Option Addr) (n1 n2 n4 m1 m2 c1 c2 c3 c4 d1 d2 W T A : Nat) (rows : List SRow) (ts us : List Tm) (w : World)
    (hr : Lim ⟨wd, (a1, n1, c1), (a2, n2, c2), (T : Int), (a3, A, c3), (a4, n4, c4), rows⟩ W (n1 + n2) T A) (h1 : Terms w b1 m1 ts) (h2 : Terms w b2 m2 us) :
    Calls Try.prog 84 #[.agg #[.int .i64 wd, .slice a1 n1 c1, .slice a2 n2 c2, .int .i64 (T : Int), .slice a3 A c3, .slice a4 n4 c4], .agg #[.int .i64 5, .int .i64 y, .slice b1 m1 d1, .slice b2 m2 d2]] w fun e w' => e = .returned (.bool (stmtB (2 ^ W) (n1 + n2) T A ⟨5, y, ts, us⟩)) ∧ Below w.heap.size w w' := by
  have HX : Hid (∀ (w' : World) (a : Option Addr) (n c : Nat) (vs : List Tm), Terms w' a n vs → Calls Try.prog 101 #[.agg #[.int .i64 wd, .slice a1 n1 c1, .slice a2 n2 c2, .int .i64 (T : Int), .slice a3 A c3, .slice a4 n4 c4], .slice a n c] w' fun e w'' => e = .returned (.bool (bodyB (2 ^ W) (n1 + n2 + T) A vs)) ∧ Below w'.heap.size w' w'') := Lib.hid (fun w' a n c vs h' => l3Exp_any ⟨wd, (a1, n1, c1), (a2, n2, c2), (T : Int), (a3, A, c3), (a4, n4, c4), rows⟩ W (n1 + n2) T A a n c vs w' hr h')
  have hI := hr.few
  have hT := hr.fewT
  have hA := hr.fewA
  have hm1 := h1.2.1
  have hm2 := h2.2.1
  have L1 := Lib.hid h1.1
  have L2 := Lib.hid h2.1
  clear hr
  have hin : (decide ((0 : Int) ≤ 5) && decide ((5 : Int) ≤ 9)) = true := rfl
  have hput : ((5 : Int) == 1) = false := rfl
  have hbears : bears 5 = false := rfl
  have hnum : numOk (n1 + n2) T A 5 y = (decide (0 ≤ y) && decide (y ≤ 4)) := rfl
  obtain ⟨R, HR⟩ : ∃ R, Hid (stmtB (2 ^ W) (n1 + n2) T A ⟨5, y, ts, us⟩ = R) := ⟨_, rfl⟩
  obtain ⟨X1, HX1⟩ : ∃ X1, Hid (bodyB (2 ^ W) (n1 + n2 + T) A ts = X1) := ⟨_, rfl⟩
  obtain ⟨X2, HX2⟩ : ∃ X2, Hid (bodyB (2 ^ W) (n1 + n2 + T) A us = X2) := ⟨_, rfl⟩
  have hR := HR.out
  simp only [stmtB, L1.out, L2.out, HX1.out, HX2.out] at hR
  rw [hin, hbears, hput, hnum] at hR
  have HRR := Lib.hid hR
  clear hR
  simp only [HR.out]
  clear HR
  obtain ⟨wa, HW⟩ : ∃ wa, Hid (wa = (w.alloc (.cells #[.int .i64 wd, .slice a1 n1 c1, .slice a2 n2 c2, .int .i64 (T : Int), .slice a3 A c3, .slice a4 n4 c4] 31)).alloc (.cells #[.int .i64 5, .int .i64 y, .slice b1 m1 d1, .slice b2 m2 d2] 37)) := ⟨_, rfl⟩
  have B0 : Blk wa w.heap.size 31 [.int .i64 wd, .slice a1 n1 c1, .slice a2 n2 c2, .int .i64 (T : Int), .slice a3 A c3, .slice a4 n4 c4] := by rw [HW.out]; exact (Blk.new w _ _).alloc _
  have B1 : Blk wa (w.heap.size + 1) 37 [.int .i64 5, .int .i64 y, .slice b1 m1 d1, .slice b2 m2 d2] := by rw [HW.out]; simpa using Blk.new (w.alloc _) 37 [.int .i64 5, .int .i64 y, .slice b1 m1 d1, .slice b2 m2 d2]
  have HB : Below w.heap.size w wa := by rw [HW.out]; exact ((Below.refl _ _).alloc (Nat.le_refl _) _).alloc (by simp) _
  go_enter Try.func84, Try.ntmps84
  by_cases hp2 : 0 < m2
  · have hd2 : decide ((m2 : Int) > 0) = true := by simp; omega
    go_wp2_with (go_at_call 46; refine (in_any _ _ _ _).mono ?_; rintro e w' ⟨rfl, rfl⟩; try rw [hin])
    go_ret
    exact ⟨ret_bool (by rw [← HRR.out, decide_eq_true hp2]; simp), by rw [← HW.out]; exact HB⟩
  · by_cases hp1 : 0 < m1
    · have hd2 : decide ((m2 : Int) > 0) = false := by simp; omega
      have hd1 : decide ((m1 : Int) > 0) = true := by simp; omega
      go_wp2_with (go_at_call 46; refine (in_any _ _ _ _).mono ?_; rintro e w' ⟨rfl, rfl⟩; try rw [hin])
      go_ret
      exact ⟨ret_bool (by rw [← HRR.out, decide_eq_false hp2, decide_eq_true hp1]; simp), by rw [← HW.out]; exact HB⟩
    · have hd2 : decide ((m2 : Int) > 0) = false := by simp; omega
      have hd1 : decide ((m1 : Int) > 0) = false := by simp; omega
      go_wp2_with (go_at_call 46; refine (in_any _ _ _ _).mono ?_; rintro e w' ⟨rfl, rfl⟩; try rw [hin])
      go_ret
      exact ⟨ret_bool (by rw [← HRR.out, decide_eq_false hp2, decide_eq_false hp1]; simp), by rw [← HW.out]; exact HB⟩
set_option maxHeartbeats 1600000 in
theorem l3Stmt_7 (y wd : Int) (a1 a2 a3 a4 b1 b2 : Option Addr) (n1 n2 n4 m1 m2 c1 c2 c3 c4 d1 d2 W T A : Nat) (rows : List SRow) (ts us : List Tm) (w : World)
    (hr : Lim ⟨wd, (a1, n1, c1), (a2, n2, c2), (T : Int), (a3, A, c3), (a4, n4, c4), rows⟩ W (n1 + n2) T A) (h1 : Terms w b1 m1 ts) (h2 : Terms w b2 m2 us) :
    Calls Try.prog 84 #[.agg #[.int .i64 wd, .slice a1 n1 c1, .slice a2 n2 c2, .int .i64 (T : Int), .slice a3 A c3, .slice a4 n4 c4], .agg #[.int .i64 7, .int .i64 y, .slice b1 m1 d1, .slice b2 m2 d2]] w fun e w' => e = .returned (.bool (stmtB (2 ^ W) (n1 + n2) T A ⟨7, y, ts, us⟩)) ∧ Below w.heap.size w w' := by
  have HX : Hid (∀ (w' : World) (a : Option Addr) (n c : Nat) (vs : List Tm), Terms w' a n vs → Calls Try.prog 101 #[.agg #[.int .i64 wd, .slice a1 n1 c1, .slice a2 n2 c2, .int .i64 (T : Int), .slice a3 A c3, .slice a4 n4 c4], .slice a n c] w' fun e w'' => e = .returned (.bool (bodyB (2 ^ W) (n1 + n2 + T) A vs)) ∧ Below w'.heap.size w' w'') := Lib.hid (fun w' a n c vs h' => l3Exp_any ⟨wd, (a1, n1, c1), (a2, n2, c2), (T : Int), (a3, A, c3), (a4, n4, c4), rows⟩ W (n1 + n2) T A a n c vs w' hr h')
  have hI := hr.few
  have hT := hr.fewT
  have hA := hr.fewA
  have hm1 := h1.2.1
  have hm2 := h2.2.1
  have L1 := Lib.hid h1.1
  have L2 := Lib.hid h2.1
  clear hr
  have hin : (decide ((0 : Int) ≤ 7) && decide ((7 : Int) ≤ 9)) = true := rfl
  have hput : ((7 : Int) == 1) = false := rfl
  have hbears : bears 7 = false := rfl
  have hnum : numOk (n1 + n2) T A 7 y = (decide (0 ≤ y) && decide (y ≤ 9)) := rfl
  obtain ⟨R, HR⟩ : ∃ R, Hid (stmtB (2 ^ W) (n1 + n2) T A ⟨7, y, ts, us⟩ = R) := ⟨_, rfl⟩
  obtain ⟨X1, HX1⟩ : ∃ X1, Hid (bodyB (2 ^ W) (n1 + n2 + T) A ts = X1) := ⟨_, rfl⟩
  obtain ⟨X2, HX2⟩ : ∃ X2, Hid (bodyB (2 ^ W) (n1 + n2 + T) A us = X2) := ⟨_, rfl⟩
  have hR := HR.out
  simp only [stmtB, L1.out, L2.out, HX1.out, HX2.out] at hR
  rw [hin, hbears, hput, hnum] at hR
  have HRR := Lib.hid hR
  clear hR
  simp only [HR.out]
  clear HR
  obtain ⟨wa, HW⟩ : ∃ wa, Hid (wa = (w.alloc (.cells #[.int .i64 wd, .slice a1 n1 c1, .slice a2 n2 c2, .int .i64 (T : Int), .slice a3 A c3, .slice a4 n4 c4] 31)).alloc (.cells #[.int .i64 7, .int .i64 y, .slice b1 m1 d1, .slice b2 m2 d2] 37)) := ⟨_, rfl⟩
  have B0 : Blk wa w.heap.size 31 [.int .i64 wd, .slice a1 n1 c1, .slice a2 n2 c2, .int .i64 (T : Int), .slice a3 A c3, .slice a4 n4 c4] := by rw [HW.out]; exact (Blk.new w _ _).alloc _
  have B1 : Blk wa (w.heap.size + 1) 37 [.int .i64 7, .int .i64 y, .slice b1 m1 d1, .slice b2 m2 d2] := by rw [HW.out]; simpa using Blk.new (w.alloc _) 37 [.int .i64 7, .int .i64 y, .slice b1 m1 d1, .slice b2 m2 d2]
  have HB : Below w.heap.size w wa := by rw [HW.out]; exact ((Below.refl _ _).alloc (Nat.le_refl _) _).alloc (by simp) _
  go_enter Try.func84, Try.ntmps84
  by_cases hp2 : 0 < m2
  · have hd2 : decide ((m2 : Int) > 0) = true := by simp; omega
    go_wp2_with (go_at_call 46; refine (in_any _ _ _ _).mono ?_; rintro e w' ⟨rfl, rfl⟩; try rw [hin])
    go_ret
    exact ⟨ret_bool (by rw [← HRR.out, decide_eq_true hp2]; simp), by rw [← HW.out]; exact HB⟩
  · by_cases hp1 : 0 < m1
    · have hd2 : decide ((m2 : Int) > 0) = false := by simp; omega
      have hd1 : decide ((m1 : Int) > 0) = true := by simp; omega
      go_wp2_with (go_at_call 46; refine (in_any _ _ _ _).mono ?_; rintro e w' ⟨rfl, rfl⟩; try rw [hin])
      go_ret
      exact ⟨ret_bool (by rw [← HRR.out, decide_eq_false hp2, decide_eq_true hp1]; simp), by rw [← HW.out]; exact HB⟩
    · have hd2 : decide ((m2 : Int) > 0) = false := by simp; omega
      have hd1 : decide ((m1 : Int) > 0) = false := by simp; omega
      go_wp2_with (go_at_call 46; refine (in_any _ _ _ _).mono ?_; rintro e w' ⟨rfl, rfl⟩; try rw [hin])
      go_ret
      exact ⟨ret_bool (by rw [← HRR.out, decide_eq_false hp2, decide_eq_false hp1]; simp), by rw [← HW.out]; exact HB⟩
set_option maxHeartbeats 1600000 in
theorem l3Stmt_9 (y wd : Int) (a1 a2 a3 a4 b1 b2 : Option Addr) (n1 n2 n4 m1 m2 c1 c2 c3 c4 d1 d2 W T A : Nat) (rows : List SRow) (ts us : List Tm) (w : World)
    (hr : Lim ⟨wd, (a1, n1, c1), (a2, n2, c2), (T : Int), (a3, A, c3), (a4, n4, c4), rows⟩ W (n1 + n2) T A) (h1 : Terms w b1 m1 ts) (h2 : Terms w b2 m2 us) :
    Calls Try.prog 84 #[.agg #[.int .i64 wd, .slice a1 n1 c1, .slice a2 n2 c2, .int .i64 (T : Int), .slice a3 A c3, .slice a4 n4 c4], .agg #[.int .i64 9, .int .i64 y, .slice b1 m1 d1, .slice b2 m2 d2]] w fun e w' => e = .returned (.bool (stmtB (2 ^ W) (n1 + n2) T A ⟨9, y, ts, us⟩)) ∧ Below w.heap.size w w' := by
  have HX : Hid (∀ (w' : World) (a : Option Addr) (n c : Nat) (vs : List Tm), Terms w' a n vs → Calls Try.prog 101 #[.agg #[.int .i64 wd, .slice a1 n1 c1, .slice a2 n2 c2, .int .i64 (T : Int), .slice a3 A c3, .slice a4 n4 c4], .slice a n c] w' fun e w'' => e = .returned (.bool (bodyB (2 ^ W) (n1 + n2 + T) A vs)) ∧ Below w'.heap.size w' w'') := Lib.hid (fun w' a n c vs h' => l3Exp_any ⟨wd, (a1, n1, c1), (a2, n2, c2), (T : Int), (a3, A, c3), (a4, n4, c4), rows⟩ W (n1 + n2) T A a n c vs w' hr h')
  have hI := hr.few
  have hT := hr.fewT
  have hA := hr.fewA
  have hm1 := h1.2.1
  have hm2 := h2.2.1
  have L1 := Lib.hid h1.1
  have L2 := Lib.hid h2.1
  clear hr
  have hin : (decide ((0 : Int) ≤ 9) && decide ((9 : Int) ≤ 9)) = true := rfl
  have hput : ((9 : Int) == 1) = false := rfl
  have hbears : bears 9 = false := rfl
  have hnum : numOk (n1 + n2) T A 9 y = (decide (0 ≤ y) && decide (y ≤ 9)) := rfl
  obtain ⟨R, HR⟩ : ∃ R, Hid (stmtB (2 ^ W) (n1 + n2) T A ⟨9, y, ts, us⟩ = R) := ⟨_, rfl⟩
  obtain ⟨X1, HX1⟩ : ∃ X1, Hid (bodyB (2 ^ W) (n1 + n2 + T) A ts = X1) := ⟨_, rfl⟩
  obtain ⟨X2, HX2⟩ : ∃ X2, Hid (bodyB (2 ^ W) (n1 + n2 + T) A us = X2) := ⟨_, rfl⟩
  have hR := HR.out
  simp only [stmtB, L1.out, L2.out, HX1.out, HX2.out] at hR
  rw [hin, hbears, hput, hnum] at hR
  have HRR := Lib.hid hR
  clear hR
  simp only [HR.out]
  clear HR
  obtain ⟨wa, HW⟩ : ∃ wa, Hid (wa = (w.alloc (.cells #[.int .i64 wd, .slice a1 n1 c1, .slice a2 n2 c2, .int .i64 (T : Int), .slice a3 A c3, .slice a4 n4 c4] 31)).alloc (.cells #[.int .i64 9, .int .i64 y, .slice b1 m1 d1, .slice b2 m2 d2] 37)) := ⟨_, rfl⟩
  have B0 : Blk wa w.heap.size 31 [.int .i64 wd, .slice a1 n1 c1, .slice a2 n2 c2, .int .i64 (T : Int), .slice a3 A c3, .slice a4 n4 c4] := by rw [HW.out]; exact (Blk.new w _ _).alloc _
  have B1 : Blk wa (w.heap.size + 1) 37 [.int .i64 9, .int .i64 y, .slice b1 m1 d1, .slice b2 m2 d2] := by rw [HW.out]; simpa using Blk.new (w.alloc _) 37 [.int .i64 9, .int .i64 y, .slice b1 m1 d1, .slice b2 m2 d2]
  have HB : Below w.heap.size w wa := by rw [HW.out]; exact ((Below.refl _ _).alloc (Nat.le_refl _) _).alloc (by simp) _
  go_enter Try.func84, Try.ntmps84
  by_cases hp2 : 0 < m2
  · have hd2 : decide ((m2 : Int) > 0) = true := by simp; omega
    go_wp2_with (go_at_call 46; refine (in_any _ _ _ _).mono ?_; rintro e w' ⟨rfl, rfl⟩; try rw [hin])
    go_ret
    exact ⟨ret_bool (by rw [← HRR.out, decide_eq_true hp2]; simp), by rw [← HW.out]; exact HB⟩
  · by_cases hp1 : 0 < m1
    · have hd2 : decide ((m2 : Int) > 0) = false := by simp; omega
      have hd1 : decide ((m1 : Int) > 0) = true := by simp; omega
      go_wp2_with (go_at_call 46; refine (in_any _ _ _ _).mono ?_; rintro e w' ⟨rfl, rfl⟩; try rw [hin])
      go_ret
      exact ⟨ret_bool (by rw [← HRR.out, decide_eq_false hp2, decide_eq_true hp1]; simp), by rw [← HW.out]; exact HB⟩
    · have hd2 : decide ((m2 : Int) > 0) = false := by simp; omega
      have hd1 : decide ((m1 : Int) > 0) = false := by simp; omega
      go_wp2_with (go_at_call 46; refine (in_any _ _ _ _).mono ?_; rintro e w' ⟨rfl, rfl⟩; try rw [hin])
      go_ret
      exact ⟨ret_bool (by rw [← HRR.out, decide_eq_false hp2, decide_eq_false hp1]; simp), by rw [← HW.out]; exact HB⟩
set_option maxHeartbeats 1600000 in
theorem l3Stmt_0 (y wd : Int) (a1 a2 a3 a4 b1 b2 : Option Addr) (n1 n2 n4 m1 m2 c1 c2 c3 c4 d1 d2 W T A : Nat) (rows : List SRow) (ts us : List Tm) (w : World)
    (hr : Lim ⟨wd, (a1, n1, c1), (a2, n2, c2), (T : Int), (a3, A, c3), (a4, n4, c4), rows⟩ W (n1 + n2) T A) (h1 : Terms w b1 m1 ts) (h2 : Terms w b2 m2 us) :
    Calls Try.prog 84 #[.agg #[.int .i64 wd, .slice a1 n1 c1, .slice a2 n2 c2, .int .i64 (T : Int), .slice a3 A c3, .slice a4 n4 c4], .agg #[.int .i64 0, .int .i64 y, .slice b1 m1 d1, .slice b2 m2 d2]] w fun e w' => e = .returned (.bool (stmtB (2 ^ W) (n1 + n2) T A ⟨0, y, ts, us⟩)) ∧ Below w.heap.size w w' := by
  have HX : Hid (∀ (w' : World) (a : Option Addr) (n c : Nat) (vs : List Tm), Terms w' a n vs → Calls Try.prog 101 #[.agg #[.int .i64 wd, .slice a1 n1 c1, .slice a2 n2 c2, .int .i64 (T : Int), .slice a3 A c3, .slice a4 n4 c4], .slice a n c] w' fun e w'' => e = .returned (.bool (bodyB (2 ^ W) (n1 + n2 + T) A vs)) ∧ Below w'.heap.size w' w'') := Lib.hid (fun w' a n c vs h' => l3Exp_any ⟨wd, (a1, n1, c1), (a2, n2, c2), (T : Int), (a3, A, c3), (a4, n4, c4), rows⟩ W (n1 + n2) T A a n c vs w' hr h')
  have hI := hr.few
  have hT := hr.fewT
  have hA := hr.fewA
  have hm1 := h1.2.1
  have hm2 := h2.2.1
  have L1 := Lib.hid h1.1
  have L2 := Lib.hid h2.1
  clear hr
  have hin : (decide ((0 : Int) ≤ 0) && decide ((0 : Int) ≤ 9)) = true := rfl
  have hput : ((0 : Int) == 1) = false := rfl
  have hbears : bears 0 = true := rfl
  have hnum : numOk (n1 + n2) T A 0 y = (decide (((n1 + n2 : Nat) : Int) ≤ y) && decide (y ≤ ((n1 + n2 : Nat) : Int) + (T : Int) - 1)) := rfl
  obtain ⟨R, HR⟩ : ∃ R, Hid (stmtB (2 ^ W) (n1 + n2) T A ⟨0, y, ts, us⟩ = R) := ⟨_, rfl⟩
  obtain ⟨X1, HX1⟩ : ∃ X1, Hid (bodyB (2 ^ W) (n1 + n2 + T) A ts = X1) := ⟨_, rfl⟩
  obtain ⟨X2, HX2⟩ : ∃ X2, Hid (bodyB (2 ^ W) (n1 + n2 + T) A us = X2) := ⟨_, rfl⟩
  have hR := HR.out
  simp only [stmtB, L1.out, L2.out, HX1.out, HX2.out] at hR
  rw [hin, hbears, hput, hnum] at hR
  have HRR := Lib.hid hR
  clear hR
  simp only [HR.out]
  clear HR
  obtain ⟨wa, HW⟩ : ∃ wa, Hid (wa = (w.alloc (.cells #[.int .i64 wd, .slice a1 n1 c1, .slice a2 n2 c2, .int .i64 (T : Int), .slice a3 A c3, .slice a4 n4 c4] 31)).alloc (.cells #[.int .i64 0, .int .i64 y, .slice b1 m1 d1, .slice b2 m2 d2] 37)) := ⟨_, rfl⟩
  have B0 : Blk wa w.heap.size 31 [.int .i64 wd, .slice a1 n1 c1, .slice a2 n2 c2, .int .i64 (T : Int), .slice a3 A c3, .slice a4 n4 c4] := by rw [HW.out]; exact (Blk.new w _ _).alloc _
  have B1 : Blk wa (w.heap.size + 1) 37 [.int .i64 0, .int .i64 y, .slice b1 m1 d1, .slice b2 m2 d2] := by rw [HW.out]; simpa using Blk.new (w.alloc _) 37 [.int .i64 0, .int .i64 y, .slice b1 m1 d1, .slice b2 m2 d2]
  have HB : Below w.heap.size w wa := by rw [HW.out]; exact ((Below.refl _ _).alloc (Nat.le_refl _) _).alloc (by simp) _
  go_enter Try.func84, Try.ntmps84
  by_cases hp2 : 0 < m2
  · by_cases hp1 : 0 < m1
    · have hd2 : decide ((m2 : Int) > 0) = true := by simp; omega
      have hd1 : decide ((m1 : Int) > 0) = true := by simp; omega
      go_wp2_with (go_at_call 46; refine (in_any _ _ _ _).mono ?_; rintro e w' ⟨rfl, rfl⟩; try rw [hin])
      go_ret
      exact ⟨ret_bool (by rw [← HRR.out, decide_eq_true hp2, decide_eq_true hp1]; simp), by rw [← HW.out]; exact HB⟩
    · have hd2 : decide ((m2 : Int) > 0) = true := by simp; omega
      have hd1 : decide ((m1 : Int) > 0) = false := by simp; omega
      go_wp2_with (go_at_call 46; refine (in_any _ _ _ _).mono ?_; rintro e w' ⟨rfl, rfl⟩; try rw [hin])
      rw [← HW.out]
      refine (HX.out _ _ _ _ _ (h2.below (Nat.le_refl _) HB)).mono ?_
      rintro e w1 ⟨rfl, hb1⟩
      have q0 := B0.below hb1 B0.lt
      have q1 := B1.below hb1 B1.lt
      have hbel := HB.trans (hb1.mono HB.size)
      rw [HX2.out]
      clear hb1 HW B0 B1 HB
      have u0 := q0.cell (j := 0) rfl
      have u1 := q0.cell (j := 1) rfl
      have u2 := q0.cell (j := 2) rfl
      have u3 := q0.cell (j := 3) rfl
      have u4 := q0.cell (j := 4) rfl
      have u5 := q0.cell (j := 5) rfl
      have v0 := q1.cell (j := 0) rfl
      have v1 := q1.cell (j := 1) rfl
      have v2 := q1.cell (j := 2) rfl
      have v3 := q1.cell (j := 3) rfl
      cases X2 with
      | false =>
        go_wp2_with fail
        go_ret
        exact ⟨ret_bool (by rw [← HRR.out, decide_eq_true hp2, decide_eq_false hp1]; simp), hbel⟩
      | true =>
        go_wp2_with (go_at_call 46; refine (in_any _ _ _ _).mono ?_; rintro e w' ⟨rfl, rfl⟩; try rw [hin])
        go_ret
        exact ⟨ret_bool (by rw [← HRR.out, decide_eq_true hp2, decide_eq_false hp1]; simp), hbel⟩
  · have hd2 : decide ((m2 : Int) > 0) = false := by simp; omega
    go_wp2_with (go_at_call 46; refine (in_any _ _ _ _).mono ?_; rintro e w' ⟨rfl, rfl⟩; try rw [hin])
    go_ret
    exact ⟨ret_bool (by rw [← HRR.out, decide_eq_false hp2]; simp), by rw [← HW.out]; exact HB⟩
set_option maxHeartbeats 1600000 in
theorem l3Stmt_2 (y wd : Int) (a1 a2 a3 a4 b1 b2 : Option Addr) (n1 n2 n4 m1 m2 c1 c2 c3 c4 d1 d2 W T A : Nat) (rows : List SRow) (ts us : List Tm) (w : World)
    (hr : Lim ⟨wd, (a1, n1, c1), (a2, n2, c2), (T : Int), (a3, A, c3), (a4, n4, c4), rows⟩ W (n1 + n2) T A) (h1 : Terms w b1 m1 ts) (h2 : Terms w b2 m2 us) :
    Calls Try.prog 84 #[.agg #[.int .i64 wd, .slice a1 n1 c1, .slice a2 n2 c2, .int .i64 (T : Int), .slice a3 A c3, .slice a4 n4 c4], .agg #[.int .i64 2, .int .i64 y, .slice b1 m1 d1, .slice b2 m2 d2]] w fun e w' => e = .returned (.bool (stmtB (2 ^ W) (n1 + n2) T A ⟨2, y, ts, us⟩)) ∧ Below w.heap.size w w' := by
  have HX : Hid (∀ (w' : World) (a : Option Addr) (n c : Nat) (vs : List Tm), Terms w' a n vs → Calls Try.prog 101 #[.agg #[.int .i64 wd, .slice a1 n1 c1, .slice a2 n2 c2, .int .i64 (T : Int), .slice a3 A c3, .slice a4 n4 c4], .slice a n c] w' fun e w'' => e = .returned (.bool (bodyB (2 ^ W) (n1 + n2 + T) A vs)) ∧ Below w'.heap.size w' w'') := Lib.hid (fun w' a n c vs h' => l3Exp_any ⟨wd, (a1, n1, c1), (a2, n2, c2), (T : Int), (a3, A, c3), (a4, n4, c4), rows⟩ W (n1 + n2) T A a n c vs w' hr h')
  have hI := hr.few
  have hT := hr.fewT
  have hA := hr.fewA
  have hm1 := h1.2.1
  have hm2 := h2.2.1
  have L1 := Lib.hid h1.1
  have L2 := Lib.hid h2.1
  clear hr
  have hin : (decide ((0 : Int) ≤ 2) && decide ((2 : Int) ≤ 9)) = true := rfl
  have hput : ((2 : Int) == 1) = false := rfl
  have hbears : bears 2 = true := rfl
  have hnum : numOk (n1 + n2) T A 2 y = (y == 0) := rfl
  obtain ⟨R, HR⟩ : ∃ R, Hid (stmtB (2 ^ W) (n1 + n2) T A ⟨2, y, ts, us⟩ = R) := ⟨_, rfl⟩
  obtain ⟨X1, HX1⟩ : ∃ X1, Hid (bodyB (2 ^ W) (n1 + n2 + T) A ts = X1) := ⟨_, rfl⟩
  obtain ⟨X2, HX2⟩ : ∃ X2, Hid (bodyB (2 ^ W) (n1 + n2 + T) A us = X2) := ⟨_, rfl⟩
  have hR := HR.out
  simp only [stmtB, L1.out, L2.out, HX1.out, HX2.out] at hR
  rw [hin, hbears, hput, hnum] at hR
  have HRR := Lib.hid hR
  clear hR
  simp only [HR.out]
  clear HR
  obtain ⟨wa, HW⟩ : ∃ wa, Hid (wa = (w.alloc (.cells #[.int .i64 wd, .slice a1 n1 c1, .slice a2 n2 c2, .int .i64 (T : Int), .slice a3 A c3, .slice a4 n4 c4] 31)).alloc (.cells #[.int .i64 2, .int .i64 y, .slice b1 m1 d1, .slice b2 m2 d2] 37)) := ⟨_, rfl⟩
  have B0 : Blk wa w.heap.size 31 [.int .i64 wd, .slice a1 n1 c1, .slice a2 n2 c2, .int .i64 (T : Int), .slice a3 A c3, .slice a4 n4 c4] := by rw [HW.out]; exact (Blk.new w _ _).alloc _
  have B1 : Blk wa (w.heap.size + 1) 37 [.int .i64 2, .int .i64 y, .slice b1 m1 d1, .slice b2 m2 d2] := by rw [HW.out]; simpa using Blk.new (w.alloc _) 37 [.int .i64 2, .int .i64 y, .slice b1 m1 d1, .slice b2 m2 d2]
  have HB : Below w.heap.size w wa := by rw [HW.out]; exact ((Below.refl _ _).alloc (Nat.le_refl _) _).alloc (by simp) _
  go_enter Try.func84, Try.ntmps84
  by_cases hp2 : 0 < m2
  · by_cases hp1 : 0 < m1
    · have hd2 : decide ((m2 : Int) > 0) = true := by simp; omega
      have hd1 : decide ((m1 : Int) > 0) = true := by simp; omega
      go_wp2_with (go_at_call 46; refine (in_any _ _ _ _).mono ?_; rintro e w' ⟨rfl, rfl⟩; try rw [hin])
      go_ret
      exact ⟨ret_bool (by rw [← HRR.out, decide_eq_true hp2, decide_eq_true hp1]; simp), by rw [← HW.out]; exact HB⟩
    · have hd2 : decide ((m2 : Int) > 0) = true := by simp; omega
      have hd1 : decide ((m1 : Int) > 0) = false := by simp; omega
      go_wp2_with (go_at_call 46; refine (in_any _ _ _ _).mono ?_; rintro e w' ⟨rfl, rfl⟩; try rw [hin])
      rw [← HW.out]
      refine (HX.out _ _ _ _ _ (h2.below (Nat.le_refl _) HB)).mono ?_
      rintro e w1 ⟨rfl, hb1⟩
      have q0 := B0.below hb1 B0.lt
      have q1 := B1.below hb1 B1.lt
      have hbel := HB.trans (hb1.mono HB.size)
      rw [HX2.out]
      clear hb1 HW B0 B1 HB
      have u0 := q0.cell (j := 0) rfl
      have u1 := q0.cell (j := 1) rfl
      have u2 := q0.cell (j := 2) rfl
      have u3 := q0.cell (j := 3) rfl
      have u4 := q0.cell (j := 4) rfl
      have u5 := q0.cell (j := 5) rfl
      have v0 := q1.cell (j := 0) rfl
      have v1 := q1.cell (j := 1) rfl
      have v2 := q1.cell (j := 2) rfl
      have v3 := q1.cell (j := 3) rfl
      cases X2 with
      | false =>
        go_wp2_with fail
        go_ret
        exact ⟨ret_bool (by rw [← HRR.out, decide_eq_true hp2, decide_eq_false hp1]; simp), hbel⟩
      | true =>
        go_wp2_with (go_at_call 46; refine (in_any _ _ _ _).mono ?_; rintro e w' ⟨rfl, rfl⟩; try rw [hin])
        go_ret
        exact ⟨ret_bool (by rw [← HRR.out, decide_eq_true hp2, decide_eq_false hp1]; simp), hbel⟩
  · have hd2 : decide ((m2 : Int) > 0) = false := by simp; omega
    go_wp2_with (go_at_call 46; refine (in_any _ _ _ _).mono ?_; rintro e w' ⟨rfl, rfl⟩; try rw [hin])
    go_ret
    exact ⟨ret_bool (by rw [← HRR.out, decide_eq_false hp2]; simp), by rw [← HW.out]; exact HB⟩
set_option maxHeartbeats 1600000 in
theorem l3Stmt_6 (y wd : Int) (a1 a2 a3 a4 b1 b2 : Option Addr) (n1 n2 n4 m1 m2 c1 c2 c3 c4 d1 d2 W T A : Nat) (rows : List SRow) (ts us : List Tm) (w : World)
    (hr : Lim ⟨wd, (a1, n1, c1), (a2, n2, c2), (T : Int), (a3, A, c3), (a4, n4, c4), rows⟩ W (n1 + n2) T A) (h1 : Terms w b1 m1 ts) (h2 : Terms w b2 m2 us) :
    Calls Try.prog 84 #[.agg #[.int .i64 wd, .slice a1 n1 c1, .slice a2 n2 c2, .int .i64 (T : Int), .slice a3 A c3, .slice a4 n4 c4], .agg #[.int .i64 6, .int .i64 y, .slice b1 m1 d1, .slice b2 m2 d2]] w fun e w' => e = .returned (.bool (stmtB (2 ^ W) (n1 + n2) T A ⟨6, y, ts, us⟩)) ∧ Below w.heap.size w w' := by
  have HX : Hid (∀ (w' : World) (a : Option Addr) (n c : Nat) (vs : List Tm), Terms w' a n vs → Calls Try.prog 101 #[.agg #[.int .i64 wd, .slice a1 n1 c1, .slice a2 n2 c2, .int .i64 (T : Int), .slice a3 A c3, .slice a4 n4 c4], .slice a n c] w' fun e w'' => e = .returned (.bool (bodyB (2 ^ W) (n1 + n2 + T) A vs)) ∧ Below w'.heap.size w' w'') := Lib.hid (fun w' a n c vs h' => l3Exp_any ⟨wd, (a1, n1, c1), (a2, n2, c2), (T : Int), (a3, A, c3), (a4, n4, c4), rows⟩ W (n1 + n2) T A a n c vs w' hr h')
  have hI := hr.few
  have hT := hr.fewT
  have hA := hr.fewA
  have hm1 := h1.2.1
  have hm2 := h2.2.1
  have L1 := Lib.hid h1.1
  have L2 := Lib.hid h2.1
  clear hr
  have hin : (decide ((0 : Int) ≤ 6) && decide ((6 : Int) ≤ 9)) = true := rfl
  have hput : ((6 : Int) == 1) = false := rfl
  have hbears : bears 6 = true := rfl
  have hnum : numOk (n1 + n2) T A 6 y = (y == 0) := rfl
  obtain ⟨R, HR⟩ : ∃ R, Hid (stmtB (2 ^ W) (n1 + n2) T A ⟨6, y, ts, us⟩ = R) := ⟨_, rfl⟩
  obtain ⟨X1, HX1⟩ : ∃ X1, Hid (bodyB (2 ^ W) (n1 + n2 + T) A ts = X1) := ⟨_, rfl⟩
  obtain ⟨X2, HX2⟩ : ∃ X2, Hid (bodyB (2 ^ W) (n1 + n2 + T) A us = X2) := ⟨_, rfl⟩
  have hR := HR.out
  simp only [stmtB, L1.out, L2.out, HX1.out, HX2.out] at hR
  rw [hin, hbears, hput, hnum] at hR
  have HRR := Lib.hid hR
  clear hR
  simp only [HR.out]
  clear HR
  obtain ⟨wa, HW⟩ : ∃ wa, Hid (wa = (w.alloc (.cells #[.int .i64 wd, .slice a1 n1 c1, .slice a2 n2 c2, .int .i64 (T : Int), .slice a3 A c3, .slice a4 n4 c4] 31)).alloc (.cells #[.int .i64 6, .int .i64 y, .slice b1 m1 d1, .slice b2 m2 d2] 37)) := ⟨_, rfl⟩
  have B0 : Blk wa w.heap.size 31 [.int .i64 wd, .slice a1 n1 c1, .slice a2 n2 c2, .int .i64 (T : Int), .slice a3 A c3, .slice a4 n4 c4] := by rw [HW.out]; exact (Blk.new w _ _).alloc _
  have B1 : Blk wa (w.heap.size + 1) 37 [.int .i64 6, .int .i64 y, .slice b1 m1 d1, .slice b2 m2 d2] := by rw [HW.out]; simpa using Blk.new (w.alloc _) 37 [.int .i64 6, .int .i64 y, .slice b1 m1 d1, .slice b2 m2 d2]
  have HB : Below w.heap.size w wa := by rw [HW.out]; exact ((Below.refl _ _).alloc (Nat.le_refl _) _).alloc (by simp) _
  go_enter Try.func84, Try.ntmps84
  by_cases hp2 : 0 < m2
  · by_cases hp1 : 0 < m1
    · have hd2 : decide ((m2 : Int) > 0) = true := by simp; omega
      have hd1 : decide ((m1 : Int) > 0) = true := by simp; omega
      go_wp2_with (go_at_call 46; refine (in_any _ _ _ _).mono ?_; rintro e w' ⟨rfl, rfl⟩; try rw [hin])
      go_ret
      exact ⟨ret_bool (by rw [← HRR.out, decide_eq_true hp2, decide_eq_true hp1]; simp), by rw [← HW.out]; exact HB⟩
    · have hd2 : decide ((m2 : Int) > 0) = true := by simp; omega
      have hd1 : decide ((m1 : Int) > 0) = false := by simp; omega
      go_wp2_with (go_at_call 46; refine (in_any _ _ _ _).mono ?_; rintro e w' ⟨rfl, rfl⟩; try rw [hin])
      rw [← HW.out]
      refine (HX.out _ _ _ _ _ (h2.below (Nat.le_refl _) HB)).mono ?_
      rintro e w1 ⟨rfl, hb1⟩
      have q0 := B0.below hb1 B0.lt
      have q1 := B1.below hb1 B1.lt
      have hbel := HB.trans (hb1.mono HB.size)
      rw [HX2.out]
      clear hb1 HW B0 B1 HB
      have u0 := q0.cell (j := 0) rfl
      have u1 := q0.cell (j := 1) rfl
      have u2 := q0.cell (j := 2) rfl
      have u3 := q0.cell (j := 3) rfl
      have u4 := q0.cell (j := 4) rfl
      have u5 := q0.cell (j := 5) rfl
      have v0 := q1.cell (j := 0) rfl
      have v1 := q1.cell (j := 1) rfl
      have v2 := q1.cell (j := 2) rfl
      have v3 := q1.cell (j := 3) rfl
      cases X2 with
      | false =>
        go_wp2_with fail
        go_ret
        exact ⟨ret_bool (by rw [← HRR.out, decide_eq_true hp2, decide_eq_false hp1]; simp), hbel⟩
      | true =>
        go_wp2_with (go_at_call 46; refine (in_any _ _ _ _).mono ?_; rintro e w' ⟨rfl, rfl⟩; try rw [hin])
        go_ret
        exact ⟨ret_bool (by rw [← HRR.out, decide_eq_true hp2, decide_eq_false hp1]; simp), hbel⟩
  · have hd2 : decide ((m2 : Int) > 0) = false := by simp; omega
    go_wp2_with (go_at_call 46; refine (in_any _ _ _ _).mono ?_; rintro e w' ⟨rfl, rfl⟩; try rw [hin])
    go_ret
    exact ⟨ret_bool (by rw [← HRR.out, decide_eq_false hp2]; simp), by rw [← HW.out]; exact HB⟩
set_option maxHeartbeats 1600000 in
theorem l3Stmt_1 (y wd : Int) (a1 a2 a3 a4 b1 b2 : Option Addr) (n1 n2 n4 m1 m2 c1 c2 c3 c4 d1 d2 W T A : Nat) (rows : List SRow) (ts us : List Tm) (w : World)
    (hr : Lim ⟨wd, (a1, n1, c1), (a2, n2, c2), (T : Int), (a3, A, c3), (a4, n4, c4), rows⟩ W (n1 + n2) T A) (h1 : Terms w b1 m1 ts) (h2 : Terms w b2 m2 us) :
    Calls Try.prog 84 #[.agg #[.int .i64 wd, .slice a1 n1 c1, .slice a2 n2 c2, .int .i64 (T : Int), .slice a3 A c3, .slice a4 n4 c4], .agg #[.int .i64 1, .int .i64 y, .slice b1 m1 d1, .slice b2 m2 d2]] w fun e w' => e = .returned (.bool (stmtB (2 ^ W) (n1 + n2) T A ⟨1, y, ts, us⟩)) ∧ Below w.heap.size w w' := by
  have HX : Hid (∀ (w' : World) (a : Option Addr) (n c : Nat) (vs : List Tm), Terms w' a n vs → Calls Try.prog 101 #[.agg #[.int .i64 wd, .slice a1 n1 c1, .slice a2 n2 c2, .int .i64 (T : Int), .slice a3 A c3, .slice a4 n4 c4], .slice a n c] w' fun e w'' => e = .returned (.bool (bodyB (2 ^ W) (n1 + n2 + T) A vs)) ∧ Below w'.heap.size w' w'') := Lib.hid (fun w' a n c vs h' => l3Exp_any ⟨wd, (a1, n1, c1), (a2, n2, c2), (T : Int), (a3, A, c3), (a4, n4, c4), rows⟩ W (n1 + n2) T A a n c vs w' hr h')
  have hI := hr.few
  have hT := hr.fewT
  have hA := hr.fewA
  have hm1 := h1.2.1
  have hm2 := h2.2.1
  have L1 := Lib.hid h1.1
  have L2 := Lib.hid h2.1
  clear hr
  have hin : (decide ((0 : Int) ≤ 1) && decide ((1 : Int) ≤ 9)) = true := rfl
  have hput : ((1 : Int) == 1) = true := rfl
  have hbears : bears 1 = true := rfl
  have hnum : numOk (n1 + n2) T A 1 y = (decide (0 ≤ y) && decide (y ≤ (A : Int) - 1)) := rfl
  obtain ⟨R, HR⟩ : ∃ R, Hid (stmtB (2 ^ W) (n1 + n2) T A ⟨1, y, ts, us⟩ = R) := ⟨_, rfl⟩
  obtain ⟨X1, HX1⟩ : ∃ X1, Hid (bodyB (2 ^ W) (n1 + n2 + T) A ts = X1) := ⟨_, rfl⟩
  obtain ⟨X2, HX2⟩ : ∃ X2, Hid (bodyB (2 ^ W) (n1 + n2 + T) A us = X2) := ⟨_, rfl⟩
  have hR := HR.out
  simp only [stmtB, L1.out, L2.out, HX1.out, HX2.out] at hR
  rw [hin, hbears, hput, hnum] at hR
  have HRR := Lib.hid hR
  clear hR
  simp only [HR.out]
  clear HR
  obtain ⟨wa, HW⟩ : ∃ wa, Hid (wa = (w.alloc (.cells #[.int .i64 wd, .slice a1 n1 c1, .slice a2 n2 c2, .int .i64 (T : Int), .slice a3 A c3, .slice a4 n4 c4] 31)).alloc (.cells #[.int .i64 1, .int .i64 y, .slice b1 m1 d1, .slice b2 m2 d2] 37)) := ⟨_, rfl⟩
  have B0 : Blk wa w.heap.size 31 [.int .i64 wd, .slice a1 n1 c1, .slice a2 n2 c2, .int .i64 (T : Int), .slice a3 A c3, .slice a4 n4 c4] := by rw [HW.out]; exact (Blk.new w _ _).alloc _
  have B1 : Blk wa (w.heap.size + 1) 37 [.int .i64 1, .int .i64 y, .slice b1 m1 d1, .slice b2 m2 d2] := by rw [HW.out]; simpa using Blk.new (w.alloc _) 37 [.int .i64 1, .int .i64 y, .slice b1 m1 d1, .slice b2 m2 d2]
  have HB : Below w.heap.size w wa := by rw [HW.out]; exact ((Below.refl _ _).alloc (Nat.le_refl _) _).alloc (by simp) _
  go_enter Try.func84, Try.ntmps84
  by_cases hp2 : 0 < m2
  · by_cases hp1 : 0 < m1
    · have hd2 : decide ((m2 : Int) > 0) = true := by simp; omega
      have hd1 : decide ((m1 : Int) > 0) = true := by simp; omega
      go_wp2_with (go_at_call 46; refine (in_any _ _ _ _).mono ?_; rintro e w' ⟨rfl, rfl⟩; try rw [hin])
      rw [← HW.out]
      refine (HX.out _ _ _ _ _ (h2.below (Nat.le_refl _) HB)).mono ?_
      rintro e w1 ⟨rfl, hb1⟩
      have q0 := B0.below hb1 B0.lt
      have q1 := B1.below hb1 B1.lt
      have hbel := HB.trans (hb1.mono HB.size)
      rw [HX2.out]
      clear hb1 HW B0 B1 HB
      have u0 := q0.cell (j := 0) rfl
      have u1 := q0.cell (j := 1) rfl
      have u2 := q0.cell (j := 2) rfl
      have u3 := q0.cell (j := 3) rfl
      have u4 := q0.cell (j := 4) rfl
      have u5 := q0.cell (j := 5) rfl
      have v0 := q1.cell (j := 0) rfl
      have v1 := q1.cell (j := 1) rfl
      have v2 := q1.cell (j := 2) rfl
      have v3 := q1.cell (j := 3) rfl
      cases X2 with
      | false =>
        go_wp2_with fail
        go_ret
        exact ⟨ret_bool (by rw [← HRR.out, decide_eq_true hp2, decide_eq_true hp1]; simp), hbel⟩
      | true =>
        go_wp2_with fail
        refine (HX.out _ _ _ _ _ (h1.below (Nat.le_refl _) hbel)).mono ?_
        rintro e w2 ⟨rfl, hb2⟩
        clear u0 u1 u2 u3 u4 u5 v0 v1 v2 v3
        have q0 := q0.below hb2 q0.lt
        have q1 := q1.below hb2 q1.lt
        have hbel := hbel.trans (hb2.mono hbel.size)
        rw [HX1.out]
        have u0 := q0.cell (j := 0) rfl
        have u1 := q0.cell (j := 1) rfl
        have u2 := q0.cell (j := 2) rfl
        have u3 := q0.cell (j := 3) rfl
        have u4 := q0.cell (j := 4) rfl
        have u5 := q0.cell (j := 5) rfl
        have v0 := q1.cell (j := 0) rfl
        have v1 := q1.cell (j := 1) rfl
        have v2 := q1.cell (j := 2) rfl
        have v3 := q1.cell (j := 3) rfl
        cases X1 with
        | false =>
          go_wp2_with fail
          go_ret
          exact ⟨ret_bool (by rw [← HRR.out, decide_eq_true hp2, decide_eq_true hp1]; simp), hbel⟩
        | true =>
          go_wp2_with (go_at_call 46; refine (in_any _ _ _ _).mono ?_; rintro e w' ⟨rfl, rfl⟩; try rw [hin])
          go_ret
          exact ⟨ret_bool (by rw [← HRR.out, decide_eq_true hp2, decide_eq_true hp1]; simp), hbel⟩
    · have hd2 : decide ((m2 : Int) > 0) = true := by simp; omega
      have hd1 : decide ((m1 : Int) > 0) = false := by simp; omega
      go_wp2_with (go_at_call 46; refine (in_any _ _ _ _).mono ?_; rintro e w' ⟨rfl, rfl⟩; try rw [hin])
      go_ret
      exact ⟨ret_bool (by rw [← HRR.out, decide_eq_true hp2, decide_eq_false hp1]; simp), by rw [← HW.out]; exact HB⟩
  · have hd2 : decide ((m2 : Int) > 0) = false := by simp; omega
    go_wp2_with (go_at_call 46; refine (in_any _ _ _ _).mono ?_; rintro e w' ⟨rfl, rfl⟩; try rw [hin])
    go_ret
    exact ⟨ret_bool (by rw [← HRR.out, decide_eq_false hp2]; simp), by rw [← HW.out]; exact HB⟩
end Go.Proofs.Ytdippnnhibgjoaa
