/- What the laws' own measures answer: szTermS, szInputS, szInt64S, szStmt, szStmtS, szProg. -/
import Derived.Test.YtdippnnhibgjoaaProgArgs
namespace Go.Proofs.Ytdippnnhibgjoaa
open Go.RowKit

/-- What is left of 'left' when n is taken: -1 where it does not last. -/
def szI (n left : Nat) : Int := if n ≤ left then ((left - n : Nat) : Int) else -1
theorem szI_fits {n left : Nat} (h : n ≤ left) : szI n left = ((left - n : Nat) : Int) := if_pos h
theorem szI_over {n left : Nat} (h : left < n) : szI n left = -1 := if_neg (by omega)

theorem szTermS_fits (a : Option Addr) (n c left : Nat) (w : World) (h : n ≤ left) (hl : left ≤ 1048576) :
    Calls Try.prog 98 #[.slice a n c, .int .i64 (left : Int)] w fun e w' => e = .returned (.int .i64 ((left - n : Nat) : Int)) ∧ w = w' := by
  go_enter Try.func98, Try.ntmps98
  go_wp2
  go_ret
  exact ⟨ret_int (by omega), rfl⟩
theorem szTermS_over (a : Option Addr) (n c left : Nat) (w : World) (h : left < n) (hm : n ≤ maxLen) :
    Calls Try.prog 98 #[.slice a n c, .int .i64 (left : Int)] w fun e w' => e = .returned (.int .i64 (-1)) ∧ w = w' := by
  unfold maxLen at hm
  go_enter Try.func98, Try.ntmps98
  go_wp2
  go_ret
  exact ⟨rfl, rfl⟩
theorem szInputS_fits (a : Option Addr) (n c left : Nat) (w : World) (h : n ≤ left) (hl : left ≤ 1048576) :
    Calls Try.prog 43 #[.slice a n c, .int .i64 (left : Int)] w fun e w' => e = .returned (.int .i64 ((left - n : Nat) : Int)) ∧ w = w' := by
  go_enter Try.func43, Try.ntmps43
  go_wp2
  go_ret
  exact ⟨ret_int (by omega), rfl⟩
theorem szInputS_over (a : Option Addr) (n c left : Nat) (w : World) (h : left < n) (hm : n ≤ maxLen) :
    Calls Try.prog 43 #[.slice a n c, .int .i64 (left : Int)] w fun e w' => e = .returned (.int .i64 (-1)) ∧ w = w' := by
  unfold maxLen at hm
  go_enter Try.func43, Try.ntmps43
  go_wp2
  go_ret
  exact ⟨rfl, rfl⟩
theorem szInt64S_fits (a : Option Addr) (n c left : Nat) (w : World) (h : n ≤ left) (hl : left ≤ 1048576) :
    Calls Try.prog 44 #[.slice a n c, .int .i64 (left : Int)] w fun e w' => e = .returned (.int .i64 ((left - n : Nat) : Int)) ∧ w = w' := by
  go_enter Try.func44, Try.ntmps44
  go_wp2
  go_ret
  exact ⟨ret_int (by omega), rfl⟩
theorem szInt64S_over (a : Option Addr) (n c left : Nat) (w : World) (h : left < n) (hm : n ≤ maxLen) :
    Calls Try.prog 44 #[.slice a n c, .int .i64 (left : Int)] w fun e w' => e = .returned (.int .i64 (-1)) ∧ w = w' := by
  unfold maxLen at hm
  go_enter Try.func44, Try.ntmps44
  go_wp2
  go_ret
  exact ⟨rfl, rfl⟩

set_option maxHeartbeats 800000 in
theorem szStmt_any (x y : Int) (a1 a2 : Option Addr) (n1 n2 c1 c2 left : Nat) (w : World) (h1 : n1 ≤ maxLen) (h2 : n2 ≤ maxLen) (hl : left ≤ 1048576) :
    Calls Try.prog 75 #[.agg #[.int .i64 x, .int .i64 y, .slice a1 n1 c1, .slice a2 n2 c2], .int .i64 (left : Int)] w fun e w' => e = .returned (.int .i64 (szI (n1 + n2) left)) ∧ Below w.heap.size w w' := by
  have HB : Below w.heap.size w (w.alloc (.cells #[.int .i64 x, .int .i64 y, .slice a1 n1 c1, .slice a2 n2 c2] 114)) := (Below.refl _ _).alloc (Nat.le_refl _) _
  by_cases e1 : n1 ≤ left
  · go_enter Try.func75, Try.ntmps75
    go_wp2_with fail
    refine (szTermS_fits _ _ _ _ _ e1 hl).mono ?_
    rintro e w1 ⟨rfl, rfl⟩
    by_cases e2 : n2 ≤ left - n1
    · go_wp2_with fail
      refine (szTermS_fits _ _ _ _ _ e2 (by omega)).mono ?_
      rintro e w1 ⟨rfl, rfl⟩
      go_wp2
      go_ret
      exact ⟨ret_int (by rw [szI_fits (by omega)]; congr 1; omega), HB⟩
    · go_wp2_with fail
      refine (szTermS_over _ _ _ _ _ (by omega) h2).mono ?_
      rintro e w1 ⟨rfl, rfl⟩
      go_wp2
      go_ret
      exact ⟨ret_int (by rw [szI_over (by omega)]), HB⟩
  · go_enter Try.func75, Try.ntmps75
    go_wp2_with fail
    refine (szTermS_over _ _ _ _ _ (by omega) h1).mono ?_
    rintro e w1 ⟨rfl, rfl⟩
    go_wp2
    go_ret
    exact ⟨ret_int (by rw [szI_over (by omega)]), HB⟩
/-- What the first k rows' slices take. -/
def sumTo (rs : List SRow) : Nat → Nat
  | 0 => 0
  | k + 1 => sumTo rs k + ((srAt rs k).at_.2.1 + (srAt rs k).exp.2.1)
theorem sumTo_mono (rs : List SRow) {j k : Nat} (h : j ≤ k) : sumTo rs j ≤ sumTo rs k := by
  induction k with
  | zero => obtain rfl : j = 0 := by omega
            exact Nat.le_refl _
  | succ k ih =>
    rcases Nat.lt_or_ge j (k + 1) with hlt | hge
    · exact Nat.le_trans (ih (by omega)) (Nat.le_add_right _ _)
    · obtain rfl : j = k + 1 := by omega
      exact Nat.le_refl _
theorem sumTo_at (rs : List SRow) {i n : Nat} (h : i < n) : (srAt rs i).at_.2.1 ≤ sumTo rs n ∧ (srAt rs i).exp.2.1 ≤ sumTo rs n := by
  have := sumTo_mono rs (show i + 1 ≤ n by omega)
  simp only [sumTo] at this
  omega
theorem RowsAt.below {w w' : World} {a : Option Addr} {n : Nat} {rs : List SRow} (h : RowsAt w a n rs) (hb : Below w.heap.size w w') : RowsAt w' a n rs := by
  obtain ⟨h1, h4, h5⟩ := h
  refine ⟨h1, fun hp => ?_, fun i hi => ?_⟩
  · obtain ⟨b, o, rfl, hbl, hc⟩ := h4 hp
    exact ⟨b, o, rfl, Nat.lt_of_lt_of_le hbl hb.size, fun i hi => ⟨(hb.cell hbl).trans (hc i hi).1, (hb.cell hbl).trans (hc i hi).2.1, (hb.cell hbl).trans (hc i hi).2.2.1, (hb.cell hbl).trans (hc i hi).2.2.2⟩⟩
  · obtain ⟨q1, q2, ⟨q3, q4⟩, q5, q6⟩ := h5 i hi
    exact ⟨q1, q2, ⟨q3, fun hn => by obtain ⟨ts, ht⟩ := q4 hn; exact ⟨ts, ht.below (Nat.le_refl _) hb⟩⟩, q5, fun hn => by obtain ⟨ts, ht⟩ := q6 hn; exact ⟨ts, ht.below (Nat.le_refl _) hb⟩⟩
theorem RowsAt.at_ {w : World} {a : Option Addr} {n : Nat} {rs : List SRow} (h : RowsAt w a n rs) {k : Nat} (hk : k < n) :
    ∃ b o x y a1 n1 c1 a2 n2 c2, a = some ⟨b, o, none⟩ ∧ b < w.heap.size ∧ Hid (srAt rs k = ⟨x, y, (a1, n1, c1), (a2, n2, c2)⟩) ∧ w.cell? ⟨b, o + k * 4, none⟩ = some (.int .i64 x) ∧ w.cell? ⟨b, o + k * 4 + 1, none⟩ = some (.int .i64 y) ∧ w.cell? ⟨b, o + k * 4 + 2, none⟩ = some (.slice a1 n1 c1) ∧ w.cell? ⟨b, o + k * 4 + 3, none⟩ = some (.slice a2 n2 c2) ∧ n1 ≤ maxLen ∧ n2 ≤ maxLen := by
  obtain ⟨h1, h4, h5⟩ := h
  obtain ⟨b, o, rfl, hb, hc⟩ := h4 (by omega)
  obtain ⟨_, _, s3, s4⟩ := h5 k hk
  obtain ⟨k1, k2, k3, k4⟩ := hc k hk
  exact ⟨b, o, _, _, _, _, _, _, _, _, rfl, hb, rfl, k1, k2, k3, k4, s3.1, s4.1⟩
/-- Rows that are not too long read as statements. -/
theorem RowsAt.reads {w : World} {a : Option Addr} {n : Nat} {rs : List SRow} (h : RowsAt w a n rs) (hs : n + sumTo rs n ≤ 1048576) : ∃ ss, Stmts w a n rs ss := by
  obtain ⟨h1, h4, h5⟩ := h
  have each : ∀ i, i < n → ∃ s : Stm, StmOf w (srAt rs i) s := by
    intro i hi
    obtain ⟨q1, q2, q3, q4⟩ := h5 i hi
    have := sumTo_at rs hi
    obtain ⟨ts, ht⟩ := q3.2 (by omega)
    obtain ⟨us, hu⟩ := q4.2 (by omega)
    exact ⟨⟨_, _, ts, us⟩, rfl, rfl, q1, q2, ht, hu⟩
  obtain ⟨q, hq⟩ := Go.Deep.choose_lt each
  refine ⟨(List.range n).map q, h1, by simp, by omega, h4, fun i hi => ?_⟩
  rw [show stAt ((List.range n).map q) i = q i by simp [stAt, List.getD_eq_getElem?_getD, hi]]
  exact hq i hi

theorem szStmtS_over (a : Option Addr) (n c left : Nat) (w : World) (h : left < n) (hm : n ≤ maxLen) :
    Calls Try.prog 45 #[.slice a n c, .int .i64 (left : Int)] w fun e w' => e = .returned (.int .i64 (-1)) ∧ w = w' := by
  unfold maxLen at hm
  go_enter Try.func45, Try.ntmps45
  go_wp2
  go_ret
  exact ⟨rfl, rfl⟩
set_option maxHeartbeats 1600000 in
theorem szStmtS_rows (a : Option Addr) (n c left : Nat) (rs : List SRow) (w : World) (h : RowsAt w a n rs) (hn : n ≤ left) (hl : left ≤ 1048576) :
    Calls Try.prog 45 #[.slice a n c, .int .i64 (left : Int)] w fun e w' => e = .returned (.int .i64 (szI (n + sumTo rs n) left)) ∧ Below w.heap.size w w' := by
  go_enter Try.func45, Try.ntmps45
  go_wp2
  go_loopw [1, 5] (fun q i wr => ∃ k : Nat, k ≤ n ∧ i = .int .i64 k ∧ n + sumTo rs k ≤ left ∧ q = .int .i64 ((left - (n + sumTo rs k) : Nat) : Int) ∧ Below w.heap.size w wr) (fun _ i _ => n - (intOf i).toNat)
  case atStart => exact ⟨0, Nat.zero_le _, rfl, by simpa [sumTo] using hn, by congr 1; simp [sumTo]; omega, Below.refl _ _⟩
  case round =>
    obtain ⟨k, hk, rfl, hs, rfl, hbel⟩ := hrel
    by_cases hlt : k < n
    · obtain ⟨b, o, x, y, a1, n1, c1, a2, n2, c2, rfl, hb, hz, hc1, hc2, hc3, hc4, hm1, hm2⟩ := (h.below hbel).at_ hlt
      have hstep : sumTo rs (k + 1) = sumTo rs k + (n1 + n2) := by simp only [sumTo, hz.out]
      have HS := Lib.hid hstep
      clear hstep
      obtain ⟨L, HL⟩ : ∃ L : Nat, Hid (left - (n + sumTo rs k) = L) := ⟨_, rfl⟩
      rw [HL.out]
      have hL : L ≤ 1048576 := by have := HL.out; omega
      have HLL := Lib.hid hs
      clear hs
      go_wp2_with fail
      refine (szStmt_any _ _ _ _ _ _ _ _ _ _ hm1 hm2 hL).mono ?_
      rintro e w1 ⟨rfl, hb1⟩
      have hbel2 := hbel.trans (hb1.mono hbel.size)
      clear hbel hb1 hc1 hc2 hc3 hc4
      by_cases hfit : n1 + n2 ≤ L
      · rw [szI_fits hfit]
        obtain ⟨M, HM⟩ : ∃ M : Nat, Hid (L - (n1 + n2) = M) := ⟨_, rfl⟩
        rw [HM.out]
        have hM : M ≤ 1048576 := by have := HM.out; omega
        go_wp2
        go_roundw
        case rel =>
          have q1 := HL.out
          have q2 := HM.out
          have q3 := HS.out
          have q4 := HLL.out
          exact ⟨k + 1, by omega, by go_num, by omega, by congr 1; omega, hbel2⟩
        case measure => simp [intOf]; omega
      · rw [szI_over (by omega)]
        go_wp2
        go_ret
        have q1 := HL.out
        have q3 := HS.out
        have q5 := sumTo_mono rs (show k + 1 ≤ n by omega)
        exact ⟨ret_int (by rw [szI_over (by omega)]), hbel2⟩
    · obtain rfl : n = k := by omega
      have hL : left - (n + sumTo rs n) ≤ 1048576 := by omega
      generalize HL : left - (n + sumTo rs n) = L at hL
      go_wp2
      go_ret
      exact ⟨ret_int (by rw [szI_fits hs, HL]), hbel⟩
end Go.Proofs.Ytdippnnhibgjoaa
