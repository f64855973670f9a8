/- The contracts of the laws' own comparisons of Stmts and of slices of Stmts. -/
import Derived.Test.YtdippnnhibgjoaaStmtCopies
namespace Go.Proofs.Ytdippnnhibgjoaa
open Go.RowKit

theorem stm_ne {x y x' y' : Int} {ts us ts' us' : List Tm} (h : ¬ (x = x' ∧ y = y' ∧ ts = ts' ∧ us = us')) : decide ((⟨x, y, ts, us⟩ : Stm) = ⟨x', y', ts', us'⟩) = false :=
  decide_eq_false (fun e => h (by injection e with e1 e2 e3 e4; exact ⟨e1, e2, e3, e4⟩))
set_option maxHeartbeats 1600000 in
theorem eqStmt_any (x y x' y' : Int) (a1 a2 b1 b2 : Option Addr) (n1 n2 m1 m2 c1 c2 d1 d2 : Nat) (ts us ts' us' : List Tm) (w : World) (h1 : Terms w a1 n1 ts) (h2 : Terms w a2 n2 us) (h3 : Terms w b1 m1 ts') (h4 : Terms w b2 m2 us') :
    Calls Try.prog 80 #[.agg #[.int .i64 x, .int .i64 y, .slice a1 n1 c1, .slice a2 n2 c2], .agg #[.int .i64 x', .int .i64 y', .slice b1 m1 d1, .slice b2 m2 d2]] w fun e w' => e = .returned (.bool (decide ((⟨x, y, ts, us⟩ : Stm) = ⟨x', y', ts', us'⟩))) ∧ Below w.heap.size w w' := by
  have HB : Below w.heap.size w ((w.alloc (.cells #[.int .i64 x, .int .i64 y, .slice a1 n1 c1, .slice a2 n2 c2] 37)).alloc (.cells #[.int .i64 x', .int .i64 y', .slice b1 m1 d1, .slice b2 m2 d2] 37)) := ((Below.refl _ _).alloc (Nat.le_refl _) _).alloc (by simp) _
  by_cases e1 : x = x'
  · subst e1
    have hne0 : (x != x) = false := by simp
    by_cases e2 : y = y'
    · subst e2
      have hne1 : (y != y) = false := by simp
      have b0 : Blk ((w.alloc (.cells #[.int .i64 x, .int .i64 y, .slice a1 n1 c1, .slice a2 n2 c2] 37)).alloc (.cells #[.int .i64 x, .int .i64 y, .slice b1 m1 d1, .slice b2 m2 d2] 37)) w.heap.size 37 [.int .i64 x, .int .i64 y, .slice a1 n1 c1, .slice a2 n2 c2] := (Blk.new w _ _).alloc _
      have b1' : Blk ((w.alloc (.cells #[.int .i64 x, .int .i64 y, .slice a1 n1 c1, .slice a2 n2 c2] 37)).alloc (.cells #[.int .i64 x, .int .i64 y, .slice b1 m1 d1, .slice b2 m2 d2] 37)) (w.heap.size + 1) 37 [.int .i64 x, .int .i64 y, .slice b1 m1 d1, .slice b2 m2 d2] := by simpa using Blk.new (w.alloc _) 37 [.int .i64 x, .int .i64 y, .slice b1 m1 d1, .slice b2 m2 d2]
      have H0 := Lib.hid b0
      have H1 := Lib.hid b1'
      have HH := Lib.hid HB
      clear b0 b1' HB
      go_enter Try.func80, Try.ntmps80
      go_wp2_with fail
      refine (eqTermS_any _ _ _ _ _ _ _ _ _ (h1.below (Nat.le_refl _) HH.out) (h3.below (Nat.le_refl _) HH.out)).mono ?_
      rintro e w1 ⟨rfl, hb1⟩
      have q0 := (H0.out.below hb1 H0.out.lt).cell (j := 3) rfl
      have q1 := (H1.out.below hb1 H1.out.lt).cell (j := 3) rfl
      have hbel := HH.out.trans (hb1.mono HH.out.size)
      clear H0 H1 HH hb1 h1 h3
      by_cases e3 : ts = ts'
      · subst e3
        rw [decide_eq_true (rfl : ts = ts)]
        go_wp2_with fail
        refine (eqTermS_any _ _ _ _ _ _ _ _ _ (h2.below (Nat.le_refl _) hbel) (h4.below (Nat.le_refl _) hbel)).mono ?_
        rintro e w2 ⟨rfl, hb2⟩
        have hbel2 := hbel.trans (hb2.mono hbel.size)
        clear q0 q1 hb2 h2 h4 hbel
        by_cases e4 : us = us'
        · subst e4
          rw [decide_eq_true (rfl : us = us)]
          go_wp2
          go_ret
          exact ⟨ret_bool (by simp), hbel2⟩
        · rw [decide_eq_false e4]
          go_wp2
          go_ret
          exact ⟨ret_bool (stm_ne (fun h => e4 h.2.2.2)).symm, hbel2⟩
      · rw [decide_eq_false e3]
        go_wp2
        go_ret
        exact ⟨ret_bool (stm_ne (fun h => e3 h.2.2.1)).symm, hbel⟩
    · have hne1 : (y != y') = true := by simpa using e2
      go_enter Try.func80, Try.ntmps80
      go_wp2
      go_ret
      exact ⟨ret_bool (stm_ne (fun h => e2 h.2.1)).symm, HB⟩
  · have hne1 : (x != x') = true := by simpa using e1
    go_enter Try.func80, Try.ntmps80
    go_wp2
    go_ret
    exact ⟨ret_bool (stm_ne (fun h => e1 h.1)).symm, HB⟩
/-- The first k are alike. -/
def EqSt (xs ys : List Stm) (k : Nat) : Prop := ∀ i, i < k → stAt xs i = stAt ys i
theorem EqSt.zero (xs ys : List Stm) : EqSt xs ys 0 := fun i hi => absurd hi (by omega)
theorem EqSt.succ {xs ys : List Stm} {k : Nat} {t u : Stm} (h : EqSt xs ys k) (hx : Hid (stAt xs k = t)) (hy : Hid (stAt ys k = u)) (e : t = u) : EqSt xs ys (k + 1) := by
  intro i hi
  rcases Nat.lt_or_ge i k with hlt | hge
  · exact h i hlt
  · have : i = k := by omega
    subst this; rw [hx.out, hy.out]; exact e
theorem eqSt_all {xs ys : List Stm} (hl : xs.length = ys.length) (h : EqSt xs ys xs.length) : xs = ys := by
  apply List.ext_getElem hl
  intro i h1 h2
  have := h i h1
  simpa [stAt, List.getD_eq_getElem?_getD, h1, h2] using this
set_option maxHeartbeats 1600000 in
theorem eqStmtS_any (a b : Option Addr) (n m c d : Nat) (rs qs : List SRow) (xs ys : List Stm) (w : World) (hx : Stmts w a n rs xs) (hy : Stmts w b m qs ys) :
    Calls Try.prog 53 #[.slice a n c, .slice b m d] w fun e w' => e = .returned (.bool (decide (xs = ys))) ∧ Below w.heap.size w w' := by
  have HL := Lib.hid hx.2.1
  have HM := Lib.hid hy.2.1
  have hbd := hx.2.2.1
  have hbe := hy.2.2.1
  by_cases hnm : n = m
  · subst hnm
    have hne0 : ((n : Int) != (n : Int)) = false := by simp
    go_enter Try.func53, Try.ntmps53
    go_wp2
    go_loopw [5] (fun i wr => ∃ k : Nat, k ≤ n ∧ i = .int .i64 k ∧ EqSt xs ys k ∧ Below w.heap.size w wr) (fun i _ => n - (intOf i).toNat)
    case atStart => exact ⟨0, Nat.zero_le _, rfl, EqSt.zero _ _, Below.refl _ _⟩
    case round =>
      obtain ⟨k, hk, rfl, hg, hbel⟩ := hrel
      by_cases hlt : k < n
      · obtain ⟨b1, o1, x1, y1, p1, n1, c1, p2, n2, c2, ts, us, rfl, hb1, hxk, hin1, hin2, hc1, hc2, hc3, hc4, hT1, hT2⟩ := (hx.below hbel).at_ hlt
        obtain ⟨b2, o2, x2, y2, p3, n3, c3, p4, n4, c4, ts', us', rfl, hb2, hyk, hin3, hin4, hc5, hc6, hc7, hc8, hT3, hT4⟩ := (hy.below hbel).at_ hlt
        have f1 := lat_cell hb1 hc1
        have f2 := lat_cell hb1 hc2
        have f3 := lat_cell hb1 hc3
        have f4 := lat_cell hb1 hc4
        have f5 := lat_cell hb2 hc5
        have f6 := lat_cell hb2 hc6
        have f7 := lat_cell hb2 hc7
        have f8 := lat_cell hb2 hc8
        clear hc1 hc2 hc3 hc4 hc5 hc6 hc7 hc8
        obtain ⟨q, HQ⟩ : ∃ q, Hid (decide ((⟨x1, y1, ts, us⟩ : Stm) = ⟨x2, y2, ts', us'⟩) = q) := ⟨_, rfl⟩
        have hcon : ∀ p : Lat wr, Calls Try.prog 80 #[.agg #[.int .i64 x1, .int .i64 y1, .slice p1 n1 c1, .slice p2 n2 c2], .agg #[.int .i64 x2, .int .i64 y2, .slice p3 n3 c3, .slice p4 n4 c4]] p.wd fun e w' => e = .returned (.bool q) ∧ Below p.wd.heap.size p.wd w' := fun p => by
          rw [← HQ.out]; exact eqStmt_any _ _ _ _ _ _ _ _ _ _ _ _ _ _ _ _ _ _ _ _ _ (hT1.below (Nat.le_refl _) p.ok) (hT2.below (Nat.le_refl _) p.ok) (hT3.below (Nat.le_refl _) p.ok) (hT4.below (Nat.le_refl _) p.ok)
        have HC := Lib.hid hcon
        clear hcon hT1 hT2 hT3 hT4
        cases q with
        | true =>
          have HE := Lib.hid (of_decide_eq_true HQ.out)
          go_wp2
          refine wp_region_lat (by kernel_rfl) (by kernel_rfl) ?_
          repeat (quiet_step ((go_at_call 80; exact lat_calls (HC.out _))))
          refine wpQuiet_nil ?_
          intro _ hw'
          obtain ⟨⟨wq, hwq⟩, hw''⟩ := hw'
          subst hw''
          have ht := hbel.trans (hwq.mono hbel.size)
          clear f1 f2 f3 f4 f5 f6 f7 f8 HC
          go_wp2
          go_roundw
          case rel => exact ⟨k + 1, by omega, by go_num, hg.succ hxk hyk HE.out, ht⟩
          case measure => simp [intOf]; omega
        | false =>
          have HE := Lib.hid (of_decide_eq_false HQ.out)
          go_wp2
          refine wp_region_lat (by kernel_rfl) (by kernel_rfl) ?_
          repeat (quiet_step ((go_at_call 80; exact lat_calls (HC.out _))))
          refine wpQuiet_nil ?_
          intro _ hw'
          obtain ⟨⟨wq, hwq⟩, hw''⟩ := hw'
          subst hw''
          have ht := hbel.trans (hwq.mono hbel.size)
          clear f1 f2 f3 f4 f5 f6 f7 f8 HC
          go_wp2
          go_ret
          exact ⟨ret_bool (decide_eq_false (fun h => HE.out (by rw [← hxk.out, ← hyk.out, h]))).symm, ht⟩
      · obtain rfl : n = k := by omega
        go_wp2
        go_ret
        exact ⟨ret_bool (decide_eq_true (eqSt_all (HL.out.trans HM.out.symm) (by rw [HL.out]; exact hg))).symm, hbel⟩
  · have hne : ((n : Int) != (m : Int)) = true := by simp; omega
    go_enter Try.func53, Try.ntmps53
    go_wp2
    go_ret
    exact ⟨ret_bool (decide_eq_false (fun h => hnm (by rw [← HL.out, ← HM.out, h]))).symm, Below.refl _ _⟩
end Go.Proofs.Ytdippnnhibgjoaa
