/- The contract of the laws' own helper likeTerms. -/
import Derived.Test.YtjfdmdemgnponaaTermCopies
import Derived.Laws.StructEq
namespace Go.Proofs.Ytjfdmdemgnponaa
open Go.RowKit

theorem tm_ne {xs ys : List Tm} {k : Nat} {t u : Tm} (hx : Hid (tmAt xs k = t)) (hy : Hid (tmAt ys k = u)) (hne : t ≠ u) : xs ≠ ys := fun h => hne (by rw [← hx.out, ← hy.out, h])
set_option maxHeartbeats 800000 in
theorem likeTerms_any (a b : Option Addr) (n m c d : Nat) (xs ys : List Tm) (w : World) (hx : Terms w a n xs) (hy : Terms w b m ys) :
    Calls Try.prog 17 #[.slice a n c, .slice b m d] w fun e w' => e = .returned (.bool (decide (xs = ys))) ∧ Below w.heap.size w w' := by
  have HL := Lib.hid hx.1
  have HM := Lib.hid hy.1
  have hbd := hx.2.1
  have hbe := hy.2.1
  have hgd : Try.prog.eqGuardType Try.prog.depth 31 = false := by kernel_rfl
  by_cases hnm : n = m
  · subst hnm
    have hne0 : ((n : Int) != (n : Int)) = false := by simp
    go_enter Try.func17, Try.ntmps17
    go_wp2
    go_loopw [5] (fun i wr => ∃ k : Nat, k ≤ n ∧ i = .int .i64 k ∧ EqTm xs ys k ∧ Below w.heap.size w wr) (fun i _ => n - (intOf i).toNat)
    case atStart => exact ⟨0, Nat.zero_le _, rfl, EqTm.zero _ _, Below.refl _ _⟩
    case round =>
      obtain ⟨k, hk, rfl, hg, hbel⟩ := hrel
      by_cases hlt : k < n
      · obtain ⟨b1, o1, x1, y1, rfl, hb1, hxk, hin1, hin2, hc1, hc2⟩ := (hx.below (Nat.le_refl _) hbel).at_ hlt
        obtain ⟨b2, o2, x2, y2, rfl, hb2, hyk, hin3, hin4, hc3, hc4⟩ := (hy.below (Nat.le_refl _) hbel).at_ hlt
        have f1 := lat_cell hb1 hc1
        have f2 := lat_cell hb1 hc2
        have f3 := lat_cell hb2 hc3
        have f4 := lat_cell hb2 hc4
        clear hc1 hc2 hc3 hc4
        by_cases e1 : x1 = x2
        · subst e1
          by_cases e2 : y1 = y2
          · subst e2
            go_wp2
            refine wp_region_lat (by kernel_rfl) (by kernel_rfl) ?_
            repeat (quiet_step (fail))
            refine wpQuiet_nil ?_
            intro _ hw'
            obtain ⟨⟨wq, hwq⟩, hw''⟩ := hw'
            subst hw''
            have ht := hbel.trans (hwq.mono hbel.size)
            clear f1 f2 f3 f4
            go_wp2
            go_roundw
            case rel => exact ⟨k + 1, by omega, by go_num, hg.succ hxk hyk rfl, ht⟩
            case measure => simp [intOf]; omega
          · have E2 := Lib.hid e2
            go_wp2
            refine wp_region_lat (by kernel_rfl) (by kernel_rfl) ?_
            repeat (quiet_step (fail))
            refine wpQuiet_nil ?_
            intro _ hw'
            obtain ⟨⟨wq, hwq⟩, hw''⟩ := hw'
            subst hw''
            have ht := hbel.trans (hwq.mono hbel.size)
            clear f1 f2 f3 f4
            go_wp2
            go_ret
            exact ⟨ret_bool (decide_eq_false (tm_ne hxk hyk (fun h => E2.out (congrArg Prod.snd h)))).symm, ht⟩
        · have E1 := Lib.hid e1
          go_wp2
          refine wp_region_lat (by kernel_rfl) (by kernel_rfl) ?_
          repeat (quiet_step (fail))
          refine wpQuiet_nil ?_
          intro _ hw'
          obtain ⟨⟨wq, hwq⟩, hw''⟩ := hw'
          subst hw''
          have ht := hbel.trans (hwq.mono hbel.size)
          clear f1 f2 f3 f4
          go_wp2
          go_ret
          exact ⟨ret_bool (decide_eq_false (tm_ne hxk hyk (fun h => E1.out (congrArg Prod.fst h)))).symm, ht⟩
      · obtain rfl : n = k := by omega
        go_wp2
        go_ret
        exact ⟨ret_bool (decide_eq_true (eqTm_all (HL.out.trans HM.out.symm) (by rw [HL.out]; exact hg))).symm, hbel⟩
  · have hne : ((n : Int) != (m : Int)) = true := by simp; omega
    go_enter Try.func17, Try.ntmps17
    go_wp2
    go_ret
    exact ⟨ret_bool (decide_eq_false (fun h => hnm (by rw [← HL.out, ← HM.out, h]))).symm, Below.refl _ _⟩
end Go.Proofs.Ytjfdmdemgnponaa
