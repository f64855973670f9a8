/- The contracts of the program's termFits, mayStand, numberOfStmtOk, stmtOk, stmtsOk (written by tools/gen_implstmts.py). -/
import Derived.Test.YteigeihbokkpiaaImplStmt
namespace Go.Proofs.Yteigeihbokkpiaa
open Go.RowKit

set_option maxHeartbeats 1600000 in
theorem termFits_any (r : PRow) (W I T A : Nat) (x y : Int) (w : World) (hr : Lim r W I T A) : Calls Try.prog 116 #[progV r, .agg #[.int .i64 x, .int .i64 y]] w fun e w' => e = .returned (.bool (fitB (2 ^ W) (I + T) A (x, y))) ∧ Below w.heap.size w w' := by
  have HG : Hid (∀ w' : World, Calls Try.prog 99 #[progV r] w' fun e w'' => e = .returned (.int .i64 (((2 ^ W : Nat) : Int) - 1)) ∧ Below w'.heap.size w' w'') := Lib.hid (fun w' => greatestValue_any r W w' hr.width hr.small)
  have HV : Hid (∀ (w' : World), Calls Try.prog 123 #[progV r, .int .i64 y] w' fun e w'' => e = .returned (.bool (decide (0 ≤ y) && decide (y < ((I + T : Nat) : Int)))) ∧ Below w'.heap.size w' w'') := Lib.hid (fun w' => isVariable_any r W I T A y w' hr)
  have HA : Hid (∀ (w' : World), Calls Try.prog 114 #[progV r, .int .i64 y] w' fun e w'' => e = .returned (.bool (decide (0 ≤ y) && decide (y < (A : Int)))) ∧ Below w'.heap.size w' w'') := Lib.hid (fun w' => isArray_any r W I T A y w' hr)
  have hS : 2 ^ W ≤ 2 ^ 8 := Nat.pow_le_pow_right (by omega) hr.small
  have e1 := hr.inputs
  have e2 := hr.temps
  have e3 := hr.arrays
  have hI := hr.few
  have hT := hr.fewT
  have hA := hr.fewA
  obtain ⟨wd, ⟨a1, n1, c1⟩, ⟨a2, n2, c2⟩, tp, ⟨a3, n3, c3⟩, ⟨a4, n4, c4⟩, rows⟩ := r
  simp only [] at e1 e2 e3
  subst e2 e3
  obtain ⟨S, HS⟩ : ∃ S : Nat, Hid (2 ^ W = S) := ⟨_, Lib.hid rfl⟩
  simp only [HS.out] at hS HG ⊢
  obtain ⟨R, HR⟩ : ∃ R, Hid (fitB S (I + T) n3 (x, y) = R) := ⟨_, rfl⟩
  rw [HR.out]
  show Calls Try.prog 116 #[.agg #[.int .i64 wd, .slice a1 n1 c1, .slice a2 n2 c2, .int .i64 (T : Int), .slice a3 n3 c3, .slice a4 n4 c4], .agg #[.int .i64 x, .int .i64 y]] w _
  obtain ⟨wa, HW⟩ : ∃ wa, Hid (wa = (w.alloc (.cells #[.int .i64 wd, .slice a1 n1 c1, .slice a2 n2 c2, .int .i64 (T : Int), .slice a3 n3 c3, .slice a4 n4 c4] 28)).alloc (.cells #[.int .i64 x, .int .i64 y] 121)) := ⟨_, rfl⟩
  have B0 : Blk wa w.heap.size 28 [.int .i64 wd, .slice a1 n1 c1, .slice a2 n2 c2, .int .i64 (T : Int), .slice a3 n3 c3, .slice a4 n4 c4] := by rw [HW.out]; exact (Blk.new w _ _).alloc _
  have B1 : Blk wa (w.heap.size + 1) 121 [.int .i64 x, .int .i64 y] := by rw [HW.out]; simpa using Blk.new (w.alloc _) 121 [.int .i64 x, .int .i64 y]
  have HB : Below w.heap.size w wa := by rw [HW.out]; exact ((Below.refl _ _).alloc (Nat.le_refl _) _).alloc (by simp) _
  clear hr HS
  by_cases h0 : x = 0
  · subst h0
    have hR : R = decide (y ≤ (S : Int) - 1) := by rw [← HR.out]; rfl
    subst hR
    clear HR
    have g0 := lat_cell B0.lt (B0.cell (j := 0) rfl)
    have g1 := lat_cell B0.lt (B0.cell (j := 1) rfl)
    have g2 := lat_cell B0.lt (B0.cell (j := 2) rfl)
    have g3 := lat_cell B0.lt (B0.cell (j := 3) rfl)
    have g4 := lat_cell B0.lt (B0.cell (j := 4) rfl)
    have g5 := lat_cell B0.lt (B0.cell (j := 5) rfl)
    have f0 := lat_cell B1.lt (B1.cell (j := 0) rfl)
    have f1 := lat_cell B1.lt (B1.cell (j := 1) rfl)
    have HC1 : Hid (∀ p : Lat wa, Calls Try.prog 99 #[.agg #[.int .i64 wd, .slice a1 n1 c1, .slice a2 n2 c2, .int .i64 (T : Int), .slice a3 n3 c3, .slice a4 n4 c4]] p.wd fun e w' => e = .returned (.int .i64 ((S : Int) - 1)) ∧ Below p.wd.heap.size p.wd w') := Lib.hid (fun p => HG.out p.wd)
    have s0 := B1.cell (j := 0) rfl
    go_enter Try.func116, Try.ntmps116
    go_wp2
    rw [← HW.out]
    refine wp_region_lat (by kernel_rfl) (by kernel_rfl) ?_
    repeat (go_big_quiet_step ((go_at_call 99; exact lat_calls (HC1.out _))))
    refine wpQuiet_nil ?_
    intro _ hw'
    obtain ⟨⟨wq, hwq⟩, hw''⟩ := hw'
    subst hw''
    have ht := HB.trans (hwq.mono HB.size)
    clear g0 g1 g2 g3 g4 g5 f0 f1 HC1 s0
    go_wp2
    go_ret
    exact ⟨ret_bool rfl, ht⟩
  by_cases h1 : x = 1
  · subst h1
    have hR : R = (decide (0 ≤ y) && decide (y < ((I + T : Nat) : Int))) := by rw [← HR.out]; rfl
    subst hR
    clear HR
    go_enter Try.func116, Try.ntmps116
    go_wp2_with fail
    rw [← HW.out]
    refine (HV.out _).mono ?_
    rintro e w1 ⟨rfl, hb1⟩
    have HB := HB.trans (hb1.mono HB.size)
    go_wp2
    go_ret
    exact ⟨ret_bool rfl, HB⟩
  by_cases h2 : x = 2
  · subst h2
    have hR : R = (decide (0 ≤ y) && decide (y < (n3 : Int))) := by rw [← HR.out]; rfl
    subst hR
    clear HR
    go_enter Try.func116, Try.ntmps116
    go_wp2_with fail
    rw [← HW.out]
    refine (HA.out _).mono ?_
    rintro e w1 ⟨rfl, hb1⟩
    have HB := HB.trans (hb1.mono HB.size)
    go_wp2
    go_ret
    exact ⟨ret_bool rfl, HB⟩
  have k0 : (x == 0) = false := by simpa using h0
  have k1 : (x == 1) = false := by simpa using h1
  have k2 : (x == 2) = false := by simpa using h2
  have hR : R = (x != 17) := by rw [← HR.out]; unfold fitB; rw [if_neg h0, if_neg h1, if_neg h2]
  subst hR
  clear HR h0 h1 h2
  go_enter Try.func116, Try.ntmps116
  go_wp2
  rw [← HW.out]
  go_ret
  exact ⟨ret_bool rfl, HB⟩
set_option maxHeartbeats 1600000 in
theorem mayStand_any (r : PRow) (W I T A : Nat) (a : Option Addr) (n c : Nat) (ts : List Tm) (w : World) (hr : Lim r W I T A) (h : Terms w a n ts) : Calls Try.prog 102 #[progV r, .slice a n c] w fun e w' => e = .returned (.bool (bodyB (2 ^ W) (I + T) A ts)) ∧ Below w.heap.size w w' := by
  rw [← mayB_eq]
  have HF : Hid (∀ (x y : Int) (w' : World), Calls Try.prog 116 #[progV r, .agg #[.int .i64 x, .int .i64 y]] w' fun e w'' => e = .returned (.bool (fitB (2 ^ W) (I + T) A (x, y))) ∧ Below w'.heap.size w' w'') := Lib.hid (fun x y w' => termFits_any r W I T A x y w' hr)
  have e1 := hr.inputs
  have e2 := hr.temps
  have e3 := hr.arrays
  have hI := hr.few
  have hT := hr.fewT
  have hA := hr.fewA
  obtain ⟨wd, ⟨a1, n1, c1⟩, ⟨a2, n2, c2⟩, tp, ⟨a3, n3, c3⟩, ⟨a4, n4, c4⟩, rows⟩ := r
  simp only [] at e1 e2 e3
  subst e2 e3
  have HL := Lib.hid h.1
  have hbd := h.2.1
  obtain ⟨f, HFF⟩ : ∃ f, Hid (fitB (2 ^ W) (I + T) n3 = f) := ⟨_, rfl⟩
  have HM : Hid (mayB (2 ^ W) (I + T) n3 ts = ((decide (n ≤ 40) && expB ts) && ts.all f)) := Lib.hid (by simp only [mayB, HL.out, HFF.out])
  rw [HM.out]
  simp only [HFF.out] at HF
  clear HM HFF hr
  show Calls Try.prog 102 #[.agg #[.int .i64 wd, .slice a1 n1 c1, .slice a2 n2 c2, .int .i64 (T : Int), .slice a3 n3 c3, .slice a4 n4 c4], .slice a n c] w _
  obtain ⟨wa, HW⟩ : ∃ wa, Hid (wa = w.alloc (.cells #[.int .i64 wd, .slice a1 n1 c1, .slice a2 n2 c2, .int .i64 (T : Int), .slice a3 n3 c3, .slice a4 n4 c4] 28)) := ⟨_, rfl⟩
  have B0 : Blk wa w.heap.size 28 [.int .i64 wd, .slice a1 n1 c1, .slice a2 n2 c2, .int .i64 (T : Int), .slice a3 n3 c3, .slice a4 n4 c4] := by rw [HW.out]; exact Blk.new w _ _
  have HB : Below w.heap.size w wa := by rw [HW.out]; exact (Below.refl _ _).alloc (Nat.le_refl _) _
  by_cases hn : n ≤ 40
  case neg =>
    have hd : decide ((n : Int) > 40) = true := by simp; omega
    go_enter Try.func102, Try.ntmps102
    go_wp2
    rw [← HW.out]
    go_ret
    exact ⟨ret_bool (by rw [decide_eq_false hn]; rfl), HB⟩
  have hd : decide ((n : Int) > 40) = false := by simp; omega
  obtain ⟨X, HX⟩ : ∃ X, Hid (expB ts = X) := ⟨_, rfl⟩
  rw [HX.out, decide_eq_true hn]
  go_enter Try.func102, Try.ntmps102
  go_wp2_with fail
  rw [← HW.out]
  refine (expOk_any _ _ _ _ _ (h.below (Nat.le_refl _) HB)).mono ?_
  rintro e w1 ⟨rfl, hb1⟩
  rw [HX.out]
  have B0 := B0.below hb1 B0.lt
  have HB := HB.trans (hb1.mono HB.size)
  clear hb1 HW
  cases X with
  | false =>
    go_wp2
    go_ret
    exact ⟨ret_bool rfl, HB⟩
  | true =>
  go_wp2
  go_loopw [17] (fun i wr => ∃ k : Nat, k ≤ n ∧ i = .int .i64 (k : Int) ∧ AllTo f ts k ∧ Below w1.heap.size w1 wr) (fun i _ => n - (intOf i).toNat)
  case atStart => exact ⟨0, Nat.zero_le _, rfl, AllTo.zero _ _, Below.refl _ _⟩
  case round =>
    obtain ⟨k, hk, rfl, hg, hbl⟩ := hrel
    have hbel := HB.trans (hbl.mono HB.size)
    by_cases hlt : k < n
    · obtain ⟨b, o, x, y, rfl, hb, hz, hin1, hin2, hc1, hc2⟩ := (h.below (Nat.le_refl _) hbel).at_ hlt
      obtain ⟨wb, HWb⟩ : ∃ wb, Hid (wb = wr.alloc (.cells #[.int .i64 x, .int .i64 y] 121)) := ⟨_, rfl⟩
      have hblb : Below w1.heap.size w1 wb := by rw [HWb.out]; exact hbl.alloc hbl.size _
      have B1 := (B0.below hbl B0.lt).alloc (.cells #[.int .i64 x, .int .i64 y] 121)
      have t0 := B1.cell (j := 0) rfl
      have t1 := B1.cell (j := 1) rfl
      have t2 := B1.cell (j := 2) rfl
      have t3 := B1.cell (j := 3) rfl
      have t4 := B1.cell (j := 4) rfl
      have t5 := B1.cell (j := 5) rfl
      obtain ⟨q, HQ⟩ : ∃ q, Hid (f (x, y) = q) := ⟨_, rfl⟩
      cases q with
      | true =>
        go_wp2_with fail
        rw [← HWb.out]
        refine (HF.out _ _ _).mono ?_
        rintro e w2 ⟨rfl, hb2⟩
        rw [HQ.out]
        have ht := hblb.trans (hb2.mono hblb.size)
        clear t0 t1 t2 t3 t4 t5 hc1 hc2
        go_wp2
        go_roundw
        case rel => exact ⟨k + 1, by omega, by go_num, hg.succ hz HQ.out, ht⟩
        case measure => simp [intOf]; omega
      | false =>
        go_wp2_with fail
        rw [← HWb.out]
        refine (HF.out _ _ _).mono ?_
        rintro e w2 ⟨rfl, hb2⟩
        rw [HQ.out]
        have ht := hblb.trans (hb2.mono hblb.size)
        have ht2 := HB.trans (ht.mono HB.size)
        clear t0 t1 t2 t3 t4 t5 hc1 hc2
        go_wp2
        go_ret
        exact ⟨ret_bool (all_bad (by rw [HL.out]; exact hlt) hz HQ.out).symm, ht2⟩
    · obtain rfl : n = k := by omega
      go_wp2
      go_ret
      exact ⟨ret_bool (allTo_all (by rw [HL.out]; exact hg)).symm, hbel⟩
theorem isWithin_bel (x lo hi : Int) (w : World) : Calls Try.prog 32 #[.int .i64 x, .int .i64 lo, .int .i64 hi] w fun e w' => e = .returned (.bool (decide (lo ≤ x) && decide (x ≤ hi))) ∧ Below w.heap.size w w' :=
  (isWithin_any x lo hi w).mono fun _ _ ⟨he, hw⟩ => ⟨he, by rw [← hw]; exact Below.refl _ _⟩
set_option maxHeartbeats 1600000 in
theorem numberOfStmtOk_any (r : PRow) (W I T A : Nat) (x y : Int) (b1 b2 : Option Addr) (m1 m2 d1 d2 : Nat) (w : World) (hr : Lim r W I T A) : Calls Try.prog 101 #[progV r, .agg #[.int .i64 x, .int .i64 y, .slice b1 m1 d1, .slice b2 m2 d2]] w fun e w' => e = .returned (.bool (numOk I T A x y)) ∧ Below w.heap.size w w' := by
  have HV : Hid (∀ (w' : World), Calls Try.prog 113 #[progV r, .int .i64 y] w' fun e w'' => e = .returned (.bool (decide ((I : Int) ≤ y) && decide (y ≤ (I : Int) + (T : Int) - 1))) ∧ Below w'.heap.size w' w'') := Lib.hid (fun w' => isTemp_any r W I T A y w' hr)
  have HA : Hid (∀ (w' : World), Calls Try.prog 114 #[progV r, .int .i64 y] w' fun e w'' => e = .returned (.bool (decide (0 ≤ y) && decide (y ≤ (A : Int) - 1))) ∧ Below w'.heap.size w' w'') := Lib.hid (fun w' => (isArray_any r W I T A y w' hr).mono fun _ _ ⟨he, hb⟩ => ⟨by rw [he]; exact ret_bool (by rw [Bool.eq_iff_iff]; simp <;> omega), hb⟩)
  have e1 := hr.inputs
  have e2 := hr.temps
  have e3 := hr.arrays
  have hI := hr.few
  have hT := hr.fewT
  have hA := hr.fewA
  obtain ⟨wd, ⟨a1, n1, c1⟩, ⟨a2, n2, c2⟩, tp, ⟨a3, n3, c3⟩, ⟨a4, n4, c4⟩, rows⟩ := r
  simp only [] at e1 e2 e3
  subst e2 e3
  obtain ⟨R, HR⟩ : ∃ R, Hid (numOk I T n3 x y = R) := ⟨_, rfl⟩
  rw [HR.out]
  show Calls Try.prog 101 #[.agg #[.int .i64 wd, .slice a1 n1 c1, .slice a2 n2 c2, .int .i64 (T : Int), .slice a3 n3 c3, .slice a4 n4 c4], .agg #[.int .i64 x, .int .i64 y, .slice b1 m1 d1, .slice b2 m2 d2]] w _
  obtain ⟨wa, HW⟩ : ∃ wa, Hid (wa = (w.alloc (.cells #[.int .i64 wd, .slice a1 n1 c1, .slice a2 n2 c2, .int .i64 (T : Int), .slice a3 n3 c3, .slice a4 n4 c4] 28)).alloc (.cells #[.int .i64 x, .int .i64 y, .slice b1 m1 d1, .slice b2 m2 d2] 46)) := ⟨_, rfl⟩
  have B0 : Blk wa w.heap.size 28 [.int .i64 wd, .slice a1 n1 c1, .slice a2 n2 c2, .int .i64 (T : Int), .slice a3 n3 c3, .slice a4 n4 c4] := by rw [HW.out]; exact (Blk.new w _ _).alloc _
  have B1 : Blk wa (w.heap.size + 1) 46 [.int .i64 x, .int .i64 y, .slice b1 m1 d1, .slice b2 m2 d2] := by rw [HW.out]; simpa using Blk.new (w.alloc _) 46 [.int .i64 x, .int .i64 y, .slice b1 m1 d1, .slice b2 m2 d2]
  have HB : Below w.heap.size w wa := by rw [HW.out]; exact ((Below.refl _ _).alloc (Nat.le_refl _) _).alloc (by simp) _
  clear hr
  by_cases h0 : x = 0
  · subst h0
    have hR : R = (decide ((I : Int) ≤ y) && decide (y ≤ (I : Int) + (T : Int) - 1)) := by rw [← HR.out]; rfl
    subst hR
    clear HR
    go_enter Try.func101, Try.ntmps101
    go_wp2_with fail
    rw [← HW.out]
    refine (HV.out _).mono ?_
    rintro e w1 ⟨rfl, hb1⟩
    have HB := HB.trans (hb1.mono HB.size)
    go_wp2
    go_ret
    exact ⟨ret_bool rfl, HB⟩
  by_cases h1 : x = 1
  · subst h1
    have hR : R = (decide (0 ≤ y) && decide (y ≤ (n3 : Int) - 1)) := by rw [← HR.out]; rfl
    subst hR
    clear HR
    go_enter Try.func101, Try.ntmps101
    go_wp2_with fail
    rw [← HW.out]
    refine (HA.out _).mono ?_
    rintro e w1 ⟨rfl, hb1⟩
    have HB := HB.trans (hb1.mono HB.size)
    go_wp2
    go_ret
    exact ⟨ret_bool rfl, HB⟩
  by_cases h5 : x = 5
  · subst h5
    have hR : R = (decide (0 ≤ y) && decide (y ≤ 4)) := by rw [← HR.out]; rfl
    subst hR
    clear HR
    go_enter Try.func101, Try.ntmps101
    go_wp2_with fail
    rw [← HW.out]
    refine (isWithin_bel _ _ _ _).mono ?_
    rintro e w1 ⟨rfl, hb1⟩
    have HB := HB.trans (hb1.mono HB.size)
    go_wp2
    go_ret
    exact ⟨ret_bool rfl, HB⟩
  by_cases h7 : x = 7
  · subst h7
    have hR : R = (decide (0 ≤ y) && decide (y ≤ 9)) := by rw [← HR.out]; rfl
    subst hR
    clear HR
    go_enter Try.func101, Try.ntmps101
    go_wp2_with fail
    rw [← HW.out]
    refine (isWithin_bel _ _ _ _).mono ?_
    rintro e w1 ⟨rfl, hb1⟩
    have HB := HB.trans (hb1.mono HB.size)
    go_wp2
    go_ret
    exact ⟨ret_bool rfl, HB⟩
  by_cases h9 : x = 9
  · subst h9
    have hR : R = (decide (0 ≤ y) && decide (y ≤ 9)) := by rw [← HR.out]; rfl
    subst hR
    clear HR
    go_enter Try.func101, Try.ntmps101
    go_wp2_with fail
    rw [← HW.out]
    refine (isWithin_bel _ _ _ _).mono ?_
    rintro e w1 ⟨rfl, hb1⟩
    have HB := HB.trans (hb1.mono HB.size)
    go_wp2
    go_ret
    exact ⟨ret_bool rfl, HB⟩
  have k0 : (x == 0) = false := by simpa using h0
  have k1 : (x == 1) = false := by simpa using h1
  have k5 : (x == 5) = false := by simpa using h5
  have k7 : (x == 7) = false := by simpa using h7
  have k9 : (x == 9) = false := by simpa using h9
  have hR : R = (y == 0) := by rw [← HR.out]; unfold numOk; rw [if_neg h0, if_neg h1, if_neg h5, if_neg (by omega)]
  subst hR
  clear HR h0 h1 h5 h7 h9
  go_enter Try.func101, Try.ntmps101
  go_wp2
  rw [← HW.out]
  go_ret
  exact ⟨ret_bool rfl, HB⟩
set_option maxHeartbeats 3200000 in
theorem stmtOk_any (r : PRow) (W I T A : Nat) (x y : Int) (b1 b2 : Option Addr) (m1 m2 d1 d2 : Nat) (ts us : List Tm) (w : World) (hr : Lim r W I T A) (h1 : Terms w b1 m1 ts) (h2 : Terms w b2 m2 us) :
    Calls Try.prog 75 #[progV r, .agg #[.int .i64 x, .int .i64 y, .slice b1 m1 d1, .slice b2 m2 d2]] w fun e w' => e = .returned (.bool (stmtB (2 ^ W) I T A ⟨x, y, ts, us⟩)) ∧ Below w.heap.size w w' := by
  rw [← stmtI_eq]
  have HN : Hid (∀ (w' : World), Calls Try.prog 101 #[progV r, .agg #[.int .i64 x, .int .i64 y, .slice b1 m1 d1, .slice b2 m2 d2]] w' fun e w'' => e = .returned (.bool (numOk I T A x y)) ∧ Below w'.heap.size w' w'') := Lib.hid (fun w' => numberOfStmtOk_any r W I T A x y b1 b2 m1 m2 d1 d2 w' hr)
  have HM : Hid (∀ (w' : World) (a : Option Addr) (n c : Nat) (vs : List Tm), Terms w' a n vs → Calls Try.prog 102 #[progV r, .slice a n c] w' fun e w'' => e = .returned (.bool (bodyB (2 ^ W) (I + T) A vs)) ∧ Below w'.heap.size w' w'') := Lib.hid (fun w' a n c vs ht => mayStand_any r W I T A a n c vs w' hr ht)
  have e1 := hr.inputs
  have e2 := hr.temps
  have e3 := hr.arrays
  have hI := hr.few
  have hT := hr.fewT
  have hA := hr.fewA
  obtain ⟨wd, ⟨a1, n1, c1⟩, ⟨a2, n2, c2⟩, tp, ⟨a3, n3, c3⟩, ⟨a4, n4, c4⟩, rows⟩ := r
  simp only [] at e1 e2 e3
  subst e2 e3
  have L1 := Lib.hid h1.1
  have L2 := Lib.hid h2.1
  have hm1 := h1.2.1
  have hm2 := h2.2.1
  obtain ⟨G, HG⟩ : ∃ G, Hid (bodyB (2 ^ W) (I + T) n3 = G) := ⟨_, rfl⟩
  obtain ⟨N, HNN⟩ : ∃ N, Hid (numOk I T n3 x y = N) := ⟨_, rfl⟩
  obtain ⟨R, HR⟩ : ∃ R, Hid (stmtI (2 ^ W) I T n3 ⟨x, y, ts, us⟩ = R) := ⟨_, rfl⟩
  have hR := HR.out
  simp only [stmtI, L1.out, L2.out, HG.out, HNN.out] at hR
  rw [HR.out]
  have HR := Lib.hid hR
  simp only [HG.out] at HM
  simp only [HNN.out] at HN
  clear hR HG hr
  have T1 := Lib.hid h1
  have T2 := Lib.hid h2
  clear h1 h2
  obtain ⟨Y1, HY1⟩ : ∃ Y, Hid (G ts = Y) := ⟨_, rfl⟩
  obtain ⟨Y2, HY2⟩ : ∃ Y, Hid (G us = Y) := ⟨_, rfl⟩
  simp only [HY1.out, HY2.out] at HR
  show Calls Try.prog 75 #[.agg #[.int .i64 wd, .slice a1 n1 c1, .slice a2 n2 c2, .int .i64 (T : Int), .slice a3 n3 c3, .slice a4 n4 c4], .agg #[.int .i64 x, .int .i64 y, .slice b1 m1 d1, .slice b2 m2 d2]] w _
  obtain ⟨wa, HW⟩ : ∃ wa, Hid (wa = (w.alloc (.cells #[.int .i64 wd, .slice a1 n1 c1, .slice a2 n2 c2, .int .i64 (T : Int), .slice a3 n3 c3, .slice a4 n4 c4] 28)).alloc (.cells #[.int .i64 x, .int .i64 y, .slice b1 m1 d1, .slice b2 m2 d2] 46)) := ⟨_, rfl⟩
  have B0 : Blk wa w.heap.size 28 [.int .i64 wd, .slice a1 n1 c1, .slice a2 n2 c2, .int .i64 (T : Int), .slice a3 n3 c3, .slice a4 n4 c4] := by rw [HW.out]; exact (Blk.new w _ _).alloc _
  have B1 : Blk wa (w.heap.size + 1) 46 [.int .i64 x, .int .i64 y, .slice b1 m1 d1, .slice b2 m2 d2] := by rw [HW.out]; simpa using Blk.new (w.alloc _) 46 [.int .i64 x, .int .i64 y, .slice b1 m1 d1, .slice b2 m2 d2]
  have HB : Below w.heap.size w wa := by rw [HW.out]; exact ((Below.refl _ _).alloc (Nat.le_refl _) _).alloc (by simp) _
  by_cases hx : 0 ≤ x ∧ x ≤ 9
  case neg =>
    have hin : (decide (0 ≤ x) && decide (x ≤ 9)) = false := by rw [← Bool.not_eq_true]; simpa using hx
    have hR := HR.out
    rw [hin, Bool.false_and, Bool.false_and] at hR
    subst hR
    go_enter Try.func75, Try.ntmps75
    go_wp2_with (go_at_call 32; refine (isWithin_any _ _ _ _).mono ?_; rintro e w' ⟨rfl, rfl⟩; rw [hin])
    rw [← HW.out]
    go_ret
    exact ⟨rfl, HB⟩
  have hin : (decide (0 ≤ x) && decide (x ≤ 9)) = true := by simpa using hx
  rw [hin, Bool.true_and] at HR
  go_enter Try.func75, Try.ntmps75
  go_wp2_with (go_at_call 32; refine (isWithin_any _ _ _ _).mono ?_; rintro e w' ⟨rfl, rfl⟩; rw [hin])
  rw [← HW.out]
  refine (HN.out _).mono ?_
  rintro e w1 ⟨rfl, hb1⟩
  have B0 := B0.below hb1 (Nat.lt_of_lt_of_le B0.lt (Nat.le_refl _))
  have B1 := B1.below hb1 B1.lt
  have HB := HB.trans (hb1.mono HB.size)
  clear hb1 HW hin HN
  have t0 := B0.cell (j := 0) rfl
  have t1 := B0.cell (j := 1) rfl
  have t2 := B0.cell (j := 2) rfl
  have t3 := B0.cell (j := 3) rfl
  have t4 := B0.cell (j := 4) rfl
  have t5 := B0.cell (j := 5) rfl
  have s0 := B1.cell (j := 0) rfl
  have s1 := B1.cell (j := 1) rfl
  have s2 := B1.cell (j := 2) rfl
  have s3 := B1.cell (j := 3) rfl
  cases N with
  | false =>
    have hR := HR.out
    rw [Bool.false_and] at hR
    subst hR
    go_wp2
    go_ret
    exact ⟨rfl, HB⟩
  | true =>
  rw [Bool.true_and] at HR
  by_cases hx1 : x = 1
  · subst hx1
    rw [if_pos rfl] at HR
    go_wp2_with fail
    refine (HM.out _ _ _ _ _ (T1.out.below (Nat.le_refl _) HB)).mono ?_
    rintro e w2 ⟨rfl, hb2⟩
    rw [HY1.out]
    have B0 := B0.below hb2 B0.lt
    have B1 := B1.below hb2 B1.lt
    have HB := HB.trans (hb2.mono HB.size)
    clear t0 t1 t2 t3 t4 t5 s0 s1 s2 s3 hb2
    have t0 := B0.cell (j := 0) rfl
    have t1 := B0.cell (j := 1) rfl
    have t2 := B0.cell (j := 2) rfl
    have t3 := B0.cell (j := 3) rfl
    have t4 := B0.cell (j := 4) rfl
    have t5 := B0.cell (j := 5) rfl
    have s0 := B1.cell (j := 0) rfl
    have s1 := B1.cell (j := 1) rfl
    have s2 := B1.cell (j := 2) rfl
    have s3 := B1.cell (j := 3) rfl
    cases Y1 with
    | false =>
      have hR := HR.out
      rw [Bool.false_and] at hR
      subst hR
      go_wp2
      go_ret
      exact ⟨rfl, HB⟩
    | true =>
    rw [Bool.true_and] at HR
    have hR := HR.out
    subst hR
    go_wp2_with fail
    refine (HM.out _ _ _ _ _ (T2.out.below (Nat.le_refl _) HB)).mono ?_
    rintro e w3 ⟨rfl, hb3⟩
    rw [HY2.out]
    have HB := HB.trans (hb3.mono HB.size)
    clear t0 t1 t2 t3 t4 t5 s0 s1 s2 s3
    go_wp2
    go_ret
    exact ⟨rfl, HB⟩
  rw [if_neg hx1] at HR
  have k1 : (x == 1) = false := by simpa using hx1
  by_cases hx2 : x = 0 ∨ x = 2 ∨ x = 6
  · rw [if_pos hx2] at HR
    by_cases hz : m1 = 0
    · subst hz
      rw [decide_eq_true rfl, Bool.true_and] at HR
      have hR := HR.out
      subst hR
      rcases hx2 with rfl | rfl | rfl
      all_goals
        go_wp2_with fail
        refine (HM.out _ _ _ _ _ (T2.out.below (Nat.le_refl _) HB)).mono ?_
        rintro e w3 ⟨rfl, hb3⟩
        rw [HY2.out]
        have HB := HB.trans (hb3.mono HB.size)
        clear t0 t1 t2 t3 t4 t5 s0 s1 s2 s3
        go_wp2
        go_ret
        exact ⟨rfl, HB⟩
    · rw [decide_eq_false hz, Bool.false_and] at HR
      have hR := HR.out
      subst hR
      have hz2 : ((m1 : Int) == 0) = false := by simp; omega
      rcases hx2 with rfl | rfl | rfl
      all_goals
        go_wp2
        go_ret
        exact ⟨rfl, HB⟩
  rw [if_neg hx2] at HR
  have k0 : (x == 0) = false := by simp; omega
  have k2 : (x == 2) = false := by simp; omega
  have k6 : (x == 6) = false := by simp; omega
  clear hx1 hx2 hx
  by_cases hz : m1 = 0
  · subst hz
    rw [decide_eq_true rfl, Bool.true_and] at HR
    by_cases hz2 : m2 = 0
    · subst hz2
      have hR := HR.out
      rw [decide_eq_true rfl] at hR
      subst hR
      go_wp2
      go_ret
      exact ⟨rfl, HB⟩
    · have hR := HR.out
      rw [decide_eq_false hz2] at hR
      subst hR
      have hz3 : ((m2 : Int) == 0) = false := by simp; omega
      go_wp2
      go_ret
      exact ⟨rfl, HB⟩
  · have hR := HR.out
    rw [decide_eq_false hz, Bool.false_and] at hR
    subst hR
    have hz3 : ((m1 : Int) == 0) = false := by simp; omega
    go_wp2
    go_ret
    exact ⟨rfl, HB⟩
set_option maxHeartbeats 3200000 in
theorem stmtsOk_any (r : PRow) (p : Prg) (W I T A : Nat) (w : World) (h : ProgAt w r p) (hr : Lim r W I T A) :
    Calls Try.prog 35 #[progV r] w fun e w' => e = .returned (.bool (p.body.all (stmtB (2 ^ W) I T A))) ∧ Below w.heap.size w w' := by
  have HX : Hid (∀ (x y : Int) (b1 b2 : Option Addr) (m1 m2 d1 d2 : Nat) (ts us : List Tm) (w' : World), Terms w' b1 m1 ts → Terms w' b2 m2 us → Calls Try.prog 75 #[progV r, .agg #[.int .i64 x, .int .i64 y, .slice b1 m1 d1, .slice b2 m2 d2]] w' fun e w'' => e = .returned (.bool (stmtB (2 ^ W) I T A ⟨x, y, ts, us⟩)) ∧ Below w'.heap.size w' w'') :=
    Lib.hid (fun x y b1 b2 m1 m2 d1 d2 ts us w' h1 h2 => stmtOk_any r W I T A x y b1 b2 m1 m2 d1 d2 ts us w' hr h1 h2)
  have h4 := h.body
  clear h
  have e1 := hr.inputs
  have e2 := hr.temps
  have e3 := hr.arrays
  have hI := hr.few
  have hT := hr.fewT
  have hA := hr.fewA
  obtain ⟨wd, ⟨a1, n1, c1⟩, ⟨a2, n2, c2⟩, tp, ⟨a3, n3, c3⟩, ⟨a4, n4, c4⟩, rows⟩ := r
  simp only [] at e1 e2 e3
  subst e2 e3
  clear hr
  obtain ⟨pw, pl, ps, pt, pa, pb⟩ := p
  simp only [] at h4
  obtain ⟨f, HF⟩ : ∃ f, Hid (stmtB (2 ^ W) I T n3 = f) := ⟨_, rfl⟩
  simp only [HF.out] at HX ⊢
  clear HF
  show Calls Try.prog 35 #[.agg #[.int .i64 wd, .slice a1 n1 c1, .slice a2 n2 c2, .int .i64 (T : Int), .slice a3 n3 c3, .slice a4 n4 c4]] w _
  have HL := Lib.hid h4.2.1
  have hbd := h4.2.2.1
  obtain ⟨wa, HW⟩ : ∃ wa, Hid (wa = w.alloc (.cells #[.int .i64 wd, .slice a1 n1 c1, .slice a2 n2 c2, .int .i64 (T : Int), .slice a3 n3 c3, .slice a4 n4 c4] 28)) := ⟨_, rfl⟩
  have B0 : Blk wa w.heap.size 28 [.int .i64 wd, .slice a1 n1 c1, .slice a2 n2 c2, .int .i64 (T : Int), .slice a3 n3 c3, .slice a4 n4 c4] := by rw [HW.out]; exact Blk.new w _ _
  have HB : Below w.heap.size w wa := by rw [HW.out]; exact (Below.refl _ _).alloc (Nat.le_refl _) _
  go_enter Try.func35, Try.ntmps35
  go_wp2
  rw [← HW.out]
  go_loopw [8] (fun i wr => ∃ k : Nat, k ≤ n4 ∧ i = .int .i64 (k : Int) ∧ StTo f pb k ∧ Below wa.heap.size wa wr) (fun i _ => n4 - (intOf i).toNat)
  case atStart => exact ⟨0, Nat.zero_le _, rfl, StTo.zero _ _, Below.refl _ _⟩
  case round =>
    obtain ⟨k, hk, rfl, hg, hbl⟩ := hrel
    have hbel := HB.trans (hbl.mono HB.size)
    by_cases hlt : k < n4
    · obtain ⟨b, o, x, y, p1, m1, d1, p2, m2, d2, ts, us, rfl, hb, hz, hin1, hin2, hc1, hc2, hc3, hc4, hT1, hT2⟩ := (h4.below hbel).at_ hlt
      obtain ⟨wb, HWb⟩ : ∃ wb, Hid (wb = wr.alloc (.cells #[.int .i64 x, .int .i64 y, .slice p1 m1 d1, .slice p2 m2 d2] 46)) := ⟨_, rfl⟩
      have hwb : Below wr.heap.size wr wb := by rw [HWb.out]; exact (Below.refl _ _).alloc (Nat.le_refl _) _
      have hblb : Below wa.heap.size wa wb := hbl.trans (hwb.mono hbl.size)
      have t5' := (B0.below hbl B0.lt).cell (j := 5) rfl
      have B1 := (B0.below hbl B0.lt).alloc (.cells #[.int .i64 x, .int .i64 y, .slice p1 m1 d1, .slice p2 m2 d2] 46)
      have t0 := B1.cell (j := 0) rfl
      have t1 := B1.cell (j := 1) rfl
      have t2 := B1.cell (j := 2) rfl
      have t3 := B1.cell (j := 3) rfl
      have t4 := B1.cell (j := 4) rfl
      have t5 := B1.cell (j := 5) rfl
      obtain ⟨q, HQ⟩ : ∃ q, Hid (f ⟨x, y, ts, us⟩ = q) := ⟨_, rfl⟩
      have HC : Hid (Calls Try.prog 75 #[.agg #[.int .i64 wd, .slice a1 n1 c1, .slice a2 n2 c2, .int .i64 (T : Int), .slice a3 n3 c3, .slice (some ⟨b, o, none⟩) n4 c4], .agg #[.int .i64 x, .int .i64 y, .slice p1 m1 d1, .slice p2 m2 d2]] wb fun e w' => e = .returned (.bool q) ∧ Below wb.heap.size wb w') := Lib.hid (by
        rw [← HQ.out]; exact HX.out _ _ _ _ _ _ _ _ _ _ _ (hT1.below (Nat.le_refl _) hwb) (hT2.below (Nat.le_refl _) hwb))
      clear hT1 hT2
      cases q with
      | true =>
        go_wp2_with fail
        rw [← HWb.out]
        refine HC.out.mono ?_
        rintro e w2 ⟨rfl, hb2⟩
        have ht := hblb.trans (hb2.mono hblb.size)
        clear t0 t1 t2 t3 t4 t5 t5' hc1 hc2 hc3 hc4 HC
        go_wp2
        go_roundw
        case rel => exact ⟨k + 1, by omega, by go_num, hg.succ hz HQ.out, ht⟩
        case measure => simp [intOf]; omega
      | false =>
        go_wp2_with fail
        rw [← HWb.out]
        refine HC.out.mono ?_
        rintro e w2 ⟨rfl, hb2⟩
        have ht := hblb.trans (hb2.mono hblb.size)
        have ht2 := HB.trans (ht.mono HB.size)
        clear t0 t1 t2 t3 t4 t5 t5' hc1 hc2 hc3 hc4 HC
        go_wp2
        go_ret
        exact ⟨ret_bool (st_bad (by rw [HL.out]; exact hlt) hz HQ.out).symm, ht2⟩
    · obtain rfl : n4 = k := by omega
      go_wp2
      go_ret
      exact ⟨ret_bool (stTo_all (by rw [HL.out]; exact hg)).symm, hbel⟩
end Go.Proofs.Yteigeihbokkpiaa
