/- Joined texts of this proof (SpecExp, SpecStmt, SpecStmts, SpecCode, SpecCodeOf, SpecProgOk), in build order. -/
import Derived.Test.YtbnpoliogldohaaGreatS9
import Derived.Test.YtbnpoliogldohaaGreatS1
/- The contracts of the model's l3Names and l3Exp. -/
namespace Go.Proofs.YtbnpoliogldohaaGreat
open Go.RowKit

/-- What a program's head allows: its width, its inputs, its temporaries, its arrays. -/
structure Lim (r : PRow) (W I T A : Nat) : Prop where
  width : r.width = (W : Int)
  small : W ≤ 8
  inputs : r.lows.2.1 + r.secrets.2.1 = I
  few : I ≤ 1048576
  temps : r.temps = (T : Int)
  fewT : T ≤ 1048576
  arrays : r.arrays.2.1 = A
  fewA : A ≤ 1048576
/-- A Term names what there is: S values, V variables, A arrays. -/
def nameOk (S V A : Nat) (t : Tm) : Bool :=
  if t.1 = 0 then decide (t.2 < (S : Int)) else if t.1 = 1 then decide (t.2 < (V : Int)) else if t.1 = 2 then decide (t.2 < (A : Int)) else true
def namesB (S V A : Nat) (ts : List Tm) : Bool := expB ts && ts.all (nameOk S V A)
def bodyB (S V A : Nat) (ts : List Tm) : Bool := ts.all (fun t => t.1 != 17) && (decide (ts.length ≤ 40) && namesB S V A ts)
def AllTo (f : Tm → Bool) (ts : List Tm) (k : Nat) : Prop := ∀ i, i < k → f (tmAt ts i) = true
theorem AllTo.zero (f : Tm → Bool) (ts : List Tm) : AllTo f ts 0 := fun i hi => absurd hi (by omega)
theorem AllTo.succ {f : Tm → Bool} {ts : List Tm} {k : Nat} {t : Tm} (h : AllTo f ts k) (hz : Hid (tmAt ts k = t)) (ht : f t = true) : AllTo f ts (k + 1) := by
  intro i hi
  rcases Nat.lt_or_ge i k with hlt | hge
  · exact h i hlt
  · have : i = k := by omega
    subst this; rw [hz.out]; exact ht
theorem allTo_all {f : Tm → Bool} {ts : List Tm} (h : AllTo f ts ts.length) : ts.all f = true := by
  rw [List.all_eq_true]
  intro z hz
  obtain ⟨i, hi, rfl⟩ := List.getElem_of_mem hz
  have := h i hi
  rw [tmAt, List.getD_eq_getElem?_getD, List.getElem?_eq_getElem hi] at this
  simpa using this
theorem all_bad {f : Tm → Bool} {ts : List Tm} {k : Nat} {t : Tm} (hk : k < ts.length) (hz : Hid (tmAt ts k = t)) (ht : f t = false) : ts.all f = false := by
  rw [← Bool.not_eq_true, List.all_eq_true]
  intro h
  have := h _ (tmAt_mem hk)
  rw [hz.out, ht] at this
  exact absurd this (by simp)

set_option maxHeartbeats 3200000 in
theorem l3Names_any (r : PRow) (W I T A : Nat) (a : Option Addr) (n c : Nat) (ts : List Tm) (w : World) (hr : Lim r W I T A) (h : Terms w a n ts) :
    Calls Tryz.prog 247 #[progV r, .slice a n c] w fun e w' => e = .returned (.bool (namesB (2 ^ W) (I + T) A ts)) ∧ Below w.heap.size w w' := by
  have HC0 : Hid (∀ w' : World, Calls Tryz.prog 171 #[progV r] w' fun e w'' => e = .returned (.int .i64 ((2 ^ W : Nat) : Int)) ∧ Below w'.heap.size w' w'') := Lib.hid (fun w' => l3Size_any r W w' hr.width hr.small)
  have HV0 : Hid (∀ w' : World, Calls Tryz.prog 82 #[progV r] w' fun e w'' => e = .returned (.int .i64 ((I + T : Nat) : Int)) ∧ Below w'.heap.size w' w'') := Lib.hid (fun w' => by
    have q := l3Vars_any r w' (by have := hr.inputs; have := hr.few; omega) (by have := hr.inputs; have := hr.few; omega) (by rw [hr.temps]; omega) (by rw [hr.temps]; have := hr.fewT; omega)
    refine q.mono fun e w'' ⟨he, hb⟩ => ⟨?_, hb⟩
    rw [he]
    exact ret_int (by have := hr.inputs; rw [hr.temps]; omega))
  have hA := hr.arrays
  have hfA := hr.fewA
  have hI := hr.few
  have hT := hr.fewT
  have h8 := hr.small
  obtain ⟨wd, ⟨a1, n1, c1⟩, ⟨a2, n2, c2⟩, tp, ⟨a3, n3, c3⟩, ⟨a4, n4, c4⟩, rows⟩ := r
  simp only [] at hA
  subst hA
  clear hr
  have hS : 2 ^ W ≤ 2 ^ 8 := Nat.pow_le_pow_right (by omega) h8
  obtain ⟨S, HS⟩ : ∃ S : Nat, Hid (2 ^ W = S) := ⟨_, Lib.hid rfl⟩
  obtain ⟨V, HV⟩ : ∃ V : Nat, Hid (I + T = V) := ⟨_, Lib.hid rfl⟩
  have hV : V ≤ 2097152 := by have := HV.out; omega
  simp only [HS.out, HV.out] at hS HC0 HV0 ⊢
  clear HS h8 HV hI hT
  show Calls Tryz.prog 247 #[.agg #[.int .i64 wd, .slice a1 n1 c1, .slice a2 n2 c2, .int .i64 tp, .slice a3 n3 c3, .slice a4 n4 c4], .slice a n c] w _
  have HL := Lib.hid h.1
  have hbd := h.2.1
  obtain ⟨wa, HW⟩ : ∃ wa, Hid (wa = w.alloc (.cells #[.int .i64 wd, .slice a1 n1 c1, .slice a2 n2 c2, .int .i64 tp, .slice a3 n3 c3, .slice a4 n4 c4] 28)) := ⟨_, rfl⟩
  have BX : Blk wa w.heap.size 28 [.int .i64 wd, .slice a1 n1 c1, .slice a2 n2 c2, .int .i64 tp, .slice a3 n3 c3, .slice a4 n4 c4] := by rw [HW.out]; exact Blk.new w _ _
  have HB : Below w.heap.size w wa := by rw [HW.out]; exact (Below.refl _ _).alloc (Nat.le_refl _) _
  go_enter Tryz.func247, Tryz.ntmps247
  go_wp2_with fail
  rw [← HW.out]
  refine (specExpOk_any _ _ _ _ _ (h.below (Nat.le_refl _) HB)).mono ?_
  rintro e wb ⟨rfl, hbb⟩
  have HBB := HB.trans (hbb.mono HB.size)
  have BX := BX.below hbb BX.lt
  clear HW
  obtain ⟨E, HE⟩ : ∃ E, Hid (expB ts = E) := ⟨_, rfl⟩
  rw [HE.out]
  cases E with
  | false =>
    go_wp2
    go_ret
    exact ⟨ret_bool (by unfold namesB; rw [HE.out]; rfl), HBB⟩
  | true =>
  go_wp2
  go_loopw [5] (fun i wr => ∃ k : Nat, k ≤ n ∧ i = .int .i64 (k : Int) ∧ AllTo (nameOk S V n3) ts k ∧ Below wb.heap.size wb wr) (fun i _ => n - (intOf i).toNat)
  case atStart => exact ⟨0, Nat.zero_le _, rfl, AllTo.zero _ _, Below.refl _ _⟩
  case round =>
    obtain ⟨k, hk, rfl, hg, hbl⟩ := hrel
    have hbel := HBB.trans (hbl.mono HBB.size)
    have B1 := BX.below hbl BX.lt
    by_cases hlt : k < n
    · obtain ⟨b, o, x, y, rfl, hb, hz, hin1, hin2, hc1, hc2⟩ := (h.below (Nat.le_refl _) hbel).at_ hlt
      by_cases hx : x = 0
      · subst hx
        have f1 := lat_cell hb hc1
        have f2 := lat_cell hb hc2
        have g0 := lat_cell B1.lt (B1.cell (j := 0) rfl)
        have g1 := lat_cell B1.lt (B1.cell (j := 1) rfl)
        have g2 := lat_cell B1.lt (B1.cell (j := 2) rfl)
        have g3 := lat_cell B1.lt (B1.cell (j := 3) rfl)
        have g4 := lat_cell B1.lt (B1.cell (j := 4) rfl)
        have g5 := lat_cell B1.lt (B1.cell (j := 5) rfl)
        have HC1 : Hid (∀ p : Lat wr, Calls Tryz.prog 171 #[.agg #[.int .i64 wd, .slice a1 n1 c1, .slice a2 n2 c2, .int .i64 tp, .slice a3 n3 c3, .slice a4 n4 c4]] p.wd fun e w' => e = .returned (.int .i64 (S : Int)) ∧ Below p.wd.heap.size p.wd w') := Lib.hid (fun p => HC0.out p.wd)
        by_cases hy : y < (S : Int)
        · have hd : decide (y ≥ (S : Int)) = false := by simp; omega
          have HF := Lib.hid (show nameOk S V n3 (0, y) = true by unfold nameOk; rw [if_pos rfl]; exact decide_eq_true hy)
          go_wp2
          refine wp_region_lat (by kernel_rfl) (by kernel_rfl) ?_
          repeat (go_big_quiet_step ((go_at_call 171; exact lat_calls (HC1.out _))))
          refine wpQuiet_nil ?_
          intro _ hw'
          obtain ⟨⟨wq, hwq⟩, hw''⟩ := hw'
          subst hw''
          have ht := hbl.trans (hwq.mono hbl.size)
          have ht2 := HBB.trans (ht.mono HBB.size)
          clear f1 f2 g0 g1 g2 g3 g4 g5 HC1
          go_wp2
          go_roundw
          case rel => exact ⟨k + 1, by omega, by go_num, hg.succ hz HF.out, ht⟩
          case measure => simp [intOf]; omega
        · have hd : decide (y ≥ (S : Int)) = true := by simp; omega
          have HF := Lib.hid (show nameOk S V n3 (0, y) = false by unfold nameOk; rw [if_pos rfl]; exact decide_eq_false hy)
          go_wp2
          refine wp_region_lat (by kernel_rfl) (by kernel_rfl) ?_
          repeat (go_big_quiet_step ((go_at_call 171; exact lat_calls (HC1.out _))))
          refine wpQuiet_nil ?_
          intro _ hw'
          obtain ⟨⟨wq, hwq⟩, hw''⟩ := hw'
          subst hw''
          have ht := hbl.trans (hwq.mono hbl.size)
          have ht2 := HBB.trans (ht.mono HBB.size)
          clear f1 f2 g0 g1 g2 g3 g4 g5 HC1
          go_wp2
          go_ret
          exact ⟨ret_bool (by unfold namesB; rw [all_bad (by rw [HL.out]; exact hlt) hz HF.out, Bool.and_false]), ht2⟩
      by_cases hx1 : x = 1
      · clear hx
        have hx := hx1
        clear hx1
        subst hx
        have n0 : ((1 : Int) == 0) = false := rfl
        have f1 := lat_cell hb hc1
        have f2 := lat_cell hb hc2
        have g0 := lat_cell B1.lt (B1.cell (j := 0) rfl)
        have g1 := lat_cell B1.lt (B1.cell (j := 1) rfl)
        have g2 := lat_cell B1.lt (B1.cell (j := 2) rfl)
        have g3 := lat_cell B1.lt (B1.cell (j := 3) rfl)
        have g4 := lat_cell B1.lt (B1.cell (j := 4) rfl)
        have g5 := lat_cell B1.lt (B1.cell (j := 5) rfl)
        have HC1 : Hid (∀ p : Lat wr, Calls Tryz.prog 82 #[.agg #[.int .i64 wd, .slice a1 n1 c1, .slice a2 n2 c2, .int .i64 tp, .slice a3 n3 c3, .slice a4 n4 c4]] p.wd fun e w' => e = .returned (.int .i64 (V : Int)) ∧ Below p.wd.heap.size p.wd w') := Lib.hid (fun p => HV0.out p.wd)
        by_cases hy : y < (V : Int)
        · have hd : decide (y ≥ (V : Int)) = false := by simp; omega
          have HF := Lib.hid (show nameOk S V n3 (1, y) = true by unfold nameOk; rw [if_neg (by simp), if_pos rfl]; exact decide_eq_true hy)
          go_wp2
          refine wp_region_lat (by kernel_rfl) (by kernel_rfl) ?_
          repeat (go_big_quiet_step ((go_at_call 82; exact lat_calls (HC1.out _))))
          refine wpQuiet_nil ?_
          intro _ hw'
          obtain ⟨⟨wq, hwq⟩, hw''⟩ := hw'
          subst hw''
          have ht := hbl.trans (hwq.mono hbl.size)
          have ht2 := HBB.trans (ht.mono HBB.size)
          clear f1 f2 g0 g1 g2 g3 g4 g5 HC1
          go_wp2
          go_roundw
          case rel => exact ⟨k + 1, by omega, by go_num, hg.succ hz HF.out, ht⟩
          case measure => simp [intOf]; omega
        · have hd : decide (y ≥ (V : Int)) = true := by simp; omega
          have HF := Lib.hid (show nameOk S V n3 (1, y) = false by unfold nameOk; rw [if_neg (by simp), if_pos rfl]; exact decide_eq_false hy)
          go_wp2
          refine wp_region_lat (by kernel_rfl) (by kernel_rfl) ?_
          repeat (go_big_quiet_step ((go_at_call 82; exact lat_calls (HC1.out _))))
          refine wpQuiet_nil ?_
          intro _ hw'
          obtain ⟨⟨wq, hwq⟩, hw''⟩ := hw'
          subst hw''
          have ht := hbl.trans (hwq.mono hbl.size)
          have ht2 := HBB.trans (ht.mono HBB.size)
          clear f1 f2 g0 g1 g2 g3 g4 g5 HC1
          go_wp2
          go_ret
          exact ⟨ret_bool (by unfold namesB; rw [all_bad (by rw [HL.out]; exact hlt) hz HF.out, Bool.and_false]), ht2⟩
      by_cases hx2 : x = 2
      · clear hx hx1
        have hx := hx2
        clear hx2
        subst hx
        have n0 : ((2 : Int) == 0) = false := rfl
        have n1 : ((2 : Int) == 1) = false := rfl
        have f1 := lat_cell hb hc1
        have f2 := lat_cell hb hc2
        have g0 := lat_cell B1.lt (B1.cell (j := 0) rfl)
        have g1 := lat_cell B1.lt (B1.cell (j := 1) rfl)
        have g2 := lat_cell B1.lt (B1.cell (j := 2) rfl)
        have g3 := lat_cell B1.lt (B1.cell (j := 3) rfl)
        have g4 := lat_cell B1.lt (B1.cell (j := 4) rfl)
        have g5 := lat_cell B1.lt (B1.cell (j := 5) rfl)
        by_cases hy : y < (n3 : Int)
        · have hd : decide (y ≥ (n3 : Int)) = false := by simp; omega
          have HF := Lib.hid (show nameOk S V n3 (2, y) = true by unfold nameOk; rw [if_neg (by simp), if_neg (by simp), if_pos rfl]; exact decide_eq_true hy)
          go_wp2
          refine wp_region_lat (by kernel_rfl) (by kernel_rfl) ?_
          repeat (go_big_quiet_step ((fail)))
          refine wpQuiet_nil ?_
          intro _ hw'
          obtain ⟨⟨wq, hwq⟩, hw''⟩ := hw'
          subst hw''
          have ht := hbl.trans (hwq.mono hbl.size)
          have ht2 := HBB.trans (ht.mono HBB.size)
          clear f1 f2 g0 g1 g2 g3 g4 g5
          go_wp2
          go_roundw
          case rel => exact ⟨k + 1, by omega, by go_num, hg.succ hz HF.out, ht⟩
          case measure => simp [intOf]; omega
        · have hd : decide (y ≥ (n3 : Int)) = true := by simp; omega
          have HF := Lib.hid (show nameOk S V n3 (2, y) = false by unfold nameOk; rw [if_neg (by simp), if_neg (by simp), if_pos rfl]; exact decide_eq_false hy)
          go_wp2
          refine wp_region_lat (by kernel_rfl) (by kernel_rfl) ?_
          repeat (go_big_quiet_step ((fail)))
          refine wpQuiet_nil ?_
          intro _ hw'
          obtain ⟨⟨wq, hwq⟩, hw''⟩ := hw'
          subst hw''
          have ht := hbl.trans (hwq.mono hbl.size)
          have ht2 := HBB.trans (ht.mono HBB.size)
          clear f1 f2 g0 g1 g2 g3 g4 g5
          go_wp2
          go_ret
          exact ⟨ret_bool (by unfold namesB; rw [all_bad (by rw [HL.out]; exact hlt) hz HF.out, Bool.and_false]), ht2⟩
      have n0 : (x == 0) = false := by simpa using hx
      have n1 : (x == 1) = false := by simpa using hx1
      have n2 : (x == 2) = false := by simpa using hx2
      have HF := Lib.hid (show nameOk S V n3 (x, y) = true by unfold nameOk; rw [if_neg hx, if_neg hx1, if_neg hx2])
      clear hc2
      go_wp2
      go_roundw
      case rel => exact ⟨k + 1, by omega, by go_num, hg.succ hz HF.out, hbl⟩
      case measure => simp [intOf]; omega
    · obtain rfl : n = k := by omega
      go_wp2
      go_ret
      exact ⟨ret_bool (by unfold namesB; rw [HE.out, allTo_all (by rw [HL.out]; exact hg)]; rfl), hbel⟩
set_option maxHeartbeats 1600000 in
theorem l3Exp_any (r : PRow) (W I T A : Nat) (a : Option Addr) (n c : Nat) (ts : List Tm) (w : World) (hr : Lim r W I T A) (h : Terms w a n ts) :
    Calls Tryz.prog 227 #[progV r, .slice a n c] w fun e w' => e = .returned (.bool (bodyB (2 ^ W) (I + T) A ts)) ∧ Below w.heap.size w w' := by
  have HN0 : Hid (∀ w' : World, Terms w' a n ts → Calls Tryz.prog 247 #[progV r, .slice a n c] w' fun e w'' => e = .returned (.bool (namesB (2 ^ W) (I + T) A ts)) ∧ Below w'.heap.size w' w'') := Lib.hid (fun w' h' => l3Names_any r W I T A a n c ts w' hr h')
  obtain ⟨wd, ⟨a1, n1, c1⟩, ⟨a2, n2, c2⟩, tp, ⟨a3, n3, c3⟩, ⟨a4, n4, c4⟩, rows⟩ := r
  clear hr
  obtain ⟨E, HE⟩ : ∃ E, Hid (namesB (2 ^ W) (I + T) A ts = E) := ⟨_, rfl⟩
  obtain ⟨F, HF⟩ : ∃ F, Hid (bodyB (2 ^ W) (I + T) A ts = F) := ⟨_, rfl⟩
  have hF : F = (ts.all (fun t => t.1 != 17) && (decide (n ≤ 40) && E)) := by rw [← HF.out, ← HE.out, bodyB, h.1]
  have HFF := Lib.hid hF
  simp only [HE.out, HF.out] at HN0 ⊢
  clear hF HE HF
  show Calls Tryz.prog 227 #[.agg #[.int .i64 wd, .slice a1 n1 c1, .slice a2 n2 c2, .int .i64 tp, .slice a3 n3 c3, .slice a4 n4 c4], .slice a n c] w _
  have HN1 : Hid (∀ w' : World, Terms w' a n ts → Calls Tryz.prog 247 #[.agg #[.int .i64 wd, .slice a1 n1 c1, .slice a2 n2 c2, .int .i64 tp, .slice a3 n3 c3, .slice a4 n4 c4], .slice a n c] w' fun e w'' => e = .returned (.bool E) ∧ Below w'.heap.size w' w'') := HN0
  clear HN0
  have HL := Lib.hid h.1
  have hbd := h.2.1
  have HB : Below w.heap.size w (w.alloc (.cells #[.int .i64 wd, .slice a1 n1 c1, .slice a2 n2 c2, .int .i64 tp, .slice a3 n3 c3, .slice a4 n4 c4] 28)) := (Below.refl _ _).alloc (Nat.le_refl _) _
  have HT := Lib.hid (h.below (Nat.le_refl _) HB)
  clear h
  go_enter Tryz.func227, Tryz.ntmps227
  go_wp2
  go_loop [5] (fun i => ∃ k : Nat, k ≤ n ∧ i = .int .i64 (k : Int) ∧ AllTo (fun t => t.1 != 17) ts k) (fun i => n - (intOf i).toNat)
  case atStart => exact ⟨0, Nat.zero_le _, rfl, AllTo.zero _ _⟩
  case round =>
    obtain ⟨k, hk, rfl, hg⟩ := hrel
    by_cases hlt : k < n
    · obtain ⟨b, o, x, y, rfl, hb, hz, hin1, hin2, hc1, hc2⟩ := HT.out.at_ hlt
      clear hc2
      by_cases hx : x = 17
      · have hne : (x == 17) = true := by simpa using hx
        have HQ := Lib.hid (show (fun t : Tm => t.1 != 17) (x, y) = false by simp [hx])
        clear hx
        go_wp2
        go_ret
        exact ⟨ret_bool (by rw [HFF.out, all_bad (by rw [HL.out]; exact hlt) hz HQ.out, Bool.false_and]), HB⟩
      · have hne : (x == 17) = false := by simpa using hx
        have HQ := Lib.hid (show (fun t : Tm => t.1 != 17) (x, y) = true by simp [hx])
        clear hx
        go_wp2
        go_round
        case rel => exact ⟨k + 1, by omega, by go_num, hg.succ hz HQ.out⟩
        case measure => simp [intOf]; omega
    · obtain rfl : n = k := by omega
      have HA := Lib.hid (allTo_all (f := fun t => t.1 != 17) (by rw [HL.out]; exact hg))
      by_cases h40 : n ≤ 40
      · have hd : decide ((n : Int) ≤ 40) = true := by simp; omega
        go_wp2_with fail
        refine (HN1.out _ HT.out).mono ?_
        rintro e w1 ⟨rfl, hb1⟩
        have hbel := HB.trans (hb1.mono HB.size)
        go_wp2
        go_ret
        exact ⟨ret_bool (by rw [HFF.out, HA.out, decide_eq_true h40, Bool.true_and, Bool.true_and]), hbel⟩
      · have hd : decide ((n : Int) ≤ 40) = false := by simp; omega
        go_wp2
        go_ret
        exact ⟨ret_bool (by rw [HFF.out, HA.out, decide_eq_false h40, Bool.true_and, Bool.false_and]), HB⟩
end Go.Proofs.YtbnpoliogldohaaGreat
/- The contract of the model's l3Stmt (written by tools/gen_specstmt.py). -/
namespace Go.Proofs.YtbnpoliogldohaaGreat
open Go.RowKit

/-- Which statements bear an expression. -/
def bears (op : Int) : Bool := op == 0 || op == 1 || op == 2 || op == 6
/-- The number that a statement may bear. -/
def numOk (I T A : Nat) (op n : Int) : Bool :=
  if op = 0 then decide ((I : Int) ≤ n) && decide (n ≤ (I : Int) + (T : Int) - 1)
  else if op = 1 then decide (0 ≤ n) && decide (n ≤ (A : Int) - 1)
  else if op = 5 then decide (0 ≤ n) && decide (n ≤ 4)
  else if op = 7 ∨ op = 9 then decide (0 ≤ n) && decide (n ≤ 9)
  else n == 0
/-- A right statement, nesting apart. -/
def stmtB (S I T A : Nat) (s : Stm) : Bool :=
  (decide (0 ≤ s.op) && decide (s.op ≤ 9)) && (bears s.op == decide (0 < s.exp.length)) && ((s.op == 1) == decide (0 < s.at_.length)) &&
  (!bears s.op || bodyB S (I + T) A s.exp) && (!(s.op == 1) || bodyB S (I + T) A s.at_) && numOk I T A s.op s.n

set_option maxHeartbeats 1600000 in
theorem l3Stmt_plain (x : Int) (hx : x = 3 ∨ x = 4 ∨ x = 8) (y wd : Int) (a1 a2 a3 a4 b1 b2 : Option Addr) (n1 n2 n4 m1 m2 c1 c2 c3 c4 d1 d2 W T A : Nat) (rows : List SRow) (ts us : List Tm) (w : World)
    (hr : Lim ⟨wd, (a1, n1, c1), (a2, n2, c2), (T : Int), (a3, A, c3), (a4, n4, c4), rows⟩ W (n1 + n2) T A) (h1 : Terms w b1 m1 ts) (h2 : Terms w b2 m2 us) :
    Calls Tryz.prog 202 #[.agg #[.int .i64 wd, .slice a1 n1 c1, .slice a2 n2 c2, .int .i64 (T : Int), .slice a3 A c3, .slice a4 n4 c4], .agg #[.int .i64 x, .int .i64 y, .slice b1 m1 d1, .slice b2 m2 d2]] w fun e w' => e = .returned (.bool (stmtB (2 ^ W) (n1 + n2) T A ⟨x, y, ts, us⟩)) ∧ Below w.heap.size w w' := by
  have HX : Hid (∀ (w' : World) (a : Option Addr) (n c : Nat) (vs : List Tm), Terms w' a n vs → Calls Tryz.prog 227 #[.agg #[.int .i64 wd, .slice a1 n1 c1, .slice a2 n2 c2, .int .i64 (T : Int), .slice a3 A c3, .slice a4 n4 c4], .slice a n c] w' fun e w'' => e = .returned (.bool (bodyB (2 ^ W) (n1 + n2 + T) A vs)) ∧ Below w'.heap.size w' w'') := Lib.hid (fun w' a n c vs h' => l3Exp_any ⟨wd, (a1, n1, c1), (a2, n2, c2), (T : Int), (a3, A, c3), (a4, n4, c4), rows⟩ W (n1 + n2) T A a n c vs w' hr h')
  have hI := hr.few
  have hT := hr.fewT
  have hA := hr.fewA
  have hm1 := h1.2.1
  have hm2 := h2.2.1
  have L1 := Lib.hid h1.1
  have L2 := Lib.hid h2.1
  clear hr
  have k0 : (x == 0) = false := by simp; omega
  have k1 : (x == 1) = false := by simp; omega
  have k2 : (x == 2) = false := by simp; omega
  have k6 : (x == 6) = false := by simp; omega
  have k5 : (x == 5) = false := by simp; omega
  have k7 : (x == 7) = false := by simp; omega
  have k9 : (x == 9) = false := by simp; omega
  have hin : (decide (0 ≤ x) && decide (x ≤ 9)) = true := by simp; omega
  have hput : (x == 1) = false := k1
  have hbears : bears x = false := by simp only [bears, k0, k1, k2, k6, Bool.or_self]
  have hnum : numOk (n1 + n2) T A x y = (y == 0) := by unfold numOk; rw [if_neg (by omega), if_neg (by omega), if_neg (by omega), if_neg (by omega)]
  obtain ⟨R, HR⟩ : ∃ R, Hid (stmtB (2 ^ W) (n1 + n2) T A ⟨x, y, ts, us⟩ = R) := ⟨_, rfl⟩
  obtain ⟨X1, HX1⟩ : ∃ X1, Hid (bodyB (2 ^ W) (n1 + n2 + T) A ts = X1) := ⟨_, rfl⟩
  obtain ⟨X2, HX2⟩ : ∃ X2, Hid (bodyB (2 ^ W) (n1 + n2 + T) A us = X2) := ⟨_, rfl⟩
  have hR := HR.out
  simp only [stmtB, L1.out, L2.out, HX1.out, HX2.out] at hR
  rw [hin, hbears, hput, hnum] at hR
  have HRR := Lib.hid hR
  clear hR
  simp only [HR.out]
  clear HR
  obtain ⟨wa, HW⟩ : ∃ wa, Hid (wa = (w.alloc (.cells #[.int .i64 wd, .slice a1 n1 c1, .slice a2 n2 c2, .int .i64 (T : Int), .slice a3 A c3, .slice a4 n4 c4] 28)).alloc (.cells #[.int .i64 x, .int .i64 y, .slice b1 m1 d1, .slice b2 m2 d2] 74)) := ⟨_, rfl⟩
  have B0 : Blk wa w.heap.size 28 [.int .i64 wd, .slice a1 n1 c1, .slice a2 n2 c2, .int .i64 (T : Int), .slice a3 A c3, .slice a4 n4 c4] := by rw [HW.out]; exact (Blk.new w _ _).alloc _
  have B1 : Blk wa (w.heap.size + 1) 74 [.int .i64 x, .int .i64 y, .slice b1 m1 d1, .slice b2 m2 d2] := by rw [HW.out]; simpa using Blk.new (w.alloc _) 74 [.int .i64 x, .int .i64 y, .slice b1 m1 d1, .slice b2 m2 d2]
  have HB : Below w.heap.size w wa := by rw [HW.out]; exact ((Below.refl _ _).alloc (Nat.le_refl _) _).alloc (by simp) _
  go_enter Tryz.func202, Tryz.ntmps202
  by_cases hp2 : 0 < m2
  · have hd2 : decide ((m2 : Int) > 0) = true := by simp; omega
    go_wp2_with (go_at_call 87; refine (in_any _ _ _ _).mono ?_; rintro e w' ⟨rfl, rfl⟩; try rw [hin])
    go_ret
    exact ⟨ret_bool (by rw [← HRR.out, decide_eq_true hp2]; simp), by rw [← HW.out]; exact HB⟩
  · by_cases hp1 : 0 < m1
    · have hd2 : decide ((m2 : Int) > 0) = false := by simp; omega
      have hd1 : decide ((m1 : Int) > 0) = true := by simp; omega
      go_wp2_with (go_at_call 87; refine (in_any _ _ _ _).mono ?_; rintro e w' ⟨rfl, rfl⟩; try rw [hin])
      go_ret
      exact ⟨ret_bool (by rw [← HRR.out, decide_eq_false hp2, decide_eq_true hp1]; simp), by rw [← HW.out]; exact HB⟩
    · have hd2 : decide ((m2 : Int) > 0) = false := by simp; omega
      have hd1 : decide ((m1 : Int) > 0) = false := by simp; omega
      go_wp2_with (go_at_call 87; refine (in_any _ _ _ _).mono ?_; rintro e w' ⟨rfl, rfl⟩; try rw [hin])
      go_ret
      exact ⟨ret_bool (by rw [← HRR.out, decide_eq_false hp2, decide_eq_false hp1]; simp), by rw [← HW.out]; exact HB⟩
set_option maxHeartbeats 1600000 in
theorem l3Stmt_out (x : Int) (hx : x < 0 ∨ 9 < x) (y wd : Int) (a1 a2 a3 a4 b1 b2 : Option Addr) (n1 n2 n4 m1 m2 c1 c2 c3 c4 d1 d2 W T A : Nat) (rows : List SRow) (ts us : List Tm) (w : World)
    (hr : Lim ⟨wd, (a1, n1, c1), (a2, n2, c2), (T : Int), (a3, A, c3), (a4, n4, c4), rows⟩ W (n1 + n2) T A) (h1 : Terms w b1 m1 ts) (h2 : Terms w b2 m2 us) :
    Calls Tryz.prog 202 #[.agg #[.int .i64 wd, .slice a1 n1 c1, .slice a2 n2 c2, .int .i64 (T : Int), .slice a3 A c3, .slice a4 n4 c4], .agg #[.int .i64 x, .int .i64 y, .slice b1 m1 d1, .slice b2 m2 d2]] w fun e w' => e = .returned (.bool (stmtB (2 ^ W) (n1 + n2) T A ⟨x, y, ts, us⟩)) ∧ Below w.heap.size w w' := by
  have HX : Hid (∀ (w' : World) (a : Option Addr) (n c : Nat) (vs : List Tm), Terms w' a n vs → Calls Tryz.prog 227 #[.agg #[.int .i64 wd, .slice a1 n1 c1, .slice a2 n2 c2, .int .i64 (T : Int), .slice a3 A c3, .slice a4 n4 c4], .slice a n c] w' fun e w'' => e = .returned (.bool (bodyB (2 ^ W) (n1 + n2 + T) A vs)) ∧ Below w'.heap.size w' w'') := Lib.hid (fun w' a n c vs h' => l3Exp_any ⟨wd, (a1, n1, c1), (a2, n2, c2), (T : Int), (a3, A, c3), (a4, n4, c4), rows⟩ W (n1 + n2) T A a n c vs w' hr h')
  have hI := hr.few
  have hT := hr.fewT
  have hA := hr.fewA
  have hm1 := h1.2.1
  have hm2 := h2.2.1
  have L1 := Lib.hid h1.1
  have L2 := Lib.hid h2.1
  clear hr
  have k0 : (x == 0) = false := by simp; omega
  have k1 : (x == 1) = false := by simp; omega
  have k2 : (x == 2) = false := by simp; omega
  have k6 : (x == 6) = false := by simp; omega
  have hin : (decide (0 ≤ x) && decide (x ≤ 9)) = false := by rw [← Bool.not_eq_true]; simp; omega
  have hput : (x == 1) = false := k1
  have hbears : bears x = false := by simp only [bears, k0, k1, k2, k6, Bool.or_self]
  obtain ⟨Y, hnum⟩ : ∃ Y, numOk (n1 + n2) T A x y = Y := ⟨_, rfl⟩
  obtain ⟨R, HR⟩ : ∃ R, Hid (stmtB (2 ^ W) (n1 + n2) T A ⟨x, y, ts, us⟩ = R) := ⟨_, rfl⟩
  obtain ⟨X1, HX1⟩ : ∃ X1, Hid (bodyB (2 ^ W) (n1 + n2 + T) A ts = X1) := ⟨_, rfl⟩
  obtain ⟨X2, HX2⟩ : ∃ X2, Hid (bodyB (2 ^ W) (n1 + n2 + T) A us = X2) := ⟨_, rfl⟩
  have hR := HR.out
  simp only [stmtB, L1.out, L2.out, HX1.out, HX2.out] at hR
  rw [hin, hbears, hput, hnum] at hR
  have HRR := Lib.hid hR
  clear hR
  simp only [HR.out]
  clear HR
  obtain ⟨wa, HW⟩ : ∃ wa, Hid (wa = (w.alloc (.cells #[.int .i64 wd, .slice a1 n1 c1, .slice a2 n2 c2, .int .i64 (T : Int), .slice a3 A c3, .slice a4 n4 c4] 28)).alloc (.cells #[.int .i64 x, .int .i64 y, .slice b1 m1 d1, .slice b2 m2 d2] 74)) := ⟨_, rfl⟩
  have B0 : Blk wa w.heap.size 28 [.int .i64 wd, .slice a1 n1 c1, .slice a2 n2 c2, .int .i64 (T : Int), .slice a3 A c3, .slice a4 n4 c4] := by rw [HW.out]; exact (Blk.new w _ _).alloc _
  have B1 : Blk wa (w.heap.size + 1) 74 [.int .i64 x, .int .i64 y, .slice b1 m1 d1, .slice b2 m2 d2] := by rw [HW.out]; simpa using Blk.new (w.alloc _) 74 [.int .i64 x, .int .i64 y, .slice b1 m1 d1, .slice b2 m2 d2]
  have HB : Below w.heap.size w wa := by rw [HW.out]; exact ((Below.refl _ _).alloc (Nat.le_refl _) _).alloc (by simp) _
  go_enter Tryz.func202, Tryz.ntmps202
  go_wp2_with (go_at_call 87; refine (in_any _ _ _ _).mono ?_; rintro e w' ⟨rfl, rfl⟩; try rw [hin])
  go_ret
  exact ⟨ret_bool (by rw [← HRR.out]; simp), by rw [← HW.out]; exact HB⟩
set_option maxHeartbeats 1600000 in
theorem l3Stmt_5 (y wd : Int) (a1 a2 a3 a4 b1 b2 : Option Addr) (n1 n2 n4 m1 m2 c1 c2 c3 c4 d1 d2 W T A : Nat) (rows : List SRow) (ts us : List Tm) (w : World)
    (hr : Lim ⟨wd, (a1, n1, c1), (a2, n2, c2), (T : Int), (a3, A, c3), (a4, n4, c4), rows⟩ W (n1 + n2) T A) (h1 : Terms w b1 m1 ts) (h2 : Terms w b2 m2 us) :
    Calls Tryz.prog 202 #[.agg #[.int .i64 wd, .slice a1 n1 c1, .slice a2 n2 c2, .int .i64 (T : Int), .slice a3 A c3, .slice a4 n4 c4], .agg #[.int .i64 5, .int .i64 y, .slice b1 m1 d1, .slice b2 m2 d2]] w fun e w' => e = .returned (.bool (stmtB (2 ^ W) (n1 + n2) T A ⟨5, y, ts, us⟩)) ∧ Below w.heap.size w w' := by
  have HX : Hid (∀ (w' : World) (a : Option Addr) (n c : Nat) (vs : List Tm), Terms w' a n vs → Calls Tryz.prog 227 #[.agg #[.int .i64 wd, .slice a1 n1 c1, .slice a2 n2 c2, .int .i64 (T : Int), .slice a3 A c3, .slice a4 n4 c4], .slice a n c] w' fun e w'' => e = .returned (.bool (bodyB (2 ^ W) (n1 + n2 + T) A vs)) ∧ Below w'.heap.size w' w'') := Lib.hid (fun w' a n c vs h' => l3Exp_any ⟨wd, (a1, n1, c1), (a2, n2, c2), (T : Int), (a3, A, c3), (a4, n4, c4), rows⟩ W (n1 + n2) T A a n c vs w' hr h')
  have hI := hr.few
  have hT := hr.fewT
  have hA := hr.fewA
  have hm1 := h1.2.1
  have hm2 := h2.2.1
  have L1 := Lib.hid h1.1
  have L2 := Lib.hid h2.1
  clear hr
  have hin : (decide ((0 : Int) ≤ 5) && decide ((5 : Int) ≤ 9)) = true := rfl
  have hput : ((5 : Int) == 1) = false := rfl
  have hbears : bears 5 = false := rfl
  have hnum : numOk (n1 + n2) T A 5 y = (decide (0 ≤ y) && decide (y ≤ 4)) := rfl
  obtain ⟨R, HR⟩ : ∃ R, Hid (stmtB (2 ^ W) (n1 + n2) T A ⟨5, y, ts, us⟩ = R) := ⟨_, rfl⟩
  obtain ⟨X1, HX1⟩ : ∃ X1, Hid (bodyB (2 ^ W) (n1 + n2 + T) A ts = X1) := ⟨_, rfl⟩
  obtain ⟨X2, HX2⟩ : ∃ X2, Hid (bodyB (2 ^ W) (n1 + n2 + T) A us = X2) := ⟨_, rfl⟩
  have hR := HR.out
  simp only [stmtB, L1.out, L2.out, HX1.out, HX2.out] at hR
  rw [hin, hbears, hput, hnum] at hR
  have HRR := Lib.hid hR
  clear hR
  simp only [HR.out]
  clear HR
  obtain ⟨wa, HW⟩ : ∃ wa, Hid (wa = (w.alloc (.cells #[.int .i64 wd, .slice a1 n1 c1, .slice a2 n2 c2, .int .i64 (T : Int), .slice a3 A c3, .slice a4 n4 c4] 28)).alloc (.cells #[.int .i64 5, .int .i64 y, .slice b1 m1 d1, .slice b2 m2 d2] 74)) := ⟨_, rfl⟩
  have B0 : Blk wa w.heap.size 28 [.int .i64 wd, .slice a1 n1 c1, .slice a2 n2 c2, .int .i64 (T : Int), .slice a3 A c3, .slice a4 n4 c4] := by rw [HW.out]; exact (Blk.new w _ _).alloc _
  have B1 : Blk wa (w.heap.size + 1) 74 [.int .i64 5, .int .i64 y, .slice b1 m1 d1, .slice b2 m2 d2] := by rw [HW.out]; simpa using Blk.new (w.alloc _) 74 [.int .i64 5, .int .i64 y, .slice b1 m1 d1, .slice b2 m2 d2]
  have HB : Below w.heap.size w wa := by rw [HW.out]; exact ((Below.refl _ _).alloc (Nat.le_refl _) _).alloc (by simp) _
  go_enter Tryz.func202, Tryz.ntmps202
  by_cases hp2 : 0 < m2
  · have hd2 : decide ((m2 : Int) > 0) = true := by simp; omega
    go_wp2_with (go_at_call 87; refine (in_any _ _ _ _).mono ?_; rintro e w' ⟨rfl, rfl⟩; try rw [hin])
    go_ret
    exact ⟨ret_bool (by rw [← HRR.out, decide_eq_true hp2]; simp), by rw [← HW.out]; exact HB⟩
  · by_cases hp1 : 0 < m1
    · have hd2 : decide ((m2 : Int) > 0) = false := by simp; omega
      have hd1 : decide ((m1 : Int) > 0) = true := by simp; omega
      go_wp2_with (go_at_call 87; refine (in_any _ _ _ _).mono ?_; rintro e w' ⟨rfl, rfl⟩; try rw [hin])
      go_ret
      exact ⟨ret_bool (by rw [← HRR.out, decide_eq_false hp2, decide_eq_true hp1]; simp), by rw [← HW.out]; exact HB⟩
    · have hd2 : decide ((m2 : Int) > 0) = false := by simp; omega
      have hd1 : decide ((m1 : Int) > 0) = false := by simp; omega
      go_wp2_with (go_at_call 87; refine (in_any _ _ _ _).mono ?_; rintro e w' ⟨rfl, rfl⟩; try rw [hin])
      go_ret
      exact ⟨ret_bool (by rw [← HRR.out, decide_eq_false hp2, decide_eq_false hp1]; simp), by rw [← HW.out]; exact HB⟩
set_option maxHeartbeats 1600000 in
theorem l3Stmt_7 (y wd : Int) (a1 a2 a3 a4 b1 b2 : Option Addr) (n1 n2 n4 m1 m2 c1 c2 c3 c4 d1 d2 W T A : Nat) (rows : List SRow) (ts us : List Tm) (w : World)
    (hr : Lim ⟨wd, (a1, n1, c1), (a2, n2, c2), (T : Int), (a3, A, c3), (a4, n4, c4), rows⟩ W (n1 + n2) T A) (h1 : Terms w b1 m1 ts) (h2 : Terms w b2 m2 us) :
    Calls Tryz.prog 202 #[.agg #[.int .i64 wd, .slice a1 n1 c1, .slice a2 n2 c2, .int .i64 (T : Int), .slice a3 A c3, .slice a4 n4 c4], .agg #[.int .i64 7, .int .i64 y, .slice b1 m1 d1, .slice b2 m2 d2]] w fun e w' => e = .returned (.bool (stmtB (2 ^ W) (n1 + n2) T A ⟨7, y, ts, us⟩)) ∧ Below w.heap.size w w' := by
  have HX : Hid (∀ (w' : World) (a : Option Addr) (n c : Nat) (vs : List Tm), Terms w' a n vs → Calls Tryz.prog 227 #[.agg #[.int .i64 wd, .slice a1 n1 c1, .slice a2 n2 c2, .int .i64 (T : Int), .slice a3 A c3, .slice a4 n4 c4], .slice a n c] w' fun e w'' => e = .returned (.bool (bodyB (2 ^ W) (n1 + n2 + T) A vs)) ∧ Below w'.heap.size w' w'') := Lib.hid (fun w' a n c vs h' => l3Exp_any ⟨wd, (a1, n1, c1), (a2, n2, c2), (T : Int), (a3, A, c3), (a4, n4, c4), rows⟩ W (n1 + n2) T A a n c vs w' hr h')
  have hI := hr.few
  have hT := hr.fewT
  have hA := hr.fewA
  have hm1 := h1.2.1
  have hm2 := h2.2.1
  have L1 := Lib.hid h1.1
  have L2 := Lib.hid h2.1
  clear hr
  have hin : (decide ((0 : Int) ≤ 7) && decide ((7 : Int) ≤ 9)) = true := rfl
  have hput : ((7 : Int) == 1) = false := rfl
  have hbears : bears 7 = false := rfl
  have hnum : numOk (n1 + n2) T A 7 y = (decide (0 ≤ y) && decide (y ≤ 9)) := rfl
  obtain ⟨R, HR⟩ : ∃ R, Hid (stmtB (2 ^ W) (n1 + n2) T A ⟨7, y, ts, us⟩ = R) := ⟨_, rfl⟩
  obtain ⟨X1, HX1⟩ : ∃ X1, Hid (bodyB (2 ^ W) (n1 + n2 + T) A ts = X1) := ⟨_, rfl⟩
  obtain ⟨X2, HX2⟩ : ∃ X2, Hid (bodyB (2 ^ W) (n1 + n2 + T) A us = X2) := ⟨_, rfl⟩
  have hR := HR.out
  simp only [stmtB, L1.out, L2.out, HX1.out, HX2.out] at hR
  rw [hin, hbears, hput, hnum] at hR
  have HRR := Lib.hid hR
  clear hR
  simp only [HR.out]
  clear HR
  obtain ⟨wa, HW⟩ : ∃ wa, Hid (wa = (w.alloc (.cells #[.int .i64 wd, .slice a1 n1 c1, .slice a2 n2 c2, .int .i64 (T : Int), .slice a3 A c3, .slice a4 n4 c4] 28)).alloc (.cells #[.int .i64 7, .int .i64 y, .slice b1 m1 d1, .slice b2 m2 d2] 74)) := ⟨_, rfl⟩
  have B0 : Blk wa w.heap.size 28 [.int .i64 wd, .slice a1 n1 c1, .slice a2 n2 c2, .int .i64 (T : Int), .slice a3 A c3, .slice a4 n4 c4] := by rw [HW.out]; exact (Blk.new w _ _).alloc _
  have B1 : Blk wa (w.heap.size + 1) 74 [.int .i64 7, .int .i64 y, .slice b1 m1 d1, .slice b2 m2 d2] := by rw [HW.out]; simpa using Blk.new (w.alloc _) 74 [.int .i64 7, .int .i64 y, .slice b1 m1 d1, .slice b2 m2 d2]
  have HB : Below w.heap.size w wa := by rw [HW.out]; exact ((Below.refl _ _).alloc (Nat.le_refl _) _).alloc (by simp) _
  go_enter Tryz.func202, Tryz.ntmps202
  by_cases hp2 : 0 < m2
  · have hd2 : decide ((m2 : Int) > 0) = true := by simp; omega
    go_wp2_with (go_at_call 87; refine (in_any _ _ _ _).mono ?_; rintro e w' ⟨rfl, rfl⟩; try rw [hin])
    go_ret
    exact ⟨ret_bool (by rw [← HRR.out, decide_eq_true hp2]; simp), by rw [← HW.out]; exact HB⟩
  · by_cases hp1 : 0 < m1
    · have hd2 : decide ((m2 : Int) > 0) = false := by simp; omega
      have hd1 : decide ((m1 : Int) > 0) = true := by simp; omega
      go_wp2_with (go_at_call 87; refine (in_any _ _ _ _).mono ?_; rintro e w' ⟨rfl, rfl⟩; try rw [hin])
      go_ret
      exact ⟨ret_bool (by rw [← HRR.out, decide_eq_false hp2, decide_eq_true hp1]; simp), by rw [← HW.out]; exact HB⟩
    · have hd2 : decide ((m2 : Int) > 0) = false := by simp; omega
      have hd1 : decide ((m1 : Int) > 0) = false := by simp; omega
      go_wp2_with (go_at_call 87; refine (in_any _ _ _ _).mono ?_; rintro e w' ⟨rfl, rfl⟩; try rw [hin])
      go_ret
      exact ⟨ret_bool (by rw [← HRR.out, decide_eq_false hp2, decide_eq_false hp1]; simp), by rw [← HW.out]; exact HB⟩
set_option maxHeartbeats 1600000 in
theorem l3Stmt_9 (y wd : Int) (a1 a2 a3 a4 b1 b2 : Option Addr) (n1 n2 n4 m1 m2 c1 c2 c3 c4 d1 d2 W T A : Nat) (rows : List SRow) (ts us : List Tm) (w : World)
    (hr : Lim ⟨wd, (a1, n1, c1), (a2, n2, c2), (T : Int), (a3, A, c3), (a4, n4, c4), rows⟩ W (n1 + n2) T A) (h1 : Terms w b1 m1 ts) (h2 : Terms w b2 m2 us) :
    Calls Tryz.prog 202 #[.agg #[.int .i64 wd, .slice a1 n1 c1, .slice a2 n2 c2, .int .i64 (T : Int), .slice a3 A c3, .slice a4 n4 c4], .agg #[.int .i64 9, .int .i64 y, .slice b1 m1 d1, .slice b2 m2 d2]] w fun e w' => e = .returned (.bool (stmtB (2 ^ W) (n1 + n2) T A ⟨9, y, ts, us⟩)) ∧ Below w.heap.size w w' := by
  have HX : Hid (∀ (w' : World) (a : Option Addr) (n c : Nat) (vs : List Tm), Terms w' a n vs → Calls Tryz.prog 227 #[.agg #[.int .i64 wd, .slice a1 n1 c1, .slice a2 n2 c2, .int .i64 (T : Int), .slice a3 A c3, .slice a4 n4 c4], .slice a n c] w' fun e w'' => e = .returned (.bool (bodyB (2 ^ W) (n1 + n2 + T) A vs)) ∧ Below w'.heap.size w' w'') := Lib.hid (fun w' a n c vs h' => l3Exp_any ⟨wd, (a1, n1, c1), (a2, n2, c2), (T : Int), (a3, A, c3), (a4, n4, c4), rows⟩ W (n1 + n2) T A a n c vs w' hr h')
  have hI := hr.few
  have hT := hr.fewT
  have hA := hr.fewA
  have hm1 := h1.2.1
  have hm2 := h2.2.1
  have L1 := Lib.hid h1.1
  have L2 := Lib.hid h2.1
  clear hr
  have hin : (decide ((0 : Int) ≤ 9) && decide ((9 : Int) ≤ 9)) = true := rfl
  have hput : ((9 : Int) == 1) = false := rfl
  have hbears : bears 9 = false := rfl
  have hnum : numOk (n1 + n2) T A 9 y = (decide (0 ≤ y) && decide (y ≤ 9)) := rfl
  obtain ⟨R, HR⟩ : ∃ R, Hid (stmtB (2 ^ W) (n1 + n2) T A ⟨9, y, ts, us⟩ = R) := ⟨_, rfl⟩
  obtain ⟨X1, HX1⟩ : ∃ X1, Hid (bodyB (2 ^ W) (n1 + n2 + T) A ts = X1) := ⟨_, rfl⟩
  obtain ⟨X2, HX2⟩ : ∃ X2, Hid (bodyB (2 ^ W) (n1 + n2 + T) A us = X2) := ⟨_, rfl⟩
  have hR := HR.out
  simp only [stmtB, L1.out, L2.out, HX1.out, HX2.out] at hR
  rw [hin, hbears, hput, hnum] at hR
  have HRR := Lib.hid hR
  clear hR
  simp only [HR.out]
  clear HR
  obtain ⟨wa, HW⟩ : ∃ wa, Hid (wa = (w.alloc (.cells #[.int .i64 wd, .slice a1 n1 c1, .slice a2 n2 c2, .int .i64 (T : Int), .slice a3 A c3, .slice a4 n4 c4] 28)).alloc (.cells #[.int .i64 9, .int .i64 y, .slice b1 m1 d1, .slice b2 m2 d2] 74)) := ⟨_, rfl⟩
  have B0 : Blk wa w.heap.size 28 [.int .i64 wd, .slice a1 n1 c1, .slice a2 n2 c2, .int .i64 (T : Int), .slice a3 A c3, .slice a4 n4 c4] := by rw [HW.out]; exact (Blk.new w _ _).alloc _
  have B1 : Blk wa (w.heap.size + 1) 74 [.int .i64 9, .int .i64 y, .slice b1 m1 d1, .slice b2 m2 d2] := by rw [HW.out]; simpa using Blk.new (w.alloc _) 74 [.int .i64 9, .int .i64 y, .slice b1 m1 d1, .slice b2 m2 d2]
  have HB : Below w.heap.size w wa := by rw [HW.out]; exact ((Below.refl _ _).alloc (Nat.le_refl _) _).alloc (by simp) _
  go_enter Tryz.func202, Tryz.ntmps202
  by_cases hp2 : 0 < m2
  · have hd2 : decide ((m2 : Int) > 0) = true := by simp; omega
    go_wp2_with (go_at_call 87; refine (in_any _ _ _ _).mono ?_; rintro e w' ⟨rfl, rfl⟩; try rw [hin])
    go_ret
    exact ⟨ret_bool (by rw [← HRR.out, decide_eq_true hp2]; simp), by rw [← HW.out]; exact HB⟩
  · by_cases hp1 : 0 < m1
    · have hd2 : decide ((m2 : Int) > 0) = false := by simp; omega
      have hd1 : decide ((m1 : Int) > 0) = true := by simp; omega
      go_wp2_with (go_at_call 87; refine (in_any _ _ _ _).mono ?_; rintro e w' ⟨rfl, rfl⟩; try rw [hin])
      go_ret
      exact ⟨ret_bool (by rw [← HRR.out, decide_eq_false hp2, decide_eq_true hp1]; simp), by rw [← HW.out]; exact HB⟩
    · have hd2 : decide ((m2 : Int) > 0) = false := by simp; omega
      have hd1 : decide ((m1 : Int) > 0) = false := by simp; omega
      go_wp2_with (go_at_call 87; refine (in_any _ _ _ _).mono ?_; rintro e w' ⟨rfl, rfl⟩; try rw [hin])
      go_ret
      exact ⟨ret_bool (by rw [← HRR.out, decide_eq_false hp2, decide_eq_false hp1]; simp), by rw [← HW.out]; exact HB⟩
set_option maxHeartbeats 1600000 in
theorem l3Stmt_0 (y wd : Int) (a1 a2 a3 a4 b1 b2 : Option Addr) (n1 n2 n4 m1 m2 c1 c2 c3 c4 d1 d2 W T A : Nat) (rows : List SRow) (ts us : List Tm) (w : World)
    (hr : Lim ⟨wd, (a1, n1, c1), (a2, n2, c2), (T : Int), (a3, A, c3), (a4, n4, c4), rows⟩ W (n1 + n2) T A) (h1 : Terms w b1 m1 ts) (h2 : Terms w b2 m2 us) :
    Calls Tryz.prog 202 #[.agg #[.int .i64 wd, .slice a1 n1 c1, .slice a2 n2 c2, .int .i64 (T : Int), .slice a3 A c3, .slice a4 n4 c4], .agg #[.int .i64 0, .int .i64 y, .slice b1 m1 d1, .slice b2 m2 d2]] w fun e w' => e = .returned (.bool (stmtB (2 ^ W) (n1 + n2) T A ⟨0, y, ts, us⟩)) ∧ Below w.heap.size w w' := by
  have HX : Hid (∀ (w' : World) (a : Option Addr) (n c : Nat) (vs : List Tm), Terms w' a n vs → Calls Tryz.prog 227 #[.agg #[.int .i64 wd, .slice a1 n1 c1, .slice a2 n2 c2, .int .i64 (T : Int), .slice a3 A c3, .slice a4 n4 c4], .slice a n c] w' fun e w'' => e = .returned (.bool (bodyB (2 ^ W) (n1 + n2 + T) A vs)) ∧ Below w'.heap.size w' w'') := Lib.hid (fun w' a n c vs h' => l3Exp_any ⟨wd, (a1, n1, c1), (a2, n2, c2), (T : Int), (a3, A, c3), (a4, n4, c4), rows⟩ W (n1 + n2) T A a n c vs w' hr h')
  have hI := hr.few
  have hT := hr.fewT
  have hA := hr.fewA
  have hm1 := h1.2.1
  have hm2 := h2.2.1
  have L1 := Lib.hid h1.1
  have L2 := Lib.hid h2.1
  clear hr
  have hin : (decide ((0 : Int) ≤ 0) && decide ((0 : Int) ≤ 9)) = true := rfl
  have hput : ((0 : Int) == 1) = false := rfl
  have hbears : bears 0 = true := rfl
  have hnum : numOk (n1 + n2) T A 0 y = (decide (((n1 + n2 : Nat) : Int) ≤ y) && decide (y ≤ ((n1 + n2 : Nat) : Int) + (T : Int) - 1)) := rfl
  obtain ⟨R, HR⟩ : ∃ R, Hid (stmtB (2 ^ W) (n1 + n2) T A ⟨0, y, ts, us⟩ = R) := ⟨_, rfl⟩
  obtain ⟨X1, HX1⟩ : ∃ X1, Hid (bodyB (2 ^ W) (n1 + n2 + T) A ts = X1) := ⟨_, rfl⟩
  obtain ⟨X2, HX2⟩ : ∃ X2, Hid (bodyB (2 ^ W) (n1 + n2 + T) A us = X2) := ⟨_, rfl⟩
  have hR := HR.out
  simp only [stmtB, L1.out, L2.out, HX1.out, HX2.out] at hR
  rw [hin, hbears, hput, hnum] at hR
  have HRR := Lib.hid hR
  clear hR
  simp only [HR.out]
  clear HR
  obtain ⟨wa, HW⟩ : ∃ wa, Hid (wa = (w.alloc (.cells #[.int .i64 wd, .slice a1 n1 c1, .slice a2 n2 c2, .int .i64 (T : Int), .slice a3 A c3, .slice a4 n4 c4] 28)).alloc (.cells #[.int .i64 0, .int .i64 y, .slice b1 m1 d1, .slice b2 m2 d2] 74)) := ⟨_, rfl⟩
  have B0 : Blk wa w.heap.size 28 [.int .i64 wd, .slice a1 n1 c1, .slice a2 n2 c2, .int .i64 (T : Int), .slice a3 A c3, .slice a4 n4 c4] := by rw [HW.out]; exact (Blk.new w _ _).alloc _
  have B1 : Blk wa (w.heap.size + 1) 74 [.int .i64 0, .int .i64 y, .slice b1 m1 d1, .slice b2 m2 d2] := by rw [HW.out]; simpa using Blk.new (w.alloc _) 74 [.int .i64 0, .int .i64 y, .slice b1 m1 d1, .slice b2 m2 d2]
  have HB : Below w.heap.size w wa := by rw [HW.out]; exact ((Below.refl _ _).alloc (Nat.le_refl _) _).alloc (by simp) _
  go_enter Tryz.func202, Tryz.ntmps202
  by_cases hp2 : 0 < m2
  · by_cases hp1 : 0 < m1
    · have hd2 : decide ((m2 : Int) > 0) = true := by simp; omega
      have hd1 : decide ((m1 : Int) > 0) = true := by simp; omega
      go_wp2_with (go_at_call 87; refine (in_any _ _ _ _).mono ?_; rintro e w' ⟨rfl, rfl⟩; try rw [hin])
      go_ret
      exact ⟨ret_bool (by rw [← HRR.out, decide_eq_true hp2, decide_eq_true hp1]; simp), by rw [← HW.out]; exact HB⟩
    · have hd2 : decide ((m2 : Int) > 0) = true := by simp; omega
      have hd1 : decide ((m1 : Int) > 0) = false := by simp; omega
      go_wp2_with (go_at_call 87; refine (in_any _ _ _ _).mono ?_; rintro e w' ⟨rfl, rfl⟩; try rw [hin])
      rw [← HW.out]
      refine (HX.out _ _ _ _ _ (h2.below (Nat.le_refl _) HB)).mono ?_
      rintro e w1 ⟨rfl, hb1⟩
      have q0 := B0.below hb1 B0.lt
      have q1 := B1.below hb1 B1.lt
      have hbel := HB.trans (hb1.mono HB.size)
      rw [HX2.out]
      clear hb1 HW B0 B1 HB
      have u0 := q0.cell (j := 0) rfl
      have u1 := q0.cell (j := 1) rfl
      have u2 := q0.cell (j := 2) rfl
      have u3 := q0.cell (j := 3) rfl
      have u4 := q0.cell (j := 4) rfl
      have u5 := q0.cell (j := 5) rfl
      have v0 := q1.cell (j := 0) rfl
      have v1 := q1.cell (j := 1) rfl
      have v2 := q1.cell (j := 2) rfl
      have v3 := q1.cell (j := 3) rfl
      cases X2 with
      | false =>
        go_wp2_with fail
        go_ret
        exact ⟨ret_bool (by rw [← HRR.out, decide_eq_true hp2, decide_eq_false hp1]; simp), hbel⟩
      | true =>
        go_wp2_with (go_at_call 87; refine (in_any _ _ _ _).mono ?_; rintro e w' ⟨rfl, rfl⟩; try rw [hin])
        go_ret
        exact ⟨ret_bool (by rw [← HRR.out, decide_eq_true hp2, decide_eq_false hp1]; simp), hbel⟩
  · have hd2 : decide ((m2 : Int) > 0) = false := by simp; omega
    go_wp2_with (go_at_call 87; refine (in_any _ _ _ _).mono ?_; rintro e w' ⟨rfl, rfl⟩; try rw [hin])
    go_ret
    exact ⟨ret_bool (by rw [← HRR.out, decide_eq_false hp2]; simp), by rw [← HW.out]; exact HB⟩
set_option maxHeartbeats 1600000 in
theorem l3Stmt_2 (y wd : Int) (a1 a2 a3 a4 b1 b2 : Option Addr) (n1 n2 n4 m1 m2 c1 c2 c3 c4 d1 d2 W T A : Nat) (rows : List SRow) (ts us : List Tm) (w : World)
    (hr : Lim ⟨wd, (a1, n1, c1), (a2, n2, c2), (T : Int), (a3, A, c3), (a4, n4, c4), rows⟩ W (n1 + n2) T A) (h1 : Terms w b1 m1 ts) (h2 : Terms w b2 m2 us) :
    Calls Tryz.prog 202 #[.agg #[.int .i64 wd, .slice a1 n1 c1, .slice a2 n2 c2, .int .i64 (T : Int), .slice a3 A c3, .slice a4 n4 c4], .agg #[.int .i64 2, .int .i64 y, .slice b1 m1 d1, .slice b2 m2 d2]] w fun e w' => e = .returned (.bool (stmtB (2 ^ W) (n1 + n2) T A ⟨2, y, ts, us⟩)) ∧ Below w.heap.size w w' := by
  have HX : Hid (∀ (w' : World) (a : Option Addr) (n c : Nat) (vs : List Tm), Terms w' a n vs → Calls Tryz.prog 227 #[.agg #[.int .i64 wd, .slice a1 n1 c1, .slice a2 n2 c2, .int .i64 (T : Int), .slice a3 A c3, .slice a4 n4 c4], .slice a n c] w' fun e w'' => e = .returned (.bool (bodyB (2 ^ W) (n1 + n2 + T) A vs)) ∧ Below w'.heap.size w' w'') := Lib.hid (fun w' a n c vs h' => l3Exp_any ⟨wd, (a1, n1, c1), (a2, n2, c2), (T : Int), (a3, A, c3), (a4, n4, c4), rows⟩ W (n1 + n2) T A a n c vs w' hr h')
  have hI := hr.few
  have hT := hr.fewT
  have hA := hr.fewA
  have hm1 := h1.2.1
  have hm2 := h2.2.1
  have L1 := Lib.hid h1.1
  have L2 := Lib.hid h2.1
  clear hr
  have hin : (decide ((0 : Int) ≤ 2) && decide ((2 : Int) ≤ 9)) = true := rfl
  have hput : ((2 : Int) == 1) = false := rfl
  have hbears : bears 2 = true := rfl
  have hnum : numOk (n1 + n2) T A 2 y = (y == 0) := rfl
  obtain ⟨R, HR⟩ : ∃ R, Hid (stmtB (2 ^ W) (n1 + n2) T A ⟨2, y, ts, us⟩ = R) := ⟨_, rfl⟩
  obtain ⟨X1, HX1⟩ : ∃ X1, Hid (bodyB (2 ^ W) (n1 + n2 + T) A ts = X1) := ⟨_, rfl⟩
  obtain ⟨X2, HX2⟩ : ∃ X2, Hid (bodyB (2 ^ W) (n1 + n2 + T) A us = X2) := ⟨_, rfl⟩
  have hR := HR.out
  simp only [stmtB, L1.out, L2.out, HX1.out, HX2.out] at hR
  rw [hin, hbears, hput, hnum] at hR
  have HRR := Lib.hid hR
  clear hR
  simp only [HR.out]
  clear HR
  obtain ⟨wa, HW⟩ : ∃ wa, Hid (wa = (w.alloc (.cells #[.int .i64 wd, .slice a1 n1 c1, .slice a2 n2 c2, .int .i64 (T : Int), .slice a3 A c3, .slice a4 n4 c4] 28)).alloc (.cells #[.int .i64 2, .int .i64 y, .slice b1 m1 d1, .slice b2 m2 d2] 74)) := ⟨_, rfl⟩
  have B0 : Blk wa w.heap.size 28 [.int .i64 wd, .slice a1 n1 c1, .slice a2 n2 c2, .int .i64 (T : Int), .slice a3 A c3, .slice a4 n4 c4] := by rw [HW.out]; exact (Blk.new w _ _).alloc _
  have B1 : Blk wa (w.heap.size + 1) 74 [.int .i64 2, .int .i64 y, .slice b1 m1 d1, .slice b2 m2 d2] := by rw [HW.out]; simpa using Blk.new (w.alloc _) 74 [.int .i64 2, .int .i64 y, .slice b1 m1 d1, .slice b2 m2 d2]
  have HB : Below w.heap.size w wa := by rw [HW.out]; exact ((Below.refl _ _).alloc (Nat.le_refl _) _).alloc (by simp) _
  go_enter Tryz.func202, Tryz.ntmps202
  by_cases hp2 : 0 < m2
  · by_cases hp1 : 0 < m1
    · have hd2 : decide ((m2 : Int) > 0) = true := by simp; omega
      have hd1 : decide ((m1 : Int) > 0) = true := by simp; omega
      go_wp2_with (go_at_call 87; refine (in_any _ _ _ _).mono ?_; rintro e w' ⟨rfl, rfl⟩; try rw [hin])
      go_ret
      exact ⟨ret_bool (by rw [← HRR.out, decide_eq_true hp2, decide_eq_true hp1]; simp), by rw [← HW.out]; exact HB⟩
    · have hd2 : decide ((m2 : Int) > 0) = true := by simp; omega
      have hd1 : decide ((m1 : Int) > 0) = false := by simp; omega
      go_wp2_with (go_at_call 87; refine (in_any _ _ _ _).mono ?_; rintro e w' ⟨rfl, rfl⟩; try rw [hin])
      rw [← HW.out]
      refine (HX.out _ _ _ _ _ (h2.below (Nat.le_refl _) HB)).mono ?_
      rintro e w1 ⟨rfl, hb1⟩
      have q0 := B0.below hb1 B0.lt
      have q1 := B1.below hb1 B1.lt
      have hbel := HB.trans (hb1.mono HB.size)
      rw [HX2.out]
      clear hb1 HW B0 B1 HB
      have u0 := q0.cell (j := 0) rfl
      have u1 := q0.cell (j := 1) rfl
      have u2 := q0.cell (j := 2) rfl
      have u3 := q0.cell (j := 3) rfl
      have u4 := q0.cell (j := 4) rfl
      have u5 := q0.cell (j := 5) rfl
      have v0 := q1.cell (j := 0) rfl
      have v1 := q1.cell (j := 1) rfl
      have v2 := q1.cell (j := 2) rfl
      have v3 := q1.cell (j := 3) rfl
      cases X2 with
      | false =>
        go_wp2_with fail
        go_ret
        exact ⟨ret_bool (by rw [← HRR.out, decide_eq_true hp2, decide_eq_false hp1]; simp), hbel⟩
      | true =>
        go_wp2_with (go_at_call 87; refine (in_any _ _ _ _).mono ?_; rintro e w' ⟨rfl, rfl⟩; try rw [hin])
        go_ret
        exact ⟨ret_bool (by rw [← HRR.out, decide_eq_true hp2, decide_eq_false hp1]; simp), hbel⟩
  · have hd2 : decide ((m2 : Int) > 0) = false := by simp; omega
    go_wp2_with (go_at_call 87; refine (in_any _ _ _ _).mono ?_; rintro e w' ⟨rfl, rfl⟩; try rw [hin])
    go_ret
    exact ⟨ret_bool (by rw [← HRR.out, decide_eq_false hp2]; simp), by rw [← HW.out]; exact HB⟩
set_option maxHeartbeats 1600000 in
theorem l3Stmt_6 (y wd : Int) (a1 a2 a3 a4 b1 b2 : Option Addr) (n1 n2 n4 m1 m2 c1 c2 c3 c4 d1 d2 W T A : Nat) (rows : List SRow) (ts us : List Tm) (w : World)
    (hr : Lim ⟨wd, (a1, n1, c1), (a2, n2, c2), (T : Int), (a3, A, c3), (a4, n4, c4), rows⟩ W (n1 + n2) T A) (h1 : Terms w b1 m1 ts) (h2 : Terms w b2 m2 us) :
    Calls Tryz.prog 202 #[.agg #[.int .i64 wd, .slice a1 n1 c1, .slice a2 n2 c2, .int .i64 (T : Int), .slice a3 A c3, .slice a4 n4 c4], .agg #[.int .i64 6, .int .i64 y, .slice b1 m1 d1, .slice b2 m2 d2]] w fun e w' => e = .returned (.bool (stmtB (2 ^ W) (n1 + n2) T A ⟨6, y, ts, us⟩)) ∧ Below w.heap.size w w' := by
  have HX : Hid (∀ (w' : World) (a : Option Addr) (n c : Nat) (vs : List Tm), Terms w' a n vs → Calls Tryz.prog 227 #[.agg #[.int .i64 wd, .slice a1 n1 c1, .slice a2 n2 c2, .int .i64 (T : Int), .slice a3 A c3, .slice a4 n4 c4], .slice a n c] w' fun e w'' => e = .returned (.bool (bodyB (2 ^ W) (n1 + n2 + T) A vs)) ∧ Below w'.heap.size w' w'') := Lib.hid (fun w' a n c vs h' => l3Exp_any ⟨wd, (a1, n1, c1), (a2, n2, c2), (T : Int), (a3, A, c3), (a4, n4, c4), rows⟩ W (n1 + n2) T A a n c vs w' hr h')
  have hI := hr.few
  have hT := hr.fewT
  have hA := hr.fewA
  have hm1 := h1.2.1
  have hm2 := h2.2.1
  have L1 := Lib.hid h1.1
  have L2 := Lib.hid h2.1
  clear hr
  have hin : (decide ((0 : Int) ≤ 6) && decide ((6 : Int) ≤ 9)) = true := rfl
  have hput : ((6 : Int) == 1) = false := rfl
  have hbears : bears 6 = true := rfl
  have hnum : numOk (n1 + n2) T A 6 y = (y == 0) := rfl
  obtain ⟨R, HR⟩ : ∃ R, Hid (stmtB (2 ^ W) (n1 + n2) T A ⟨6, y, ts, us⟩ = R) := ⟨_, rfl⟩
  obtain ⟨X1, HX1⟩ : ∃ X1, Hid (bodyB (2 ^ W) (n1 + n2 + T) A ts = X1) := ⟨_, rfl⟩
  obtain ⟨X2, HX2⟩ : ∃ X2, Hid (bodyB (2 ^ W) (n1 + n2 + T) A us = X2) := ⟨_, rfl⟩
  have hR := HR.out
  simp only [stmtB, L1.out, L2.out, HX1.out, HX2.out] at hR
  rw [hin, hbears, hput, hnum] at hR
  have HRR := Lib.hid hR
  clear hR
  simp only [HR.out]
  clear HR
  obtain ⟨wa, HW⟩ : ∃ wa, Hid (wa = (w.alloc (.cells #[.int .i64 wd, .slice a1 n1 c1, .slice a2 n2 c2, .int .i64 (T : Int), .slice a3 A c3, .slice a4 n4 c4] 28)).alloc (.cells #[.int .i64 6, .int .i64 y, .slice b1 m1 d1, .slice b2 m2 d2] 74)) := ⟨_, rfl⟩
  have B0 : Blk wa w.heap.size 28 [.int .i64 wd, .slice a1 n1 c1, .slice a2 n2 c2, .int .i64 (T : Int), .slice a3 A c3, .slice a4 n4 c4] := by rw [HW.out]; exact (Blk.new w _ _).alloc _
  have B1 : Blk wa (w.heap.size + 1) 74 [.int .i64 6, .int .i64 y, .slice b1 m1 d1, .slice b2 m2 d2] := by rw [HW.out]; simpa using Blk.new (w.alloc _) 74 [.int .i64 6, .int .i64 y, .slice b1 m1 d1, .slice b2 m2 d2]
  have HB : Below w.heap.size w wa := by rw [HW.out]; exact ((Below.refl _ _).alloc (Nat.le_refl _) _).alloc (by simp) _
  go_enter Tryz.func202, Tryz.ntmps202
  by_cases hp2 : 0 < m2
  · by_cases hp1 : 0 < m1
    · have hd2 : decide ((m2 : Int) > 0) = true := by simp; omega
      have hd1 : decide ((m1 : Int) > 0) = true := by simp; omega
      go_wp2_with (go_at_call 87; refine (in_any _ _ _ _).mono ?_; rintro e w' ⟨rfl, rfl⟩; try rw [hin])
      go_ret
      exact ⟨ret_bool (by rw [← HRR.out, decide_eq_true hp2, decide_eq_true hp1]; simp), by rw [← HW.out]; exact HB⟩
    · have hd2 : decide ((m2 : Int) > 0) = true := by simp; omega
      have hd1 : decide ((m1 : Int) > 0) = false := by simp; omega
      go_wp2_with (go_at_call 87; refine (in_any _ _ _ _).mono ?_; rintro e w' ⟨rfl, rfl⟩; try rw [hin])
      rw [← HW.out]
      refine (HX.out _ _ _ _ _ (h2.below (Nat.le_refl _) HB)).mono ?_
      rintro e w1 ⟨rfl, hb1⟩
      have q0 := B0.below hb1 B0.lt
      have q1 := B1.below hb1 B1.lt
      have hbel := HB.trans (hb1.mono HB.size)
      rw [HX2.out]
      clear hb1 HW B0 B1 HB
      have u0 := q0.cell (j := 0) rfl
      have u1 := q0.cell (j := 1) rfl
      have u2 := q0.cell (j := 2) rfl
      have u3 := q0.cell (j := 3) rfl
      have u4 := q0.cell (j := 4) rfl
      have u5 := q0.cell (j := 5) rfl
      have v0 := q1.cell (j := 0) rfl
      have v1 := q1.cell (j := 1) rfl
      have v2 := q1.cell (j := 2) rfl
      have v3 := q1.cell (j := 3) rfl
      cases X2 with
      | false =>
        go_wp2_with fail
        go_ret
        exact ⟨ret_bool (by rw [← HRR.out, decide_eq_true hp2, decide_eq_false hp1]; simp), hbel⟩
      | true =>
        go_wp2_with (go_at_call 87; refine (in_any _ _ _ _).mono ?_; rintro e w' ⟨rfl, rfl⟩; try rw [hin])
        go_ret
        exact ⟨ret_bool (by rw [← HRR.out, decide_eq_true hp2, decide_eq_false hp1]; simp), hbel⟩
  · have hd2 : decide ((m2 : Int) > 0) = false := by simp; omega
    go_wp2_with (go_at_call 87; refine (in_any _ _ _ _).mono ?_; rintro e w' ⟨rfl, rfl⟩; try rw [hin])
    go_ret
    exact ⟨ret_bool (by rw [← HRR.out, decide_eq_false hp2]; simp), by rw [← HW.out]; exact HB⟩
set_option maxHeartbeats 1600000 in
theorem l3Stmt_1 (y wd : Int) (a1 a2 a3 a4 b1 b2 : Option Addr) (n1 n2 n4 m1 m2 c1 c2 c3 c4 d1 d2 W T A : Nat) (rows : List SRow) (ts us : List Tm) (w : World)
    (hr : Lim ⟨wd, (a1, n1, c1), (a2, n2, c2), (T : Int), (a3, A, c3), (a4, n4, c4), rows⟩ W (n1 + n2) T A) (h1 : Terms w b1 m1 ts) (h2 : Terms w b2 m2 us) :
    Calls Tryz.prog 202 #[.agg #[.int .i64 wd, .slice a1 n1 c1, .slice a2 n2 c2, .int .i64 (T : Int), .slice a3 A c3, .slice a4 n4 c4], .agg #[.int .i64 1, .int .i64 y, .slice b1 m1 d1, .slice b2 m2 d2]] w fun e w' => e = .returned (.bool (stmtB (2 ^ W) (n1 + n2) T A ⟨1, y, ts, us⟩)) ∧ Below w.heap.size w w' := by
  have HX : Hid (∀ (w' : World) (a : Option Addr) (n c : Nat) (vs : List Tm), Terms w' a n vs → Calls Tryz.prog 227 #[.agg #[.int .i64 wd, .slice a1 n1 c1, .slice a2 n2 c2, .int .i64 (T : Int), .slice a3 A c3, .slice a4 n4 c4], .slice a n c] w' fun e w'' => e = .returned (.bool (bodyB (2 ^ W) (n1 + n2 + T) A vs)) ∧ Below w'.heap.size w' w'') := Lib.hid (fun w' a n c vs h' => l3Exp_any ⟨wd, (a1, n1, c1), (a2, n2, c2), (T : Int), (a3, A, c3), (a4, n4, c4), rows⟩ W (n1 + n2) T A a n c vs w' hr h')
  have hI := hr.few
  have hT := hr.fewT
  have hA := hr.fewA
  have hm1 := h1.2.1
  have hm2 := h2.2.1
  have L1 := Lib.hid h1.1
  have L2 := Lib.hid h2.1
  clear hr
  have hin : (decide ((0 : Int) ≤ 1) && decide ((1 : Int) ≤ 9)) = true := rfl
  have hput : ((1 : Int) == 1) = true := rfl
  have hbears : bears 1 = true := rfl
  have hnum : numOk (n1 + n2) T A 1 y = (decide (0 ≤ y) && decide (y ≤ (A : Int) - 1)) := rfl
  obtain ⟨R, HR⟩ : ∃ R, Hid (stmtB (2 ^ W) (n1 + n2) T A ⟨1, y, ts, us⟩ = R) := ⟨_, rfl⟩
  obtain ⟨X1, HX1⟩ : ∃ X1, Hid (bodyB (2 ^ W) (n1 + n2 + T) A ts = X1) := ⟨_, rfl⟩
  obtain ⟨X2, HX2⟩ : ∃ X2, Hid (bodyB (2 ^ W) (n1 + n2 + T) A us = X2) := ⟨_, rfl⟩
  have hR := HR.out
  simp only [stmtB, L1.out, L2.out, HX1.out, HX2.out] at hR
  rw [hin, hbears, hput, hnum] at hR
  have HRR := Lib.hid hR
  clear hR
  simp only [HR.out]
  clear HR
  obtain ⟨wa, HW⟩ : ∃ wa, Hid (wa = (w.alloc (.cells #[.int .i64 wd, .slice a1 n1 c1, .slice a2 n2 c2, .int .i64 (T : Int), .slice a3 A c3, .slice a4 n4 c4] 28)).alloc (.cells #[.int .i64 1, .int .i64 y, .slice b1 m1 d1, .slice b2 m2 d2] 74)) := ⟨_, rfl⟩
  have B0 : Blk wa w.heap.size 28 [.int .i64 wd, .slice a1 n1 c1, .slice a2 n2 c2, .int .i64 (T : Int), .slice a3 A c3, .slice a4 n4 c4] := by rw [HW.out]; exact (Blk.new w _ _).alloc _
  have B1 : Blk wa (w.heap.size + 1) 74 [.int .i64 1, .int .i64 y, .slice b1 m1 d1, .slice b2 m2 d2] := by rw [HW.out]; simpa using Blk.new (w.alloc _) 74 [.int .i64 1, .int .i64 y, .slice b1 m1 d1, .slice b2 m2 d2]
  have HB : Below w.heap.size w wa := by rw [HW.out]; exact ((Below.refl _ _).alloc (Nat.le_refl _) _).alloc (by simp) _
  go_enter Tryz.func202, Tryz.ntmps202
  by_cases hp2 : 0 < m2
  · by_cases hp1 : 0 < m1
    · have hd2 : decide ((m2 : Int) > 0) = true := by simp; omega
      have hd1 : decide ((m1 : Int) > 0) = true := by simp; omega
      go_wp2_with (go_at_call 87; refine (in_any _ _ _ _).mono ?_; rintro e w' ⟨rfl, rfl⟩; try rw [hin])
      rw [← HW.out]
      refine (HX.out _ _ _ _ _ (h2.below (Nat.le_refl _) HB)).mono ?_
      rintro e w1 ⟨rfl, hb1⟩
      have q0 := B0.below hb1 B0.lt
      have q1 := B1.below hb1 B1.lt
      have hbel := HB.trans (hb1.mono HB.size)
      rw [HX2.out]
      clear hb1 HW B0 B1 HB
      have u0 := q0.cell (j := 0) rfl
      have u1 := q0.cell (j := 1) rfl
      have u2 := q0.cell (j := 2) rfl
      have u3 := q0.cell (j := 3) rfl
      have u4 := q0.cell (j := 4) rfl
      have u5 := q0.cell (j := 5) rfl
      have v0 := q1.cell (j := 0) rfl
      have v1 := q1.cell (j := 1) rfl
      have v2 := q1.cell (j := 2) rfl
      have v3 := q1.cell (j := 3) rfl
      cases X2 with
      | false =>
        go_wp2_with fail
        go_ret
        exact ⟨ret_bool (by rw [← HRR.out, decide_eq_true hp2, decide_eq_true hp1]; simp), hbel⟩
      | true =>
        go_wp2_with fail
        refine (HX.out _ _ _ _ _ (h1.below (Nat.le_refl _) hbel)).mono ?_
        rintro e w2 ⟨rfl, hb2⟩
        clear u0 u1 u2 u3 u4 u5 v0 v1 v2 v3
        have q0 := q0.below hb2 q0.lt
        have q1 := q1.below hb2 q1.lt
        have hbel := hbel.trans (hb2.mono hbel.size)
        rw [HX1.out]
        have u0 := q0.cell (j := 0) rfl
        have u1 := q0.cell (j := 1) rfl
        have u2 := q0.cell (j := 2) rfl
        have u3 := q0.cell (j := 3) rfl
        have u4 := q0.cell (j := 4) rfl
        have u5 := q0.cell (j := 5) rfl
        have v0 := q1.cell (j := 0) rfl
        have v1 := q1.cell (j := 1) rfl
        have v2 := q1.cell (j := 2) rfl
        have v3 := q1.cell (j := 3) rfl
        cases X1 with
        | false =>
          go_wp2_with fail
          go_ret
          exact ⟨ret_bool (by rw [← HRR.out, decide_eq_true hp2, decide_eq_true hp1]; simp), hbel⟩
        | true =>
          go_wp2_with (go_at_call 87; refine (in_any _ _ _ _).mono ?_; rintro e w' ⟨rfl, rfl⟩; try rw [hin])
          go_ret
          exact ⟨ret_bool (by rw [← HRR.out, decide_eq_true hp2, decide_eq_true hp1]; simp), hbel⟩
    · have hd2 : decide ((m2 : Int) > 0) = true := by simp; omega
      have hd1 : decide ((m1 : Int) > 0) = false := by simp; omega
      go_wp2_with (go_at_call 87; refine (in_any _ _ _ _).mono ?_; rintro e w' ⟨rfl, rfl⟩; try rw [hin])
      go_ret
      exact ⟨ret_bool (by rw [← HRR.out, decide_eq_true hp2, decide_eq_false hp1]; simp), by rw [← HW.out]; exact HB⟩
  · have hd2 : decide ((m2 : Int) > 0) = false := by simp; omega
    go_wp2_with (go_at_call 87; refine (in_any _ _ _ _).mono ?_; rintro e w' ⟨rfl, rfl⟩; try rw [hin])
    go_ret
    exact ⟨ret_bool (by rw [← HRR.out, decide_eq_false hp2]; simp), by rw [← HW.out]; exact HB⟩
end Go.Proofs.YtbnpoliogldohaaGreat
/- The contracts of the model's l3Stmt (all kinds together) and l3Stmts. -/
namespace Go.Proofs.YtbnpoliogldohaaGreat
open Go.RowKit

theorem l3Stmt_any (r : PRow) (W I T A : Nat) (x y : Int) (b1 b2 : Option Addr) (m1 m2 d1 d2 : Nat) (ts us : List Tm) (w : World) (hr : Lim r W I T A) (h1 : Terms w b1 m1 ts) (h2 : Terms w b2 m2 us) :
    Calls Tryz.prog 202 #[progV r, .agg #[.int .i64 x, .int .i64 y, .slice b1 m1 d1, .slice b2 m2 d2]] w fun e w' => e = .returned (.bool (stmtB (2 ^ W) I T A ⟨x, y, ts, us⟩)) ∧ Below w.heap.size w w' := by
  obtain ⟨wd, ⟨a1, n1, c1⟩, ⟨a2, n2, c2⟩, tp, ⟨a3, n3, c3⟩, ⟨a4, n4, c4⟩, rows⟩ := r
  have e1 := hr.inputs
  have e2 := hr.temps
  have e3 := hr.arrays
  simp only [] at e1 e2 e3
  subst e1 e2 e3
  by_cases h0 : x < 0 ∨ 9 < x
  · exact l3Stmt_out x h0 y wd a1 a2 a3 a4 b1 b2 n1 n2 n4 m1 m2 c1 c2 c3 c4 d1 d2 W T n3 rows ts us w hr h1 h2
  by_cases k : x = 3 ∨ x = 4 ∨ x = 8
  · exact l3Stmt_plain x k y wd a1 a2 a3 a4 b1 b2 n1 n2 n4 m1 m2 c1 c2 c3 c4 d1 d2 W T n3 rows ts us w hr h1 h2
  have hx : x = 0 ∨ x = 1 ∨ x = 2 ∨ x = 5 ∨ x = 6 ∨ x = 7 ∨ x = 9 := by omega
  rcases hx with rfl | rfl | rfl | rfl | rfl | rfl | rfl
  · exact l3Stmt_0 y wd a1 a2 a3 a4 b1 b2 n1 n2 n4 m1 m2 c1 c2 c3 c4 d1 d2 W T n3 rows ts us w hr h1 h2
  · exact l3Stmt_1 y wd a1 a2 a3 a4 b1 b2 n1 n2 n4 m1 m2 c1 c2 c3 c4 d1 d2 W T n3 rows ts us w hr h1 h2
  · exact l3Stmt_2 y wd a1 a2 a3 a4 b1 b2 n1 n2 n4 m1 m2 c1 c2 c3 c4 d1 d2 W T n3 rows ts us w hr h1 h2
  · exact l3Stmt_5 y wd a1 a2 a3 a4 b1 b2 n1 n2 n4 m1 m2 c1 c2 c3 c4 d1 d2 W T n3 rows ts us w hr h1 h2
  · exact l3Stmt_6 y wd a1 a2 a3 a4 b1 b2 n1 n2 n4 m1 m2 c1 c2 c3 c4 d1 d2 W T n3 rows ts us w hr h1 h2
  · exact l3Stmt_7 y wd a1 a2 a3 a4 b1 b2 n1 n2 n4 m1 m2 c1 c2 c3 c4 d1 d2 W T n3 rows ts us w hr h1 h2
  · exact l3Stmt_9 y wd a1 a2 a3 a4 b1 b2 n1 n2 n4 m1 m2 c1 c2 c3 c4 d1 d2 W T n3 rows ts us w hr h1 h2
def StTo (f : Stm → Bool) (ss : List Stm) (k : Nat) : Prop := ∀ i, i < k → f (stAt ss i) = true
theorem StTo.zero (f : Stm → Bool) (ss : List Stm) : StTo f ss 0 := fun i hi => absurd hi (by omega)
theorem StTo.succ {f : Stm → Bool} {ss : List Stm} {k : Nat} {t : Stm} (h : StTo f ss k) (hz : Hid (stAt ss k = t)) (ht : f t = true) : StTo f ss (k + 1) := by
  intro i hi
  rcases Nat.lt_or_ge i k with hlt | hge
  · exact h i hlt
  · have : i = k := by omega
    subst this; rw [hz.out]; exact ht
theorem stAt_mem {ss : List Stm} {k : Nat} (h : k < ss.length) : stAt ss k ∈ ss := by
  rw [stAt, List.getD_eq_getElem?_getD, List.getElem?_eq_getElem h]; exact List.getElem_mem h
theorem stTo_all {f : Stm → Bool} {ss : List Stm} (h : StTo f ss ss.length) : ss.all f = true := by
  rw [List.all_eq_true]
  intro z hz
  obtain ⟨i, hi, rfl⟩ := List.getElem_of_mem hz
  have := h i hi
  rw [stAt, List.getD_eq_getElem?_getD, List.getElem?_eq_getElem hi] at this
  simpa using this
theorem st_bad {f : Stm → Bool} {ss : List Stm} {k : Nat} {t : Stm} (hk : k < ss.length) (hz : Hid (stAt ss k = t)) (ht : f t = false) : ss.all f = false := by
  rw [← Bool.not_eq_true, List.all_eq_true]
  intro h
  have := h _ (stAt_mem hk)
  rw [hz.out, ht] at this
  exact absurd this (by simp)
set_option maxHeartbeats 3200000 in
theorem l3Stmts_any (r : PRow) (p : Prg) (W I T A : Nat) (w : World) (h : ProgAt w r p) (hr : Lim r W I T A) :
    Calls Tryz.prog 160 #[progV r] w fun e w' => e = .returned (.bool (p.body.all (stmtB (2 ^ W) I T A))) ∧ Below w.heap.size w w' := by
  have HX : Hid (∀ (x y : Int) (b1 b2 : Option Addr) (m1 m2 d1 d2 : Nat) (ts us : List Tm) (w' : World), Terms w' b1 m1 ts → Terms w' b2 m2 us → Calls Tryz.prog 202 #[progV r, .agg #[.int .i64 x, .int .i64 y, .slice b1 m1 d1, .slice b2 m2 d2]] w' fun e w'' => e = .returned (.bool (stmtB (2 ^ W) I T A ⟨x, y, ts, us⟩)) ∧ Below w'.heap.size w' w'') :=
    Lib.hid (fun x y b1 b2 m1 m2 d1 d2 ts us w' h1 h2 => l3Stmt_any r W I T A x y b1 b2 m1 m2 d1 d2 ts us w' hr h1 h2)
  have h4 := h.body
  clear h hr
  obtain ⟨wd, ⟨a1, n1, c1⟩, ⟨a2, n2, c2⟩, tp, ⟨a3, n3, c3⟩, ⟨a4, n4, c4⟩, rows⟩ := r
  obtain ⟨pw, pl, ps, pt, pa, pb⟩ := p
  simp only [] at h4
  obtain ⟨f, HF⟩ : ∃ f, Hid (stmtB (2 ^ W) I T A = f) := ⟨_, rfl⟩
  simp only [HF.out] at HX ⊢
  clear HF
  show Calls Tryz.prog 160 #[.agg #[.int .i64 wd, .slice a1 n1 c1, .slice a2 n2 c2, .int .i64 tp, .slice a3 n3 c3, .slice a4 n4 c4]] w _
  have HL := Lib.hid h4.2.1
  have hbd := h4.2.2.1
  obtain ⟨wa, HW⟩ : ∃ wa, Hid (wa = w.alloc (.cells #[.int .i64 wd, .slice a1 n1 c1, .slice a2 n2 c2, .int .i64 tp, .slice a3 n3 c3, .slice a4 n4 c4] 28)) := ⟨_, rfl⟩
  have BX : Blk wa w.heap.size 28 [.int .i64 wd, .slice a1 n1 c1, .slice a2 n2 c2, .int .i64 tp, .slice a3 n3 c3, .slice a4 n4 c4] := by rw [HW.out]; exact Blk.new w _ _
  have HB : Below w.heap.size w wa := by rw [HW.out]; exact (Below.refl _ _).alloc (Nat.le_refl _) _
  go_enter Tryz.func160, Tryz.ntmps160
  go_wp2
  rw [← HW.out]
  go_loopw [3] (fun i wr => ∃ k : Nat, k ≤ n4 ∧ i = .int .i64 (k : Int) ∧ StTo f pb k ∧ Below wa.heap.size wa wr) (fun i _ => n4 - (intOf i).toNat)
  case atStart => exact ⟨0, Nat.zero_le _, rfl, StTo.zero _ _, Below.refl _ _⟩
  case round =>
    obtain ⟨k, hk, rfl, hg, hbl⟩ := hrel
    have hbel := HB.trans (hbl.mono HB.size)
    have B1 := BX.below hbl BX.lt
    have t5 := B1.cell (j := 5) rfl
    by_cases hlt : k < n4
    · obtain ⟨b, o, x, y, p1, m1, d1, p2, m2, d2, ts, us, rfl, hb, hz, hin1, hin2, hc1, hc2, hc3, hc4, hT1, hT2⟩ := (h4.below hbel).at_ hlt
      have f1 := lat_cell hb hc1
      have f2 := lat_cell hb hc2
      have f3 := lat_cell hb hc3
      have f4 := lat_cell hb hc4
      have g0 := lat_cell B1.lt (B1.cell (j := 0) rfl)
      have g1 := lat_cell B1.lt (B1.cell (j := 1) rfl)
      have g2 := lat_cell B1.lt (B1.cell (j := 2) rfl)
      have g3 := lat_cell B1.lt (B1.cell (j := 3) rfl)
      have g4 := lat_cell B1.lt (B1.cell (j := 4) rfl)
      have g5 := lat_cell B1.lt (B1.cell (j := 5) rfl)
      clear hc1 hc2 hc3 hc4
      obtain ⟨q, HQ⟩ : ∃ q, Hid (f ⟨x, y, ts, us⟩ = q) := ⟨_, rfl⟩
      have HC : Hid (∀ p : Lat wr, Calls Tryz.prog 202 #[.agg #[.int .i64 wd, .slice a1 n1 c1, .slice a2 n2 c2, .int .i64 tp, .slice a3 n3 c3, .slice (some ⟨b, o, none⟩) n4 c4], .agg #[.int .i64 x, .int .i64 y, .slice p1 m1 d1, .slice p2 m2 d2]] p.wd fun e w' => e = .returned (.bool q) ∧ Below p.wd.heap.size p.wd w') := Lib.hid (fun p => by
        rw [← HQ.out]; exact HX.out _ _ _ _ _ _ _ _ _ _ _ (hT1.below (Nat.le_refl _) p.ok) (hT2.below (Nat.le_refl _) p.ok))
      clear hT1 hT2
      cases q with
      | true =>
        go_wp2
        refine wp_region_lat (by kernel_rfl) (by kernel_rfl) ?_
        repeat (go_big_quiet_step ((go_at_call 202; exact lat_calls (HC.out _))))
        refine wpQuiet_nil ?_
        intro _ hw'
        obtain ⟨⟨wq, hwq⟩, hw''⟩ := hw'
        subst hw''
        have ht := hbl.trans (hwq.mono hbl.size)
        clear f1 f2 f3 f4 g0 g1 g2 g3 g4 g5 HC t5
        go_wp2
        go_roundw
        case rel => exact ⟨k + 1, by omega, by go_num, hg.succ hz HQ.out, ht⟩
        case measure => simp [intOf]; omega
      | false =>
        go_wp2
        refine wp_region_lat (by kernel_rfl) (by kernel_rfl) ?_
        repeat (go_big_quiet_step ((go_at_call 202; exact lat_calls (HC.out _))))
        refine wpQuiet_nil ?_
        intro _ hw'
        obtain ⟨⟨wq, hwq⟩, hw''⟩ := hw'
        subst hw''
        have ht := hbl.trans (hwq.mono hbl.size)
        have ht2 := HB.trans (ht.mono HB.size)
        clear f1 f2 f3 f4 g0 g1 g2 g3 g4 g5 HC t5
        go_wp2
        go_ret
        exact ⟨ret_bool (st_bad (by rw [HL.out]; exact hlt) hz HQ.out).symm, ht2⟩
    · obtain rfl : n4 = k := by omega
      go_wp2
      go_ret
      exact ⟨ret_bool (stTo_all (by rw [HL.out]; exact hg)).symm, hbel⟩
end Go.Proofs.YtbnpoliogldohaaGreat
/- The contract of the model's CodeOf. -/
namespace Go.Proofs.YtbnpoliogldohaaGreat
open Go.RowKit

open Classical in
/-- The steps of a whole body. -/
noncomputable def stepsN (ss : List Stm) : Nat := if h : ∃ s, Steps ss 0 ss.length s then h.choose else 0
theorem stepsN_spec {ss : List Stm} (h : ∃ s, Steps ss 0 ss.length s) : Steps ss 0 ss.length (stepsN ss) := by
  unfold stepsN
  rw [dif_pos h]
  exact h.choose_spec
def inpB (p : Prg) : Bool := (inputsB (2 ^ p.width.toNat) true p.lows && inputsB (2 ^ p.width.toNat) false p.secrets) && decide (bitsTo p.lows p.lows.length + bitsTo p.secrets p.secrets.length ≤ 10)
def stmtsB (p : Prg) : Bool := p.body.all (stmtB (2 ^ p.width.toNat) (p.lows.length + p.secrets.length) p.temps.toNat p.arrays.length)
/-- What CodeOf answers. -/
noncomputable def codeB (p : Prg) : Int :=
  if ¬ (1 ≤ p.width ∧ p.width ≤ 8) then 1
  else if inpB p = false then 2
  else if roomB p = false then 3
  else if stmtsB p = false then 4
  else if blockOf p.body 0 ≠ (p.body.length : Int) then 5
  else if 400 < stepsN p.body then 6 else 0
theorem loops_ok {S I T A : Nat} {ss : List Stm} (h : ss.all (stmtB S I T A) = true) : LoopsOk ss := by
  intro i hi h5
  have := List.all_eq_true.1 h _ (stAt_mem hi)
  unfold opAt at h5
  simp only [stmtB, Bool.and_eq_true] at this
  have hn := this.2
  rw [h5] at hn
  simp only [numOk] at hn
  simp at hn
  exact ⟨(stAt ss i).n.toNat, by omega, by omega⟩
end Go.Proofs.YtbnpoliogldohaaGreat
/- The contract of the model's CodeOf. -/
namespace Go.Proofs.YtbnpoliogldohaaGreat
open Go.RowKit

set_option maxRecDepth 20000 in
set_option maxHeartbeats 3200000 in
theorem specCodeOf_any (r : PRow) (p : Prg) (w : World) (h : ProgAt w r p) :
    Calls Tryz.prog 100 #[progV r] w fun e w' => e = .returned (.int .i64 (codeB p)) ∧ Below w.heap.size w w' := by
  obtain ⟨Z, HZ⟩ : ∃ Z, Hid (codeB p = Z) := ⟨_, rfl⟩
  rw [HZ.out]
  have hZ := HZ.out
  unfold codeB at hZ
  by_cases hw : 1 ≤ p.width ∧ p.width ≤ 8
  case neg =>
    rw [if_pos hw] at hZ
    subst hZ
    have hin : (decide (1 ≤ p.width) && decide (p.width ≤ 8)) = false := by rw [← Bool.not_eq_true]; simpa using hw
    obtain ⟨wd, ⟨a1, n1, c1⟩, ⟨a2, n2, c2⟩, tp, ⟨a3, n3, c3⟩, ⟨a4, n4, c4⟩, rows⟩ := r
    have e1 := h.width
    simp only [] at e1
    rw [← e1] at hin
    clear e1 h hw HZ
    show Calls Tryz.prog 100 #[.agg #[.int .i64 wd, .slice a1 n1 c1, .slice a2 n2 c2, .int .i64 tp, .slice a3 n3 c3, .slice a4 n4 c4]] w _
    go_enter Tryz.func100, Tryz.ntmps100
    go_wp2_with (go_at_call 87; refine (in_any _ _ _ _).mono ?_; rintro e w' ⟨rfl, rfl⟩; rw [hin])
    go_ret
    exact ⟨rfl, (Below.refl _ _).alloc (Nat.le_refl _) _⟩
  rw [if_neg (by simpa using hw)] at hZ
  obtain ⟨wd, ⟨a1, n1, c1⟩, ⟨a2, n2, c2⟩, tp, ⟨a3, n3, c3⟩, ⟨a4, n4, c4⟩, rows⟩ := r
  obtain ⟨pw, pl, ps, pt, pa, pb⟩ := p
  have HPA := h
  obtain ⟨e1, e2, i1, i2, h1, h2, h3, h4⟩ := h
  simp only [] at e1 e2 i1 i2 h1 h2 h3 h4 hw
  subst e1 e2
  obtain ⟨W, rfl⟩ : ∃ W : Nat, wd = (W : Int) := ⟨wd.toNat, by omega⟩
  have hin : (decide (1 ≤ (W : Int)) && decide ((W : Int) ≤ 8)) = true := by simpa using hw
  have HIN := Lib.hid hin
  have hW8 : W ≤ 8 := by omega
  have HP := Lib.hid HPA
  have L1 := Lib.hid h1.1
  have L2 := Lib.hid h2.1
  have L3 := Lib.hid h3.1
  have L4 := Lib.hid h4.2.1
  have hm4 := h4.2.2.1
  clear HPA hin h1 h2 h3 h4 HZ
  have HZ := Lib.hid hZ
  clear hZ
  show Calls Tryz.prog 100 #[.agg #[.int .i64 (W : Int), .slice a1 n1 c1, .slice a2 n2 c2, .int .i64 tp, .slice a3 n3 c3, .slice a4 n4 c4]] w _
  obtain ⟨wa, HW⟩ : ∃ wa, Hid (wa = w.alloc (.cells #[.int .i64 (W : Int), .slice a1 n1 c1, .slice a2 n2 c2, .int .i64 tp, .slice a3 n3 c3, .slice a4 n4 c4] 28)) := ⟨_, rfl⟩
  have B : Blk wa w.heap.size 28 [.int .i64 (W : Int), .slice a1 n1 c1, .slice a2 n2 c2, .int .i64 tp, .slice a3 n3 c3, .slice a4 n4 c4] := by rw [HW.out]; exact Blk.new w _ _
  have HB : Below w.heap.size w wa := by rw [HW.out]; exact (Below.refl _ _).alloc (Nat.le_refl _) _
  go_enter Tryz.func100, Tryz.ntmps100
  go_wp2_with (go_at_call 87; refine (in_any _ _ _ _).mono ?_; rintro e w' ⟨rfl, rfl⟩; rw [HIN.out])
  obtain ⟨X1, H1⟩ : ∃ X1, Hid (inputsB (2 ^ W) true pl = X1) := ⟨_, rfl⟩
  obtain ⟨X2, H2⟩ : ∃ X2, Hid (inputsB (2 ^ W) false ps = X2) := ⟨_, rfl⟩
  obtain ⟨N, HN⟩ : ∃ N, Hid (bitsTo pl pl.length + bitsTo ps ps.length = N) := ⟨_, rfl⟩
  have HI : Hid (inpB ⟨(W : Int), pl, ps, tp, pa, pb⟩ = ((X1 && X2) && decide (N ≤ 10))) := Lib.hid (by simp only [inpB, Int.toNat_natCast, H1.out, H2.out, HN.out])
  rw [HI.out] at HZ
  rw [← HW.out]
  refine (l3Inputs_any ⟨(W : Int), (a1, n1, c1), (a2, n2, c2), tp, (a3, n3, c3), (a4, n4, c4), rows⟩ W _ _ _ _ _ _ rfl hW8 (HP.out.lows.below (Nat.le_refl _) HB)).mono ?_
  rintro e w1 ⟨rfl, hb1⟩
  simp only [H1.out]
  have B := B.below hb1 B.lt
  have HB := HB.trans (hb1.mono HB.size)
  clear hb1 HW
  have t0 := B.cell (j := 0) rfl
  have t1 := B.cell (j := 1) rfl
  have t2 := B.cell (j := 2) rfl
  have t3 := B.cell (j := 3) rfl
  have t4 := B.cell (j := 4) rfl
  have t5 := B.cell (j := 5) rfl
  cases X1 with
  | false =>
    have hz := HZ.out
    rw [Bool.false_and, Bool.false_and, if_pos rfl] at hz
    subst hz
    go_wp2
    go_ret
    exact ⟨rfl, HB⟩
  | true =>
  go_wp2_with fail
  refine (l3Inputs_any ⟨(W : Int), (a1, n1, c1), (a2, n2, c2), tp, (a3, n3, c3), (a4, n4, c4), rows⟩ W _ _ _ _ _ _ rfl hW8 (HP.out.secrets.below (Nat.le_refl _) HB)).mono ?_
  rintro e w2 ⟨rfl, hb2⟩
  simp only [H2.out]
  clear t0 t1 t2 t3 t4 t5
  have B := B.below hb2 B.lt
  have HB := HB.trans (hb2.mono HB.size)
  clear hb2
  have t0 := B.cell (j := 0) rfl
  have t1 := B.cell (j := 1) rfl
  have t2 := B.cell (j := 2) rfl
  have t3 := B.cell (j := 3) rfl
  have t4 := B.cell (j := 4) rfl
  have t5 := B.cell (j := 5) rfl
  cases X2 with
  | false =>
    have hz := HZ.out
    rw [Bool.and_false, Bool.false_and, if_pos rfl] at hz
    subst hz
    go_wp2
    go_ret
    exact ⟨rfl, HB⟩
  | true =>
  go_wp2_with fail
  refine (l3AllBits_any ⟨(W : Int), (a1, n1, c1), (a2, n2, c2), tp, (a3, n3, c3), (a4, n4, c4), rows⟩ ⟨(W : Int), pl, ps, tp, pa, pb⟩ _ (HP.out.below HB)).mono ?_
  rintro e w3 ⟨rfl, hb3⟩
  simp only [HN.out]
  clear t0 t1 t2 t3 t4 t5
  have B := B.below hb3 B.lt
  have HB := HB.trans (hb3.mono HB.size)
  clear hb3
  have t0 := B.cell (j := 0) rfl
  have t1 := B.cell (j := 1) rfl
  have t2 := B.cell (j := 2) rfl
  have t3 := B.cell (j := 3) rfl
  have t4 := B.cell (j := 4) rfl
  have t5 := B.cell (j := 5) rfl
  rw [Bool.and_self, Bool.true_and] at HZ
  by_cases hN : N ≤ 10
  case neg =>
    have hz := HZ.out
    rw [decide_eq_false hN, if_pos rfl] at hz
    subst hz
    have hd : decide ((N : Int) > 10) = true := by simp; omega
    go_wp2
    go_ret
    exact ⟨rfl, HB⟩
  have hd : decide ((N : Int) > 10) = false := by simp; omega
  rw [decide_eq_true hN, if_neg (by simp)] at HZ
  obtain ⟨X3, H3⟩ : ∃ X3, Hid (roomB ⟨(W : Int), pl, ps, tp, pa, pb⟩ = X3) := ⟨_, rfl⟩
  rw [H3.out] at HZ
  go_wp2_with fail
  refine (l3Room_any ⟨(W : Int), (a1, n1, c1), (a2, n2, c2), tp, (a3, n3, c3), (a4, n4, c4), rows⟩ ⟨(W : Int), pl, ps, tp, pa, pb⟩ _ (HP.out.below HB)).mono ?_
  rintro e w4 ⟨rfl, hb4⟩
  rw [H3.out]
  clear t0 t1 t2 t3 t4 t5 hd
  have B := B.below hb4 B.lt
  have HB := HB.trans (hb4.mono HB.size)
  clear hb4
  have t0 := B.cell (j := 0) rfl
  have t1 := B.cell (j := 1) rfl
  have t2 := B.cell (j := 2) rfl
  have t3 := B.cell (j := 3) rfl
  have t4 := B.cell (j := 4) rfl
  have t5 := B.cell (j := 5) rfl
  cases X3 with
  | false =>
    have hz := HZ.out
    rw [if_pos rfl] at hz
    subst hz
    go_wp2
    go_ret
    exact ⟨rfl, HB⟩
  | true =>
  rw [if_neg (by simp)] at HZ
  have hroom := H3.out
  simp only [roomB, Bool.and_eq_true, decide_eq_true_eq] at hroom
  have hl1 : n1 ≤ 3 := by have q := H1.out; simp only [inputsB, Bool.and_eq_true, decide_eq_true_eq] at q; have := L1.out; omega
  have hl2 : n2 ≤ 3 := by have q := H2.out; simp only [inputsB, Bool.and_eq_true, decide_eq_true_eq] at q; have := L2.out; omega
  have hl3 : n3 ≤ 2 := by have := L3.out; omega
  have hl4 : n4 ≤ 40 := by have := L4.out; omega
  obtain ⟨T, rfl⟩ : ∃ T : Nat, tp = (T : Int) := ⟨tp.toNat, by omega⟩
  have hT : T ≤ 6 := by omega
  have HLim := Lib.hid (show Lim ⟨(W : Int), (a1, n1, c1), (a2, n2, c2), (T : Int), (a3, n3, c3), (a4, n4, c4), rows⟩ W (n1 + n2) T n3 from ⟨rfl, hW8, rfl, by omega, rfl, by omega, rfl, by omega⟩)
  clear hroom
  obtain ⟨X4, H4⟩ : ∃ X4, Hid (pb.all (stmtB (2 ^ W) (n1 + n2) T n3) = X4) := ⟨_, rfl⟩
  have HS : Hid (stmtsB ⟨(W : Int), pl, ps, (T : Int), pa, pb⟩ = X4) := Lib.hid (by simp only [stmtsB, Int.toNat_natCast, L1.out, L2.out, L3.out, H4.out])
  rw [HS.out] at HZ
  go_wp2_with fail
  refine (l3Stmts_any _ ⟨(W : Int), pl, ps, (T : Int), pa, pb⟩ W (n1 + n2) T n3 _ (HP.out.below HB) HLim.out).mono ?_
  rintro e w5 ⟨rfl, hb5⟩
  simp only [H4.out]
  clear t0 t1 t2 t3 t4 t5
  have B := B.below hb5 B.lt
  have HB := HB.trans (hb5.mono HB.size)
  clear hb5
  have t0 := B.cell (j := 0) rfl
  have t1 := B.cell (j := 1) rfl
  have t2 := B.cell (j := 2) rfl
  have t3 := B.cell (j := 3) rfl
  have t4 := B.cell (j := 4) rfl
  have t5 := B.cell (j := 5) rfl
  cases X4 with
  | false =>
    have hz := HZ.out
    rw [if_pos rfl] at hz
    subst hz
    go_wp2
    go_ret
    exact ⟨rfl, HB⟩
  | true =>
  rw [if_neg (by simp)] at HZ
  have hlo := loops_ok H4.out
  obtain ⟨K, HK⟩ : ∃ K, Hid (blockOf pb 0 = K) := ⟨_, rfl⟩
  simp only [HK.out, L4.out] at HZ
  have hblk := l3Block_any a4 n4 c4 rows pb 0 w5 (HP.out.body.below HB) (Nat.zero_le _)
  rw [HK.out] at hblk
  have HC := Lib.hid hblk
  clear hblk
  by_cases hK : K = (n4 : Int)
  case neg =>
    have hz := HZ.out
    rw [if_pos hK] at hz
    subst hz
    have hd : (K != (n4 : Int)) = true := by simpa using hK
    go_wp2_with (go_at_call 161; refine HC.out.mono ?_; rintro e w' ⟨rfl, rfl⟩)
    go_ret
    exact ⟨rfl, HB⟩
  rw [if_neg (by simpa using hK)] at HZ
  have hex := part_steps hlo _ 0 pb.length (Nat.le_refl _) (Nat.zero_le _) (by rw [HK.out, hK, L4.out])
  have hst := stepsN_spec hex
  obtain ⟨Q, HQ⟩ : ∃ Q, Hid (stepsN pb = Q) := ⟨_, rfl⟩
  rw [HQ.out] at hst
  rw [HQ.out] at HZ
  rw [L4.out] at hst
  have HD : Hid (∀ w', Below w.heap.size w w' → Calls Tryz.prog 162 #[.slice a4 n4 c4, .int .i64 0, .int .i64 (n4 : Int)] w' fun e w'' => e = .returned (.int .i64 (Q : Int)) ∧ Still w' w'') := Lib.hid (fun w' hw' => l3Steps_any a4 n4 c4 rows pb 0 n4 Q w' (HP.out.body.below hw') hl4 (Nat.le_refl _) hst)
  clear hex hst hlo
  have hd : (K != (n4 : Int)) = false := by simpa using hK
  go_wp2_with (go_at_call 161; refine HC.out.mono ?_; rintro e w' ⟨rfl, rfl⟩)
  refine (HD.out _ HB).mono ?_
  rintro e w6 ⟨rfl, hs6⟩
  have HB := HB.trans (hs6.below _)
  by_cases hQ : 400 < Q
  · have hz := HZ.out
    rw [if_pos hQ] at hz
    subst hz
    have hd2 : decide ((Q : Int) > 400) = true := by simp; omega
    go_wp2
    go_ret
    exact ⟨rfl, HB⟩
  · have hz := HZ.out
    rw [if_neg hQ] at hz
    subst hz
    have hd2 : decide ((Q : Int) > 400) = false := by simp; omega
    go_wp2
    go_ret
    exact ⟨rfl, HB⟩
end Go.Proofs.YtbnpoliogldohaaGreat
/- The contracts of the model's ProgOk and StepsOf. -/
namespace Go.Proofs.YtbnpoliogldohaaGreat
open Go.RowKit

/-- What StepsOf answers. -/
noncomputable def stepsB (p : Prg) : Int := if codeB p = 0 then (stepsN p.body : Int) else -1
set_option maxHeartbeats 800000 in
theorem specProgOk_any (r : PRow) (p : Prg) (w : World) (h : ProgAt w r p) :
    Calls Tryz.prog 48 #[progV r] w fun e w' => e = .returned (.bool (codeB p == 0)) ∧ Below w.heap.size w w' := by
  have HC : Hid (∀ w', Below w.heap.size w w' → Calls Tryz.prog 100 #[progV r] w' fun e w'' => e = .returned (.int .i64 (codeB p)) ∧ Below w'.heap.size w' w'') := Lib.hid (fun w' hw => specCodeOf_any r p w' (h.below hw))
  obtain ⟨Z, HZ⟩ : ∃ Z, Hid (codeB p = Z) := ⟨_, rfl⟩
  rw [HZ.out] at HC ⊢
  obtain ⟨wd, ⟨a1, n1, c1⟩, ⟨a2, n2, c2⟩, tp, ⟨a3, n3, c3⟩, ⟨a4, n4, c4⟩, rows⟩ := r
  clear h HZ
  show Calls Tryz.prog 48 #[.agg #[.int .i64 wd, .slice a1 n1 c1, .slice a2 n2 c2, .int .i64 tp, .slice a3 n3 c3, .slice a4 n4 c4]] w _
  have HB : Below w.heap.size w (w.alloc (.cells #[.int .i64 wd, .slice a1 n1 c1, .slice a2 n2 c2, .int .i64 tp, .slice a3 n3 c3, .slice a4 n4 c4] 28)) := (Below.refl _ _).alloc (Nat.le_refl _) _
  go_enter Tryz.func48, Tryz.ntmps48
  go_wp2_with fail
  refine (HC.out _ HB).mono ?_
  rintro e w1 ⟨rfl, hb1⟩
  have HB := HB.trans (hb1.mono HB.size)
  go_wp2
  go_ret
  exact ⟨ret_bool (by cases hz : (Z == 0) <;> simp_all), HB⟩
end Go.Proofs.YtbnpoliogldohaaGreat
