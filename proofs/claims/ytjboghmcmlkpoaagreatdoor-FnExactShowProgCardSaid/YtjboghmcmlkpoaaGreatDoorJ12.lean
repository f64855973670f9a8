/- Joined texts of this proof (SpecExp, ImplSmall, SpecStmt, SpecStmts, ImplStmt), in build order. -/
import Derived.Test.YtjboghmcmlkpoaaGreatDoorJ11
import Derived.Test.YtjboghmcmlkpoaaGreatDoorJ1
/- The contracts of the model's l3Names and l3Exp. -/
namespace Go.Proofs.YtjboghmcmlkpoaaGreatDoor
open Go.RowKit

/-- What a program's head allows: its width, its inputs, its temporaries, its arrays. -/
structure Lim (r : PRow) (W I T A : Nat) : Prop where
  width : r.width = (W : Int)
  small : W ≤ 8
  inputs : r.lows.2.1 + r.secrets.2.1 = I
  few : I ≤ 1048576
  temps : r.temps = (T : Int)
  fewT : T ≤ 1048576
  arrays : r.arrays.2.1 = A
  fewA : A ≤ 1048576
/-- A Term names what there is: S values, V variables, A arrays. -/
def nameOk (S V A : Nat) (t : Tm) : Bool :=
  if t.1 = 0 then decide (t.2 < (S : Int)) else if t.1 = 1 then decide (t.2 < (V : Int)) else if t.1 = 2 then decide (t.2 < (A : Int)) else true
def namesB (S V A : Nat) (ts : List Tm) : Bool := expB ts && ts.all (nameOk S V A)
def bodyB (S V A : Nat) (ts : List Tm) : Bool := ts.all (fun t => t.1 != 17) && (decide (ts.length ≤ 40) && namesB S V A ts)
def AllTo (f : Tm → Bool) (ts : List Tm) (k : Nat) : Prop := ∀ i, i < k → f (tmAt ts i) = true
theorem AllTo.zero (f : Tm → Bool) (ts : List Tm) : AllTo f ts 0 := fun i hi => absurd hi (by omega)
theorem AllTo.succ {f : Tm → Bool} {ts : List Tm} {k : Nat} {t : Tm} (h : AllTo f ts k) (hz : Hid (tmAt ts k = t)) (ht : f t = true) : AllTo f ts (k + 1) := by
  intro i hi
  rcases Nat.lt_or_ge i k with hlt | hge
  · exact h i hlt
  · have : i = k := by omega
    subst this; rw [hz.out]; exact ht
theorem allTo_all {f : Tm → Bool} {ts : List Tm} (h : AllTo f ts ts.length) : ts.all f = true := by
  rw [List.all_eq_true]
  intro z hz
  obtain ⟨i, hi, rfl⟩ := List.getElem_of_mem hz
  have := h i hi
  rw [tmAt, List.getD_eq_getElem?_getD, List.getElem?_eq_getElem hi] at this
  simpa using this
theorem all_bad {f : Tm → Bool} {ts : List Tm} {k : Nat} {t : Tm} (hk : k < ts.length) (hz : Hid (tmAt ts k = t)) (ht : f t = false) : ts.all f = false := by
  rw [← Bool.not_eq_true, List.all_eq_true]
  intro h
  have := h _ (tmAt_mem hk)
  rw [hz.out, ht] at this
  exact absurd this (by simp)

set_option maxHeartbeats 3200000 in
theorem l3Names_any (r : PRow) (W I T A : Nat) (a : Option Addr) (n c : Nat) (ts : List Tm) (w : World) (hr : Lim r W I T A) (h : Terms w a n ts) :
    Calls Tryz.prog 138 #[progV r, .slice a n c] w fun e w' => e = .returned (.bool (namesB (2 ^ W) (I + T) A ts)) ∧ Below w.heap.size w w' := by
  have HC0 : Hid (∀ w' : World, Calls Tryz.prog 137 #[progV r] w' fun e w'' => e = .returned (.int .i64 ((2 ^ W : Nat) : Int)) ∧ Below w'.heap.size w' w'') := Lib.hid (fun w' => l3Size_any r W w' hr.width hr.small)
  have HV0 : Hid (∀ w' : World, Calls Tryz.prog 136 #[progV r] w' fun e w'' => e = .returned (.int .i64 ((I + T : Nat) : Int)) ∧ Below w'.heap.size w' w'') := Lib.hid (fun w' => by
    have q := l3Vars_any r w' (by have := hr.inputs; have := hr.few; omega) (by have := hr.inputs; have := hr.few; omega) (by rw [hr.temps]; omega) (by rw [hr.temps]; have := hr.fewT; omega)
    refine q.mono fun e w'' ⟨he, hb⟩ => ⟨?_, hb⟩
    rw [he]
    exact ret_int (by have := hr.inputs; rw [hr.temps]; omega))
  have hA := hr.arrays
  have hfA := hr.fewA
  have hI := hr.few
  have hT := hr.fewT
  have h8 := hr.small
  obtain ⟨wd, ⟨a1, n1, c1⟩, ⟨a2, n2, c2⟩, tp, ⟨a3, n3, c3⟩, ⟨a4, n4, c4⟩, rows⟩ := r
  simp only [] at hA
  subst hA
  clear hr
  have hS : 2 ^ W ≤ 2 ^ 8 := Nat.pow_le_pow_right (by omega) h8
  obtain ⟨S, HS⟩ : ∃ S : Nat, Hid (2 ^ W = S) := ⟨_, Lib.hid rfl⟩
  obtain ⟨V, HV⟩ : ∃ V : Nat, Hid (I + T = V) := ⟨_, Lib.hid rfl⟩
  have hV : V ≤ 2097152 := by have := HV.out; omega
  simp only [HS.out, HV.out] at hS HC0 HV0 ⊢
  clear HS h8 HV hI hT
  show Calls Tryz.prog 138 #[.agg #[.int .i64 wd, .slice a1 n1 c1, .slice a2 n2 c2, .int .i64 tp, .slice a3 n3 c3, .slice a4 n4 c4], .slice a n c] w _
  have HL := Lib.hid h.1
  have hbd := h.2.1
  obtain ⟨wa, HW⟩ : ∃ wa, Hid (wa = w.alloc (.cells #[.int .i64 wd, .slice a1 n1 c1, .slice a2 n2 c2, .int .i64 tp, .slice a3 n3 c3, .slice a4 n4 c4] 28)) := ⟨_, rfl⟩
  have BX : Blk wa w.heap.size 28 [.int .i64 wd, .slice a1 n1 c1, .slice a2 n2 c2, .int .i64 tp, .slice a3 n3 c3, .slice a4 n4 c4] := by rw [HW.out]; exact Blk.new w _ _
  have HB : Below w.heap.size w wa := by rw [HW.out]; exact (Below.refl _ _).alloc (Nat.le_refl _) _
  go_enter Tryz.func138, Tryz.ntmps138
  go_wp2_with fail
  rw [← HW.out]
  refine (specExpOk_any _ _ _ _ _ (h.below (Nat.le_refl _) HB)).mono ?_
  rintro e wb ⟨rfl, hbb⟩
  have HBB := HB.trans (hbb.mono HB.size)
  have BX := BX.below hbb BX.lt
  clear HW
  obtain ⟨E, HE⟩ : ∃ E, Hid (expB ts = E) := ⟨_, rfl⟩
  rw [HE.out]
  cases E with
  | false =>
    go_wp2
    go_ret
    exact ⟨ret_bool (by unfold namesB; rw [HE.out]; rfl), HBB⟩
  | true =>
  go_wp2
  go_loopw [5] (fun i wr => ∃ k : Nat, k ≤ n ∧ i = .int .i64 (k : Int) ∧ AllTo (nameOk S V n3) ts k ∧ Below wb.heap.size wb wr) (fun i _ => n - (intOf i).toNat)
  case atStart => exact ⟨0, Nat.zero_le _, rfl, AllTo.zero _ _, Below.refl _ _⟩
  case round =>
    obtain ⟨k, hk, rfl, hg, hbl⟩ := hrel
    have hbel := HBB.trans (hbl.mono HBB.size)
    have B1 := BX.below hbl BX.lt
    by_cases hlt : k < n
    · obtain ⟨b, o, x, y, rfl, hb, hz, hin1, hin2, hc1, hc2⟩ := (h.below (Nat.le_refl _) hbel).at_ hlt
      by_cases hx : x = 0
      · subst hx
        have f1 := lat_cell hb hc1
        have f2 := lat_cell hb hc2
        have g0 := lat_cell B1.lt (B1.cell (j := 0) rfl)
        have g1 := lat_cell B1.lt (B1.cell (j := 1) rfl)
        have g2 := lat_cell B1.lt (B1.cell (j := 2) rfl)
        have g3 := lat_cell B1.lt (B1.cell (j := 3) rfl)
        have g4 := lat_cell B1.lt (B1.cell (j := 4) rfl)
        have g5 := lat_cell B1.lt (B1.cell (j := 5) rfl)
        have HC1 : Hid (∀ p : Lat wr, Calls Tryz.prog 137 #[.agg #[.int .i64 wd, .slice a1 n1 c1, .slice a2 n2 c2, .int .i64 tp, .slice a3 n3 c3, .slice a4 n4 c4]] p.wd fun e w' => e = .returned (.int .i64 (S : Int)) ∧ Below p.wd.heap.size p.wd w') := Lib.hid (fun p => HC0.out p.wd)
        by_cases hy : y < (S : Int)
        · have hd : decide (y ≥ (S : Int)) = false := by simp; omega
          have HF := Lib.hid (show nameOk S V n3 (0, y) = true by unfold nameOk; rw [if_pos rfl]; exact decide_eq_true hy)
          go_wp2
          refine wp_region_lat (by kernel_rfl) (by kernel_rfl) ?_
          repeat (go_big_quiet_step ((go_at_call 137; exact lat_calls (HC1.out _))))
          refine wpQuiet_nil ?_
          intro _ hw'
          obtain ⟨⟨wq, hwq⟩, hw''⟩ := hw'
          subst hw''
          have ht := hbl.trans (hwq.mono hbl.size)
          have ht2 := HBB.trans (ht.mono HBB.size)
          clear f1 f2 g0 g1 g2 g3 g4 g5 HC1
          go_wp2
          go_roundw
          case rel => exact ⟨k + 1, by omega, by go_num, hg.succ hz HF.out, ht⟩
          case measure => simp [intOf]; omega
        · have hd : decide (y ≥ (S : Int)) = true := by simp; omega
          have HF := Lib.hid (show nameOk S V n3 (0, y) = false by unfold nameOk; rw [if_pos rfl]; exact decide_eq_false hy)
          go_wp2
          refine wp_region_lat (by kernel_rfl) (by kernel_rfl) ?_
          repeat (go_big_quiet_step ((go_at_call 137; exact lat_calls (HC1.out _))))
          refine wpQuiet_nil ?_
          intro _ hw'
          obtain ⟨⟨wq, hwq⟩, hw''⟩ := hw'
          subst hw''
          have ht := hbl.trans (hwq.mono hbl.size)
          have ht2 := HBB.trans (ht.mono HBB.size)
          clear f1 f2 g0 g1 g2 g3 g4 g5 HC1
          go_wp2
          go_ret
          exact ⟨ret_bool (by unfold namesB; rw [all_bad (by rw [HL.out]; exact hlt) hz HF.out, Bool.and_false]), ht2⟩
      by_cases hx1 : x = 1
      · clear hx
        have hx := hx1
        clear hx1
        subst hx
        have n0 : ((1 : Int) == 0) = false := rfl
        have f1 := lat_cell hb hc1
        have f2 := lat_cell hb hc2
        have g0 := lat_cell B1.lt (B1.cell (j := 0) rfl)
        have g1 := lat_cell B1.lt (B1.cell (j := 1) rfl)
        have g2 := lat_cell B1.lt (B1.cell (j := 2) rfl)
        have g3 := lat_cell B1.lt (B1.cell (j := 3) rfl)
        have g4 := lat_cell B1.lt (B1.cell (j := 4) rfl)
        have g5 := lat_cell B1.lt (B1.cell (j := 5) rfl)
        have HC1 : Hid (∀ p : Lat wr, Calls Tryz.prog 136 #[.agg #[.int .i64 wd, .slice a1 n1 c1, .slice a2 n2 c2, .int .i64 tp, .slice a3 n3 c3, .slice a4 n4 c4]] p.wd fun e w' => e = .returned (.int .i64 (V : Int)) ∧ Below p.wd.heap.size p.wd w') := Lib.hid (fun p => HV0.out p.wd)
        by_cases hy : y < (V : Int)
        · have hd : decide (y ≥ (V : Int)) = false := by simp; omega
          have HF := Lib.hid (show nameOk S V n3 (1, y) = true by unfold nameOk; rw [if_neg (by simp), if_pos rfl]; exact decide_eq_true hy)
          go_wp2
          refine wp_region_lat (by kernel_rfl) (by kernel_rfl) ?_
          repeat (go_big_quiet_step ((go_at_call 136; exact lat_calls (HC1.out _))))
          refine wpQuiet_nil ?_
          intro _ hw'
          obtain ⟨⟨wq, hwq⟩, hw''⟩ := hw'
          subst hw''
          have ht := hbl.trans (hwq.mono hbl.size)
          have ht2 := HBB.trans (ht.mono HBB.size)
          clear f1 f2 g0 g1 g2 g3 g4 g5 HC1
          go_wp2
          go_roundw
          case rel => exact ⟨k + 1, by omega, by go_num, hg.succ hz HF.out, ht⟩
          case measure => simp [intOf]; omega
        · have hd : decide (y ≥ (V : Int)) = true := by simp; omega
          have HF := Lib.hid (show nameOk S V n3 (1, y) = false by unfold nameOk; rw [if_neg (by simp), if_pos rfl]; exact decide_eq_false hy)
          go_wp2
          refine wp_region_lat (by kernel_rfl) (by kernel_rfl) ?_
          repeat (go_big_quiet_step ((go_at_call 136; exact lat_calls (HC1.out _))))
          refine wpQuiet_nil ?_
          intro _ hw'
          obtain ⟨⟨wq, hwq⟩, hw''⟩ := hw'
          subst hw''
          have ht := hbl.trans (hwq.mono hbl.size)
          have ht2 := HBB.trans (ht.mono HBB.size)
          clear f1 f2 g0 g1 g2 g3 g4 g5 HC1
          go_wp2
          go_ret
          exact ⟨ret_bool (by unfold namesB; rw [all_bad (by rw [HL.out]; exact hlt) hz HF.out, Bool.and_false]), ht2⟩
      by_cases hx2 : x = 2
      · clear hx hx1
        have hx := hx2
        clear hx2
        subst hx
        have n0 : ((2 : Int) == 0) = false := rfl
        have n1 : ((2 : Int) == 1) = false := rfl
        have f1 := lat_cell hb hc1
        have f2 := lat_cell hb hc2
        have g0 := lat_cell B1.lt (B1.cell (j := 0) rfl)
        have g1 := lat_cell B1.lt (B1.cell (j := 1) rfl)
        have g2 := lat_cell B1.lt (B1.cell (j := 2) rfl)
        have g3 := lat_cell B1.lt (B1.cell (j := 3) rfl)
        have g4 := lat_cell B1.lt (B1.cell (j := 4) rfl)
        have g5 := lat_cell B1.lt (B1.cell (j := 5) rfl)
        by_cases hy : y < (n3 : Int)
        · have hd : decide (y ≥ (n3 : Int)) = false := by simp; omega
          have HF := Lib.hid (show nameOk S V n3 (2, y) = true by unfold nameOk; rw [if_neg (by simp), if_neg (by simp), if_pos rfl]; exact decide_eq_true hy)
          go_wp2
          refine wp_region_lat (by kernel_rfl) (by kernel_rfl) ?_
          repeat (go_big_quiet_step ((fail)))
          refine wpQuiet_nil ?_
          intro _ hw'
          obtain ⟨⟨wq, hwq⟩, hw''⟩ := hw'
          subst hw''
          have ht := hbl.trans (hwq.mono hbl.size)
          have ht2 := HBB.trans (ht.mono HBB.size)
          clear f1 f2 g0 g1 g2 g3 g4 g5
          go_wp2
          go_roundw
          case rel => exact ⟨k + 1, by omega, by go_num, hg.succ hz HF.out, ht⟩
          case measure => simp [intOf]; omega
        · have hd : decide (y ≥ (n3 : Int)) = true := by simp; omega
          have HF := Lib.hid (show nameOk S V n3 (2, y) = false by unfold nameOk; rw [if_neg (by simp), if_neg (by simp), if_pos rfl]; exact decide_eq_false hy)
          go_wp2
          refine wp_region_lat (by kernel_rfl) (by kernel_rfl) ?_
          repeat (go_big_quiet_step ((fail)))
          refine wpQuiet_nil ?_
          intro _ hw'
          obtain ⟨⟨wq, hwq⟩, hw''⟩ := hw'
          subst hw''
          have ht := hbl.trans (hwq.mono hbl.size)
          have ht2 := HBB.trans (ht.mono HBB.size)
          clear f1 f2 g0 g1 g2 g3 g4 g5
          go_wp2
          go_ret
          exact ⟨ret_bool (by unfold namesB; rw [all_bad (by rw [HL.out]; exact hlt) hz HF.out, Bool.and_false]), ht2⟩
      have n0 : (x == 0) = false := by simpa using hx
      have n1 : (x == 1) = false := by simpa using hx1
      have n2 : (x == 2) = false := by simpa using hx2
      have HF := Lib.hid (show nameOk S V n3 (x, y) = true by unfold nameOk; rw [if_neg hx, if_neg hx1, if_neg hx2])
      clear hc2
      go_wp2
      go_roundw
      case rel => exact ⟨k + 1, by omega, by go_num, hg.succ hz HF.out, hbl⟩
      case measure => simp [intOf]; omega
    · obtain rfl : n = k := by omega
      go_wp2
      go_ret
      exact ⟨ret_bool (by unfold namesB; rw [HE.out, allTo_all (by rw [HL.out]; exact hg)]; rfl), hbel⟩
set_option maxHeartbeats 1600000 in
theorem l3Exp_any (r : PRow) (W I T A : Nat) (a : Option Addr) (n c : Nat) (ts : List Tm) (w : World) (hr : Lim r W I T A) (h : Terms w a n ts) :
    Calls Tryz.prog 75 #[progV r, .slice a n c] w fun e w' => e = .returned (.bool (bodyB (2 ^ W) (I + T) A ts)) ∧ Below w.heap.size w w' := by
  have HN0 : Hid (∀ w' : World, Terms w' a n ts → Calls Tryz.prog 138 #[progV r, .slice a n c] w' fun e w'' => e = .returned (.bool (namesB (2 ^ W) (I + T) A ts)) ∧ Below w'.heap.size w' w'') := Lib.hid (fun w' h' => l3Names_any r W I T A a n c ts w' hr h')
  obtain ⟨wd, ⟨a1, n1, c1⟩, ⟨a2, n2, c2⟩, tp, ⟨a3, n3, c3⟩, ⟨a4, n4, c4⟩, rows⟩ := r
  clear hr
  obtain ⟨E, HE⟩ : ∃ E, Hid (namesB (2 ^ W) (I + T) A ts = E) := ⟨_, rfl⟩
  obtain ⟨F, HF⟩ : ∃ F, Hid (bodyB (2 ^ W) (I + T) A ts = F) := ⟨_, rfl⟩
  have hF : F = (ts.all (fun t => t.1 != 17) && (decide (n ≤ 40) && E)) := by rw [← HF.out, ← HE.out, bodyB, h.1]
  have HFF := Lib.hid hF
  simp only [HE.out, HF.out] at HN0 ⊢
  clear hF HE HF
  show Calls Tryz.prog 75 #[.agg #[.int .i64 wd, .slice a1 n1 c1, .slice a2 n2 c2, .int .i64 tp, .slice a3 n3 c3, .slice a4 n4 c4], .slice a n c] w _
  have HN1 : Hid (∀ w' : World, Terms w' a n ts → Calls Tryz.prog 138 #[.agg #[.int .i64 wd, .slice a1 n1 c1, .slice a2 n2 c2, .int .i64 tp, .slice a3 n3 c3, .slice a4 n4 c4], .slice a n c] w' fun e w'' => e = .returned (.bool E) ∧ Below w'.heap.size w' w'') := HN0
  clear HN0
  have HL := Lib.hid h.1
  have hbd := h.2.1
  have HB : Below w.heap.size w (w.alloc (.cells #[.int .i64 wd, .slice a1 n1 c1, .slice a2 n2 c2, .int .i64 tp, .slice a3 n3 c3, .slice a4 n4 c4] 28)) := (Below.refl _ _).alloc (Nat.le_refl _) _
  have HT := Lib.hid (h.below (Nat.le_refl _) HB)
  clear h
  go_enter Tryz.func75, Tryz.ntmps75
  go_wp2
  go_loop [5] (fun i => ∃ k : Nat, k ≤ n ∧ i = .int .i64 (k : Int) ∧ AllTo (fun t => t.1 != 17) ts k) (fun i => n - (intOf i).toNat)
  case atStart => exact ⟨0, Nat.zero_le _, rfl, AllTo.zero _ _⟩
  case round =>
    obtain ⟨k, hk, rfl, hg⟩ := hrel
    by_cases hlt : k < n
    · obtain ⟨b, o, x, y, rfl, hb, hz, hin1, hin2, hc1, hc2⟩ := HT.out.at_ hlt
      clear hc2
      by_cases hx : x = 17
      · have hne : (x == 17) = true := by simpa using hx
        have HQ := Lib.hid (show (fun t : Tm => t.1 != 17) (x, y) = false by simp [hx])
        clear hx
        go_wp2
        go_ret
        exact ⟨ret_bool (by rw [HFF.out, all_bad (by rw [HL.out]; exact hlt) hz HQ.out, Bool.false_and]), HB⟩
      · have hne : (x == 17) = false := by simpa using hx
        have HQ := Lib.hid (show (fun t : Tm => t.1 != 17) (x, y) = true by simp [hx])
        clear hx
        go_wp2
        go_round
        case rel => exact ⟨k + 1, by omega, by go_num, hg.succ hz HQ.out⟩
        case measure => simp [intOf]; omega
    · obtain rfl : n = k := by omega
      have HA := Lib.hid (allTo_all (f := fun t => t.1 != 17) (by rw [HL.out]; exact hg))
      by_cases h40 : n ≤ 40
      · have hd : decide ((n : Int) ≤ 40) = true := by simp; omega
        go_wp2_with fail
        refine (HN1.out _ HT.out).mono ?_
        rintro e w1 ⟨rfl, hb1⟩
        have hbel := HB.trans (hb1.mono HB.size)
        go_wp2
        go_ret
        exact ⟨ret_bool (by rw [HFF.out, HA.out, decide_eq_true h40, Bool.true_and, Bool.true_and]), hbel⟩
      · have hd : decide ((n : Int) ≤ 40) = false := by simp; omega
        go_wp2
        go_ret
        exact ⟨ret_bool (by rw [HFF.out, HA.out, decide_eq_false h40, Bool.true_and, Bool.false_and]), HB⟩
end Go.Proofs.YtjboghmcmlkpoaaGreatDoor
/- The contracts of the program's small helpers of chapter 3. -/
namespace Go.Proofs.YtjboghmcmlkpoaaGreatDoor
open Go.RowKit

def opensB (x : Int) : Bool := (x == 2 || x == 5) || x == 8
def secondB (x : Int) : Bool := x == 3 || x == 9
def takesB (op sec s : Int) : Bool := decide (sec < 0) && ((op == 2 && s == 3) || (op == 8 && s == 9))
def mayEndB (op sec : Int) : Bool := op != 8 || decide (0 ≤ sec)
/-- The program's head as a value. -/
def headV (wd tp : Int) (a1 a2 a3 a4 : Option Addr) (n1 n2 n3 n4 c1 c2 c3 c4 : Nat) : Value := .agg #[.int .i64 wd, .slice a1 n1 c1, .slice a2 n2 c2, .int .i64 tp, .slice a3 n3 c3, .slice a4 n4 c4]

theorem isWithin_any (x lo hi : Int) (w : World) :
    Calls Tryz.prog 47 #[.int .i64 x, .int .i64 lo, .int .i64 hi] w fun e w' => e = .returned (.bool (decide (lo ≤ x) && decide (x ≤ hi))) ∧ w = w' := by
  by_cases h1 : lo ≤ x
  · by_cases h2 : x ≤ hi
    · go_enter Tryz.func47, Tryz.ntmps47
      go_wp2
      go_ret
      exact ⟨ret_bool (by simp [h1, h2]), rfl⟩
    · go_enter Tryz.func47, Tryz.ntmps47
      go_wp2
      go_ret
      exact ⟨ret_bool (by rw [decide_eq_false (p := x ≤ hi) (by omega)]), rfl⟩
  · go_enter Tryz.func47, Tryz.ntmps47
    go_wp2
    go_ret
    exact ⟨ret_bool (by rw [decide_eq_false (p := lo ≤ x) (by omega), Bool.false_and]), rfl⟩
theorem isWithin_lat {w : World} (x lo hi : Int) {v : Bool} (hv : (decide (lo ≤ x) && decide (x ≤ hi)) = v) (p : Lat w) :
    Calls Tryz.prog 47 #[.int .i64 x, .int .i64 lo, .int .i64 hi] p.wd fun e w' => e = .returned (.bool v) ∧ Below p.wd.heap.size p.wd w' :=
  (isWithin_any x lo hi p.wd).mono fun _ _ ⟨he, hw⟩ => ⟨by rw [he, hv], by rw [← hw]; exact Below.refl _ _⟩
theorem opensBlock_any (x : Int) (w : World) : Calls Tryz.prog 116 #[.int .i64 x] w fun e w' => e = .returned (.bool (opensB x)) ∧ w = w' := by
  obtain ⟨R, HR⟩ : ∃ R, Hid (opensB x = R) := ⟨_, rfl⟩
  rw [HR.out]
  by_cases h : x = 2 ∨ x = 5 ∨ x = 8
  · have hR : R = true := by rw [← HR.out]; rcases h with rfl | rfl | rfl <;> rfl
    subst hR
    rcases h with rfl | rfl | rfl
    all_goals
      go_enter Tryz.func116, Tryz.ntmps116
      go_wp2
      go_ret
      exact ⟨rfl, rfl⟩
  · have k2 : (x == 2) = false := by simp; omega
    have k5 : (x == 5) = false := by simp; omega
    have k8 : (x == 8) = false := by simp; omega
    have hR : R = false := by rw [← HR.out]; simp [opensB, k2, k5, k8]
    subst hR
    go_enter Tryz.func116, Tryz.ntmps116
    go_wp2
    go_ret
    exact ⟨rfl, rfl⟩
theorem startsSecond_any (x : Int) (w : World) : Calls Tryz.prog 115 #[.int .i64 x] w fun e w' => e = .returned (.bool (secondB x)) ∧ w = w' := by
  obtain ⟨R, HR⟩ : ∃ R, Hid (secondB x = R) := ⟨_, rfl⟩
  rw [HR.out]
  by_cases h : x = 3 ∨ x = 9
  · have hR : R = true := by rw [← HR.out]; rcases h with rfl | rfl <;> rfl
    subst hR
    rcases h with rfl | rfl
    all_goals
      go_enter Tryz.func115, Tryz.ntmps115
      go_wp2
      go_ret
      exact ⟨rfl, rfl⟩
  · have k3 : (x == 3) = false := by simp; omega
    have k9 : (x == 9) = false := by simp; omega
    have hR : R = false := by rw [← HR.out]; simp [secondB, k3, k9]
    subst hR
    go_enter Tryz.func115, Tryz.ntmps115
    go_wp2
    go_ret
    exact ⟨rfl, rfl⟩
theorem takesLabel_any (x s y : Int) (w : World) : Calls Tryz.prog 159 #[.agg #[.int .i64 x, .int .i64 s], .int .i64 y] w fun e w' => e = .returned (.bool (takesB x s y)) ∧ Below w.heap.size w w' := by
  obtain ⟨R, HR⟩ : ∃ R, Hid (takesB x s y = R) := ⟨_, rfl⟩
  rw [HR.out]
  by_cases hs : 0 ≤ s
  · have hR : R = false := by rw [← HR.out, takesB, decide_eq_false (by omega)]; rfl
    subst hR
    go_enter Tryz.func159, Tryz.ntmps159
    go_wp2
    go_ret
    exact ⟨rfl, (Below.refl _ _).alloc (Nat.le_refl _) _⟩
  have hR : R = ((x == 2 && y == 3) || (x == 8 && y == 9)) := by rw [← HR.out, takesB, decide_eq_true (by omega)]; rfl
  have HR := Lib.hid hR
  clear hR
  by_cases h2 : x = 2
  · subst h2
    by_cases h3 : y = 3
    · subst h3
      have hR : R = true := HR.out
      subst hR
      go_enter Tryz.func159, Tryz.ntmps159
      go_wp2
      go_ret
      exact ⟨rfl, (Below.refl _ _).alloc (Nat.le_refl _) _⟩
    · have k3 : (y == 3) = false := by simpa using h3
      have hR : R = false := by rw [HR.out, k3]; rfl
      subst hR
      go_enter Tryz.func159, Tryz.ntmps159
      go_wp2
      go_ret
      exact ⟨rfl, (Below.refl _ _).alloc (Nat.le_refl _) _⟩
  have k2 : (x == 2) = false := by simpa using h2
  by_cases h8 : x = 8
  · subst h8
    by_cases h9 : y = 9
    · subst h9
      have hR : R = true := HR.out
      subst hR
      go_enter Tryz.func159, Tryz.ntmps159
      go_wp2
      go_ret
      exact ⟨rfl, (Below.refl _ _).alloc (Nat.le_refl _) _⟩
    · have k9 : (y == 9) = false := by simpa using h9
      have hR : R = false := by rw [HR.out, k9]; rfl
      subst hR
      go_enter Tryz.func159, Tryz.ntmps159
      go_wp2
      go_ret
      exact ⟨rfl, (Below.refl _ _).alloc (Nat.le_refl _) _⟩
  have k8 : (x == 8) = false := by simpa using h8
  have hR : R = false := by rw [HR.out, k2, k8]; rfl
  subst hR
  go_enter Tryz.func159, Tryz.ntmps159
  go_wp2
  go_ret
  exact ⟨rfl, (Below.refl _ _).alloc (Nat.le_refl _) _⟩
theorem mayEnd_any (x s : Int) (w : World) : Calls Tryz.prog 160 #[.agg #[.int .i64 x, .int .i64 s]] w fun e w' => e = .returned (.bool (mayEndB x s)) ∧ Below w.heap.size w w' := by
  obtain ⟨R, HR⟩ : ∃ R, Hid (mayEndB x s = R) := ⟨_, rfl⟩
  rw [HR.out]
  by_cases h8 : x = 8
  · subst h8
    by_cases hs : 0 ≤ s
    · have hR : R = true := by rw [← HR.out, mayEndB, decide_eq_true hs]; rfl
      subst hR
      go_enter Tryz.func160, Tryz.ntmps160
      go_wp2
      go_ret
      exact ⟨rfl, (Below.refl _ _).alloc (Nat.le_refl _) _⟩
    · have hR : R = false := by rw [← HR.out, mayEndB, decide_eq_false hs]; rfl
      subst hR
      go_enter Tryz.func160, Tryz.ntmps160
      go_wp2
      go_ret
      exact ⟨rfl, (Below.refl _ _).alloc (Nat.le_refl _) _⟩
  have k8 : (x != 8) = true := by simpa using h8
  have hR : R = true := by rw [← HR.out, mayEndB, k8]; rfl
  subst hR
  go_enter Tryz.func160, Tryz.ntmps160
  go_wp2
  go_ret
  exact ⟨rfl, (Below.refl _ _).alloc (Nat.le_refl _) _⟩
set_option maxHeartbeats 800000 in
theorem greatestValue_any (r : PRow) (W : Nat) (w : World) (hW : r.width = (W : Int)) (h8 : W ≤ 8) :
    Calls Tryz.prog 156 #[progV r] w fun e w' => e = .returned (.int .i64 (((2 ^ W : Nat) : Int) - 1)) ∧ Below w.heap.size w w' := by
  obtain ⟨wd, ⟨a1, n1, c1⟩, ⟨a2, n2, c2⟩, tp, ⟨a3, n3, c3⟩, ⟨a4, n4, c4⟩, rows⟩ := r
  simp only [] at hW
  subst hW
  show Calls Tryz.prog 156 #[.agg #[.int .i64 (W : Int), .slice a1 n1 c1, .slice a2 n2 c2, .int .i64 tp, .slice a3 n3 c3, .slice a4 n4 c4]] w _
  have hc : W = 0 ∨ W = 1 ∨ W = 2 ∨ W = 3 ∨ W = 4 ∨ W = 5 ∨ W = 6 ∨ W = 7 ∨ W = 8 := by omega
  rcases hc with rfl | rfl | rfl | rfl | rfl | rfl | rfl | rfl | rfl
  all_goals
    go_enter Tryz.func156, Tryz.ntmps156
    go_wp2
    go_ret
    exact ⟨rfl, (Below.refl _ _).alloc (Nat.le_refl _) _⟩
theorem firstTemp_any (r : PRow) (w : World) (h1 : r.lows.2.1 ≤ 1048576) (h2 : r.secrets.2.1 ≤ 1048576) :
    Calls Tryz.prog 187 #[progV r] w fun e w' => e = .returned (.int .i64 ((r.lows.2.1 : Int) + (r.secrets.2.1 : Int))) ∧ Below w.heap.size w w' := by
  obtain ⟨wd, ⟨a1, n1, c1⟩, ⟨a2, n2, c2⟩, tp, ⟨a3, n3, c3⟩, ⟨a4, n4, c4⟩, rows⟩ := r
  simp only [] at h1 h2
  show Calls Tryz.prog 187 #[.agg #[.int .i64 wd, .slice a1 n1 c1, .slice a2 n2 c2, .int .i64 tp, .slice a3 n3 c3, .slice a4 n4 c4]] w _
  go_enter Tryz.func187, Tryz.ntmps187
  go_wp2
  go_ret
  exact ⟨rfl, (Below.refl _ _).alloc (Nat.le_refl _) _⟩
end Go.Proofs.YtjboghmcmlkpoaaGreatDoor
/- The contract of the model's l3Stmt (written by tools/gen_specstmt.py). -/
namespace Go.Proofs.YtjboghmcmlkpoaaGreatDoor
open Go.RowKit

/-- Which statements bear an expression. -/
def bears (op : Int) : Bool := op == 0 || op == 1 || op == 2 || op == 6
/-- The number that a statement may bear. -/
def numOk (I T A : Nat) (op n : Int) : Bool :=
  if op = 0 then decide ((I : Int) ≤ n) && decide (n ≤ (I : Int) + (T : Int) - 1)
  else if op = 1 then decide (0 ≤ n) && decide (n ≤ (A : Int) - 1)
  else if op = 5 then decide (0 ≤ n) && decide (n ≤ 4)
  else if op = 7 ∨ op = 9 then decide (0 ≤ n) && decide (n ≤ 9)
  else n == 0
/-- A right statement, nesting apart. -/
def stmtB (S I T A : Nat) (s : Stm) : Bool :=
  (decide (0 ≤ s.op) && decide (s.op ≤ 9)) && (bears s.op == decide (0 < s.exp.length)) && ((s.op == 1) == decide (0 < s.at_.length)) &&
  (!bears s.op || bodyB S (I + T) A s.exp) && (!(s.op == 1) || bodyB S (I + T) A s.at_) && numOk I T A s.op s.n

set_option maxHeartbeats 1600000 in
theorem l3Stmt_plain (x : Int) (hx : x = 3 ∨ x = 4 ∨ x = 8) (y wd : Int) (a1 a2 a3 a4 b1 b2 : Option Addr) (n1 n2 n4 m1 m2 c1 c2 c3 c4 d1 d2 W T A : Nat) (rows : List SRow) (ts us : List Tm) (w : World)
    (hr : Lim ⟨wd, (a1, n1, c1), (a2, n2, c2), (T : Int), (a3, A, c3), (a4, n4, c4), rows⟩ W (n1 + n2) T A) (h1 : Terms w b1 m1 ts) (h2 : Terms w b2 m2 us) :
    Calls Tryz.prog 153 #[.agg #[.int .i64 wd, .slice a1 n1 c1, .slice a2 n2 c2, .int .i64 (T : Int), .slice a3 A c3, .slice a4 n4 c4], .agg #[.int .i64 x, .int .i64 y, .slice b1 m1 d1, .slice b2 m2 d2]] w fun e w' => e = .returned (.bool (stmtB (2 ^ W) (n1 + n2) T A ⟨x, y, ts, us⟩)) ∧ Below w.heap.size w w' := by
  have HX : Hid (∀ (w' : World) (a : Option Addr) (n c : Nat) (vs : List Tm), Terms w' a n vs → Calls Tryz.prog 75 #[.agg #[.int .i64 wd, .slice a1 n1 c1, .slice a2 n2 c2, .int .i64 (T : Int), .slice a3 A c3, .slice a4 n4 c4], .slice a n c] w' fun e w'' => e = .returned (.bool (bodyB (2 ^ W) (n1 + n2 + T) A vs)) ∧ Below w'.heap.size w' w'') := Lib.hid (fun w' a n c vs h' => l3Exp_any ⟨wd, (a1, n1, c1), (a2, n2, c2), (T : Int), (a3, A, c3), (a4, n4, c4), rows⟩ W (n1 + n2) T A a n c vs w' hr h')
  have hI := hr.few
  have hT := hr.fewT
  have hA := hr.fewA
  have hm1 := h1.2.1
  have hm2 := h2.2.1
  have L1 := Lib.hid h1.1
  have L2 := Lib.hid h2.1
  clear hr
  have k0 : (x == 0) = false := by simp; omega
  have k1 : (x == 1) = false := by simp; omega
  have k2 : (x == 2) = false := by simp; omega
  have k6 : (x == 6) = false := by simp; omega
  have k5 : (x == 5) = false := by simp; omega
  have k7 : (x == 7) = false := by simp; omega
  have k9 : (x == 9) = false := by simp; omega
  have hin : (decide (0 ≤ x) && decide (x ≤ 9)) = true := by simp; omega
  have hput : (x == 1) = false := k1
  have hbears : bears x = false := by simp only [bears, k0, k1, k2, k6, Bool.or_self]
  have hnum : numOk (n1 + n2) T A x y = (y == 0) := by unfold numOk; rw [if_neg (by omega), if_neg (by omega), if_neg (by omega), if_neg (by omega)]
  obtain ⟨R, HR⟩ : ∃ R, Hid (stmtB (2 ^ W) (n1 + n2) T A ⟨x, y, ts, us⟩ = R) := ⟨_, rfl⟩
  obtain ⟨X1, HX1⟩ : ∃ X1, Hid (bodyB (2 ^ W) (n1 + n2 + T) A ts = X1) := ⟨_, rfl⟩
  obtain ⟨X2, HX2⟩ : ∃ X2, Hid (bodyB (2 ^ W) (n1 + n2 + T) A us = X2) := ⟨_, rfl⟩
  have hR := HR.out
  simp only [stmtB, L1.out, L2.out, HX1.out, HX2.out] at hR
  rw [hin, hbears, hput, hnum] at hR
  have HRR := Lib.hid hR
  clear hR
  simp only [HR.out]
  clear HR
  obtain ⟨wa, HW⟩ : ∃ wa, Hid (wa = (w.alloc (.cells #[.int .i64 wd, .slice a1 n1 c1, .slice a2 n2 c2, .int .i64 (T : Int), .slice a3 A c3, .slice a4 n4 c4] 28)).alloc (.cells #[.int .i64 x, .int .i64 y, .slice b1 m1 d1, .slice b2 m2 d2] 76)) := ⟨_, rfl⟩
  have B0 : Blk wa w.heap.size 28 [.int .i64 wd, .slice a1 n1 c1, .slice a2 n2 c2, .int .i64 (T : Int), .slice a3 A c3, .slice a4 n4 c4] := by rw [HW.out]; exact (Blk.new w _ _).alloc _
  have B1 : Blk wa (w.heap.size + 1) 76 [.int .i64 x, .int .i64 y, .slice b1 m1 d1, .slice b2 m2 d2] := by rw [HW.out]; simpa using Blk.new (w.alloc _) 76 [.int .i64 x, .int .i64 y, .slice b1 m1 d1, .slice b2 m2 d2]
  have HB : Below w.heap.size w wa := by rw [HW.out]; exact ((Below.refl _ _).alloc (Nat.le_refl _) _).alloc (by simp) _
  go_enter Tryz.func153, Tryz.ntmps153
  by_cases hp2 : 0 < m2
  · have hd2 : decide ((m2 : Int) > 0) = true := by simp; omega
    go_wp2_with (go_at_call 105; refine (in_any _ _ _ _).mono ?_; rintro e w' ⟨rfl, rfl⟩; try rw [hin])
    go_ret
    exact ⟨ret_bool (by rw [← HRR.out, decide_eq_true hp2]; simp), by rw [← HW.out]; exact HB⟩
  · by_cases hp1 : 0 < m1
    · have hd2 : decide ((m2 : Int) > 0) = false := by simp; omega
      have hd1 : decide ((m1 : Int) > 0) = true := by simp; omega
      go_wp2_with (go_at_call 105; refine (in_any _ _ _ _).mono ?_; rintro e w' ⟨rfl, rfl⟩; try rw [hin])
      go_ret
      exact ⟨ret_bool (by rw [← HRR.out, decide_eq_false hp2, decide_eq_true hp1]; simp), by rw [← HW.out]; exact HB⟩
    · have hd2 : decide ((m2 : Int) > 0) = false := by simp; omega
      have hd1 : decide ((m1 : Int) > 0) = false := by simp; omega
      go_wp2_with (go_at_call 105; refine (in_any _ _ _ _).mono ?_; rintro e w' ⟨rfl, rfl⟩; try rw [hin])
      go_ret
      exact ⟨ret_bool (by rw [← HRR.out, decide_eq_false hp2, decide_eq_false hp1]; simp), by rw [← HW.out]; exact HB⟩
set_option maxHeartbeats 1600000 in
theorem l3Stmt_out (x : Int) (hx : x < 0 ∨ 9 < x) (y wd : Int) (a1 a2 a3 a4 b1 b2 : Option Addr) (n1 n2 n4 m1 m2 c1 c2 c3 c4 d1 d2 W T A : Nat) (rows : List SRow) (ts us : List Tm) (w : World)
    (hr : Lim ⟨wd, (a1, n1, c1), (a2, n2, c2), (T : Int), (a3, A, c3), (a4, n4, c4), rows⟩ W (n1 + n2) T A) (h1 : Terms w b1 m1 ts) (h2 : Terms w b2 m2 us) :
    Calls Tryz.prog 153 #[.agg #[.int .i64 wd, .slice a1 n1 c1, .slice a2 n2 c2, .int .i64 (T : Int), .slice a3 A c3, .slice a4 n4 c4], .agg #[.int .i64 x, .int .i64 y, .slice b1 m1 d1, .slice b2 m2 d2]] w fun e w' => e = .returned (.bool (stmtB (2 ^ W) (n1 + n2) T A ⟨x, y, ts, us⟩)) ∧ Below w.heap.size w w' := by
  have HX : Hid (∀ (w' : World) (a : Option Addr) (n c : Nat) (vs : List Tm), Terms w' a n vs → Calls Tryz.prog 75 #[.agg #[.int .i64 wd, .slice a1 n1 c1, .slice a2 n2 c2, .int .i64 (T : Int), .slice a3 A c3, .slice a4 n4 c4], .slice a n c] w' fun e w'' => e = .returned (.bool (bodyB (2 ^ W) (n1 + n2 + T) A vs)) ∧ Below w'.heap.size w' w'') := Lib.hid (fun w' a n c vs h' => l3Exp_any ⟨wd, (a1, n1, c1), (a2, n2, c2), (T : Int), (a3, A, c3), (a4, n4, c4), rows⟩ W (n1 + n2) T A a n c vs w' hr h')
  have hI := hr.few
  have hT := hr.fewT
  have hA := hr.fewA
  have hm1 := h1.2.1
  have hm2 := h2.2.1
  have L1 := Lib.hid h1.1
  have L2 := Lib.hid h2.1
  clear hr
  have k0 : (x == 0) = false := by simp; omega
  have k1 : (x == 1) = false := by simp; omega
  have k2 : (x == 2) = false := by simp; omega
  have k6 : (x == 6) = false := by simp; omega
  have hin : (decide (0 ≤ x) && decide (x ≤ 9)) = false := by rw [← Bool.not_eq_true]; simp; omega
  have hput : (x == 1) = false := k1
  have hbears : bears x = false := by simp only [bears, k0, k1, k2, k6, Bool.or_self]
  obtain ⟨Y, hnum⟩ : ∃ Y, numOk (n1 + n2) T A x y = Y := ⟨_, rfl⟩
  obtain ⟨R, HR⟩ : ∃ R, Hid (stmtB (2 ^ W) (n1 + n2) T A ⟨x, y, ts, us⟩ = R) := ⟨_, rfl⟩
  obtain ⟨X1, HX1⟩ : ∃ X1, Hid (bodyB (2 ^ W) (n1 + n2 + T) A ts = X1) := ⟨_, rfl⟩
  obtain ⟨X2, HX2⟩ : ∃ X2, Hid (bodyB (2 ^ W) (n1 + n2 + T) A us = X2) := ⟨_, rfl⟩
  have hR := HR.out
  simp only [stmtB, L1.out, L2.out, HX1.out, HX2.out] at hR
  rw [hin, hbears, hput, hnum] at hR
  have HRR := Lib.hid hR
  clear hR
  simp only [HR.out]
  clear HR
  obtain ⟨wa, HW⟩ : ∃ wa, Hid (wa = (w.alloc (.cells #[.int .i64 wd, .slice a1 n1 c1, .slice a2 n2 c2, .int .i64 (T : Int), .slice a3 A c3, .slice a4 n4 c4] 28)).alloc (.cells #[.int .i64 x, .int .i64 y, .slice b1 m1 d1, .slice b2 m2 d2] 76)) := ⟨_, rfl⟩
  have B0 : Blk wa w.heap.size 28 [.int .i64 wd, .slice a1 n1 c1, .slice a2 n2 c2, .int .i64 (T : Int), .slice a3 A c3, .slice a4 n4 c4] := by rw [HW.out]; exact (Blk.new w _ _).alloc _
  have B1 : Blk wa (w.heap.size + 1) 76 [.int .i64 x, .int .i64 y, .slice b1 m1 d1, .slice b2 m2 d2] := by rw [HW.out]; simpa using Blk.new (w.alloc _) 76 [.int .i64 x, .int .i64 y, .slice b1 m1 d1, .slice b2 m2 d2]
  have HB : Below w.heap.size w wa := by rw [HW.out]; exact ((Below.refl _ _).alloc (Nat.le_refl _) _).alloc (by simp) _
  go_enter Tryz.func153, Tryz.ntmps153
  go_wp2_with (go_at_call 105; refine (in_any _ _ _ _).mono ?_; rintro e w' ⟨rfl, rfl⟩; try rw [hin])
  go_ret
  exact ⟨ret_bool (by rw [← HRR.out]; simp), by rw [← HW.out]; exact HB⟩
set_option maxHeartbeats 1600000 in
theorem l3Stmt_5 (y wd : Int) (a1 a2 a3 a4 b1 b2 : Option Addr) (n1 n2 n4 m1 m2 c1 c2 c3 c4 d1 d2 W T A : Nat) (rows : List SRow) (ts us : List Tm) (w : World)
    (hr : Lim ⟨wd, (a1, n1, c1), (a2, n2, c2), (T : Int), (a3, A, c3), (a4, n4, c4), rows⟩ W (n1 + n2) T A) (h1 : Terms w b1 m1 ts) (h2 : Terms w b2 m2 us) :
    Calls Tryz.prog 153 #[.agg #[.int .i64 wd, .slice a1 n1 c1, .slice a2 n2 c2, .int .i64 (T : Int), .slice a3 A c3, .slice a4 n4 c4], .agg #[.int .i64 5, .int .i64 y, .slice b1 m1 d1, .slice b2 m2 d2]] w fun e w' => e = .returned (.bool (stmtB (2 ^ W) (n1 + n2) T A ⟨5, y, ts, us⟩)) ∧ Below w.heap.size w w' := by
  have HX : Hid (∀ (w' : World) (a : Option Addr) (n c : Nat) (vs : List Tm), Terms w' a n vs → Calls Tryz.prog 75 #[.agg #[.int .i64 wd, .slice a1 n1 c1, .slice a2 n2 c2, .int .i64 (T : Int), .slice a3 A c3, .slice a4 n4 c4], .slice a n c] w' fun e w'' => e = .returned (.bool (bodyB (2 ^ W) (n1 + n2 + T) A vs)) ∧ Below w'.heap.size w' w'') := Lib.hid (fun w' a n c vs h' => l3Exp_any ⟨wd, (a1, n1, c1), (a2, n2, c2), (T : Int), (a3, A, c3), (a4, n4, c4), rows⟩ W (n1 + n2) T A a n c vs w' hr h')
  have hI := hr.few
  have hT := hr.fewT
  have hA := hr.fewA
  have hm1 := h1.2.1
  have hm2 := h2.2.1
  have L1 := Lib.hid h1.1
  have L2 := Lib.hid h2.1
  clear hr
  have hin : (decide ((0 : Int) ≤ 5) && decide ((5 : Int) ≤ 9)) = true := rfl
  have hput : ((5 : Int) == 1) = false := rfl
  have hbears : bears 5 = false := rfl
  have hnum : numOk (n1 + n2) T A 5 y = (decide (0 ≤ y) && decide (y ≤ 4)) := rfl
  obtain ⟨R, HR⟩ : ∃ R, Hid (stmtB (2 ^ W) (n1 + n2) T A ⟨5, y, ts, us⟩ = R) := ⟨_, rfl⟩
  obtain ⟨X1, HX1⟩ : ∃ X1, Hid (bodyB (2 ^ W) (n1 + n2 + T) A ts = X1) := ⟨_, rfl⟩
  obtain ⟨X2, HX2⟩ : ∃ X2, Hid (bodyB (2 ^ W) (n1 + n2 + T) A us = X2) := ⟨_, rfl⟩
  have hR := HR.out
  simp only [stmtB, L1.out, L2.out, HX1.out, HX2.out] at hR
  rw [hin, hbears, hput, hnum] at hR
  have HRR := Lib.hid hR
  clear hR
  simp only [HR.out]
  clear HR
  obtain ⟨wa, HW⟩ : ∃ wa, Hid (wa = (w.alloc (.cells #[.int .i64 wd, .slice a1 n1 c1, .slice a2 n2 c2, .int .i64 (T : Int), .slice a3 A c3, .slice a4 n4 c4] 28)).alloc (.cells #[.int .i64 5, .int .i64 y, .slice b1 m1 d1, .slice b2 m2 d2] 76)) := ⟨_, rfl⟩
  have B0 : Blk wa w.heap.size 28 [.int .i64 wd, .slice a1 n1 c1, .slice a2 n2 c2, .int .i64 (T : Int), .slice a3 A c3, .slice a4 n4 c4] := by rw [HW.out]; exact (Blk.new w _ _).alloc _
  have B1 : Blk wa (w.heap.size + 1) 76 [.int .i64 5, .int .i64 y, .slice b1 m1 d1, .slice b2 m2 d2] := by rw [HW.out]; simpa using Blk.new (w.alloc _) 76 [.int .i64 5, .int .i64 y, .slice b1 m1 d1, .slice b2 m2 d2]
  have HB : Below w.heap.size w wa := by rw [HW.out]; exact ((Below.refl _ _).alloc (Nat.le_refl _) _).alloc (by simp) _
  go_enter Tryz.func153, Tryz.ntmps153
  by_cases hp2 : 0 < m2
  · have hd2 : decide ((m2 : Int) > 0) = true := by simp; omega
    go_wp2_with (go_at_call 105; refine (in_any _ _ _ _).mono ?_; rintro e w' ⟨rfl, rfl⟩; try rw [hin])
    go_ret
    exact ⟨ret_bool (by rw [← HRR.out, decide_eq_true hp2]; simp), by rw [← HW.out]; exact HB⟩
  · by_cases hp1 : 0 < m1
    · have hd2 : decide ((m2 : Int) > 0) = false := by simp; omega
      have hd1 : decide ((m1 : Int) > 0) = true := by simp; omega
      go_wp2_with (go_at_call 105; refine (in_any _ _ _ _).mono ?_; rintro e w' ⟨rfl, rfl⟩; try rw [hin])
      go_ret
      exact ⟨ret_bool (by rw [← HRR.out, decide_eq_false hp2, decide_eq_true hp1]; simp), by rw [← HW.out]; exact HB⟩
    · have hd2 : decide ((m2 : Int) > 0) = false := by simp; omega
      have hd1 : decide ((m1 : Int) > 0) = false := by simp; omega
      go_wp2_with (go_at_call 105; refine (in_any _ _ _ _).mono ?_; rintro e w' ⟨rfl, rfl⟩; try rw [hin])
      go_ret
      exact ⟨ret_bool (by rw [← HRR.out, decide_eq_false hp2, decide_eq_false hp1]; simp), by rw [← HW.out]; exact HB⟩
set_option maxHeartbeats 1600000 in
theorem l3Stmt_7 (y wd : Int) (a1 a2 a3 a4 b1 b2 : Option Addr) (n1 n2 n4 m1 m2 c1 c2 c3 c4 d1 d2 W T A : Nat) (rows : List SRow) (ts us : List Tm) (w : World)
    (hr : Lim ⟨wd, (a1, n1, c1), (a2, n2, c2), (T : Int), (a3, A, c3), (a4, n4, c4), rows⟩ W (n1 + n2) T A) (h1 : Terms w b1 m1 ts) (h2 : Terms w b2 m2 us) :
    Calls Tryz.prog 153 #[.agg #[.int .i64 wd, .slice a1 n1 c1, .slice a2 n2 c2, .int .i64 (T : Int), .slice a3 A c3, .slice a4 n4 c4], .agg #[.int .i64 7, .int .i64 y, .slice b1 m1 d1, .slice b2 m2 d2]] w fun e w' => e = .returned (.bool (stmtB (2 ^ W) (n1 + n2) T A ⟨7, y, ts, us⟩)) ∧ Below w.heap.size w w' := by
  have HX : Hid (∀ (w' : World) (a : Option Addr) (n c : Nat) (vs : List Tm), Terms w' a n vs → Calls Tryz.prog 75 #[.agg #[.int .i64 wd, .slice a1 n1 c1, .slice a2 n2 c2, .int .i64 (T : Int), .slice a3 A c3, .slice a4 n4 c4], .slice a n c] w' fun e w'' => e = .returned (.bool (bodyB (2 ^ W) (n1 + n2 + T) A vs)) ∧ Below w'.heap.size w' w'') := Lib.hid (fun w' a n c vs h' => l3Exp_any ⟨wd, (a1, n1, c1), (a2, n2, c2), (T : Int), (a3, A, c3), (a4, n4, c4), rows⟩ W (n1 + n2) T A a n c vs w' hr h')
  have hI := hr.few
  have hT := hr.fewT
  have hA := hr.fewA
  have hm1 := h1.2.1
  have hm2 := h2.2.1
  have L1 := Lib.hid h1.1
  have L2 := Lib.hid h2.1
  clear hr
  have hin : (decide ((0 : Int) ≤ 7) && decide ((7 : Int) ≤ 9)) = true := rfl
  have hput : ((7 : Int) == 1) = false := rfl
  have hbears : bears 7 = false := rfl
  have hnum : numOk (n1 + n2) T A 7 y = (decide (0 ≤ y) && decide (y ≤ 9)) := rfl
  obtain ⟨R, HR⟩ : ∃ R, Hid (stmtB (2 ^ W) (n1 + n2) T A ⟨7, y, ts, us⟩ = R) := ⟨_, rfl⟩
  obtain ⟨X1, HX1⟩ : ∃ X1, Hid (bodyB (2 ^ W) (n1 + n2 + T) A ts = X1) := ⟨_, rfl⟩
  obtain ⟨X2, HX2⟩ : ∃ X2, Hid (bodyB (2 ^ W) (n1 + n2 + T) A us = X2) := ⟨_, rfl⟩
  have hR := HR.out
  simp only [stmtB, L1.out, L2.out, HX1.out, HX2.out] at hR
  rw [hin, hbears, hput, hnum] at hR
  have HRR := Lib.hid hR
  clear hR
  simp only [HR.out]
  clear HR
  obtain ⟨wa, HW⟩ : ∃ wa, Hid (wa = (w.alloc (.cells #[.int .i64 wd, .slice a1 n1 c1, .slice a2 n2 c2, .int .i64 (T : Int), .slice a3 A c3, .slice a4 n4 c4] 28)).alloc (.cells #[.int .i64 7, .int .i64 y, .slice b1 m1 d1, .slice b2 m2 d2] 76)) := ⟨_, rfl⟩
  have B0 : Blk wa w.heap.size 28 [.int .i64 wd, .slice a1 n1 c1, .slice a2 n2 c2, .int .i64 (T : Int), .slice a3 A c3, .slice a4 n4 c4] := by rw [HW.out]; exact (Blk.new w _ _).alloc _
  have B1 : Blk wa (w.heap.size + 1) 76 [.int .i64 7, .int .i64 y, .slice b1 m1 d1, .slice b2 m2 d2] := by rw [HW.out]; simpa using Blk.new (w.alloc _) 76 [.int .i64 7, .int .i64 y, .slice b1 m1 d1, .slice b2 m2 d2]
  have HB : Below w.heap.size w wa := by rw [HW.out]; exact ((Below.refl _ _).alloc (Nat.le_refl _) _).alloc (by simp) _
  go_enter Tryz.func153, Tryz.ntmps153
  by_cases hp2 : 0 < m2
  · have hd2 : decide ((m2 : Int) > 0) = true := by simp; omega
    go_wp2_with (go_at_call 105; refine (in_any _ _ _ _).mono ?_; rintro e w' ⟨rfl, rfl⟩; try rw [hin])
    go_ret
    exact ⟨ret_bool (by rw [← HRR.out, decide_eq_true hp2]; simp), by rw [← HW.out]; exact HB⟩
  · by_cases hp1 : 0 < m1
    · have hd2 : decide ((m2 : Int) > 0) = false := by simp; omega
      have hd1 : decide ((m1 : Int) > 0) = true := by simp; omega
      go_wp2_with (go_at_call 105; refine (in_any _ _ _ _).mono ?_; rintro e w' ⟨rfl, rfl⟩; try rw [hin])
      go_ret
      exact ⟨ret_bool (by rw [← HRR.out, decide_eq_false hp2, decide_eq_true hp1]; simp), by rw [← HW.out]; exact HB⟩
    · have hd2 : decide ((m2 : Int) > 0) = false := by simp; omega
      have hd1 : decide ((m1 : Int) > 0) = false := by simp; omega
      go_wp2_with (go_at_call 105; refine (in_any _ _ _ _).mono ?_; rintro e w' ⟨rfl, rfl⟩; try rw [hin])
      go_ret
      exact ⟨ret_bool (by rw [← HRR.out, decide_eq_false hp2, decide_eq_false hp1]; simp), by rw [← HW.out]; exact HB⟩
set_option maxHeartbeats 1600000 in
theorem l3Stmt_9 (y wd : Int) (a1 a2 a3 a4 b1 b2 : Option Addr) (n1 n2 n4 m1 m2 c1 c2 c3 c4 d1 d2 W T A : Nat) (rows : List SRow) (ts us : List Tm) (w : World)
    (hr : Lim ⟨wd, (a1, n1, c1), (a2, n2, c2), (T : Int), (a3, A, c3), (a4, n4, c4), rows⟩ W (n1 + n2) T A) (h1 : Terms w b1 m1 ts) (h2 : Terms w b2 m2 us) :
    Calls Tryz.prog 153 #[.agg #[.int .i64 wd, .slice a1 n1 c1, .slice a2 n2 c2, .int .i64 (T : Int), .slice a3 A c3, .slice a4 n4 c4], .agg #[.int .i64 9, .int .i64 y, .slice b1 m1 d1, .slice b2 m2 d2]] w fun e w' => e = .returned (.bool (stmtB (2 ^ W) (n1 + n2) T A ⟨9, y, ts, us⟩)) ∧ Below w.heap.size w w' := by
  have HX : Hid (∀ (w' : World) (a : Option Addr) (n c : Nat) (vs : List Tm), Terms w' a n vs → Calls Tryz.prog 75 #[.agg #[.int .i64 wd, .slice a1 n1 c1, .slice a2 n2 c2, .int .i64 (T : Int), .slice a3 A c3, .slice a4 n4 c4], .slice a n c] w' fun e w'' => e = .returned (.bool (bodyB (2 ^ W) (n1 + n2 + T) A vs)) ∧ Below w'.heap.size w' w'') := Lib.hid (fun w' a n c vs h' => l3Exp_any ⟨wd, (a1, n1, c1), (a2, n2, c2), (T : Int), (a3, A, c3), (a4, n4, c4), rows⟩ W (n1 + n2) T A a n c vs w' hr h')
  have hI := hr.few
  have hT := hr.fewT
  have hA := hr.fewA
  have hm1 := h1.2.1
  have hm2 := h2.2.1
  have L1 := Lib.hid h1.1
  have L2 := Lib.hid h2.1
  clear hr
  have hin : (decide ((0 : Int) ≤ 9) && decide ((9 : Int) ≤ 9)) = true := rfl
  have hput : ((9 : Int) == 1) = false := rfl
  have hbears : bears 9 = false := rfl
  have hnum : numOk (n1 + n2) T A 9 y = (decide (0 ≤ y) && decide (y ≤ 9)) := rfl
  obtain ⟨R, HR⟩ : ∃ R, Hid (stmtB (2 ^ W) (n1 + n2) T A ⟨9, y, ts, us⟩ = R) := ⟨_, rfl⟩
  obtain ⟨X1, HX1⟩ : ∃ X1, Hid (bodyB (2 ^ W) (n1 + n2 + T) A ts = X1) := ⟨_, rfl⟩
  obtain ⟨X2, HX2⟩ : ∃ X2, Hid (bodyB (2 ^ W) (n1 + n2 + T) A us = X2) := ⟨_, rfl⟩
  have hR := HR.out
  simp only [stmtB, L1.out, L2.out, HX1.out, HX2.out] at hR
  rw [hin, hbears, hput, hnum] at hR
  have HRR := Lib.hid hR
  clear hR
  simp only [HR.out]
  clear HR
  obtain ⟨wa, HW⟩ : ∃ wa, Hid (wa = (w.alloc (.cells #[.int .i64 wd, .slice a1 n1 c1, .slice a2 n2 c2, .int .i64 (T : Int), .slice a3 A c3, .slice a4 n4 c4] 28)).alloc (.cells #[.int .i64 9, .int .i64 y, .slice b1 m1 d1, .slice b2 m2 d2] 76)) := ⟨_, rfl⟩
  have B0 : Blk wa w.heap.size 28 [.int .i64 wd, .slice a1 n1 c1, .slice a2 n2 c2, .int .i64 (T : Int), .slice a3 A c3, .slice a4 n4 c4] := by rw [HW.out]; exact (Blk.new w _ _).alloc _
  have B1 : Blk wa (w.heap.size + 1) 76 [.int .i64 9, .int .i64 y, .slice b1 m1 d1, .slice b2 m2 d2] := by rw [HW.out]; simpa using Blk.new (w.alloc _) 76 [.int .i64 9, .int .i64 y, .slice b1 m1 d1, .slice b2 m2 d2]
  have HB : Below w.heap.size w wa := by rw [HW.out]; exact ((Below.refl _ _).alloc (Nat.le_refl _) _).alloc (by simp) _
  go_enter Tryz.func153, Tryz.ntmps153
  by_cases hp2 : 0 < m2
  · have hd2 : decide ((m2 : Int) > 0) = true := by simp; omega
    go_wp2_with (go_at_call 105; refine (in_any _ _ _ _).mono ?_; rintro e w' ⟨rfl, rfl⟩; try rw [hin])
    go_ret
    exact ⟨ret_bool (by rw [← HRR.out, decide_eq_true hp2]; simp), by rw [← HW.out]; exact HB⟩
  · by_cases hp1 : 0 < m1
    · have hd2 : decide ((m2 : Int) > 0) = false := by simp; omega
      have hd1 : decide ((m1 : Int) > 0) = true := by simp; omega
      go_wp2_with (go_at_call 105; refine (in_any _ _ _ _).mono ?_; rintro e w' ⟨rfl, rfl⟩; try rw [hin])
      go_ret
      exact ⟨ret_bool (by rw [← HRR.out, decide_eq_false hp2, decide_eq_true hp1]; simp), by rw [← HW.out]; exact HB⟩
    · have hd2 : decide ((m2 : Int) > 0) = false := by simp; omega
      have hd1 : decide ((m1 : Int) > 0) = false := by simp; omega
      go_wp2_with (go_at_call 105; refine (in_any _ _ _ _).mono ?_; rintro e w' ⟨rfl, rfl⟩; try rw [hin])
      go_ret
      exact ⟨ret_bool (by rw [← HRR.out, decide_eq_false hp2, decide_eq_false hp1]; simp), by rw [← HW.out]; exact HB⟩
set_option maxHeartbeats 1600000 in
theorem l3Stmt_0 (y wd : Int) (a1 a2 a3 a4 b1 b2 : Option Addr) (n1 n2 n4 m1 m2 c1 c2 c3 c4 d1 d2 W T A : Nat) (rows : List SRow) (ts us : List Tm) (w : World)
    (hr : Lim ⟨wd, (a1, n1, c1), (a2, n2, c2), (T : Int), (a3, A, c3), (a4, n4, c4), rows⟩ W (n1 + n2) T A) (h1 : Terms w b1 m1 ts) (h2 : Terms w b2 m2 us) :
    Calls Tryz.prog 153 #[.agg #[.int .i64 wd, .slice a1 n1 c1, .slice a2 n2 c2, .int .i64 (T : Int), .slice a3 A c3, .slice a4 n4 c4], .agg #[.int .i64 0, .int .i64 y, .slice b1 m1 d1, .slice b2 m2 d2]] w fun e w' => e = .returned (.bool (stmtB (2 ^ W) (n1 + n2) T A ⟨0, y, ts, us⟩)) ∧ Below w.heap.size w w' := by
  have HX : Hid (∀ (w' : World) (a : Option Addr) (n c : Nat) (vs : List Tm), Terms w' a n vs → Calls Tryz.prog 75 #[.agg #[.int .i64 wd, .slice a1 n1 c1, .slice a2 n2 c2, .int .i64 (T : Int), .slice a3 A c3, .slice a4 n4 c4], .slice a n c] w' fun e w'' => e = .returned (.bool (bodyB (2 ^ W) (n1 + n2 + T) A vs)) ∧ Below w'.heap.size w' w'') := Lib.hid (fun w' a n c vs h' => l3Exp_any ⟨wd, (a1, n1, c1), (a2, n2, c2), (T : Int), (a3, A, c3), (a4, n4, c4), rows⟩ W (n1 + n2) T A a n c vs w' hr h')
  have hI := hr.few
  have hT := hr.fewT
  have hA := hr.fewA
  have hm1 := h1.2.1
  have hm2 := h2.2.1
  have L1 := Lib.hid h1.1
  have L2 := Lib.hid h2.1
  clear hr
  have hin : (decide ((0 : Int) ≤ 0) && decide ((0 : Int) ≤ 9)) = true := rfl
  have hput : ((0 : Int) == 1) = false := rfl
  have hbears : bears 0 = true := rfl
  have hnum : numOk (n1 + n2) T A 0 y = (decide (((n1 + n2 : Nat) : Int) ≤ y) && decide (y ≤ ((n1 + n2 : Nat) : Int) + (T : Int) - 1)) := rfl
  obtain ⟨R, HR⟩ : ∃ R, Hid (stmtB (2 ^ W) (n1 + n2) T A ⟨0, y, ts, us⟩ = R) := ⟨_, rfl⟩
  obtain ⟨X1, HX1⟩ : ∃ X1, Hid (bodyB (2 ^ W) (n1 + n2 + T) A ts = X1) := ⟨_, rfl⟩
  obtain ⟨X2, HX2⟩ : ∃ X2, Hid (bodyB (2 ^ W) (n1 + n2 + T) A us = X2) := ⟨_, rfl⟩
  have hR := HR.out
  simp only [stmtB, L1.out, L2.out, HX1.out, HX2.out] at hR
  rw [hin, hbears, hput, hnum] at hR
  have HRR := Lib.hid hR
  clear hR
  simp only [HR.out]
  clear HR
  obtain ⟨wa, HW⟩ : ∃ wa, Hid (wa = (w.alloc (.cells #[.int .i64 wd, .slice a1 n1 c1, .slice a2 n2 c2, .int .i64 (T : Int), .slice a3 A c3, .slice a4 n4 c4] 28)).alloc (.cells #[.int .i64 0, .int .i64 y, .slice b1 m1 d1, .slice b2 m2 d2] 76)) := ⟨_, rfl⟩
  have B0 : Blk wa w.heap.size 28 [.int .i64 wd, .slice a1 n1 c1, .slice a2 n2 c2, .int .i64 (T : Int), .slice a3 A c3, .slice a4 n4 c4] := by rw [HW.out]; exact (Blk.new w _ _).alloc _
  have B1 : Blk wa (w.heap.size + 1) 76 [.int .i64 0, .int .i64 y, .slice b1 m1 d1, .slice b2 m2 d2] := by rw [HW.out]; simpa using Blk.new (w.alloc _) 76 [.int .i64 0, .int .i64 y, .slice b1 m1 d1, .slice b2 m2 d2]
  have HB : Below w.heap.size w wa := by rw [HW.out]; exact ((Below.refl _ _).alloc (Nat.le_refl _) _).alloc (by simp) _
  go_enter Tryz.func153, Tryz.ntmps153
  by_cases hp2 : 0 < m2
  · by_cases hp1 : 0 < m1
    · have hd2 : decide ((m2 : Int) > 0) = true := by simp; omega
      have hd1 : decide ((m1 : Int) > 0) = true := by simp; omega
      go_wp2_with (go_at_call 105; refine (in_any _ _ _ _).mono ?_; rintro e w' ⟨rfl, rfl⟩; try rw [hin])
      go_ret
      exact ⟨ret_bool (by rw [← HRR.out, decide_eq_true hp2, decide_eq_true hp1]; simp), by rw [← HW.out]; exact HB⟩
    · have hd2 : decide ((m2 : Int) > 0) = true := by simp; omega
      have hd1 : decide ((m1 : Int) > 0) = false := by simp; omega
      go_wp2_with (go_at_call 105; refine (in_any _ _ _ _).mono ?_; rintro e w' ⟨rfl, rfl⟩; try rw [hin])
      rw [← HW.out]
      refine (HX.out _ _ _ _ _ (h2.below (Nat.le_refl _) HB)).mono ?_
      rintro e w1 ⟨rfl, hb1⟩
      have q0 := B0.below hb1 B0.lt
      have q1 := B1.below hb1 B1.lt
      have hbel := HB.trans (hb1.mono HB.size)
      rw [HX2.out]
      clear hb1 HW B0 B1 HB
      have u0 := q0.cell (j := 0) rfl
      have u1 := q0.cell (j := 1) rfl
      have u2 := q0.cell (j := 2) rfl
      have u3 := q0.cell (j := 3) rfl
      have u4 := q0.cell (j := 4) rfl
      have u5 := q0.cell (j := 5) rfl
      have v0 := q1.cell (j := 0) rfl
      have v1 := q1.cell (j := 1) rfl
      have v2 := q1.cell (j := 2) rfl
      have v3 := q1.cell (j := 3) rfl
      cases X2 with
      | false =>
        go_wp2_with fail
        go_ret
        exact ⟨ret_bool (by rw [← HRR.out, decide_eq_true hp2, decide_eq_false hp1]; simp), hbel⟩
      | true =>
        go_wp2_with (go_at_call 105; refine (in_any _ _ _ _).mono ?_; rintro e w' ⟨rfl, rfl⟩; try rw [hin])
        go_ret
        exact ⟨ret_bool (by rw [← HRR.out, decide_eq_true hp2, decide_eq_false hp1]; simp), hbel⟩
  · have hd2 : decide ((m2 : Int) > 0) = false := by simp; omega
    go_wp2_with (go_at_call 105; refine (in_any _ _ _ _).mono ?_; rintro e w' ⟨rfl, rfl⟩; try rw [hin])
    go_ret
    exact ⟨ret_bool (by rw [← HRR.out, decide_eq_false hp2]; simp), by rw [← HW.out]; exact HB⟩
set_option maxHeartbeats 1600000 in
theorem l3Stmt_2 (y wd : Int) (a1 a2 a3 a4 b1 b2 : Option Addr) (n1 n2 n4 m1 m2 c1 c2 c3 c4 d1 d2 W T A : Nat) (rows : List SRow) (ts us : List Tm) (w : World)
    (hr : Lim ⟨wd, (a1, n1, c1), (a2, n2, c2), (T : Int), (a3, A, c3), (a4, n4, c4), rows⟩ W (n1 + n2) T A) (h1 : Terms w b1 m1 ts) (h2 : Terms w b2 m2 us) :
    Calls Tryz.prog 153 #[.agg #[.int .i64 wd, .slice a1 n1 c1, .slice a2 n2 c2, .int .i64 (T : Int), .slice a3 A c3, .slice a4 n4 c4], .agg #[.int .i64 2, .int .i64 y, .slice b1 m1 d1, .slice b2 m2 d2]] w fun e w' => e = .returned (.bool (stmtB (2 ^ W) (n1 + n2) T A ⟨2, y, ts, us⟩)) ∧ Below w.heap.size w w' := by
  have HX : Hid (∀ (w' : World) (a : Option Addr) (n c : Nat) (vs : List Tm), Terms w' a n vs → Calls Tryz.prog 75 #[.agg #[.int .i64 wd, .slice a1 n1 c1, .slice a2 n2 c2, .int .i64 (T : Int), .slice a3 A c3, .slice a4 n4 c4], .slice a n c] w' fun e w'' => e = .returned (.bool (bodyB (2 ^ W) (n1 + n2 + T) A vs)) ∧ Below w'.heap.size w' w'') := Lib.hid (fun w' a n c vs h' => l3Exp_any ⟨wd, (a1, n1, c1), (a2, n2, c2), (T : Int), (a3, A, c3), (a4, n4, c4), rows⟩ W (n1 + n2) T A a n c vs w' hr h')
  have hI := hr.few
  have hT := hr.fewT
  have hA := hr.fewA
  have hm1 := h1.2.1
  have hm2 := h2.2.1
  have L1 := Lib.hid h1.1
  have L2 := Lib.hid h2.1
  clear hr
  have hin : (decide ((0 : Int) ≤ 2) && decide ((2 : Int) ≤ 9)) = true := rfl
  have hput : ((2 : Int) == 1) = false := rfl
  have hbears : bears 2 = true := rfl
  have hnum : numOk (n1 + n2) T A 2 y = (y == 0) := rfl
  obtain ⟨R, HR⟩ : ∃ R, Hid (stmtB (2 ^ W) (n1 + n2) T A ⟨2, y, ts, us⟩ = R) := ⟨_, rfl⟩
  obtain ⟨X1, HX1⟩ : ∃ X1, Hid (bodyB (2 ^ W) (n1 + n2 + T) A ts = X1) := ⟨_, rfl⟩
  obtain ⟨X2, HX2⟩ : ∃ X2, Hid (bodyB (2 ^ W) (n1 + n2 + T) A us = X2) := ⟨_, rfl⟩
  have hR := HR.out
  simp only [stmtB, L1.out, L2.out, HX1.out, HX2.out] at hR
  rw [hin, hbears, hput, hnum] at hR
  have HRR := Lib.hid hR
  clear hR
  simp only [HR.out]
  clear HR
  obtain ⟨wa, HW⟩ : ∃ wa, Hid (wa = (w.alloc (.cells #[.int .i64 wd, .slice a1 n1 c1, .slice a2 n2 c2, .int .i64 (T : Int), .slice a3 A c3, .slice a4 n4 c4] 28)).alloc (.cells #[.int .i64 2, .int .i64 y, .slice b1 m1 d1, .slice b2 m2 d2] 76)) := ⟨_, rfl⟩
  have B0 : Blk wa w.heap.size 28 [.int .i64 wd, .slice a1 n1 c1, .slice a2 n2 c2, .int .i64 (T : Int), .slice a3 A c3, .slice a4 n4 c4] := by rw [HW.out]; exact (Blk.new w _ _).alloc _
  have B1 : Blk wa (w.heap.size + 1) 76 [.int .i64 2, .int .i64 y, .slice b1 m1 d1, .slice b2 m2 d2] := by rw [HW.out]; simpa using Blk.new (w.alloc _) 76 [.int .i64 2, .int .i64 y, .slice b1 m1 d1, .slice b2 m2 d2]
  have HB : Below w.heap.size w wa := by rw [HW.out]; exact ((Below.refl _ _).alloc (Nat.le_refl _) _).alloc (by simp) _
  go_enter Tryz.func153, Tryz.ntmps153
  by_cases hp2 : 0 < m2
  · by_cases hp1 : 0 < m1
    · have hd2 : decide ((m2 : Int) > 0) = true := by simp; omega
      have hd1 : decide ((m1 : Int) > 0) = true := by simp; omega
      go_wp2_with (go_at_call 105; refine (in_any _ _ _ _).mono ?_; rintro e w' ⟨rfl, rfl⟩; try rw [hin])
      go_ret
      exact ⟨ret_bool (by rw [← HRR.out, decide_eq_true hp2, decide_eq_true hp1]; simp), by rw [← HW.out]; exact HB⟩
    · have hd2 : decide ((m2 : Int) > 0) = true := by simp; omega
      have hd1 : decide ((m1 : Int) > 0) = false := by simp; omega
      go_wp2_with (go_at_call 105; refine (in_any _ _ _ _).mono ?_; rintro e w' ⟨rfl, rfl⟩; try rw [hin])
      rw [← HW.out]
      refine (HX.out _ _ _ _ _ (h2.below (Nat.le_refl _) HB)).mono ?_
      rintro e w1 ⟨rfl, hb1⟩
      have q0 := B0.below hb1 B0.lt
      have q1 := B1.below hb1 B1.lt
      have hbel := HB.trans (hb1.mono HB.size)
      rw [HX2.out]
      clear hb1 HW B0 B1 HB
      have u0 := q0.cell (j := 0) rfl
      have u1 := q0.cell (j := 1) rfl
      have u2 := q0.cell (j := 2) rfl
      have u3 := q0.cell (j := 3) rfl
      have u4 := q0.cell (j := 4) rfl
      have u5 := q0.cell (j := 5) rfl
      have v0 := q1.cell (j := 0) rfl
      have v1 := q1.cell (j := 1) rfl
      have v2 := q1.cell (j := 2) rfl
      have v3 := q1.cell (j := 3) rfl
      cases X2 with
      | false =>
        go_wp2_with fail
        go_ret
        exact ⟨ret_bool (by rw [← HRR.out, decide_eq_true hp2, decide_eq_false hp1]; simp), hbel⟩
      | true =>
        go_wp2_with (go_at_call 105; refine (in_any _ _ _ _).mono ?_; rintro e w' ⟨rfl, rfl⟩; try rw [hin])
        go_ret
        exact ⟨ret_bool (by rw [← HRR.out, decide_eq_true hp2, decide_eq_false hp1]; simp), hbel⟩
  · have hd2 : decide ((m2 : Int) > 0) = false := by simp; omega
    go_wp2_with (go_at_call 105; refine (in_any _ _ _ _).mono ?_; rintro e w' ⟨rfl, rfl⟩; try rw [hin])
    go_ret
    exact ⟨ret_bool (by rw [← HRR.out, decide_eq_false hp2]; simp), by rw [← HW.out]; exact HB⟩
set_option maxHeartbeats 1600000 in
theorem l3Stmt_6 (y wd : Int) (a1 a2 a3 a4 b1 b2 : Option Addr) (n1 n2 n4 m1 m2 c1 c2 c3 c4 d1 d2 W T A : Nat) (rows : List SRow) (ts us : List Tm) (w : World)
    (hr : Lim ⟨wd, (a1, n1, c1), (a2, n2, c2), (T : Int), (a3, A, c3), (a4, n4, c4), rows⟩ W (n1 + n2) T A) (h1 : Terms w b1 m1 ts) (h2 : Terms w b2 m2 us) :
    Calls Tryz.prog 153 #[.agg #[.int .i64 wd, .slice a1 n1 c1, .slice a2 n2 c2, .int .i64 (T : Int), .slice a3 A c3, .slice a4 n4 c4], .agg #[.int .i64 6, .int .i64 y, .slice b1 m1 d1, .slice b2 m2 d2]] w fun e w' => e = .returned (.bool (stmtB (2 ^ W) (n1 + n2) T A ⟨6, y, ts, us⟩)) ∧ Below w.heap.size w w' := by
  have HX : Hid (∀ (w' : World) (a : Option Addr) (n c : Nat) (vs : List Tm), Terms w' a n vs → Calls Tryz.prog 75 #[.agg #[.int .i64 wd, .slice a1 n1 c1, .slice a2 n2 c2, .int .i64 (T : Int), .slice a3 A c3, .slice a4 n4 c4], .slice a n c] w' fun e w'' => e = .returned (.bool (bodyB (2 ^ W) (n1 + n2 + T) A vs)) ∧ Below w'.heap.size w' w'') := Lib.hid (fun w' a n c vs h' => l3Exp_any ⟨wd, (a1, n1, c1), (a2, n2, c2), (T : Int), (a3, A, c3), (a4, n4, c4), rows⟩ W (n1 + n2) T A a n c vs w' hr h')
  have hI := hr.few
  have hT := hr.fewT
  have hA := hr.fewA
  have hm1 := h1.2.1
  have hm2 := h2.2.1
  have L1 := Lib.hid h1.1
  have L2 := Lib.hid h2.1
  clear hr
  have hin : (decide ((0 : Int) ≤ 6) && decide ((6 : Int) ≤ 9)) = true := rfl
  have hput : ((6 : Int) == 1) = false := rfl
  have hbears : bears 6 = true := rfl
  have hnum : numOk (n1 + n2) T A 6 y = (y == 0) := rfl
  obtain ⟨R, HR⟩ : ∃ R, Hid (stmtB (2 ^ W) (n1 + n2) T A ⟨6, y, ts, us⟩ = R) := ⟨_, rfl⟩
  obtain ⟨X1, HX1⟩ : ∃ X1, Hid (bodyB (2 ^ W) (n1 + n2 + T) A ts = X1) := ⟨_, rfl⟩
  obtain ⟨X2, HX2⟩ : ∃ X2, Hid (bodyB (2 ^ W) (n1 + n2 + T) A us = X2) := ⟨_, rfl⟩
  have hR := HR.out
  simp only [stmtB, L1.out, L2.out, HX1.out, HX2.out] at hR
  rw [hin, hbears, hput, hnum] at hR
  have HRR := Lib.hid hR
  clear hR
  simp only [HR.out]
  clear HR
  obtain ⟨wa, HW⟩ : ∃ wa, Hid (wa = (w.alloc (.cells #[.int .i64 wd, .slice a1 n1 c1, .slice a2 n2 c2, .int .i64 (T : Int), .slice a3 A c3, .slice a4 n4 c4] 28)).alloc (.cells #[.int .i64 6, .int .i64 y, .slice b1 m1 d1, .slice b2 m2 d2] 76)) := ⟨_, rfl⟩
  have B0 : Blk wa w.heap.size 28 [.int .i64 wd, .slice a1 n1 c1, .slice a2 n2 c2, .int .i64 (T : Int), .slice a3 A c3, .slice a4 n4 c4] := by rw [HW.out]; exact (Blk.new w _ _).alloc _
  have B1 : Blk wa (w.heap.size + 1) 76 [.int .i64 6, .int .i64 y, .slice b1 m1 d1, .slice b2 m2 d2] := by rw [HW.out]; simpa using Blk.new (w.alloc _) 76 [.int .i64 6, .int .i64 y, .slice b1 m1 d1, .slice b2 m2 d2]
  have HB : Below w.heap.size w wa := by rw [HW.out]; exact ((Below.refl _ _).alloc (Nat.le_refl _) _).alloc (by simp) _
  go_enter Tryz.func153, Tryz.ntmps153
  by_cases hp2 : 0 < m2
  · by_cases hp1 : 0 < m1
    · have hd2 : decide ((m2 : Int) > 0) = true := by simp; omega
      have hd1 : decide ((m1 : Int) > 0) = true := by simp; omega
      go_wp2_with (go_at_call 105; refine (in_any _ _ _ _).mono ?_; rintro e w' ⟨rfl, rfl⟩; try rw [hin])
      go_ret
      exact ⟨ret_bool (by rw [← HRR.out, decide_eq_true hp2, decide_eq_true hp1]; simp), by rw [← HW.out]; exact HB⟩
    · have hd2 : decide ((m2 : Int) > 0) = true := by simp; omega
      have hd1 : decide ((m1 : Int) > 0) = false := by simp; omega
      go_wp2_with (go_at_call 105; refine (in_any _ _ _ _).mono ?_; rintro e w' ⟨rfl, rfl⟩; try rw [hin])
      rw [← HW.out]
      refine (HX.out _ _ _ _ _ (h2.below (Nat.le_refl _) HB)).mono ?_
      rintro e w1 ⟨rfl, hb1⟩
      have q0 := B0.below hb1 B0.lt
      have q1 := B1.below hb1 B1.lt
      have hbel := HB.trans (hb1.mono HB.size)
      rw [HX2.out]
      clear hb1 HW B0 B1 HB
      have u0 := q0.cell (j := 0) rfl
      have u1 := q0.cell (j := 1) rfl
      have u2 := q0.cell (j := 2) rfl
      have u3 := q0.cell (j := 3) rfl
      have u4 := q0.cell (j := 4) rfl
      have u5 := q0.cell (j := 5) rfl
      have v0 := q1.cell (j := 0) rfl
      have v1 := q1.cell (j := 1) rfl
      have v2 := q1.cell (j := 2) rfl
      have v3 := q1.cell (j := 3) rfl
      cases X2 with
      | false =>
        go_wp2_with fail
        go_ret
        exact ⟨ret_bool (by rw [← HRR.out, decide_eq_true hp2, decide_eq_false hp1]; simp), hbel⟩
      | true =>
        go_wp2_with (go_at_call 105; refine (in_any _ _ _ _).mono ?_; rintro e w' ⟨rfl, rfl⟩; try rw [hin])
        go_ret
        exact ⟨ret_bool (by rw [← HRR.out, decide_eq_true hp2, decide_eq_false hp1]; simp), hbel⟩
  · have hd2 : decide ((m2 : Int) > 0) = false := by simp; omega
    go_wp2_with (go_at_call 105; refine (in_any _ _ _ _).mono ?_; rintro e w' ⟨rfl, rfl⟩; try rw [hin])
    go_ret
    exact ⟨ret_bool (by rw [← HRR.out, decide_eq_false hp2]; simp), by rw [← HW.out]; exact HB⟩
set_option maxHeartbeats 1600000 in
theorem l3Stmt_1 (y wd : Int) (a1 a2 a3 a4 b1 b2 : Option Addr) (n1 n2 n4 m1 m2 c1 c2 c3 c4 d1 d2 W T A : Nat) (rows : List SRow) (ts us : List Tm) (w : World)
    (hr : Lim ⟨wd, (a1, n1, c1), (a2, n2, c2), (T : Int), (a3, A, c3), (a4, n4, c4), rows⟩ W (n1 + n2) T A) (h1 : Terms w b1 m1 ts) (h2 : Terms w b2 m2 us) :
    Calls Tryz.prog 153 #[.agg #[.int .i64 wd, .slice a1 n1 c1, .slice a2 n2 c2, .int .i64 (T : Int), .slice a3 A c3, .slice a4 n4 c4], .agg #[.int .i64 1, .int .i64 y, .slice b1 m1 d1, .slice b2 m2 d2]] w fun e w' => e = .returned (.bool (stmtB (2 ^ W) (n1 + n2) T A ⟨1, y, ts, us⟩)) ∧ Below w.heap.size w w' := by
  have HX : Hid (∀ (w' : World) (a : Option Addr) (n c : Nat) (vs : List Tm), Terms w' a n vs → Calls Tryz.prog 75 #[.agg #[.int .i64 wd, .slice a1 n1 c1, .slice a2 n2 c2, .int .i64 (T : Int), .slice a3 A c3, .slice a4 n4 c4], .slice a n c] w' fun e w'' => e = .returned (.bool (bodyB (2 ^ W) (n1 + n2 + T) A vs)) ∧ Below w'.heap.size w' w'') := Lib.hid (fun w' a n c vs h' => l3Exp_any ⟨wd, (a1, n1, c1), (a2, n2, c2), (T : Int), (a3, A, c3), (a4, n4, c4), rows⟩ W (n1 + n2) T A a n c vs w' hr h')
  have hI := hr.few
  have hT := hr.fewT
  have hA := hr.fewA
  have hm1 := h1.2.1
  have hm2 := h2.2.1
  have L1 := Lib.hid h1.1
  have L2 := Lib.hid h2.1
  clear hr
  have hin : (decide ((0 : Int) ≤ 1) && decide ((1 : Int) ≤ 9)) = true := rfl
  have hput : ((1 : Int) == 1) = true := rfl
  have hbears : bears 1 = true := rfl
  have hnum : numOk (n1 + n2) T A 1 y = (decide (0 ≤ y) && decide (y ≤ (A : Int) - 1)) := rfl
  obtain ⟨R, HR⟩ : ∃ R, Hid (stmtB (2 ^ W) (n1 + n2) T A ⟨1, y, ts, us⟩ = R) := ⟨_, rfl⟩
  obtain ⟨X1, HX1⟩ : ∃ X1, Hid (bodyB (2 ^ W) (n1 + n2 + T) A ts = X1) := ⟨_, rfl⟩
  obtain ⟨X2, HX2⟩ : ∃ X2, Hid (bodyB (2 ^ W) (n1 + n2 + T) A us = X2) := ⟨_, rfl⟩
  have hR := HR.out
  simp only [stmtB, L1.out, L2.out, HX1.out, HX2.out] at hR
  rw [hin, hbears, hput, hnum] at hR
  have HRR := Lib.hid hR
  clear hR
  simp only [HR.out]
  clear HR
  obtain ⟨wa, HW⟩ : ∃ wa, Hid (wa = (w.alloc (.cells #[.int .i64 wd, .slice a1 n1 c1, .slice a2 n2 c2, .int .i64 (T : Int), .slice a3 A c3, .slice a4 n4 c4] 28)).alloc (.cells #[.int .i64 1, .int .i64 y, .slice b1 m1 d1, .slice b2 m2 d2] 76)) := ⟨_, rfl⟩
  have B0 : Blk wa w.heap.size 28 [.int .i64 wd, .slice a1 n1 c1, .slice a2 n2 c2, .int .i64 (T : Int), .slice a3 A c3, .slice a4 n4 c4] := by rw [HW.out]; exact (Blk.new w _ _).alloc _
  have B1 : Blk wa (w.heap.size + 1) 76 [.int .i64 1, .int .i64 y, .slice b1 m1 d1, .slice b2 m2 d2] := by rw [HW.out]; simpa using Blk.new (w.alloc _) 76 [.int .i64 1, .int .i64 y, .slice b1 m1 d1, .slice b2 m2 d2]
  have HB : Below w.heap.size w wa := by rw [HW.out]; exact ((Below.refl _ _).alloc (Nat.le_refl _) _).alloc (by simp) _
  go_enter Tryz.func153, Tryz.ntmps153
  by_cases hp2 : 0 < m2
  · by_cases hp1 : 0 < m1
    · have hd2 : decide ((m2 : Int) > 0) = true := by simp; omega
      have hd1 : decide ((m1 : Int) > 0) = true := by simp; omega
      go_wp2_with (go_at_call 105; refine (in_any _ _ _ _).mono ?_; rintro e w' ⟨rfl, rfl⟩; try rw [hin])
      rw [← HW.out]
      refine (HX.out _ _ _ _ _ (h2.below (Nat.le_refl _) HB)).mono ?_
      rintro e w1 ⟨rfl, hb1⟩
      have q0 := B0.below hb1 B0.lt
      have q1 := B1.below hb1 B1.lt
      have hbel := HB.trans (hb1.mono HB.size)
      rw [HX2.out]
      clear hb1 HW B0 B1 HB
      have u0 := q0.cell (j := 0) rfl
      have u1 := q0.cell (j := 1) rfl
      have u2 := q0.cell (j := 2) rfl
      have u3 := q0.cell (j := 3) rfl
      have u4 := q0.cell (j := 4) rfl
      have u5 := q0.cell (j := 5) rfl
      have v0 := q1.cell (j := 0) rfl
      have v1 := q1.cell (j := 1) rfl
      have v2 := q1.cell (j := 2) rfl
      have v3 := q1.cell (j := 3) rfl
      cases X2 with
      | false =>
        go_wp2_with fail
        go_ret
        exact ⟨ret_bool (by rw [← HRR.out, decide_eq_true hp2, decide_eq_true hp1]; simp), hbel⟩
      | true =>
        go_wp2_with fail
        refine (HX.out _ _ _ _ _ (h1.below (Nat.le_refl _) hbel)).mono ?_
        rintro e w2 ⟨rfl, hb2⟩
        clear u0 u1 u2 u3 u4 u5 v0 v1 v2 v3
        have q0 := q0.below hb2 q0.lt
        have q1 := q1.below hb2 q1.lt
        have hbel := hbel.trans (hb2.mono hbel.size)
        rw [HX1.out]
        have u0 := q0.cell (j := 0) rfl
        have u1 := q0.cell (j := 1) rfl
        have u2 := q0.cell (j := 2) rfl
        have u3 := q0.cell (j := 3) rfl
        have u4 := q0.cell (j := 4) rfl
        have u5 := q0.cell (j := 5) rfl
        have v0 := q1.cell (j := 0) rfl
        have v1 := q1.cell (j := 1) rfl
        have v2 := q1.cell (j := 2) rfl
        have v3 := q1.cell (j := 3) rfl
        cases X1 with
        | false =>
          go_wp2_with fail
          go_ret
          exact ⟨ret_bool (by rw [← HRR.out, decide_eq_true hp2, decide_eq_true hp1]; simp), hbel⟩
        | true =>
          go_wp2_with (go_at_call 105; refine (in_any _ _ _ _).mono ?_; rintro e w' ⟨rfl, rfl⟩; try rw [hin])
          go_ret
          exact ⟨ret_bool (by rw [← HRR.out, decide_eq_true hp2, decide_eq_true hp1]; simp), hbel⟩
    · have hd2 : decide ((m2 : Int) > 0) = true := by simp; omega
      have hd1 : decide ((m1 : Int) > 0) = false := by simp; omega
      go_wp2_with (go_at_call 105; refine (in_any _ _ _ _).mono ?_; rintro e w' ⟨rfl, rfl⟩; try rw [hin])
      go_ret
      exact ⟨ret_bool (by rw [← HRR.out, decide_eq_true hp2, decide_eq_false hp1]; simp), by rw [← HW.out]; exact HB⟩
  · have hd2 : decide ((m2 : Int) > 0) = false := by simp; omega
    go_wp2_with (go_at_call 105; refine (in_any _ _ _ _).mono ?_; rintro e w' ⟨rfl, rfl⟩; try rw [hin])
    go_ret
    exact ⟨ret_bool (by rw [← HRR.out, decide_eq_false hp2]; simp), by rw [← HW.out]; exact HB⟩
end Go.Proofs.YtjboghmcmlkpoaaGreatDoor
/- The contracts of the model's l3Stmt (all kinds together) and l3Stmts. -/
namespace Go.Proofs.YtjboghmcmlkpoaaGreatDoor
open Go.RowKit

theorem l3Stmt_any (r : PRow) (W I T A : Nat) (x y : Int) (b1 b2 : Option Addr) (m1 m2 d1 d2 : Nat) (ts us : List Tm) (w : World) (hr : Lim r W I T A) (h1 : Terms w b1 m1 ts) (h2 : Terms w b2 m2 us) :
    Calls Tryz.prog 153 #[progV r, .agg #[.int .i64 x, .int .i64 y, .slice b1 m1 d1, .slice b2 m2 d2]] w fun e w' => e = .returned (.bool (stmtB (2 ^ W) I T A ⟨x, y, ts, us⟩)) ∧ Below w.heap.size w w' := by
  obtain ⟨wd, ⟨a1, n1, c1⟩, ⟨a2, n2, c2⟩, tp, ⟨a3, n3, c3⟩, ⟨a4, n4, c4⟩, rows⟩ := r
  have e1 := hr.inputs
  have e2 := hr.temps
  have e3 := hr.arrays
  simp only [] at e1 e2 e3
  subst e1 e2 e3
  by_cases h0 : x < 0 ∨ 9 < x
  · exact l3Stmt_out x h0 y wd a1 a2 a3 a4 b1 b2 n1 n2 n4 m1 m2 c1 c2 c3 c4 d1 d2 W T n3 rows ts us w hr h1 h2
  by_cases k : x = 3 ∨ x = 4 ∨ x = 8
  · exact l3Stmt_plain x k y wd a1 a2 a3 a4 b1 b2 n1 n2 n4 m1 m2 c1 c2 c3 c4 d1 d2 W T n3 rows ts us w hr h1 h2
  have hx : x = 0 ∨ x = 1 ∨ x = 2 ∨ x = 5 ∨ x = 6 ∨ x = 7 ∨ x = 9 := by omega
  rcases hx with rfl | rfl | rfl | rfl | rfl | rfl | rfl
  · exact l3Stmt_0 y wd a1 a2 a3 a4 b1 b2 n1 n2 n4 m1 m2 c1 c2 c3 c4 d1 d2 W T n3 rows ts us w hr h1 h2
  · exact l3Stmt_1 y wd a1 a2 a3 a4 b1 b2 n1 n2 n4 m1 m2 c1 c2 c3 c4 d1 d2 W T n3 rows ts us w hr h1 h2
  · exact l3Stmt_2 y wd a1 a2 a3 a4 b1 b2 n1 n2 n4 m1 m2 c1 c2 c3 c4 d1 d2 W T n3 rows ts us w hr h1 h2
  · exact l3Stmt_5 y wd a1 a2 a3 a4 b1 b2 n1 n2 n4 m1 m2 c1 c2 c3 c4 d1 d2 W T n3 rows ts us w hr h1 h2
  · exact l3Stmt_6 y wd a1 a2 a3 a4 b1 b2 n1 n2 n4 m1 m2 c1 c2 c3 c4 d1 d2 W T n3 rows ts us w hr h1 h2
  · exact l3Stmt_7 y wd a1 a2 a3 a4 b1 b2 n1 n2 n4 m1 m2 c1 c2 c3 c4 d1 d2 W T n3 rows ts us w hr h1 h2
  · exact l3Stmt_9 y wd a1 a2 a3 a4 b1 b2 n1 n2 n4 m1 m2 c1 c2 c3 c4 d1 d2 W T n3 rows ts us w hr h1 h2
def StTo (f : Stm → Bool) (ss : List Stm) (k : Nat) : Prop := ∀ i, i < k → f (stAt ss i) = true
theorem StTo.zero (f : Stm → Bool) (ss : List Stm) : StTo f ss 0 := fun i hi => absurd hi (by omega)
theorem StTo.succ {f : Stm → Bool} {ss : List Stm} {k : Nat} {t : Stm} (h : StTo f ss k) (hz : Hid (stAt ss k = t)) (ht : f t = true) : StTo f ss (k + 1) := by
  intro i hi
  rcases Nat.lt_or_ge i k with hlt | hge
  · exact h i hlt
  · have : i = k := by omega
    subst this; rw [hz.out]; exact ht
theorem stAt_mem {ss : List Stm} {k : Nat} (h : k < ss.length) : stAt ss k ∈ ss := by
  rw [stAt, List.getD_eq_getElem?_getD, List.getElem?_eq_getElem h]; exact List.getElem_mem h
theorem stTo_all {f : Stm → Bool} {ss : List Stm} (h : StTo f ss ss.length) : ss.all f = true := by
  rw [List.all_eq_true]
  intro z hz
  obtain ⟨i, hi, rfl⟩ := List.getElem_of_mem hz
  have := h i hi
  rw [stAt, List.getD_eq_getElem?_getD, List.getElem?_eq_getElem hi] at this
  simpa using this
theorem st_bad {f : Stm → Bool} {ss : List Stm} {k : Nat} {t : Stm} (hk : k < ss.length) (hz : Hid (stAt ss k = t)) (ht : f t = false) : ss.all f = false := by
  rw [← Bool.not_eq_true, List.all_eq_true]
  intro h
  have := h _ (stAt_mem hk)
  rw [hz.out, ht] at this
  exact absurd this (by simp)
set_option maxHeartbeats 3200000 in
theorem l3Stmts_any (r : PRow) (p : Prg) (W I T A : Nat) (w : World) (h : ProgAt w r p) (hr : Lim r W I T A) :
    Calls Tryz.prog 109 #[progV r] w fun e w' => e = .returned (.bool (p.body.all (stmtB (2 ^ W) I T A))) ∧ Below w.heap.size w w' := by
  have HX : Hid (∀ (x y : Int) (b1 b2 : Option Addr) (m1 m2 d1 d2 : Nat) (ts us : List Tm) (w' : World), Terms w' b1 m1 ts → Terms w' b2 m2 us → Calls Tryz.prog 153 #[progV r, .agg #[.int .i64 x, .int .i64 y, .slice b1 m1 d1, .slice b2 m2 d2]] w' fun e w'' => e = .returned (.bool (stmtB (2 ^ W) I T A ⟨x, y, ts, us⟩)) ∧ Below w'.heap.size w' w'') :=
    Lib.hid (fun x y b1 b2 m1 m2 d1 d2 ts us w' h1 h2 => l3Stmt_any r W I T A x y b1 b2 m1 m2 d1 d2 ts us w' hr h1 h2)
  have h4 := h.body
  clear h hr
  obtain ⟨wd, ⟨a1, n1, c1⟩, ⟨a2, n2, c2⟩, tp, ⟨a3, n3, c3⟩, ⟨a4, n4, c4⟩, rows⟩ := r
  obtain ⟨pw, pl, ps, pt, pa, pb⟩ := p
  simp only [] at h4
  obtain ⟨f, HF⟩ : ∃ f, Hid (stmtB (2 ^ W) I T A = f) := ⟨_, rfl⟩
  simp only [HF.out] at HX ⊢
  clear HF
  show Calls Tryz.prog 109 #[.agg #[.int .i64 wd, .slice a1 n1 c1, .slice a2 n2 c2, .int .i64 tp, .slice a3 n3 c3, .slice a4 n4 c4]] w _
  have HL := Lib.hid h4.2.1
  have hbd := h4.2.2.1
  obtain ⟨wa, HW⟩ : ∃ wa, Hid (wa = w.alloc (.cells #[.int .i64 wd, .slice a1 n1 c1, .slice a2 n2 c2, .int .i64 tp, .slice a3 n3 c3, .slice a4 n4 c4] 28)) := ⟨_, rfl⟩
  have BX : Blk wa w.heap.size 28 [.int .i64 wd, .slice a1 n1 c1, .slice a2 n2 c2, .int .i64 tp, .slice a3 n3 c3, .slice a4 n4 c4] := by rw [HW.out]; exact Blk.new w _ _
  have HB : Below w.heap.size w wa := by rw [HW.out]; exact (Below.refl _ _).alloc (Nat.le_refl _) _
  go_enter Tryz.func109, Tryz.ntmps109
  go_wp2
  rw [← HW.out]
  go_loopw [3] (fun i wr => ∃ k : Nat, k ≤ n4 ∧ i = .int .i64 (k : Int) ∧ StTo f pb k ∧ Below wa.heap.size wa wr) (fun i _ => n4 - (intOf i).toNat)
  case atStart => exact ⟨0, Nat.zero_le _, rfl, StTo.zero _ _, Below.refl _ _⟩
  case round =>
    obtain ⟨k, hk, rfl, hg, hbl⟩ := hrel
    have hbel := HB.trans (hbl.mono HB.size)
    have B1 := BX.below hbl BX.lt
    have t5 := B1.cell (j := 5) rfl
    by_cases hlt : k < n4
    · obtain ⟨b, o, x, y, p1, m1, d1, p2, m2, d2, ts, us, rfl, hb, hz, hin1, hin2, hc1, hc2, hc3, hc4, hT1, hT2⟩ := (h4.below hbel).at_ hlt
      have f1 := lat_cell hb hc1
      have f2 := lat_cell hb hc2
      have f3 := lat_cell hb hc3
      have f4 := lat_cell hb hc4
      have g0 := lat_cell B1.lt (B1.cell (j := 0) rfl)
      have g1 := lat_cell B1.lt (B1.cell (j := 1) rfl)
      have g2 := lat_cell B1.lt (B1.cell (j := 2) rfl)
      have g3 := lat_cell B1.lt (B1.cell (j := 3) rfl)
      have g4 := lat_cell B1.lt (B1.cell (j := 4) rfl)
      have g5 := lat_cell B1.lt (B1.cell (j := 5) rfl)
      clear hc1 hc2 hc3 hc4
      obtain ⟨q, HQ⟩ : ∃ q, Hid (f ⟨x, y, ts, us⟩ = q) := ⟨_, rfl⟩
      have HC : Hid (∀ p : Lat wr, Calls Tryz.prog 153 #[.agg #[.int .i64 wd, .slice a1 n1 c1, .slice a2 n2 c2, .int .i64 tp, .slice a3 n3 c3, .slice (some ⟨b, o, none⟩) n4 c4], .agg #[.int .i64 x, .int .i64 y, .slice p1 m1 d1, .slice p2 m2 d2]] p.wd fun e w' => e = .returned (.bool q) ∧ Below p.wd.heap.size p.wd w') := Lib.hid (fun p => by
        rw [← HQ.out]; exact HX.out _ _ _ _ _ _ _ _ _ _ _ (hT1.below (Nat.le_refl _) p.ok) (hT2.below (Nat.le_refl _) p.ok))
      clear hT1 hT2
      cases q with
      | true =>
        go_wp2
        refine wp_region_lat (by kernel_rfl) (by kernel_rfl) ?_
        repeat (go_big_quiet_step ((go_at_call 153; exact lat_calls (HC.out _))))
        refine wpQuiet_nil ?_
        intro _ hw'
        obtain ⟨⟨wq, hwq⟩, hw''⟩ := hw'
        subst hw''
        have ht := hbl.trans (hwq.mono hbl.size)
        clear f1 f2 f3 f4 g0 g1 g2 g3 g4 g5 HC t5
        go_wp2
        go_roundw
        case rel => exact ⟨k + 1, by omega, by go_num, hg.succ hz HQ.out, ht⟩
        case measure => simp [intOf]; omega
      | false =>
        go_wp2
        refine wp_region_lat (by kernel_rfl) (by kernel_rfl) ?_
        repeat (go_big_quiet_step ((go_at_call 153; exact lat_calls (HC.out _))))
        refine wpQuiet_nil ?_
        intro _ hw'
        obtain ⟨⟨wq, hwq⟩, hw''⟩ := hw'
        subst hw''
        have ht := hbl.trans (hwq.mono hbl.size)
        have ht2 := HB.trans (ht.mono HB.size)
        clear f1 f2 f3 f4 g0 g1 g2 g3 g4 g5 HC t5
        go_wp2
        go_ret
        exact ⟨ret_bool (st_bad (by rw [HL.out]; exact hlt) hz HQ.out).symm, ht2⟩
    · obtain rfl : n4 = k := by omega
      go_wp2
      go_ret
      exact ⟨ret_bool (stTo_all (by rw [HL.out]; exact hg)).symm, hbel⟩
end Go.Proofs.YtjboghmcmlkpoaaGreatDoor
/- The contracts of the program's countVariables, isTemp, isVariable, isArray, termFits, mayStand, numberOfStmtOk, stmtOk, stmtsOk (written by tools/gen_implstmt.py). -/
namespace Go.Proofs.YtjboghmcmlkpoaaGreatDoor
open Go.RowKit

theorem and_tt {p q : Prop} [Decidable p] [Decidable q] (hp : p) (hq : q) : true = (decide p && decide q) := by rw [decide_eq_true hp, decide_eq_true hq]; rfl
theorem and_ff {p q : Prop} [Decidable p] [Decidable q] (h : ¬ (p ∧ q)) : false = (decide p && decide q) := by
  by_cases hp : p
  · rw [decide_eq_false (fun hq => h ⟨hp, hq⟩), Bool.and_false]
  · rw [decide_eq_false hp]; rfl
/-- A Term that may stand, as the program asks it. -/
def fitB (S V A : Nat) (t : Tm) : Bool :=
  if t.1 = 0 then decide (t.2 ≤ (S : Int) - 1) else if t.1 = 1 then decide (0 ≤ t.2) && decide (t.2 < (V : Int)) else if t.1 = 2 then decide (0 ≤ t.2) && decide (t.2 < (A : Int)) else t.1 != 17
def mayB (S V A : Nat) (ts : List Tm) : Bool := (decide (ts.length ≤ 40) && expB ts) && ts.all (fitB S V A)
theorem expB_each {ts : List Tm} (h : expB ts = true) {t : Tm} (ht : t ∈ ts) : tOkB t = true := by
  obtain ⟨k, hk, rfl⟩ := List.getElem_of_mem ht
  obtain ⟨_, hr⟩ := (expB_iff _).1 h
  obtain ⟨d, hd, _⟩ := runD_take hr k
  have := (runD_at hr hk hd).1
  rwa [tmAt, List.getD_eq_getElem?_getD, List.getElem?_eq_getElem hk] at this
theorem fit_eq {S V A : Nat} {t : Tm} (h : tOkB t = true) : fitB S V A t = ((t.1 != 17) && nameOk S V A t) := by
  have h2 := ((tOkB_iff _).1 h).2.1
  obtain ⟨x, y⟩ := t
  simp only [] at h2
  unfold fitB nameOk
  simp only []
  by_cases h0 : x = 0
  · subst h0; rw [if_pos rfl, if_pos rfl, Bool.eq_iff_iff]; simp; omega
  rw [if_neg h0, if_neg h0]
  by_cases h1 : x = 1
  · subst h1; rw [if_pos rfl, if_pos rfl, Bool.eq_iff_iff]; simp; omega
  rw [if_neg h1, if_neg h1]
  by_cases h2' : x = 2
  · subst h2'; rw [if_pos rfl, if_pos rfl, Bool.eq_iff_iff]; simp; omega
  rw [if_neg h2', if_neg h2', Bool.and_true]
theorem mayB_eq (S V A : Nat) (ts : List Tm) : mayB S V A ts = bodyB S V A ts := by
  unfold mayB bodyB namesB
  cases he : expB ts with
  | false => simp
  | true =>
    have : ts.all (fitB S V A) = (ts.all (fun t => t.1 != 17) && ts.all (nameOk S V A)) := by
      rw [Bool.eq_iff_iff]
      simp only [Bool.and_eq_true, List.all_eq_true]
      constructor
      · intro h
        exact ⟨fun t ht => by have := h t ht; rw [fit_eq (expB_each he ht), Bool.and_eq_true] at this; exact this.1, fun t ht => by have := h t ht; rw [fit_eq (expB_each he ht), Bool.and_eq_true] at this; exact this.2⟩
      · intro h t ht
        rw [fit_eq (expB_each he ht), Bool.and_eq_true]
        exact ⟨h.1 t ht, h.2 t ht⟩
    rw [this]
    cases decide (ts.length ≤ 40) <;> simp
theorem body_pos {S V A : Nat} {ts : List Tm} (h : bodyB S V A ts = true) : 0 < ts.length := by
  rcases Nat.eq_zero_or_pos ts.length with h0 | h0
  · have : ts = [] := List.eq_nil_of_length_eq_zero h0
    subst this
    simp [bodyB, namesB, expB, runD] at h
  · exact h0
/-- A right statement, as the program asks it. -/
def stmtI (S I T A : Nat) (s : Stm) : Bool :=
  ((decide (0 ≤ s.op) && decide (s.op ≤ 9)) && numOk I T A s.op s.n) &&
  (if s.op = 1 then bodyB S (I + T) A s.at_ && bodyB S (I + T) A s.exp
   else if s.op = 0 ∨ s.op = 2 ∨ s.op = 6 then decide (s.at_.length = 0) && bodyB S (I + T) A s.exp
   else decide (s.at_.length = 0) && decide (s.exp.length = 0))
theorem stmtI_eq (S I T A : Nat) (s : Stm) : stmtI S I T A s = stmtB S I T A s := by
  obtain ⟨x, y, ts, us⟩ := s
  unfold stmtI stmtB
  simp only []
  cases hin : (decide (0 ≤ x) && decide (x ≤ 9)) with
  | false => simp
  | true =>
  cases hn : numOk I T A x y with
  | false => simp
  | true =>
  by_cases h1 : x = 1
  · subst h1
    rw [if_pos rfl, show bears 1 = true from rfl]
    cases ha : bodyB S (I + T) A ts with
    | false => simp
    | true => cases hb : bodyB S (I + T) A us with
      | false => simp
      | true => simp [body_pos ha, body_pos hb]
  rw [if_neg h1]
  have k1 : (x == 1) = false := by simpa using h1
  by_cases h2 : x = 0 ∨ x = 2 ∨ x = 6
  · rw [if_pos h2, show bears x = true by rcases h2 with rfl | rfl | rfl <;> rfl, k1]
    cases hb : bodyB S (I + T) A us with
    | false => simp
    | true =>
      rw [Bool.eq_iff_iff]
      simp [body_pos hb]
  rw [if_neg h2, show bears x = false by simp only [bears, Bool.or_eq_false_iff, beq_eq_false_iff_ne]; omega, k1]
  rw [Bool.eq_iff_iff]
  simp
  constructor
  · rintro ⟨h1, h2⟩; exact ⟨h2, h1⟩
  · rintro ⟨h1, h2⟩; exact ⟨h2, h1⟩

theorem firstTemp_lim (r : PRow) (W I T A : Nat) (w : World) (hr : Lim r W I T A) : Calls Tryz.prog 187 #[progV r] w fun e w' => e = .returned (.int .i64 (I : Int)) ∧ Below w.heap.size w w' := by
  refine (firstTemp_any r w (by have := hr.inputs; have := hr.few; omega) (by have := hr.inputs; have := hr.few; omega)).mono fun e w' ⟨he, hb⟩ => ⟨?_, hb⟩
  rw [he]
  exact ret_int (by have := hr.inputs; omega)
set_option maxHeartbeats 800000 in
theorem countVariables_any (r : PRow) (W I T A : Nat) (w : World) (hr : Lim r W I T A) : Calls Tryz.prog 196 #[progV r] w fun e w' => e = .returned (.int .i64 ((I + T : Nat) : Int)) ∧ Below w.heap.size w w' := by
  have HF : Hid (∀ w' : World, Calls Tryz.prog 187 #[progV r] w' fun e w'' => e = .returned (.int .i64 (I : Int)) ∧ Below w'.heap.size w' w'') := Lib.hid (fun w' => firstTemp_lim r W I T A w' hr)
  have e1 := hr.inputs
  have e2 := hr.temps
  have e3 := hr.arrays
  have hI := hr.few
  have hT := hr.fewT
  have hA := hr.fewA
  obtain ⟨wd, ⟨a1, n1, c1⟩, ⟨a2, n2, c2⟩, tp, ⟨a3, n3, c3⟩, ⟨a4, n4, c4⟩, rows⟩ := r
  simp only [] at e1 e2 e3
  subst e2 e3
  show Calls Tryz.prog 196 #[.agg #[.int .i64 wd, .slice a1 n1 c1, .slice a2 n2 c2, .int .i64 (T : Int), .slice a3 n3 c3, .slice a4 n4 c4]] w _
  obtain ⟨wa, HW⟩ : ∃ wa, Hid (wa = w.alloc (.cells #[.int .i64 wd, .slice a1 n1 c1, .slice a2 n2 c2, .int .i64 (T : Int), .slice a3 n3 c3, .slice a4 n4 c4] 28)) := ⟨_, rfl⟩
  have B0 : Blk wa w.heap.size 28 [.int .i64 wd, .slice a1 n1 c1, .slice a2 n2 c2, .int .i64 (T : Int), .slice a3 n3 c3, .slice a4 n4 c4] := by rw [HW.out]; exact Blk.new w _ _
  have HB : Below w.heap.size w wa := by rw [HW.out]; exact (Below.refl _ _).alloc (Nat.le_refl _) _
  clear hr
  have g0 := lat_cell B0.lt (B0.cell (j := 0) rfl)
  have g1 := lat_cell B0.lt (B0.cell (j := 1) rfl)
  have g2 := lat_cell B0.lt (B0.cell (j := 2) rfl)
  have g3 := lat_cell B0.lt (B0.cell (j := 3) rfl)
  have g4 := lat_cell B0.lt (B0.cell (j := 4) rfl)
  have g5 := lat_cell B0.lt (B0.cell (j := 5) rfl)
  have HC1 : Hid (∀ p : Lat wa, Calls Tryz.prog 187 #[.agg #[.int .i64 wd, .slice a1 n1 c1, .slice a2 n2 c2, .int .i64 (T : Int), .slice a3 n3 c3, .slice a4 n4 c4]] p.wd fun e w' => e = .returned (.int .i64 (I : Int)) ∧ Below p.wd.heap.size p.wd w') := Lib.hid (fun p => HF.out p.wd)
  go_enter Tryz.func196, Tryz.ntmps196
  go_wp2
  rw [← HW.out]
  refine wp_region_lat (by kernel_rfl) (by kernel_rfl) ?_
  repeat (go_big_quiet_step ((go_at_call 187; exact lat_calls (HC1.out _))))
  refine wpQuiet_nil ?_
  intro _ hw'
  obtain ⟨⟨wq, hwq⟩, hw''⟩ := hw'
  subst hw''
  have ht := HB.trans (hwq.mono HB.size)
  clear g0 g1 g2 g3 g4 g5 HC1
  go_wp2
  go_ret
  exact ⟨ret_int (by omega), ht⟩
set_option maxHeartbeats 800000 in
theorem isTemp_any (r : PRow) (W I T A : Nat) (z : Int) (w : World) (hr : Lim r W I T A) : Calls Tryz.prog 189 #[progV r, .int .i64 z] w fun e w' => e = .returned (.bool (decide ((I : Int) ≤ z) && decide (z ≤ (I : Int) + (T : Int) - 1))) ∧ Below w.heap.size w w' := by
  have HF : Hid (∀ w' : World, Calls Tryz.prog 187 #[progV r] w' fun e w'' => e = .returned (.int .i64 (I : Int)) ∧ Below w'.heap.size w' w'') := Lib.hid (fun w' => firstTemp_lim r W I T A w' hr)
  have HV : Hid (∀ w' : World, Calls Tryz.prog 196 #[progV r] w' fun e w'' => e = .returned (.int .i64 ((I + T : Nat) : Int)) ∧ Below w'.heap.size w' w'') := Lib.hid (fun w' => countVariables_any r W I T A w' hr)
  have e1 := hr.inputs
  have e2 := hr.temps
  have e3 := hr.arrays
  have hI := hr.few
  have hT := hr.fewT
  have hA := hr.fewA
  obtain ⟨wd, ⟨a1, n1, c1⟩, ⟨a2, n2, c2⟩, tp, ⟨a3, n3, c3⟩, ⟨a4, n4, c4⟩, rows⟩ := r
  simp only [] at e1 e2 e3
  subst e2 e3
  show Calls Tryz.prog 189 #[.agg #[.int .i64 wd, .slice a1 n1 c1, .slice a2 n2 c2, .int .i64 (T : Int), .slice a3 n3 c3, .slice a4 n4 c4], .int .i64 z] w _
  obtain ⟨wa, HW⟩ : ∃ wa, Hid (wa = w.alloc (.cells #[.int .i64 wd, .slice a1 n1 c1, .slice a2 n2 c2, .int .i64 (T : Int), .slice a3 n3 c3, .slice a4 n4 c4] 28)) := ⟨_, rfl⟩
  have B0 : Blk wa w.heap.size 28 [.int .i64 wd, .slice a1 n1 c1, .slice a2 n2 c2, .int .i64 (T : Int), .slice a3 n3 c3, .slice a4 n4 c4] := by rw [HW.out]; exact Blk.new w _ _
  have HB : Below w.heap.size w wa := by rw [HW.out]; exact (Below.refl _ _).alloc (Nat.le_refl _) _
  clear hr
  obtain ⟨V, HVV⟩ : ∃ V : Nat, Hid (I + T = V) := ⟨_, rfl⟩
  simp only [HVV.out] at HV
  go_enter Tryz.func189, Tryz.ntmps189
  go_wp2_with fail
  rw [← HW.out]
  refine (HF.out _).mono ?_
  rintro e w1 ⟨rfl, hb1⟩
  have B0 := B0.below hb1 B0.lt
  have HB := HB.trans (hb1.mono HB.size)
  clear hb1 HW
  have t0 := B0.cell (j := 0) rfl
  have t1 := B0.cell (j := 1) rfl
  have t2 := B0.cell (j := 2) rfl
  have t3 := B0.cell (j := 3) rfl
  have t4 := B0.cell (j := 4) rfl
  have t5 := B0.cell (j := 5) rfl
  by_cases h1 : (I : Int) ≤ z
  · go_wp2_with fail
    refine (HV.out _).mono ?_
    rintro e w2 ⟨rfl, hb2⟩
    have HB := HB.trans (hb2.mono HB.size)
    clear t0 t1 t2 t3 t4 t5
    by_cases h2 : z < (V : Int)
    · go_wp2
      go_ret
      exact ⟨ret_bool (by have hv := HVV.out; rw [Bool.eq_iff_iff]; simp <;> omega), HB⟩
    · go_wp2
      go_ret
      exact ⟨ret_bool (by have hv := HVV.out; rw [Bool.eq_iff_iff]; simp <;> omega), HB⟩
  · go_wp2
    go_ret
    exact ⟨ret_bool (by rw [Bool.eq_iff_iff]; simp <;> omega), HB⟩
set_option maxHeartbeats 800000 in
theorem isVariable_any (r : PRow) (W I T A : Nat) (z : Int) (w : World) (hr : Lim r W I T A) : Calls Tryz.prog 173 #[progV r, .int .i64 z] w fun e w' => e = .returned (.bool (decide (0 ≤ z) && decide (z < ((I + T : Nat) : Int)))) ∧ Below w.heap.size w w' := by
  have HV : Hid (∀ w' : World, Calls Tryz.prog 196 #[progV r] w' fun e w'' => e = .returned (.int .i64 ((I + T : Nat) : Int)) ∧ Below w'.heap.size w' w'') := Lib.hid (fun w' => countVariables_any r W I T A w' hr)
  have e1 := hr.inputs
  have e2 := hr.temps
  have e3 := hr.arrays
  have hI := hr.few
  have hT := hr.fewT
  have hA := hr.fewA
  obtain ⟨wd, ⟨a1, n1, c1⟩, ⟨a2, n2, c2⟩, tp, ⟨a3, n3, c3⟩, ⟨a4, n4, c4⟩, rows⟩ := r
  simp only [] at e1 e2 e3
  subst e2 e3
  show Calls Tryz.prog 173 #[.agg #[.int .i64 wd, .slice a1 n1 c1, .slice a2 n2 c2, .int .i64 (T : Int), .slice a3 n3 c3, .slice a4 n4 c4], .int .i64 z] w _
  obtain ⟨wa, HW⟩ : ∃ wa, Hid (wa = w.alloc (.cells #[.int .i64 wd, .slice a1 n1 c1, .slice a2 n2 c2, .int .i64 (T : Int), .slice a3 n3 c3, .slice a4 n4 c4] 28)) := ⟨_, rfl⟩
  have B0 : Blk wa w.heap.size 28 [.int .i64 wd, .slice a1 n1 c1, .slice a2 n2 c2, .int .i64 (T : Int), .slice a3 n3 c3, .slice a4 n4 c4] := by rw [HW.out]; exact Blk.new w _ _
  have HB : Below w.heap.size w wa := by rw [HW.out]; exact (Below.refl _ _).alloc (Nat.le_refl _) _
  clear hr
  obtain ⟨V, HVV⟩ : ∃ V : Nat, Hid (I + T = V) := ⟨_, rfl⟩
  simp only [HVV.out] at HV ⊢
  by_cases h1 : 0 ≤ z
  · go_enter Tryz.func173, Tryz.ntmps173
    go_wp2_with fail
    rw [← HW.out]
    refine (HV.out _).mono ?_
    rintro e w2 ⟨rfl, hb2⟩
    have HB := HB.trans (hb2.mono HB.size)
    by_cases h2 : z < (V : Int)
    · go_wp2
      go_ret
      exact ⟨ret_bool (by rw [Bool.eq_iff_iff]; simp <;> omega), HB⟩
    · go_wp2
      go_ret
      exact ⟨ret_bool (by rw [Bool.eq_iff_iff]; simp <;> omega), HB⟩
  · go_enter Tryz.func173, Tryz.ntmps173
    go_wp2
    rw [← HW.out]
    go_ret
    exact ⟨ret_bool (by rw [Bool.eq_iff_iff]; simp <;> omega), HB⟩
set_option maxHeartbeats 800000 in
theorem isArray_any (r : PRow) (W I T A : Nat) (z : Int) (w : World) (hr : Lim r W I T A) : Calls Tryz.prog 174 #[progV r, .int .i64 z] w fun e w' => e = .returned (.bool (decide (0 ≤ z) && decide (z < (A : Int)))) ∧ Below w.heap.size w w' := by
  have e1 := hr.inputs
  have e2 := hr.temps
  have e3 := hr.arrays
  have hI := hr.few
  have hT := hr.fewT
  have hA := hr.fewA
  obtain ⟨wd, ⟨a1, n1, c1⟩, ⟨a2, n2, c2⟩, tp, ⟨a3, n3, c3⟩, ⟨a4, n4, c4⟩, rows⟩ := r
  simp only [] at e1 e2 e3
  subst e2 e3
  show Calls Tryz.prog 174 #[.agg #[.int .i64 wd, .slice a1 n1 c1, .slice a2 n2 c2, .int .i64 (T : Int), .slice a3 n3 c3, .slice a4 n4 c4], .int .i64 z] w _
  have HB : Below w.heap.size w (w.alloc (.cells #[.int .i64 wd, .slice a1 n1 c1, .slice a2 n2 c2, .int .i64 (T : Int), .slice a3 n3 c3, .slice a4 n4 c4] 28)) := (Below.refl _ _).alloc (Nat.le_refl _) _
  clear hr
  by_cases h1 : 0 ≤ z
  · by_cases h2 : z < (n3 : Int)
    · go_enter Tryz.func174, Tryz.ntmps174
      go_wp2
      go_ret
      exact ⟨ret_bool (by rw [Bool.eq_iff_iff]; simp <;> omega), HB⟩
    · go_enter Tryz.func174, Tryz.ntmps174
      go_wp2
      go_ret
      exact ⟨ret_bool (by rw [Bool.eq_iff_iff]; simp <;> omega), HB⟩
  · go_enter Tryz.func174, Tryz.ntmps174
    go_wp2
    go_ret
    exact ⟨ret_bool (by rw [Bool.eq_iff_iff]; simp <;> omega), HB⟩
end Go.Proofs.YtjboghmcmlkpoaaGreatDoor
