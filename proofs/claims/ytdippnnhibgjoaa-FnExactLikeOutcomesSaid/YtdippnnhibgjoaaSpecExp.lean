/- The contracts of the model's l3Names and l3Exp. -/
import Derived.Test.YtdippnnhibgjoaaSpecInputs
import Derived.Test.YtdippnnhibgjoaaTerm
namespace Go.Proofs.Ytdippnnhibgjoaa
open Go.RowKit

/-- What a program's head allows: its width, its inputs, its temporaries, its arrays. -/
structure Lim (r : PRow) (W I T A : Nat) : Prop where
  width : r.width = (W : Int)
  small : W ≤ 8
  inputs : r.lows.2.1 + r.secrets.2.1 = I
  few : I ≤ 1048576
  temps : r.temps = (T : Int)
  fewT : T ≤ 1048576
  arrays : r.arrays.2.1 = A
  fewA : A ≤ 1048576
/-- A Term names what there is: S values, V variables, A arrays. -/
def nameOk (S V A : Nat) (t : Tm) : Bool :=
  if t.1 = 0 then decide (t.2 < (S : Int)) else if t.1 = 1 then decide (t.2 < (V : Int)) else if t.1 = 2 then decide (t.2 < (A : Int)) else true
def namesB (S V A : Nat) (ts : List Tm) : Bool := expB ts && ts.all (nameOk S V A)
def bodyB (S V A : Nat) (ts : List Tm) : Bool := ts.all (fun t => t.1 != 17) && (decide (ts.length ≤ 40) && namesB S V A ts)
def AllTo (f : Tm → Bool) (ts : List Tm) (k : Nat) : Prop := ∀ i, i < k → f (tmAt ts i) = true
theorem AllTo.zero (f : Tm → Bool) (ts : List Tm) : AllTo f ts 0 := fun i hi => absurd hi (by omega)
theorem AllTo.succ {f : Tm → Bool} {ts : List Tm} {k : Nat} {t : Tm} (h : AllTo f ts k) (hz : Hid (tmAt ts k = t)) (ht : f t = true) : AllTo f ts (k + 1) := by
  intro i hi
  rcases Nat.lt_or_ge i k with hlt | hge
  · exact h i hlt
  · have : i = k := by omega
    subst this; rw [hz.out]; exact ht
theorem allTo_all {f : Tm → Bool} {ts : List Tm} (h : AllTo f ts ts.length) : ts.all f = true := by
  rw [List.all_eq_true]
  intro z hz
  obtain ⟨i, hi, rfl⟩ := List.getElem_of_mem hz
  have := h i hi
  rw [tmAt, List.getD_eq_getElem?_getD, List.getElem?_eq_getElem hi] at this
  simpa using this
theorem all_bad {f : Tm → Bool} {ts : List Tm} {k : Nat} {t : Tm} (hk : k < ts.length) (hz : Hid (tmAt ts k = t)) (ht : f t = false) : ts.all f = false := by
  rw [← Bool.not_eq_true, List.all_eq_true]
  intro h
  have := h _ (tmAt_mem hk)
  rw [hz.out, ht] at this
  exact absurd this (by simp)

set_option maxHeartbeats 3200000 in
theorem l3Names_any (r : PRow) (W I T A : Nat) (a : Option Addr) (n c : Nat) (ts : List Tm) (w : World) (hr : Lim r W I T A) (h : Terms w a n ts) :
    Calls Try.prog 113 #[progV r, .slice a n c] w fun e w' => e = .returned (.bool (namesB (2 ^ W) (I + T) A ts)) ∧ Below w.heap.size w w' := by
  have HC0 : Hid (∀ w' : World, Calls Try.prog 82 #[progV r] w' fun e w'' => e = .returned (.int .i64 ((2 ^ W : Nat) : Int)) ∧ Below w'.heap.size w' w'') := Lib.hid (fun w' => l3Size_any r W w' hr.width hr.small)
  have HV0 : Hid (∀ w' : World, Calls Try.prog 122 #[progV r] w' fun e w'' => e = .returned (.int .i64 ((I + T : Nat) : Int)) ∧ Below w'.heap.size w' w'') := Lib.hid (fun w' => by
    have q := l3Vars_any r w' (by have := hr.inputs; have := hr.few; omega) (by have := hr.inputs; have := hr.few; omega) (by rw [hr.temps]; omega) (by rw [hr.temps]; have := hr.fewT; omega)
    refine q.mono fun e w'' ⟨he, hb⟩ => ⟨?_, hb⟩
    rw [he]
    exact ret_int (by have := hr.inputs; rw [hr.temps]; omega))
  have hA := hr.arrays
  have hfA := hr.fewA
  have hI := hr.few
  have hT := hr.fewT
  have h8 := hr.small
  obtain ⟨wd, ⟨a1, n1, c1⟩, ⟨a2, n2, c2⟩, tp, ⟨a3, n3, c3⟩, ⟨a4, n4, c4⟩, rows⟩ := r
  simp only [] at hA
  subst hA
  clear hr
  have hS : 2 ^ W ≤ 2 ^ 8 := Nat.pow_le_pow_right (by omega) h8
  obtain ⟨S, HS⟩ : ∃ S : Nat, Hid (2 ^ W = S) := ⟨_, Lib.hid rfl⟩
  obtain ⟨V, HV⟩ : ∃ V : Nat, Hid (I + T = V) := ⟨_, Lib.hid rfl⟩
  have hV : V ≤ 2097152 := by have := HV.out; omega
  simp only [HS.out, HV.out] at hS HC0 HV0 ⊢
  clear HS h8 HV hI hT
  show Calls Try.prog 113 #[.agg #[.int .i64 wd, .slice a1 n1 c1, .slice a2 n2 c2, .int .i64 tp, .slice a3 n3 c3, .slice a4 n4 c4], .slice a n c] w _
  have HL := Lib.hid h.1
  have hbd := h.2.1
  obtain ⟨wa, HW⟩ : ∃ wa, Hid (wa = w.alloc (.cells #[.int .i64 wd, .slice a1 n1 c1, .slice a2 n2 c2, .int .i64 tp, .slice a3 n3 c3, .slice a4 n4 c4] 31)) := ⟨_, rfl⟩
  have BX : Blk wa w.heap.size 31 [.int .i64 wd, .slice a1 n1 c1, .slice a2 n2 c2, .int .i64 tp, .slice a3 n3 c3, .slice a4 n4 c4] := by rw [HW.out]; exact Blk.new w _ _
  have HB : Below w.heap.size w wa := by rw [HW.out]; exact (Below.refl _ _).alloc (Nat.le_refl _) _
  go_enter Try.func113, Try.ntmps113
  go_wp2_with fail
  rw [← HW.out]
  refine (specExpOk_any _ _ _ _ _ (h.below (Nat.le_refl _) HB)).mono ?_
  rintro e wb ⟨rfl, hbb⟩
  have HBB := HB.trans (hbb.mono HB.size)
  have BX := BX.below hbb BX.lt
  clear HW
  obtain ⟨E, HE⟩ : ∃ E, Hid (expB ts = E) := ⟨_, rfl⟩
  rw [HE.out]
  cases E with
  | false =>
    go_wp2
    go_ret
    exact ⟨ret_bool (by unfold namesB; rw [HE.out]; rfl), HBB⟩
  | true =>
  go_wp2
  go_loopw [5] (fun i wr => ∃ k : Nat, k ≤ n ∧ i = .int .i64 (k : Int) ∧ AllTo (nameOk S V n3) ts k ∧ Below wb.heap.size wb wr) (fun i _ => n - (intOf i).toNat)
  case atStart => exact ⟨0, Nat.zero_le _, rfl, AllTo.zero _ _, Below.refl _ _⟩
  case round =>
    obtain ⟨k, hk, rfl, hg, hbl⟩ := hrel
    have hbel := HBB.trans (hbl.mono HBB.size)
    have B1 := BX.below hbl BX.lt
    by_cases hlt : k < n
    · obtain ⟨b, o, x, y, rfl, hb, hz, hin1, hin2, hc1, hc2⟩ := (h.below (Nat.le_refl _) hbel).at_ hlt
      by_cases hx : x = 0
      · subst hx
        have f1 := lat_cell hb hc1
        have f2 := lat_cell hb hc2
        have g0 := lat_cell B1.lt (B1.cell (j := 0) rfl)
        have g1 := lat_cell B1.lt (B1.cell (j := 1) rfl)
        have g2 := lat_cell B1.lt (B1.cell (j := 2) rfl)
        have g3 := lat_cell B1.lt (B1.cell (j := 3) rfl)
        have g4 := lat_cell B1.lt (B1.cell (j := 4) rfl)
        have g5 := lat_cell B1.lt (B1.cell (j := 5) rfl)
        have HC1 : Hid (∀ p : Lat wr, Calls Try.prog 82 #[.agg #[.int .i64 wd, .slice a1 n1 c1, .slice a2 n2 c2, .int .i64 tp, .slice a3 n3 c3, .slice a4 n4 c4]] p.wd fun e w' => e = .returned (.int .i64 (S : Int)) ∧ Below p.wd.heap.size p.wd w') := Lib.hid (fun p => HC0.out p.wd)
        by_cases hy : y < (S : Int)
        · have hd : decide (y ≥ (S : Int)) = false := by simp; omega
          have HF := Lib.hid (show nameOk S V n3 (0, y) = true by unfold nameOk; rw [if_pos rfl]; exact decide_eq_true hy)
          go_wp2
          refine wp_region_lat (by kernel_rfl) (by kernel_rfl) ?_
          repeat (go_big_quiet_step ((go_at_call 82; exact lat_calls (HC1.out _))))
          refine wpQuiet_nil ?_
          intro _ hw'
          obtain ⟨⟨wq, hwq⟩, hw''⟩ := hw'
          subst hw''
          have ht := hbl.trans (hwq.mono hbl.size)
          have ht2 := HBB.trans (ht.mono HBB.size)
          clear f1 f2 g0 g1 g2 g3 g4 g5 HC1
          go_wp2
          go_roundw
          case rel => exact ⟨k + 1, by omega, by go_num, hg.succ hz HF.out, ht⟩
          case measure => simp [intOf]; omega
        · have hd : decide (y ≥ (S : Int)) = true := by simp; omega
          have HF := Lib.hid (show nameOk S V n3 (0, y) = false by unfold nameOk; rw [if_pos rfl]; exact decide_eq_false hy)
          go_wp2
          refine wp_region_lat (by kernel_rfl) (by kernel_rfl) ?_
          repeat (go_big_quiet_step ((go_at_call 82; exact lat_calls (HC1.out _))))
          refine wpQuiet_nil ?_
          intro _ hw'
          obtain ⟨⟨wq, hwq⟩, hw''⟩ := hw'
          subst hw''
          have ht := hbl.trans (hwq.mono hbl.size)
          have ht2 := HBB.trans (ht.mono HBB.size)
          clear f1 f2 g0 g1 g2 g3 g4 g5 HC1
          go_wp2
          go_ret
          exact ⟨ret_bool (by unfold namesB; rw [all_bad (by rw [HL.out]; exact hlt) hz HF.out, Bool.and_false]), ht2⟩
      by_cases hx1 : x = 1
      · clear hx
        have hx := hx1
        clear hx1
        subst hx
        have n0 : ((1 : Int) == 0) = false := rfl
        have f1 := lat_cell hb hc1
        have f2 := lat_cell hb hc2
        have g0 := lat_cell B1.lt (B1.cell (j := 0) rfl)
        have g1 := lat_cell B1.lt (B1.cell (j := 1) rfl)
        have g2 := lat_cell B1.lt (B1.cell (j := 2) rfl)
        have g3 := lat_cell B1.lt (B1.cell (j := 3) rfl)
        have g4 := lat_cell B1.lt (B1.cell (j := 4) rfl)
        have g5 := lat_cell B1.lt (B1.cell (j := 5) rfl)
        have HC1 : Hid (∀ p : Lat wr, Calls Try.prog 122 #[.agg #[.int .i64 wd, .slice a1 n1 c1, .slice a2 n2 c2, .int .i64 tp, .slice a3 n3 c3, .slice a4 n4 c4]] p.wd fun e w' => e = .returned (.int .i64 (V : Int)) ∧ Below p.wd.heap.size p.wd w') := Lib.hid (fun p => HV0.out p.wd)
        by_cases hy : y < (V : Int)
        · have hd : decide (y ≥ (V : Int)) = false := by simp; omega
          have HF := Lib.hid (show nameOk S V n3 (1, y) = true by unfold nameOk; rw [if_neg (by simp), if_pos rfl]; exact decide_eq_true hy)
          go_wp2
          refine wp_region_lat (by kernel_rfl) (by kernel_rfl) ?_
          repeat (go_big_quiet_step ((go_at_call 122; exact lat_calls (HC1.out _))))
          refine wpQuiet_nil ?_
          intro _ hw'
          obtain ⟨⟨wq, hwq⟩, hw''⟩ := hw'
          subst hw''
          have ht := hbl.trans (hwq.mono hbl.size)
          have ht2 := HBB.trans (ht.mono HBB.size)
          clear f1 f2 g0 g1 g2 g3 g4 g5 HC1
          go_wp2
          go_roundw
          case rel => exact ⟨k + 1, by omega, by go_num, hg.succ hz HF.out, ht⟩
          case measure => simp [intOf]; omega
        · have hd : decide (y ≥ (V : Int)) = true := by simp; omega
          have HF := Lib.hid (show nameOk S V n3 (1, y) = false by unfold nameOk; rw [if_neg (by simp), if_pos rfl]; exact decide_eq_false hy)
          go_wp2
          refine wp_region_lat (by kernel_rfl) (by kernel_rfl) ?_
          repeat (go_big_quiet_step ((go_at_call 122; exact lat_calls (HC1.out _))))
          refine wpQuiet_nil ?_
          intro _ hw'
          obtain ⟨⟨wq, hwq⟩, hw''⟩ := hw'
          subst hw''
          have ht := hbl.trans (hwq.mono hbl.size)
          have ht2 := HBB.trans (ht.mono HBB.size)
          clear f1 f2 g0 g1 g2 g3 g4 g5 HC1
          go_wp2
          go_ret
          exact ⟨ret_bool (by unfold namesB; rw [all_bad (by rw [HL.out]; exact hlt) hz HF.out, Bool.and_false]), ht2⟩
      by_cases hx2 : x = 2
      · clear hx hx1
        have hx := hx2
        clear hx2
        subst hx
        have n0 : ((2 : Int) == 0) = false := rfl
        have n1 : ((2 : Int) == 1) = false := rfl
        have f1 := lat_cell hb hc1
        have f2 := lat_cell hb hc2
        have g0 := lat_cell B1.lt (B1.cell (j := 0) rfl)
        have g1 := lat_cell B1.lt (B1.cell (j := 1) rfl)
        have g2 := lat_cell B1.lt (B1.cell (j := 2) rfl)
        have g3 := lat_cell B1.lt (B1.cell (j := 3) rfl)
        have g4 := lat_cell B1.lt (B1.cell (j := 4) rfl)
        have g5 := lat_cell B1.lt (B1.cell (j := 5) rfl)
        by_cases hy : y < (n3 : Int)
        · have hd : decide (y ≥ (n3 : Int)) = false := by simp; omega
          have HF := Lib.hid (show nameOk S V n3 (2, y) = true by unfold nameOk; rw [if_neg (by simp), if_neg (by simp), if_pos rfl]; exact decide_eq_true hy)
          go_wp2
          refine wp_region_lat (by kernel_rfl) (by kernel_rfl) ?_
          repeat (go_big_quiet_step ((fail)))
          refine wpQuiet_nil ?_
          intro _ hw'
          obtain ⟨⟨wq, hwq⟩, hw''⟩ := hw'
          subst hw''
          have ht := hbl.trans (hwq.mono hbl.size)
          have ht2 := HBB.trans (ht.mono HBB.size)
          clear f1 f2 g0 g1 g2 g3 g4 g5
          go_wp2
          go_roundw
          case rel => exact ⟨k + 1, by omega, by go_num, hg.succ hz HF.out, ht⟩
          case measure => simp [intOf]; omega
        · have hd : decide (y ≥ (n3 : Int)) = true := by simp; omega
          have HF := Lib.hid (show nameOk S V n3 (2, y) = false by unfold nameOk; rw [if_neg (by simp), if_neg (by simp), if_pos rfl]; exact decide_eq_false hy)
          go_wp2
          refine wp_region_lat (by kernel_rfl) (by kernel_rfl) ?_
          repeat (go_big_quiet_step ((fail)))
          refine wpQuiet_nil ?_
          intro _ hw'
          obtain ⟨⟨wq, hwq⟩, hw''⟩ := hw'
          subst hw''
          have ht := hbl.trans (hwq.mono hbl.size)
          have ht2 := HBB.trans (ht.mono HBB.size)
          clear f1 f2 g0 g1 g2 g3 g4 g5
          go_wp2
          go_ret
          exact ⟨ret_bool (by unfold namesB; rw [all_bad (by rw [HL.out]; exact hlt) hz HF.out, Bool.and_false]), ht2⟩
      have n0 : (x == 0) = false := by simpa using hx
      have n1 : (x == 1) = false := by simpa using hx1
      have n2 : (x == 2) = false := by simpa using hx2
      have HF := Lib.hid (show nameOk S V n3 (x, y) = true by unfold nameOk; rw [if_neg hx, if_neg hx1, if_neg hx2])
      clear hc2
      go_wp2
      go_roundw
      case rel => exact ⟨k + 1, by omega, by go_num, hg.succ hz HF.out, hbl⟩
      case measure => simp [intOf]; omega
    · obtain rfl : n = k := by omega
      go_wp2
      go_ret
      exact ⟨ret_bool (by unfold namesB; rw [HE.out, allTo_all (by rw [HL.out]; exact hg)]; rfl), hbel⟩
set_option maxHeartbeats 1600000 in
theorem l3Exp_any (r : PRow) (W I T A : Nat) (a : Option Addr) (n c : Nat) (ts : List Tm) (w : World) (hr : Lim r W I T A) (h : Terms w a n ts) :
    Calls Try.prog 101 #[progV r, .slice a n c] w fun e w' => e = .returned (.bool (bodyB (2 ^ W) (I + T) A ts)) ∧ Below w.heap.size w w' := by
  have HN0 : Hid (∀ w' : World, Terms w' a n ts → Calls Try.prog 113 #[progV r, .slice a n c] w' fun e w'' => e = .returned (.bool (namesB (2 ^ W) (I + T) A ts)) ∧ Below w'.heap.size w' w'') := Lib.hid (fun w' h' => l3Names_any r W I T A a n c ts w' hr h')
  obtain ⟨wd, ⟨a1, n1, c1⟩, ⟨a2, n2, c2⟩, tp, ⟨a3, n3, c3⟩, ⟨a4, n4, c4⟩, rows⟩ := r
  clear hr
  obtain ⟨E, HE⟩ : ∃ E, Hid (namesB (2 ^ W) (I + T) A ts = E) := ⟨_, rfl⟩
  obtain ⟨F, HF⟩ : ∃ F, Hid (bodyB (2 ^ W) (I + T) A ts = F) := ⟨_, rfl⟩
  have hF : F = (ts.all (fun t => t.1 != 17) && (decide (n ≤ 40) && E)) := by rw [← HF.out, ← HE.out, bodyB, h.1]
  have HFF := Lib.hid hF
  simp only [HE.out, HF.out] at HN0 ⊢
  clear hF HE HF
  show Calls Try.prog 101 #[.agg #[.int .i64 wd, .slice a1 n1 c1, .slice a2 n2 c2, .int .i64 tp, .slice a3 n3 c3, .slice a4 n4 c4], .slice a n c] w _
  have HN1 : Hid (∀ w' : World, Terms w' a n ts → Calls Try.prog 113 #[.agg #[.int .i64 wd, .slice a1 n1 c1, .slice a2 n2 c2, .int .i64 tp, .slice a3 n3 c3, .slice a4 n4 c4], .slice a n c] w' fun e w'' => e = .returned (.bool E) ∧ Below w'.heap.size w' w'') := HN0
  clear HN0
  have HL := Lib.hid h.1
  have hbd := h.2.1
  have HB : Below w.heap.size w (w.alloc (.cells #[.int .i64 wd, .slice a1 n1 c1, .slice a2 n2 c2, .int .i64 tp, .slice a3 n3 c3, .slice a4 n4 c4] 31)) := (Below.refl _ _).alloc (Nat.le_refl _) _
  have HT := Lib.hid (h.below (Nat.le_refl _) HB)
  clear h
  go_enter Try.func101, Try.ntmps101
  go_wp2
  go_loop [5] (fun i => ∃ k : Nat, k ≤ n ∧ i = .int .i64 (k : Int) ∧ AllTo (fun t => t.1 != 17) ts k) (fun i => n - (intOf i).toNat)
  case atStart => exact ⟨0, Nat.zero_le _, rfl, AllTo.zero _ _⟩
  case round =>
    obtain ⟨k, hk, rfl, hg⟩ := hrel
    by_cases hlt : k < n
    · obtain ⟨b, o, x, y, rfl, hb, hz, hin1, hin2, hc1, hc2⟩ := HT.out.at_ hlt
      clear hc2
      by_cases hx : x = 17
      · have hne : (x == 17) = true := by simpa using hx
        have HQ := Lib.hid (show (fun t : Tm => t.1 != 17) (x, y) = false by simp [hx])
        clear hx
        go_wp2
        go_ret
        exact ⟨ret_bool (by rw [HFF.out, all_bad (by rw [HL.out]; exact hlt) hz HQ.out, Bool.false_and]), HB⟩
      · have hne : (x == 17) = false := by simpa using hx
        have HQ := Lib.hid (show (fun t : Tm => t.1 != 17) (x, y) = true by simp [hx])
        clear hx
        go_wp2
        go_round
        case rel => exact ⟨k + 1, by omega, by go_num, hg.succ hz HQ.out⟩
        case measure => simp [intOf]; omega
    · obtain rfl : n = k := by omega
      have HA := Lib.hid (allTo_all (f := fun t => t.1 != 17) (by rw [HL.out]; exact hg))
      by_cases h40 : n ≤ 40
      · have hd : decide ((n : Int) ≤ 40) = true := by simp; omega
        go_wp2_with fail
        refine (HN1.out _ HT.out).mono ?_
        rintro e w1 ⟨rfl, hb1⟩
        have hbel := HB.trans (hb1.mono HB.size)
        go_wp2
        go_ret
        exact ⟨ret_bool (by rw [HFF.out, HA.out, decide_eq_true h40, Bool.true_and, Bool.true_and]), hbel⟩
      · have hd : decide ((n : Int) ≤ 40) = false := by simp; omega
        go_wp2
        go_ret
        exact ⟨ret_bool (by rw [HFF.out, HA.out, decide_eq_false h40, Bool.true_and, Bool.false_and]), HB⟩
end Go.Proofs.Ytdippnnhibgjoaa
