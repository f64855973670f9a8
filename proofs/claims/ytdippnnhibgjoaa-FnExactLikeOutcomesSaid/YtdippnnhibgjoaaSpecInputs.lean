/- The contract of the model's l3Inputs. -/
import Derived.Test.YtdippnnhibgjoaaSpecRoom
namespace Go.Proofs.Ytdippnnhibgjoaa
open Go.RowKit

/-- A right input: its greatest value below S; its budget, none for a low one. -/
def inpOk (S : Nat) (low : Bool) (t : Tm) : Bool :=
  (decide (0 ≤ t.1) && decide (t.1 ≤ (S : Int) - 1)) && (decide (0 ≤ t.2) && decide (t.2 ≤ 99)) && !(low && t.2 != 0)
def inputsB (S : Nat) (low : Bool) (ts : List Tm) : Bool := ts.all (inpOk S low) && decide (ts.length ≤ 3)
def InpTo (S : Nat) (low : Bool) (ts : List Tm) (k : Nat) : Prop := ∀ i, i < k → inpOk S low (tmAt ts i) = true
theorem InpTo.succ {S : Nat} {low : Bool} {ts : List Tm} {k : Nat} {t : Tm} (h : InpTo S low ts k) (hz : Hid (tmAt ts k = t)) (ht : inpOk S low t = true) : InpTo S low ts (k + 1) := by
  intro i hi
  rcases Nat.lt_or_ge i k with hlt | hge
  · exact h i hlt
  · have : i = k := by omega
    subst this; rw [hz.out]; exact ht
theorem inpTo_all {S : Nat} {low : Bool} {ts : List Tm} (h : InpTo S low ts ts.length) : ts.all (inpOk S low) = true := by
  rw [List.all_eq_true]
  intro z hz
  obtain ⟨i, hi, rfl⟩ := List.getElem_of_mem hz
  have := h i hi
  rw [tmAt, List.getD_eq_getElem?_getD, List.getElem?_eq_getElem hi] at this
  simpa using this
theorem inp_bad {S : Nat} {low : Bool} {ts : List Tm} {k : Nat} {t : Tm} (hk : k < ts.length) (hz : Hid (tmAt ts k = t)) (ht : inpOk S low t = false) : inputsB S low ts = false := by
  have : ts.all (inpOk S low) = false := by
    rw [← Bool.not_eq_true, List.all_eq_true]
    intro h
    have := h _ (tmAt_mem hk)
    rw [hz.out, ht] at this
    exact absurd this (by simp)
  unfold inputsB
  rw [this]; rfl

theorem in_lat {w : World} (x lo hi : Int) {v : Bool} (hv : (decide (lo ≤ x) && decide (x ≤ hi)) = v) (p : Lat w) :
    Calls Try.prog 46 #[.int .i64 x, .int .i64 lo, .int .i64 hi] p.wd fun e w' => e = .returned (.bool v) ∧ Below p.wd.heap.size p.wd w' :=
  (in_any x lo hi p.wd).mono fun _ _ ⟨he, hw⟩ => ⟨by rw [he, hv], by rw [← hw]; exact Below.refl _ _⟩
set_option maxHeartbeats 3200000 in
theorem l3Inputs_any (r : PRow) (W : Nat) (a : Option Addr) (n c : Nat) (low : Bool) (ts : List Tm) (w : World) (hW : r.width = (W : Int)) (h8 : W ≤ 8) (h : Terms w a n ts) :
    Calls Try.prog 60 #[progV r, .slice a n c, .bool low] w fun e w' => e = .returned (.bool (inputsB (2 ^ W) low ts)) ∧ Below w.heap.size w w' := by
  have HC0 : Hid (∀ w' : World, Calls Try.prog 82 #[progV r] w' fun e w'' => e = .returned (.int .i64 ((2 ^ W : Nat) : Int)) ∧ Below w'.heap.size w' w'') := Lib.hid (fun w' => l3Size_any r W w' hW h8)
  obtain ⟨wd, ⟨a1, n1, c1⟩, ⟨a2, n2, c2⟩, tp, ⟨a3, n3, c3⟩, ⟨a4, n4, c4⟩, rows⟩ := r
  clear hW
  have hS : 2 ^ W ≤ 2 ^ 8 := Nat.pow_le_pow_right (by omega) h8
  obtain ⟨S, HS⟩ : ∃ S : Nat, Hid (2 ^ W = S) := ⟨_, Lib.hid rfl⟩
  simp only [HS.out] at hS HC0 ⊢
  clear HS h8
  show Calls Try.prog 60 #[.agg #[.int .i64 wd, .slice a1 n1 c1, .slice a2 n2 c2, .int .i64 tp, .slice a3 n3 c3, .slice a4 n4 c4], .slice a n c, .bool low] w _
  have HL := Lib.hid h.1
  have hbd := h.2.1
  obtain ⟨wa, HW⟩ : ∃ wa, Hid (wa = w.alloc (.cells #[.int .i64 wd, .slice a1 n1 c1, .slice a2 n2 c2, .int .i64 tp, .slice a3 n3 c3, .slice a4 n4 c4] 31)) := ⟨_, rfl⟩
  have BX : Blk wa w.heap.size 31 [.int .i64 wd, .slice a1 n1 c1, .slice a2 n2 c2, .int .i64 tp, .slice a3 n3 c3, .slice a4 n4 c4] := by rw [HW.out]; exact Blk.new w _ _
  have HB : Below w.heap.size w wa := by rw [HW.out]; exact (Below.refl _ _).alloc (Nat.le_refl _) _
  go_enter Try.func60, Try.ntmps60
  go_wp2
  rw [← HW.out]
  go_loopw [7] (fun i wr => ∃ k : Nat, k ≤ n ∧ i = .int .i64 (k : Int) ∧ InpTo S low ts k ∧ Below wa.heap.size wa wr) (fun i _ => n - (intOf i).toNat)
  case atStart => exact ⟨0, Nat.zero_le _, rfl, fun i hi => absurd hi (by omega), Below.refl _ _⟩
  case round =>
    obtain ⟨k, hk, rfl, hg, hbl⟩ := hrel
    have hbel := HB.trans (hbl.mono HB.size)
    have B1 := BX.below hbl BX.lt
    by_cases hlt : k < n
    · obtain ⟨b, o, x, y, rfl, hb, hz, hin1, hin2, hc1, hc2⟩ := (h.below (Nat.le_refl _) hbel).at_ hlt
      have f1 := lat_cell hb hc1
      have f2 := lat_cell hb hc2
      have g0 := lat_cell B1.lt (B1.cell (j := 0) rfl)
      have g1 := lat_cell B1.lt (B1.cell (j := 1) rfl)
      have g2 := lat_cell B1.lt (B1.cell (j := 2) rfl)
      have g3 := lat_cell B1.lt (B1.cell (j := 3) rfl)
      have g4 := lat_cell B1.lt (B1.cell (j := 4) rfl)
      have g5 := lat_cell B1.lt (B1.cell (j := 5) rfl)
      clear hc1 hc2 B1
      have HC1 : Hid (∀ p : Lat wr, Calls Try.prog 82 #[.agg #[.int .i64 wd, .slice a1 n1 c1, .slice a2 n2 c2, .int .i64 tp, .slice a3 n3 c3, .slice a4 n4 c4]] p.wd fun e w' => e = .returned (.int .i64 (S : Int)) ∧ Below p.wd.heap.size p.wd w') := Lib.hid (fun p => HC0.out p.wd)
      by_cases hA : 0 ≤ x ∧ x ≤ (S : Int) - 1
      case neg =>
        have hd : (decide (0 ≤ x) && decide (x ≤ (S : Int) - 1)) = false := by rw [← Bool.not_eq_true]; simpa using hA
        have HC2 := Lib.hid (in_lat (w := wr) (v := false) x 0 ((S : Int) - 1) hd)
        have HF := Lib.hid (show inpOk S low (x, y) = false by unfold inpOk; simp only [hd, Bool.false_and])
        clear hd hA
        go_wp2
        refine wp_region_lat (by kernel_rfl) (by kernel_rfl) ?_
        repeat (go_big_quiet_step (first | (go_at_call 82; exact lat_calls (HC1.out _)) | (go_at_call 46; first | exact lat_calls (HC2.out _))))
        refine wpQuiet_nil ?_
        intro _ hw'
        obtain ⟨⟨wq, hwq⟩, hw''⟩ := hw'
        subst hw''
        have ht := hbl.trans (hwq.mono hbl.size)
        have ht2 := HB.trans (ht.mono HB.size)
        clear f1 f2 g0 g1 g2 g3 g4 g5 HC1 HC2
        go_wp2
        go_ret
        exact ⟨ret_bool (inp_bad (by rw [HL.out]; exact hlt) hz HF.out).symm, ht2⟩
      have hd : (decide (0 ≤ x) && decide (x ≤ (S : Int) - 1)) = true := by simpa using hA
      have HC2 := Lib.hid (in_lat (w := wr) (v := true) x 0 ((S : Int) - 1) hd)
      by_cases hY : 0 ≤ y ∧ y ≤ 99
      case neg =>
        have hd2 : (decide (0 ≤ y) && decide (y ≤ 99)) = false := by rw [← Bool.not_eq_true]; simpa using hY
        have HC3 := Lib.hid (in_lat (w := wr) (v := false) y 0 99 hd2)
        have HF := Lib.hid (show inpOk S low (x, y) = false by unfold inpOk; simp only [hd, hd2, Bool.and_false, Bool.false_and])
        clear hd hd2 hA hY
        go_wp2
        refine wp_region_lat (by kernel_rfl) (by kernel_rfl) ?_
        repeat (go_big_quiet_step (first | (go_at_call 82; exact lat_calls (HC1.out _)) | (go_at_call 46; first | with_reducible exact lat_calls (HC2.out _) | with_reducible exact lat_calls (HC3.out _))))
        refine wpQuiet_nil ?_
        intro _ hw'
        obtain ⟨⟨wq, hwq⟩, hw''⟩ := hw'
        subst hw''
        have ht := hbl.trans (hwq.mono hbl.size)
        have ht2 := HB.trans (ht.mono HB.size)
        clear f1 f2 g0 g1 g2 g3 g4 g5 HC1 HC2 HC3
        go_wp2
        go_ret
        exact ⟨ret_bool (inp_bad (by rw [HL.out]; exact hlt) hz HF.out).symm, ht2⟩
      have hd2 : (decide (0 ≤ y) && decide (y ≤ 99)) = true := by simpa using hY
      have HC3 := Lib.hid (in_lat (w := wr) (v := true) y 0 99 hd2)
      cases low with
      | false =>
        have HF := Lib.hid (show inpOk S false (x, y) = true by unfold inpOk; simp only [hd, hd2, Bool.and_true, Bool.false_and, Bool.not_false])
        clear hd hd2 hA hY
        go_wp2
        refine wp_region_lat (by kernel_rfl) (by kernel_rfl) ?_
        repeat (go_big_quiet_step (first | (go_at_call 82; exact lat_calls (HC1.out _)) | (go_at_call 46; first | with_reducible exact lat_calls (HC2.out _) | with_reducible exact lat_calls (HC3.out _))))
        refine wpQuiet_nil ?_
        intro _ hw'
        obtain ⟨⟨wq, hwq⟩, hw''⟩ := hw'
        subst hw''
        have ht := hbl.trans (hwq.mono hbl.size)
        have ht2 := HB.trans (ht.mono HB.size)
        clear f1 f2 g0 g1 g2 g3 g4 g5 HC1 HC2 HC3
        go_wp2
        go_roundw
        case rel => exact ⟨k + 1, by omega, by go_num, hg.succ hz HF.out, ht⟩
        case measure => simp [intOf]; omega
      | true =>
        by_cases h0 : y = 0
        case neg =>
          have hne : (y != 0) = true := by simpa using h0
          have HF := Lib.hid (show inpOk S true (x, y) = false by unfold inpOk; simp only [hd, hd2, hne, Bool.and_self, Bool.not_true, Bool.and_false])
          clear hd hd2 hA hY
          go_wp2
          refine wp_region_lat (by kernel_rfl) (by kernel_rfl) ?_
          repeat (go_big_quiet_step (first | (go_at_call 82; exact lat_calls (HC1.out _)) | (go_at_call 46; first | with_reducible exact lat_calls (HC2.out _) | with_reducible exact lat_calls (HC3.out _))))
          refine wpQuiet_nil ?_
          intro _ hw'
          obtain ⟨⟨wq, hwq⟩, hw''⟩ := hw'
          subst hw''
          have ht := hbl.trans (hwq.mono hbl.size)
          have ht2 := HB.trans (ht.mono HB.size)
          clear f1 f2 g0 g1 g2 g3 g4 g5 HC1 HC2 HC3
          go_wp2
          go_ret
          exact ⟨ret_bool (inp_bad (by rw [HL.out]; exact hlt) hz HF.out).symm, ht2⟩
        subst h0
        have HF := Lib.hid (show inpOk S true (x, 0) = true by unfold inpOk; simp only [hd, hd2]; rfl)
        clear hd hd2 hA hY
        go_wp2
        refine wp_region_lat (by kernel_rfl) (by kernel_rfl) ?_
        repeat (go_big_quiet_step (first | (go_at_call 82; exact lat_calls (HC1.out _)) | (go_at_call 46; first | with_reducible exact lat_calls (HC2.out _) | with_reducible exact lat_calls (HC3.out _))))
        refine wpQuiet_nil ?_
        intro _ hw'
        obtain ⟨⟨wq, hwq⟩, hw''⟩ := hw'
        subst hw''
        have ht := hbl.trans (hwq.mono hbl.size)
        have ht2 := HB.trans (ht.mono HB.size)
        clear f1 f2 g0 g1 g2 g3 g4 g5 HC1 HC2 HC3
        go_wp2
        go_roundw
        case rel => exact ⟨k + 1, by omega, by go_num, hg.succ hz HF.out, ht⟩
        case measure => simp [intOf]; omega
    · obtain rfl : n = k := by omega
      by_cases h3 : n ≤ 3
      · have hd : decide ((n : Int) ≤ 3) = true := by simp; omega
        go_wp2
        go_ret
        exact ⟨ret_bool (by unfold inputsB; rw [inpTo_all (by rw [HL.out]; exact hg), HL.out, decide_eq_true h3]; rfl), hbel⟩
      · have hd : decide ((n : Int) ≤ 3) = false := by simp; omega
        go_wp2
        go_ret
        exact ⟨ret_bool (by unfold inputsB; rw [HL.out, decide_eq_false h3]; simp), hbel⟩
end Go.Proofs.Ytdippnnhibgjoaa
