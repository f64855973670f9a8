/- The contracts of the program's inputsOk and roomOk. -/
import Derived.Test.YteigeihbokkpiaaImplInputs
namespace Go.Proofs.Yteigeihbokkpiaa
open Go.RowKit

set_option maxHeartbeats 3200000 in
theorem inputsOk_any (r : PRow) (p : Prg) (W : Nat) (w : World) (hW : r.width = (W : Int)) (h8 : W ≤ 8) (h : ProgAt w r p) :
    Calls Try.prog 33 #[progV r] w fun e w' => e = .returned (.bool (inpB p)) ∧ Below w.heap.size w w' := by
  have HP := Lib.hid h
  have HI : Hid (∀ (w' : World) (a : Option Addr) (n c : Nat) (ts : List Tm), Terms w' a n ts → (Calls Try.prog 73 #[progV r, .slice a n c, .int .i64 0] w' fun e w'' => e = .returned (.bool (inputsB (2 ^ W) true ts)) ∧ Below w'.heap.size w' w'') ∧ (Calls Try.prog 73 #[progV r, .slice a n c, .int .i64 99] w' fun e w'' => e = .returned (.bool (inputsB (2 ^ W) false ts)) ∧ Below w'.heap.size w' w'')) :=
    Lib.hid (fun w' a n c ts ht => ⟨inputListOk_any r W a n c true 0 rfl ts w' hW h8 ht, inputListOk_any r W a n c false 99 rfl ts w' hW h8 ht⟩)
  have hS : 2 ^ W ≤ 2 ^ 8 := Nat.pow_le_pow_right (by omega) h8
  have hw := h.width
  rw [hW] at hw
  obtain ⟨wd, ⟨a1, n1, c1⟩, ⟨a2, n2, c2⟩, tp, ⟨a3, n3, c3⟩, ⟨a4, n4, c4⟩, rows⟩ := r
  obtain ⟨pw, pl, ps, pt, pa, pb⟩ := p
  simp only [] at hw
  subst hw
  obtain ⟨S, HS⟩ : ∃ S : Nat, Hid (2 ^ W = S) := ⟨_, Lib.hid rfl⟩
  have h1 := h.lows
  have h2 := h.secrets
  simp only [] at h1 h2
  have L1 := Lib.hid h1.1
  have L2 := Lib.hid h2.1
  obtain ⟨X1, H1⟩ : ∃ X1, Hid (inputsB S true pl = X1) := ⟨_, rfl⟩
  obtain ⟨X2, H2⟩ : ∃ X2, Hid (inputsB S false ps = X2) := ⟨_, rfl⟩
  obtain ⟨N1, HN1⟩ : ∃ N, Hid (bitsTo pl pl.length = N) := ⟨_, rfl⟩
  obtain ⟨N2, HN2⟩ : ∃ N, Hid (bitsTo ps ps.length = N) := ⟨_, rfl⟩
  obtain ⟨Z, HZ⟩ : ∃ Z, Hid (inpB ⟨(W : Int), pl, ps, pt, pa, pb⟩ = Z) := ⟨_, rfl⟩
  have hZ : Z = ((X1 && X2) && decide (N1 + N2 ≤ 10)) := by rw [← HZ.out]; simp only [inpB, Int.toNat_natCast, HS.out, H1.out, H2.out, HN1.out, HN2.out]
  rw [HZ.out]
  have HZ := Lib.hid hZ
  simp only [HS.out] at HI hS
  clear hZ HS h hW h8
  show Calls Try.prog 33 #[.agg #[.int .i64 wd, .slice a1 n1 c1, .slice a2 n2 c2, .int .i64 tp, .slice a3 n3 c3, .slice a4 n4 c4]] w _
  obtain ⟨wa, HW⟩ : ∃ wa, Hid (wa = w.alloc (.cells #[.int .i64 wd, .slice a1 n1 c1, .slice a2 n2 c2, .int .i64 tp, .slice a3 n3 c3, .slice a4 n4 c4] 28)) := ⟨_, rfl⟩
  have B : Blk wa w.heap.size 28 [.int .i64 wd, .slice a1 n1 c1, .slice a2 n2 c2, .int .i64 tp, .slice a3 n3 c3, .slice a4 n4 c4] := by rw [HW.out]; exact Blk.new w _ _
  have HB : Below w.heap.size w wa := by rw [HW.out]; exact (Below.refl _ _).alloc (Nat.le_refl _) _
  have T1 := Lib.hid h1
  have T2 := Lib.hid h2
  clear h1 h2
  go_enter Try.func33, Try.ntmps33
  go_wp2_with fail
  rw [← HW.out]
  refine ((HI.out _ _ _ _ _ (T1.out.below (Nat.le_refl _) HB)).1).mono ?_
  rintro e w1 ⟨rfl, hb1⟩
  simp only [H1.out]
  have B := B.below hb1 B.lt
  have HB := HB.trans (hb1.mono HB.size)
  clear hb1 HW
  have t0 := B.cell (j := 0) rfl
  have t1 := B.cell (j := 1) rfl
  have t2 := B.cell (j := 2) rfl
  have t3 := B.cell (j := 3) rfl
  have t4 := B.cell (j := 4) rfl
  have t5 := B.cell (j := 5) rfl
  cases X1 with
  | false =>
    have hz := HZ.out
    rw [Bool.false_and, Bool.false_and] at hz
    subst hz
    go_wp2
    go_ret
    exact ⟨rfl, HB⟩
  | true =>
  go_wp2_with fail
  refine ((HI.out _ _ _ _ _ (T2.out.below (Nat.le_refl _) HB)).2).mono ?_
  rintro e w2 ⟨rfl, hb2⟩
  simp only [H2.out]
  clear t0 t1 t2 t3 t4 t5
  have B := B.below hb2 B.lt
  have HB := HB.trans (hb2.mono HB.size)
  clear hb2
  have t0 := B.cell (j := 0) rfl
  have t1 := B.cell (j := 1) rfl
  have t2 := B.cell (j := 2) rfl
  have t3 := B.cell (j := 3) rfl
  have t4 := B.cell (j := 4) rfl
  have t5 := B.cell (j := 5) rfl
  cases X2 with
  | false =>
    have hz := HZ.out
    rw [Bool.and_false, Bool.false_and] at hz
    subst hz
    go_wp2
    go_ret
    exact ⟨rfl, HB⟩
  | true =>
  have hz := HZ.out
  rw [Bool.and_self, Bool.true_and] at hz
  have hl1 : n1 ≤ 3 := by have q := H1.out; simp only [inputsB, Bool.and_eq_true, decide_eq_true_eq] at q; have := L1.out; omega
  have hl2 : n2 ≤ 3 := by have q := H2.out; simp only [inputsB, Bool.and_eq_true, decide_eq_true_eq] at q; have := L2.out; omega
  have hs1 := small_of (by omega) H1.out
  have hs2 := small_of (by omega) H2.out
  have f1 := lat_cell B.lt t1
  have f2 := lat_cell B.lt t2
  have HC1 : Hid (∀ p : Lat w2, Calls Try.prog 74 #[.slice a1 n1 c1] p.wd fun e w' => e = .returned (.int .i64 (N1 : Int)) ∧ Below p.wd.heap.size p.wd w') := Lib.hid (fun p => by
    rw [← HN1.out]; exact bitsOfMaxes_any _ _ _ _ _ (T1.out.below (Nat.le_refl _) (HB.trans (p.ok.mono HB.size))) hs1 hl1)
  have HC2 : Hid (∀ p : Lat w2, Calls Try.prog 74 #[.slice a2 n2 c2] p.wd fun e w' => e = .returned (.int .i64 (N2 : Int)) ∧ Below p.wd.heap.size p.wd w') := Lib.hid (fun p => by
    rw [← HN2.out]; exact bitsOfMaxes_any _ _ _ _ _ (T2.out.below (Nat.le_refl _) (HB.trans (p.ok.mono HB.size))) hs2 hl2)
  have hb1 : N1 ≤ 189 := by
    have : ∀ k, k ≤ pl.length → bitsTo pl k ≤ 63 * k := fun k hk => bitsTo_le T1.out k (by have := L1.out; omega)
    have := this _ (Nat.le_refl _)
    have := HN1.out; have := L1.out; omega
  have hb2 : N2 ≤ 189 := by
    have : ∀ k, k ≤ ps.length → bitsTo ps k ≤ 63 * k := fun k hk => bitsTo_le T2.out k (by have := L2.out; omega)
    have := this _ (Nat.le_refl _)
    have := HN2.out; have := L2.out; omega
  have HD : Hid (decide ((N1 : Int) + (N2 : Int) ≤ 10) = Z) := Lib.hid (by rw [hz]; exact decide_eq_decide.2 (by omega))
  clear hs1 hs2 t0 t1 t2 t3 t4 t5 hz
  go_wp2
  refine wp_region_lat (by kernel_rfl) (by kernel_rfl) ?_
  repeat (go_big_quiet_step ((go_at_call 74; first | with_reducible exact lat_calls (HC1.out _) | with_reducible exact lat_calls (HC2.out _))))
  refine wpQuiet_nil ?_
  intro _ hw'
  obtain ⟨⟨wq, hwq⟩, hw''⟩ := hw'
  subst hw''
  have ht := HB.trans (hwq.mono HB.size)
  clear f1 f2 HC1 HC2
  go_wp2
  go_ret
  exact ⟨ret_bool HD.out, ht⟩
set_option maxHeartbeats 1600000 in
theorem roomOk_any (r : PRow) (p : Prg) (w : World) (h : ProgAt w r p) :
    Calls Try.prog 34 #[progV r] w fun e w' => e = .returned (.bool (roomB p)) ∧ Below w.heap.size w w' := by
  obtain ⟨wd, ⟨a1, n1, c1⟩, ⟨a2, n2, c2⟩, tp, ⟨a3, n3, c3⟩, ⟨a4, n4, c4⟩, rows⟩ := r
  obtain ⟨pw, pl, ps, pt, pa, pb⟩ := p
  obtain ⟨e1, e2, i1, i2, h1, h2, h3, h4⟩ := h
  simp only [] at e1 e2 i1 i2 h1 h2 h3 h4
  subst e1 e2
  clear h1 h2
  show Calls Try.prog 34 #[.agg #[.int .i64 wd, .slice a1 n1 c1, .slice a2 n2 c2, .int .i64 tp, .slice a3 n3 c3, .slice a4 n4 c4]] w _
  have HB : Below w.heap.size w (w.alloc (.cells #[.int .i64 wd, .slice a1 n1 c1, .slice a2 n2 c2, .int .i64 tp, .slice a3 n3 c3, .slice a4 n4 c4] 28)) := (Below.refl _ _).alloc (Nat.le_refl _) _
  have HT3 := Lib.hid (h3.below HB)
  have HL3 := Lib.hid h3.1
  have HL4 := Lib.hid h4.2.1
  have hn3 := h3.2.1
  have hn4 := h4.2.2.1
  obtain ⟨R, HR⟩ : ∃ R, Hid (roomB ⟨wd, pl, ps, tp, pa, pb⟩ = R) := ⟨_, rfl⟩
  have hroom : roomB ⟨wd, pl, ps, tp, pa, pb⟩ = ((decide (0 ≤ tp) && decide (tp ≤ 6)) && decide (n3 ≤ 2) && decide (n4 ≤ 40) && pa.all (fun z => decide (1 ≤ z) && decide (z ≤ 6))) := by
    simp only [roomB, HL3.out, HL4.out]
  rw [HR.out] at hroom
  have HRM := Lib.hid hroom
  simp only [HR.out]
  clear hroom h3 h4 HR
  go_enter Try.func34, Try.ntmps34
  by_cases ht : 0 ≤ tp ∧ tp ≤ 6
  case neg =>
    have hd : (decide (0 ≤ tp) && decide (tp ≤ 6)) = false := by rw [← Bool.not_eq_true]; simpa using ht
    go_wp2_with (go_at_call 32; refine (isWithin_any _ _ _ _).mono ?_; rintro e w' ⟨rfl, rfl⟩; rw [hd])
    go_ret
    exact ⟨ret_bool (by rw [HRM.out, hd]; rfl), HB⟩
  have hd : (decide (0 ≤ tp) && decide (tp ≤ 6)) = true := by simpa using ht
  have HD := Lib.hid hd
  clear hd ht
  by_cases ha : n3 ≤ 2
  case neg =>
    have hd2 : decide ((n3 : Int) > 2) = true := by simp; omega
    go_wp2_with (go_at_call 32; refine (isWithin_any _ _ _ _).mono ?_; rintro e w' ⟨rfl, rfl⟩; rw [HD.out])
    go_ret
    exact ⟨ret_bool (by rw [HRM.out, HD.out, decide_eq_false ha]; rfl), HB⟩
  have hd2 : decide ((n3 : Int) > 2) = false := by simp; omega
  by_cases hs : n4 ≤ 40
  case neg =>
    have hd3 : decide ((n4 : Int) > 40) = true := by simp; omega
    go_wp2_with (go_at_call 32; refine (isWithin_any _ _ _ _).mono ?_; rintro e w' ⟨rfl, rfl⟩; rw [HD.out])
    go_ret
    exact ⟨ret_bool (by rw [HRM.out, HD.out, decide_eq_true ha, decide_eq_false hs]; rfl), HB⟩
  have hd3 : decide ((n4 : Int) > 40) = false := by simp; omega
  have HX : Hid (R = pa.all (fun z => decide (1 ≤ z) && decide (z ≤ 6))) := Lib.hid (by rw [HRM.out, HD.out, decide_eq_true ha, decide_eq_true hs]; simp only [Bool.true_and])
  clear HRM
  go_wp2_with (go_at_call 32; refine (isWithin_any _ _ _ _).mono ?_; rintro e w' ⟨rfl, rfl⟩; rw [HD.out])
  go_loop [24] (fun i => ∃ k : Nat, k ≤ n3 ∧ i = .int .i64 (k : Int) ∧ CellsTo pa k) (fun i => n3 - (intOf i).toNat)
  case atStart => exact ⟨0, Nat.zero_le _, rfl, fun i hi => absurd hi (by omega)⟩
  case round =>
    obtain ⟨k, hk, rfl, hg⟩ := hrel
    by_cases hlt : k < n3
    · obtain ⟨b, o, z, rfl, hb, hz, hin, hc⟩ := HT3.out.at_ hlt
      by_cases h0 : 1 ≤ z ∧ z ≤ 6
      · have hd : (decide (1 ≤ z) && decide (z ≤ 6)) = true := by simp [h0]
        go_wp2_with (go_at_call 32; refine (isWithin_any _ _ _ _).mono ?_; rintro e w' ⟨rfl, rfl⟩; rw [hd])
        go_round
        case rel => exact ⟨k + 1, by omega, by go_num, hg.succ hz (by omega) (by omega)⟩
        case measure => simp [intOf]; omega
      · have hd : (decide (1 ≤ z) && decide (z ≤ 6)) = false := by rw [← Bool.not_eq_true]; simpa using h0
        go_wp2_with (go_at_call 32; refine (isWithin_any _ _ _ _).mono ?_; rintro e w' ⟨rfl, rfl⟩; rw [hd])
        go_ret
        exact ⟨ret_bool (by rw [HX.out]; exact (cells_bad (by rw [HL3.out]; exact hlt) hz h0).symm), HB⟩
    · obtain rfl : n3 = k := by omega
      go_wp2
      go_ret
      exact ⟨ret_bool (by rw [HX.out]; exact ((cellsTo_all pa).2 (by rw [HL3.out]; exact hg)).symm), HB⟩
end Go.Proofs.Yteigeihbokkpiaa
