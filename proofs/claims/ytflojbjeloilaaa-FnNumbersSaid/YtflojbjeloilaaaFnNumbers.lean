/- For every code, of a drawn program: the number of an input leads back to it, and bits tell inputs apart. Conditions: none beyond the given row. (The frame round the walk is the guide's own shell, by program.) -/
import Derived.Test.YtflojbjeloilaaaRows
import Derived.Test.YtflojbjeloilaaaJ1
import Derived.Test.YtflojbjeloilaaaJ13
import Derived.Test.YtflojbjeloilaaaJ26
import Derived.Test.YtflojbjeloilaaaJ27
import Derived.Test.YtflojbjeloilaaaJ28
import Derived.Test.YtflojbjeloilaaaJ25
import Derived.WalkKit
import Derived.ProofKit
import Derived.OpenShut
import Derived.ShutString
import Derived.ChangeOld
import Derived.Below
namespace Go.Proofs.Ytflojbjeloilaaa.fnNumbers
open Go.ChangeShapes Go.WideShapes Go.ChangeAt Go.RowKit
open Go.ChangeMaps (open_string shut_string)
set_option linter.unusedVariables false

theorem own : ownKnob Try.prog.godebug = none := by kernel_rfl
theorem laidOut : laidOutB Try.prog = true := by kernel_rfl

/-- WHAT THE WALK IS TOLD OF A SLICE OF INTEGERS THAT CAME IN: it is nil; or it leads to a row of 'cap' cells, the numbers 'zs' (the first 'len' are its elements, the rest its spare room), each fitting its kind. -/
def IsRow (k : IntKind) (w : World) (a : Option Addr) (len cap : Nat) (zs : List Int) : Prop :=
  (a = none ∧ len = 0 ∧ cap = 0 ∧ zs = []) ∨
  ∃ x, a = some x ∧ len ≤ cap ∧ cap ≤ maxLen ∧ zs.length = cap ∧ (∀ i, i < zs.length → w.cell? (x.add i) = some (.int k (zs.getD i 0))) ∧ ∀ n ∈ zs, (Lit.int k n).wf = true

/-! ### STEP 1: THE WALK: the Go text returns true, AND WRITES NOTHING THAT WAS THERE: 'Below w.heap.size w w'' (Derived/Below.lean: '.refl', '.alloc', '.drew', '.setCell' at a new block, '.trans'). Open each 'IsRow' by 'rcases' AHEAD of 'go_enter'; part every test ahead of the walk. -/
set_option maxRecDepth 20000 in
set_option maxHeartbeats 6400000 in
theorem walk (a0 : Option Addr) (len0 cap0 : Nat) (z0 : List Int) (w : World) (w0 : IsRow .u8 w a0 len0 cap0 z0) :
    Calls Try.prog 5 #[.slice a0 len0 cap0] w fun e w' => e = .returned (.bool true) ∧ Below w.heap.size w w' := by
  by_cases hbig : 4096 < len0
  · go_enter Try.func5, Try.ntmps5
    go_wp2_with (go_at_call 6; refine (big_any _ _ _ _).mono ?_; rintro e w1 ⟨rfl, rfl⟩; rw [decide_eq_true hbig])
    go_ret
    exact ⟨rfl, Below.refl _ _⟩
  have hcode := code_of_row w0 (by omega)
  clear w0
  go_enter Try.func5, Try.ntmps5
  go_wp2_with fail
  refine (big_any _ _ _ _).mono ?_
  rintro e w1 ⟨rfl, rfl⟩
  rw [decide_eq_false hbig]
  go_wp2_with fail
  refine (roll_any _ _ _ _ _ hcode).mono ?_
  rintro e w1 ⟨p, rfl, hp, D1, ht1⟩
  clear hcode
  go_wp2_with fail
  refine (program_any p _ D1).mono ?_
  rintro e w2 ⟨⟨wd, ⟨q1, m1, d1⟩, ⟨q2, m2, d2⟩, tp, ⟨q3, m3, d3⟩, ⟨q4, m4, d4⟩, rs⟩, P, A, l, s, b, s', b', rfl, _, hcap, _, hok, _, ⟨_, hst⟩, D, g2⟩
  simp only [progV, slV]
  have HT2 : Hid (Below w.heap.size w w2) := Lib.hid (ht1.grown g2 ht1.size (fun g e => by injection e with e; omega))
  have HST := Lib.hid hst
  have HCAP := Lib.hid hcap
  have hpw := D.lt
  have HPW0 : Hid (w.heap.size ≤ p) := Lib.hid hp
  have hpp := prodL_pos (fun m hm => (wide_of_max hok m hm).1)
  have hpb := prod_bits hok
  have hcb : countB P = prodL (maxesP P) := by rw [countB, if_pos hok, countTo_prod]
  have HOKA : Hid (∀ n : Int, 0 ≤ n → n ≤ prodL (maxesP P) - 1 → atOk P n = true) := Lib.hid (fun n h1 h2 => by simp only [atOk, hok, decide_true, Bool.true_and, Bool.and_eq_true, decide_eq_true_eq]; omega)
  have HOKC : Hid (atOk P (prodL (maxesP P)) = false) := Lib.hid (by simp [atOk, hok])
  obtain ⟨C, HC⟩ : ∃ C, Hid (prodL (maxesP P) = C) := ⟨_, rfl⟩
  rw [HC.out] at hpp hpb hcb HOKA HOKC
  have HCB := Lib.hid hcb
  obtain ⟨S, HS⟩ : ∃ S, Hid (bitsInB P = S) := ⟨_, rfl⟩
  have hcc : (C != C) = false := by simp
  have hss : (S != S) = false := by simp
  clear hst hok hcb g2 ht1 D1 hcap hp
  obtain ⟨wa, HW⟩ : ∃ wa, Hid (wa = w2.alloc (.cells #[.int .i64 wd, .slice q1 m1 d1, .slice q2 m2 d2, .int .i64 tp, .slice q3 m3 d3, .slice q4 m4 d4] 28)) := ⟨_, rfl⟩
  have X : Blk wa w2.heap.size 28 [.int .i64 wd, .slice q1 m1 d1, .slice q2 m2 d2, .int .i64 tp, .slice q3 m3 d3, .slice q4 m4 d4] := by rw [HW.out]; exact Blk.new w2 _ _
  have G : w2.grownBy wa (some p) := by rw [HW.out]; exact only_alloc (World.grownBy.refl _ _) _
  have D := D.below (show Below w2.heap.size w2 wa by rw [HW.out]; exact (Below.refl _ _).alloc (Nat.le_refl _) _)
  obtain ⟨k, HK⟩ : ∃ k, Hid (w2.heap.size = k) := ⟨_, rfl⟩
  rw [HK.out] at X hpw
  have t0 := X.cell (j := 0) rfl
  have t1 := X.cell (j := 1) rfl
  have t2 := X.cell (j := 2) rfl
  have t3 := X.cell (j := 3) rfl
  have t4 := X.cell (j := 4) rfl
  have t5 := X.cell (j := 5) rfl
  rw [HW.out, ← HK.out] at t0 t1 t2 t3 t4 t5
  go_wp2_with fail
  rw [← HW.out, HK.out]
  clear t0 t1 t2 t3 t4 t5 HW
  refine (implInputsIn_any ⟨wd, (q1, m1, d1), (q2, m2, d2), tp, (q3, m3, d3), (q4, m4, d4), rs⟩ P _ (HST.out _ G) HCAP.out).mono ?_
  rintro e u1 ⟨rfl, hb⟩
  rw [HCB.out]
  have X := X.below hb X.lt
  have D := D.below hb
  have G := only_trans G (grow_of hb)
  clear hb
  have t0 := lat_cell X.lt (X.cell (j := 0) rfl)
  have t1 := lat_cell X.lt (X.cell (j := 1) rfl)
  have t2 := lat_cell X.lt (X.cell (j := 2) rfl)
  have t3 := lat_cell X.lt (X.cell (j := 3) rfl)
  have t4 := lat_cell X.lt (X.cell (j := 4) rfl)
  have t5 := lat_cell X.lt (X.cell (j := 5) rfl)
  have HG := Lib.hid G
  have HLAT : Hid (∀ q : Lat u1, ProgAt q.wd ⟨wd, (q1, m1, d1), (q2, m2, d2), tp, (q3, m3, d3), (q4, m4, d4), rs⟩ P) := Lib.hid (fun q => HST.out _ (only_trans HG.out (grow_of q.ok)))
  have HC1 : Hid (∀ q : Lat u1, Calls Try.prog 14 #[.agg #[.int .i64 wd, .slice q1 m1 d1, .slice q2 m2 d2, .int .i64 tp, .slice q3 m3 d3, .slice q4 m4 d4]] q.wd fun e w' => e = .returned (.int .i64 C) ∧ Below q.wd.heap.size q.wd w') := Lib.hid (fun q => by rw [← HCB.out]; exact specInputsIn_any ⟨wd, (q1, m1, d1), (q2, m2, d2), tp, (q3, m3, d3), (q4, m4, d4), rs⟩ P _ (HLAT.out q))
  have HC2 : Hid (∀ q : Lat u1, Calls Try.prog 24 #[.agg #[.int .i64 wd, .slice q1 m1 d1, .slice q2 m2 d2, .int .i64 tp, .slice q3 m3 d3, .slice q4 m4 d4]] q.wd fun e w' => e = .returned (.int .i64 S) ∧ Below q.wd.heap.size q.wd w') := Lib.hid (fun q => by rw [← HS.out]; exact implBitsIn_any ⟨wd, (q1, m1, d1), (q2, m2, d2), tp, (q3, m3, d3), (q4, m4, d4), rs⟩ P _ (HLAT.out q) HCAP.out)
  have HC3 : Hid (∀ q : Lat u1, Calls Try.prog 25 #[.agg #[.int .i64 wd, .slice q1 m1 d1, .slice q2 m2 d2, .int .i64 tp, .slice q3 m3 d3, .slice q4 m4 d4]] q.wd fun e w' => e = .returned (.int .i64 S) ∧ Below q.wd.heap.size q.wd w') := Lib.hid (fun q => by rw [← HS.out]; exact specBitsIn_any ⟨wd, (q1, m1, d1), (q2, m2, d2), tp, (q3, m3, d3), (q4, m4, d4), rs⟩ P _ (HLAT.out q))
  clear HG
  go_wp2
  refine wp_region_lat (by kernel_rfl) (by kernel_rfl) ?_
  repeat (go_big_quiet_step (first | (go_at_call 14; exact lat_calls (HC1.out _)) | (go_at_call 24; exact lat_calls (HC2.out _)) | (go_at_call 25; exact lat_calls (HC3.out _))))
  refine wpQuiet_nil ?_
  intro _ hw'
  obtain ⟨⟨wq, hb⟩, hw''⟩ := hw'
  subst hw''
  clear t0 t1 t2 t3 t4 t5 HLAT HC1 HC2 HC3
  have X := X.below hb X.lt
  have D := D.below hb
  have G := only_trans G (grow_of hb)
  clear hb
  go_wp2_with fail
  refine (diceBelow_any p _ C D (by omega) (by omega)).mono ?_
  rintro e u2 ⟨n, hn0, hn1, rfl, D, hg⟩
  have X := blk_stay X hg (fun e => by injection e with e; omega)
  have G := only_trans G hg
  clear hg
  go_wp2_with fail
  refine (diceBelow_any p _ C D (by omega) (by omega)).mono ?_
  rintro e u3 ⟨m, hm0, hm1, rfl, D, hg⟩
  have X := blk_stay X hg (fun e => by injection e with e; omega)
  have G := only_trans G hg
  clear hg
  have HN := Lib.hid (HOKA.out n hn0 hn1)
  have HM := Lib.hid (HOKA.out m hm0 hm1)
  have t0 := X.cell (j := 0) rfl
  have t1 := X.cell (j := 1) rfl
  have t2 := X.cell (j := 2) rfl
  have t3 := X.cell (j := 3) rfl
  have t4 := X.cell (j := 4) rfl
  have t5 := X.cell (j := 5) rfl
  go_wp2_with fail
  refine (implInputAt_ans ⟨wd, (q1, m1, d1), (q2, m2, d2), tp, (q3, m3, d3), (q4, m4, d4), rs⟩ P n _ (HST.out _ G) HCAP.out ⟨by omega, by omega⟩).mono ?_
  rintro e u4 ⟨hb, ⟨aa, an, ac⟩, ⟨ba, bn, bc⟩, rfl, a0, a1, _⟩
  simp only [slV]
  rw [HN.out]
  clear t0 t1 t2 t3 t4 t5
  have a0 := a0.ints
  have a1 := a1.ints
  simp only [] at a0 a1
  have X := X.below hb X.lt
  have D := D.below hb
  have G := only_trans G (grow_of hb)
  clear hb
  have t0 := X.cell (j := 0) rfl
  have t1 := X.cell (j := 1) rfl
  have t2 := X.cell (j := 2) rfl
  have t3 := X.cell (j := 3) rfl
  have t4 := X.cell (j := 4) rfl
  have t5 := X.cell (j := 5) rfl
  go_wp2_with fail
  refine (implInputAt_ans ⟨wd, (q1, m1, d1), (q2, m2, d2), tp, (q3, m3, d3), (q4, m4, d4), rs⟩ P m _ (HST.out _ G) HCAP.out ⟨by omega, by omega⟩).mono ?_
  rintro e u5 ⟨hb, ⟨xa, xn, xc⟩, ⟨ya, yn, yc⟩, rfl, x0, x1, _⟩
  simp only [slV]
  rw [HM.out]
  clear t0 t1 t2 t3 t4 t5
  have x0 := x0.ints
  have x1 := x1.ints
  simp only [] at x0 x1
  have X := X.below hb X.lt
  have D := D.below hb
  have G := only_trans G (grow_of hb)
  have a0 := a0.below hb
  have a1 := a1.below hb
  clear hb
  have t0 := X.cell (j := 0) rfl
  have t1 := X.cell (j := 1) rfl
  have t2 := X.cell (j := 2) rfl
  have t3 := X.cell (j := 3) rfl
  have t4 := X.cell (j := 4) rfl
  have t5 := X.cell (j := 5) rfl
  go_wp2_with fail
  refine (implInputAt_ans ⟨wd, (q1, m1, d1), (q2, m2, d2), tp, (q3, m3, d3), (q4, m4, d4), rs⟩ P C _ (HST.out _ G) HCAP.out ⟨by omega, by omega⟩).mono ?_
  rintro e u6 ⟨hb, ⟨za, zn, zc⟩, ⟨zb, zm, zd⟩, rfl, _, _, _⟩
  simp only [slV]
  rw [HOKC.out]
  clear t0 t1 t2 t3 t4 t5
  have X := X.below hb X.lt
  have D := D.below hb
  have G := only_trans G (grow_of hb)
  have a0 := a0.below hb
  have a1 := a1.below hb
  have x0 := x0.below hb
  have x1 := x1.below hb
  clear hb
  have hnn : (n != n) = false := by simp
  have hmm : (m != m) = false := by simp
  have t0 := X.cell (j := 0) rfl
  have t1 := X.cell (j := 1) rfl
  have t2 := X.cell (j := 2) rfl
  have t3 := X.cell (j := 3) rfl
  have t4 := X.cell (j := 4) rfl
  have t5 := X.cell (j := 5) rfl
  go_wp2_with fail
  refine (implNumberOf_ans ⟨wd, (q1, m1, d1), (q2, m2, d2), tp, (q3, m3, d3), (q4, m4, d4), rs⟩ P _ _ _ _ _ _ _ _ _ (HST.out _ G) HCAP.out a0 a1).mono ?_
  rintro e u7 ⟨rfl, hb⟩
  rw [num_at HN.out]
  clear t0 t1 t2 t3 t4 t5
  have X := X.below hb X.lt
  have D := D.below hb
  have G := only_trans G (grow_of hb)
  have a0 := a0.below hb
  have a1 := a1.below hb
  have x0 := x0.below hb
  have x1 := x1.below hb
  clear hb
  have t0 := X.cell (j := 0) rfl
  have t1 := X.cell (j := 1) rfl
  have t2 := X.cell (j := 2) rfl
  have t3 := X.cell (j := 3) rfl
  have t4 := X.cell (j := 4) rfl
  have t5 := X.cell (j := 5) rfl
  go_wp2_with fail
  refine (implNumberOf_ans ⟨wd, (q1, m1, d1), (q2, m2, d2), tp, (q3, m3, d3), (q4, m4, d4), rs⟩ P _ _ _ _ _ _ _ _ _ (HST.out _ G) HCAP.out x0 x1).mono ?_
  rintro e u8 ⟨rfl, hb⟩
  rw [num_at HM.out]
  clear t0 t1 t2 t3 t4 t5
  have X := X.below hb X.lt
  have D := D.below hb
  have G := only_trans G (grow_of hb)
  have a0 := a0.below hb
  have a1 := a1.below hb
  have x0 := x0.below hb
  have x1 := x1.below hb
  clear hb
  have t0 := X.cell (j := 0) rfl
  have t1 := X.cell (j := 1) rfl
  have t2 := X.cell (j := 2) rfl
  have t3 := X.cell (j := 3) rfl
  have t4 := X.cell (j := 4) rfl
  have t5 := X.cell (j := 5) rfl
  go_wp2_with fail
  refine (implInputBits_ans ⟨wd, (q1, m1, d1), (q2, m2, d2), tp, (q3, m3, d3), (q4, m4, d4), rs⟩ P _ _ _ _ _ _ _ _ _ (HST.out _ G) HCAP.out a0 a1).mono ?_
  rintro e u9 ⟨hb, ⟨sa, sn, sc⟩, rfl, os⟩
  simp only [slV]
  have os := os.reads
  simp only [] at os
  clear t0 t1 t2 t3 t4 t5
  have X := X.below hb X.lt
  have D := D.below hb
  have G := only_trans G (grow_of hb)
  have a0 := a0.below hb
  have a1 := a1.below hb
  have x0 := x0.below hb
  have x1 := x1.below hb
  clear hb
  have t0 := X.cell (j := 0) rfl
  have t1 := X.cell (j := 1) rfl
  have t2 := X.cell (j := 2) rfl
  have t3 := X.cell (j := 3) rfl
  have t4 := X.cell (j := 4) rfl
  have t5 := X.cell (j := 5) rfl
  go_wp2_with fail
  refine (implInputBits_ans ⟨wd, (q1, m1, d1), (q2, m2, d2), tp, (q3, m3, d3), (q4, m4, d4), rs⟩ P _ _ _ _ _ _ _ _ _ (HST.out _ G) HCAP.out x0 x1).mono ?_
  rintro e u10 ⟨hb, ⟨ta, tn, tc⟩, rfl, ot⟩
  simp only [slV]
  have ot := ot.reads
  simp only [] at ot
  clear t0 t1 t2 t3 t4 t5
  have X := X.below hb X.lt
  have D := D.below hb
  have G := only_trans G (grow_of hb)
  have a0 := a0.below hb
  have a1 := a1.below hb
  have x0 := x0.below hb
  have x1 := x1.below hb
  have os := os.below hb
  clear hb
  have hl1 := bits_count HN.out
  have hl2 := bits_count HM.out
  rw [HS.out] at hl1 hl2
  have HBA : Hid (bitsB P (atL P n) (atS P n) = bitsB P (atL P m) (atS P m) ↔ n = m) := Lib.hid ⟨fun h => bits_at HN.out HM.out h, fun h => by rw [h]⟩
  obtain ⟨bs, HBS⟩ : ∃ bs, Hid (bitsB P (atL P n) (atS P n) = bs) := ⟨_, Lib.hid rfl⟩
  obtain ⟨cs, HCS⟩ : ∃ cs, Hid (bitsB P (atL P m) (atS P m) = cs) := ⟨_, Lib.hid rfl⟩
  rw [HBS.out] at hl1 os HBA
  rw [HCS.out] at hl2 ot HBA
  have e1 := os.1
  have e2 := ot.1
  have hnl := os.2.1
  obtain rfl : tn = sn := by omega
  have hS : S = (tn : Int) := by omega
  subst hS
  have HL1 := Lib.hid e1
  have HL2 := Lib.hid e2
  have HOS := Lib.hid os
  have HOT := Lib.hid ot
  have HX := Lib.hid X
  have HG := Lib.hid G
  have HBF : Hid (Below w.heap.size w u10) := Lib.hid (HT2.out.grown G HT2.out.size (fun g e => by injection e with e; have := HPW0.out; omega))
  have htt : ((tn : Int) == (tn : Int)) = true := by simp
  clear a0 a1 x0 x1 os ot e1 e2 hl1 hl2 D X G
  go_wp2
  go_loopw [19, 20] (fun sv iv wr => ∃ (j : Nat) (r : Bool), j ≤ tn ∧ iv = .int .i64 (j : Int) ∧ sv = .bool r ∧ (r = true → EqB bs cs j) ∧ (r = false → bs ≠ cs) ∧ Below u10.heap.size u10 wr) (fun _ iv _ => tn - (intOf iv).toNat)
  case atStart => exact ⟨0, true, Nat.zero_le _, rfl, rfl, fun _ => EqB.zero _ _, (fun h => (by cases h)), Below.refl _ _⟩
  case round =>
    obtain ⟨j, r, hj, rfl, rfl, hr1, hr2, hbel⟩ := hrel
    have X := HX.out.below hbel HX.out.lt
    have t0 := X.cell (j := 0) rfl
    have t1 := X.cell (j := 1) rfl
    have t2 := X.cell (j := 2) rfl
    have t3 := X.cell (j := 3) rfl
    have t4 := X.cell (j := 4) rfl
    have t5 := X.cell (j := 5) rfl
    by_cases hgo : j < tn ∧ r = true
    case neg =>
      have hR : r = decide (n = m) := by
        cases r with
        | false =>
          have := hr2 rfl
          exact (decide_eq_false (fun h => this (HBA.out.2 h))).symm
        | true =>
          have hjn : j = tn := by
            rcases Nat.lt_or_ge j tn with h | h
            · exact absurd ⟨h, rfl⟩ hgo
            · omega
          subst hjn
          refine (decide_eq_true (HBA.out.1 ?_)).symm
          apply List.ext_getElem (HL1.out.trans HL2.out.symm)
          intro i h1 h2
          have := hr1 rfl i (by rw [← HL1.out]; exact h1)
          simpa [bAt, List.getD_eq_getElem?_getD, List.getElem?_eq_getElem h1, List.getElem?_eq_getElem h2] using this
      have hnm1 : (n == m) = r := by rw [hR]; rfl
      have hnm2 : decide (n = m) = r := hR.symm
      have hG := only_trans HG.out (grow_of hbel)
      have HBI : Hid (Calls Try.prog 24 #[.agg #[.int .i64 wd, .slice q1 m1 d1, .slice q2 m2 d2, .int .i64 tp, .slice q3 m3 d3, .slice q4 m4 d4]] wr fun e w' => e = .returned (.int .i64 (tn : Int)) ∧ Below wr.heap.size wr w') := Lib.hid (by rw [← HS.out]; exact implBitsIn_any ⟨wd, (q1, m1, d1), (q2, m2, d2), tp, (q3, m3, d3), (q4, m4, d4), rs⟩ P _ (HST.out _ hG) HCAP.out)
      have hbf := HBF.out.trans (hbel.mono HBF.out.size)
      clear hr1 hr2 X hG hR
      cases r with
      | true =>
        have hjt : ¬ j < tn := fun h => hgo ⟨h, rfl⟩
        obtain rfl : j = tn := by omega
        clear hgo hjt
        go_wp2_with fail
        refine HBI.out.mono ?_
        rintro e w9 ⟨rfl, hb⟩
        have hbf := hbf.trans (hb.mono hbf.size)
        clear hb
        go_wp2
        go_ret
        exact ⟨rfl, hbf⟩
      | false =>
        rcases Nat.lt_or_ge j tn with hlt | hge
        · clear hgo
          go_wp2_with fail
          refine HBI.out.mono ?_
          rintro e w9 ⟨rfl, hb⟩
          have hbf := hbf.trans (hb.mono hbf.size)
          clear hb
          go_wp2
          go_ret
          exact ⟨rfl, hbf⟩
        · obtain rfl : j = tn := by omega
          clear hgo
          go_wp2_with fail
          refine HBI.out.mono ?_
          rintro e w9 ⟨rfl, hb⟩
          have hbf := hbf.trans (hb.mono hbf.size)
          clear hb
          go_wp2
          go_ret
          exact ⟨rfl, hbf⟩
    obtain ⟨hlt, rfl⟩ := hgo
    have hdj : decide ((j : Int) < (tn : Int)) = true := by simp; omega
    obtain ⟨b1, o1, z1, rfl, hb1, hz1, hc1⟩ := (HOS.out.below hbel).at_ hlt
    obtain ⟨b2, o2, z2, rfl, hb2, hz2, hc2⟩ := (HOT.out.below hbel).at_ hlt
    have hE := hr1 rfl
    have HE : Hid ((z1 == z2) = true → EqB bs cs (j + 1)) := Lib.hid (fun h => hE.succ hz1 hz2 (by simpa using h))
    have HNE : Hid ((z1 == z2) = false → bs ≠ cs) := Lib.hid (fun h e => by rw [hz1.out, hz2.out, e] at h; simp at h)
    have hbd : Below u10.heap.size u10 wr.drew := hbel.trans ⟨rfl, rfl, rfl, Nat.le_refl _, fun _ _ => rfl⟩
    clear hr1 hr2 hE X t0 t1 t2 t3 t4 t5 hb1 hb2
    obtain ⟨r, HR⟩ : ∃ r, Hid ((z1 == z2) = r) := ⟨_, rfl⟩
    rw [HR.out] at HE HNE
    have hrr := HR.out
    go_wp2
    go_quiet (fail)
    go_wp2
    go_roundw
    case rel => exact ⟨j + 1, r, by omega, by go_num, rfl, HE.out, HNE.out, hbel.trans ⟨rfl, rfl, rfl, Nat.le_refl _, fun _ _ => rfl⟩⟩
    case measure => simp [intOf]; omega

/-! ### THE ROW's STEP: WRITTEN OUT: LEAVE IT -/
set_option maxRecDepth 100000 in
theorem lifted (os : Os) (started : os.Started) (H : Type) (enc : TypeId × Value → H) :
    ReturnsInHanded {} Try.checked os 5 .any (Rows.fnNumbersSpec.pre6 enc Try.prog Try.f5 Rows.fnNumbersRow.domain false) (Rows.fnNumbersSpec.post enc Try.prog Try.f5 false true false false) := by
  refine returnsInHanded_of_change (C := Try.checked) own started (by kernel_rfl) Try.func5
    (ChangeSpec.witness6 (enc := enc) (C := Try.checked) false ⟨#[], #[.slice none 0 0], []⟩ 8 (by kernel_rfl) (by kernel_rfl) (by kernel_rfl) (by kernel_rfl)) ?_
  intro W base args ds gs before hval0 hW hcnd _
  have hval : ∀ (j : Nat) t v, Try.f5.params[j]? = some t → args[j]? = some v → Value.okWide Try.prog W .any base t v := hval0
  have hW' := hW
  obtain ⟨p, q, hA0, hV, rfl, hfz, hnd⟩ := hW
  have hA : DataW.TrodAll enc Try.prog W 0 (fun _ => true) true Try.f5.params.toList args.toList ds p := hA0
  rw [Try.params5] at hA hval
  obtain ⟨v0, vs0, d0, ds0, p0, q0, hargs, rfl, rfl, h0, r0⟩ := trodAll_cons hA
  obtain ⟨rfl, rfl, rfl⟩ := trodAll_nil r0
  obtain rfl : args = #[v0] := by cases args; simp_all
  obtain ⟨rfl, rfl⟩ := trodVars_none hV
  obtain ⟨a0, len0, cap0, rfl⟩ := okWide_slice Try.underlying22 (hval 0 22 v0 rfl rfl)
  have k0 := h0
  have lt0 : ∀ x ∈ p0, x.block < W.heap.size := by obtain ⟨m, hm⟩ := k0; exact DataW.trod_lt m _ _ _ hm
  obtain ⟨z0, w0⟩ : ∃ zs, IsRow .u8 W a0 len0 cap0 zs := by
    obtain ⟨fuel, hf⟩ := h0
    rcases open_ints Try.underlying22 Try.underlying5 (by kernel_rfl) hf with ⟨hcs, _⟩ | ⟨x, l, c, zs, hcs, _, hl, hm, hz, _, hcell, hwz⟩
    · simp [Value.cells] at hcs
      obtain ⟨rfl, rfl, rfl⟩ := hcs
      exact ⟨[], .inl ⟨rfl, rfl, rfl, rfl⟩⟩
    · simp [Value.cells] at hcs
      obtain ⟨rfl, rfl, rfl⟩ := hcs
      exact ⟨zs, .inr ⟨_, rfl, hl, hm, by simpa using hz, hcell, hwz⟩⟩
  clear hA0 hval0
  refine (walk a0 len0 cap0 z0 W w0).mono fun e W' ⟨he, bel⟩ => ?_
  subst he
  exact ⟨_, rfl, _, _, _, [], _, [], hW', trodAll_mk1 (shut_bool Try.underlying4 _), (trodAll_cons_mk (Below.trod laidOut (by kernel_rfl) (of_decide_eq_true (by kernel_rfl)) k0 bel lt0) trodAll_mk0), rfl, bel.frame _, fun h => by cases h⟩

theorem over : Rows.fnNumbersRow.holds Try.pinned (OpenSpec.ofChange Rows.fnNumbersSpec) :=
  OpenClaim.holds_of_wide 5 Try.f5 rfl rfl rfl rfl rfl rfl rfl ⟨rfl, rfl, rfl, rfl, rfl⟩ rfl rfl rfl rfl rfl (by kernel_rfl) Try.func5 (by kernel_rfl)
    (of_decide_eq_true (by kernel_rfl)) (by unfold Func.isWrapper; first | (rw [if_pos (by decide +kernel)]; kernel_rfl) | (rw [if_neg (by decide +kernel)]; exact ⟨rfl, rfl⟩))
    (fun os started H enc _ => lifted os started H enc)

/-- ████ THE STATEMENT ████ -/
theorem proved : Rows.FnNumbersSaid := over
#print axioms proved
end Go.Proofs.Ytflojbjeloilaaa.fnNumbers
