/- For every code, of a drawn program and expression and six environments: MayTrap of the program answers as the model's; what may not trap has no trap; x / 0 may trap, and x % 2 may not. Conditions: none beyond the given row. (The frame round the walk is the guide's own shell, by program.) -/
import Derived.Test.YtmooecbdpfhnlaaRows
import Derived.Test.YtmooecbdpfhnlaaT1
import Derived.Test.YtmooecbdpfhnlaaT30
import Derived.Test.YtmooecbdpfhnlaaT35
import Derived.Test.YtmooecbdpfhnlaaT22
import Derived.WalkKit
import Derived.ProofKit
import Derived.OpenShut
import Derived.ShutString
import Derived.ChangeOld
import Derived.Below
namespace Go.Proofs.Ytmooecbdpfhnlaa.fnTraps
open Go.ChangeShapes Go.WideShapes Go.ChangeAt Go.RowKit
open Go.ChangeMaps (open_string shut_string)
set_option linter.unusedVariables false

theorem own : ownKnob Try.prog.godebug = none := by kernel_rfl
theorem laidOut : laidOutB Try.prog = true := by kernel_rfl

/-- WHAT THE WALK IS TOLD OF A SLICE OF INTEGERS THAT CAME IN: it is nil; or it leads to a row of 'cap' cells, the numbers 'zs' (the first 'len' are its elements, the rest its spare room), each fitting its kind. -/
def IsRow (k : IntKind) (w : World) (a : Option Addr) (len cap : Nat) (zs : List Int) : Prop :=
  (a = none ∧ len = 0 ∧ cap = 0 ∧ zs = []) ∨
  ∃ x, a = some x ∧ len ≤ cap ∧ cap ≤ maxLen ∧ zs.length = cap ∧ (∀ i, i < zs.length → w.cell? (x.add i) = some (.int k (zs.getD i 0))) ∧ ∀ n ∈ zs, (Lit.int k n).wf = true

/-! ### STEP 1: THE WALK: the Go text returns true, AND WRITES NOTHING THAT WAS THERE: 'Below w.heap.size w w'' (Derived/Below.lean: '.refl', '.alloc', '.drew', '.setCell' at a new block, '.trans'). Open each 'IsRow' by 'rcases' AHEAD of 'go_enter'; part every test ahead of the walk. -/
set_option maxRecDepth 20000 in
set_option maxHeartbeats 6400000 in
theorem walk (a0 : Option Addr) (len0 cap0 : Nat) (z0 : List Int) (w : World) (w0 : IsRow .u8 w a0 len0 cap0 z0) :
    Calls Try.prog 5 #[.slice a0 len0 cap0] w fun e w' => e = .returned (.bool true) ∧ Below w.heap.size w w' := by
  by_cases hbig : 4096 < len0
  · go_enter Try.func5, Try.ntmps5
    go_wp2_with (go_at_call 7; refine (big_any _ _ _ _).mono ?_; rintro e w1 ⟨rfl, rfl⟩; rw [decide_eq_true hbig])
    go_ret
    exact ⟨rfl, Below.refl _ _⟩
  have hcode := code_of_row w0 (by omega)
  clear w0
  go_enter Try.func5, Try.ntmps5
  go_wp2_with fail
  refine (big_any _ _ _ _).mono ?_
  rintro e w1 ⟨rfl, rfl⟩
  rw [decide_eq_false hbig]
  go_wp2_with fail
  refine (roll_any _ _ _ _ _ hcode).mono ?_
  rintro e w1 ⟨p, rfl, hp, D1, ht1⟩
  clear hcode
  have hpl := D1.lt
  go_wp2_with fail
  refine (program_any p _ D1).mono ?_
  rintro e w2 ⟨⟨wd, ⟨q1, m1, d1⟩, ⟨q2, m2, d2⟩, tp, ⟨q3, m3, d3⟩, ⟨q4, m4, d4⟩, rs⟩, P, A, l, s, b, s', b', rfl, hP, hcap, hH, hok, hDr, ⟨hpn, hkey⟩, D2, g2⟩
  simp only [progV, slV]
  have ht2 : Below w.heap.size w w2 := ht1.grown g2 ht1.size (fun g e => by injection e with e; omega)
  have hp2 : p < w2.heap.size := D2.lt
  have HKEY := Lib.hid hkey
  have HPN : Hid (∀ ba oa, q3 = some ⟨ba, oa, none⟩ → ba ≠ p) := Lib.hid (fun ba oa e => by have := hpn ba oa e; omega)
  have HH := Lib.hid hH
  have HOK := Lib.hid hok
  have HDR := Lib.hid hDr
  have HCAP := Lib.hid hcap
  have HPW := Lib.hid hp
  clear hkey hpn hH hok hDr hcap g2 D1 ht1 hP hpl hp
  obtain ⟨va, HVA⟩ : ∃ va, Hid (va = w2.alloc (.cells #[.int .i64 wd, .slice q1 m1 d1, .slice q2 m2 d2, .int .i64 tp, .slice q3 m3 d3, .slice q4 m4 d4] 28)) := ⟨_, rfl⟩
  have X : Blk va w2.heap.size 28 [.int .i64 wd, .slice q1 m1 d1, .slice q2 m2 d2, .int .i64 tp, .slice q3 m3 d3, .slice q4 m4 d4] := by rw [HVA.out]; exact Blk.new w2 _ _
  have gA : w2.grownBy va (some p) := by rw [HVA.out]; exact only_alloc (World.grownBy.refl _ _) _
  have DA : Dice va p := by rw [HVA.out]; exact D2.alloc _
  have htA : Below w.heap.size w va := by rw [HVA.out]; exact ht2.alloc ht2.size _
  obtain ⟨X0, HX0⟩ : ∃ X0, Hid (w2.heap.size = X0) := ⟨_, rfl⟩
  have hX0 : X0 ≠ p := by rw [← HX0.out]; omega
  rw [HX0.out] at X
  have x0 := X.cell (j := 0) rfl
  have x1 := X.cell (j := 1) rfl
  have x2 := X.cell (j := 2) rfl
  have x3 := X.cell (j := 3) rfl
  have x4 := X.cell (j := 4) rfl
  have x5 := X.cell (j := 5) rfl
  rw [HVA.out, ← HX0.out] at x0 x1 x2 x3 x4 x5
  go_wp2_with fail
  rw [← HVA.out, HX0.out]
  clear x0 x1 x2 x3 x4 x5 HVA HX0 D2 ht2 hp2
  refine (formula_any ⟨wd, (q1, m1, d1), (q2, m2, d2), tp, (q3, m3, d3), (q4, m4, d4), rs⟩ A p 2 _ (by omega) DA HH.out).mono ?_
  rintro e w4 ⟨gf, nf, cf, ts, rfl, hnf1, hnf2, hform, hof, D4, g4⟩
  have hpv : p < va.heap.size := DA.lt
  obtain ⟨B0, HB0⟩ : ∃ B0, Hid (va.heap.size = B0) := ⟨_, rfl⟩
  rw [HB0.out] at hof hpv
  have X := X.gen g4 hX0
  have gC := only_trans gA g4
  have ht4 : Below w.heap.size w w4 := htA.grown g4 htA.size (fun g e => by injection e with e; have := HPW.out; omega)
  have hl40 : ts.length ≤ 40 := by have := hof.terms.1; have : (2 : Nat) ^ (2 + 1) - 1 = 7 := rfl; omega
  have HCF := Lib.hid hof.cap
  have HSOUND : Hid (∀ v, envB P v = true → trapQ P ts = false → trapB P v ts = 0) := Lib.hid (fun v hE hq => trap_sound hE HDR.out hform hl40 hq)
  obtain ⟨m, HM⟩ : ∃ m, Hid (trapQ P ts = m) := ⟨_, rfl⟩
  rw [HM.out] at HSOUND
  have HPV := Lib.hid hpv
  clear hform hl40 hpv htA gA g4 DA HB0
  have HP := Lib.hid (HKEY.out _ gC)
  have x0 := X.cell (j := 0) rfl
  have x1 := X.cell (j := 1) rfl
  have x2 := X.cell (j := 2) rfl
  have x3 := X.cell (j := 3) rfl
  have x4 := X.cell (j := 4) rfl
  have x5 := X.cell (j := 5) rfl
  go_wp2_with fail
  refine (implMayTrap_any ⟨wd, (q1, m1, d1), (q2, m2, d2), tp, (q3, m3, d3), (q4, m4, d4), rs⟩ P _ _ _ ts _ HP.out HCAP.out hof.terms).mono ?_
  rintro e w5 ⟨rfl, hb5⟩
  rw [HM.out]
  have X := X.below hb5 X.lt
  have D5 := D4.below hb5
  have gC := only_more gC (only_below hb5 none) (fun g e => by cases e)
  have hof := hof.below hb5
  have HP := Lib.hid (HKEY.out _ gC)
  have ht5 := ht4.trans (hb5.mono ht4.size)
  clear x0 x1 x2 x3 x4 x5 hb5 ht4 D4
  have x0 := X.cell (j := 0) rfl
  have x1 := X.cell (j := 1) rfl
  have x2 := X.cell (j := 2) rfl
  have x3 := X.cell (j := 3) rfl
  have x4 := X.cell (j := 4) rfl
  have x5 := X.cell (j := 5) rfl
  go_wp2_with fail
  refine (specMayTrap_any ⟨wd, (q1, m1, d1), (q2, m2, d2), tp, (q3, m3, d3), (q4, m4, d4), rs⟩ P _ _ _ ts _ HP.out hof.terms HCF.out).mono ?_
  rintro e w6 ⟨rfl, hb6⟩
  rw [HM.out]
  have X := X.below hb6 X.lt
  have D6 := D5.below hb6
  have gC := only_more gC (only_below hb6 none) (fun g e => by cases e)
  have hof := hof.below hb6
  have ht6 := ht5.trans (hb6.mono ht5.size)
  clear x0 x1 x2 x3 x4 x5 hb6 ht5 D5 HP
  have hmm : (m != m) = false := by cases m <;> rfl
  go_wp2
  go_loopw [7] (fun i wr => ∃ k : Nat, k ≤ 6 ∧ i = .int .i64 (k : Int) ∧ w2.grownBy wr (some p) ∧ Blk wr X0 28 [.int .i64 wd, .slice q1 m1 d1, .slice q2 m2 d2, .int .i64 tp, .slice q3 m3 d3, .slice q4 m4 d4] ∧ Dice wr p ∧ OwnT wr B0 (some ⟨gf, 0, none⟩) nf cf ts ∧ Below w.heap.size w wr) (fun i _ => 6 - (intOf i).toNat)
  case atStart => exact ⟨0, Nat.zero_le _, rfl, gC, X, D6, hof, ht6⟩
  case round =>
    clear gC X D6 hof ht6
    obtain ⟨k, hk, rfl, gC, X, D, hof, ht⟩ := hrel
    by_cases hlt : k < 6
    · have hX00 := hX0
      have x0 := X.cell (j := 0) rfl
      have x1 := X.cell (j := 1) rfl
      have x2 := X.cell (j := 2) rfl
      have x3 := X.cell (j := 3) rfl
      have x4 := X.cell (j := 4) rfl
      have x5 := X.cell (j := 5) rfl
      go_wp2_with fail
      refine (surroundings_any ⟨wd, (q1, m1, d1), (q2, m2, d2), tp, (q3, m3, d3), (q4, m4, d4), rs⟩ P l s b s' b' A p _ (HKEY.out _ gC) HH.out HOK.out HDR.out D HPN.out).mono ?_
      rintro e w7 ⟨⟨⟨f1, h1, k1⟩, ⟨f2, h2, k2⟩, ers⟩, v, rfl, hkeyE, henv, D3, g3⟩
      simp only [envV, slV]
      have HKE := Lib.hid hkeyE
      have HTZ := Lib.hid (HSOUND.out v henv)
      have X := X.gen g3 hX0
      have gC := only_trans gC g3
      have hof := hof.old HPV.out g3
      have ht := ht.grown g3 ht.size (fun g e => by injection e with e; have := HPW.out; omega)
      clear hkeyE henv g3 D x0 x1 x2 x3 x4 x5
      obtain ⟨vb, HVB⟩ : ∃ vb, Hid (vb = w7.alloc (.cells #[.slice f1 h1 k1, .slice f2 h2 k2] 53)) := ⟨_, rfl⟩
      have Y : Blk vb w7.heap.size 53 [.slice f1 h1 k1, .slice f2 h2 k2] := by rw [HVB.out]; exact Blk.new w7 _ _
      have hbv : Below w7.heap.size w7 vb := by rw [HVB.out]; exact (Below.refl _ _).alloc (Nat.le_refl _) _
      have gE : w7.grownBy vb (some p) := only_below hbv _
      have HE := Lib.hid (HKE.out _ gE)
      have X := X.below hbv X.lt
      have gC := only_trans gC gE
      have hof := hof.below hbv
      have D3 := D3.below hbv
      have ht := ht.trans (hbv.mono ht.size)
      have HP := Lib.hid (HKEY.out _ gC)
      obtain ⟨Y0, HY0⟩ : ∃ Y0, Hid (w7.heap.size = Y0) := ⟨_, rfl⟩
      rw [HY0.out] at Y
      clear hbv gE HKE
      have x0 := X.cell (j := 0) rfl
      have x1 := X.cell (j := 1) rfl
      have x2 := X.cell (j := 2) rfl
      have x3 := X.cell (j := 3) rfl
      have x4 := X.cell (j := 4) rfl
      have x5 := X.cell (j := 5) rfl
      have y0 := Y.cell (j := 0) rfl
      have y1 := Y.cell (j := 1) rfl
      rw [HVB.out] at x0 x1 x2 x3 x4 x5 y0 y1
      go_wp2_with fail
      rw [← HVB.out]
      obtain ⟨Z, HZ⟩ : ∃ Z : Nat, Hid (valueB P v ts = Z) := ⟨_, rfl⟩
      obtain ⟨Z2, HZ2⟩ : ∃ Z2 : Int, Hid (trapB P v ts = Z2) := ⟨_, rfl⟩
      rw [HZ2.out] at HTZ
      clear x0 x1 x2 x3 x4 x5 y0 y1 HVB
      refine (implValueIn_any ⟨wd, (q1, m1, d1), (q2, m2, d2), tp, (q3, m3, d3), (q4, m4, d4), rs⟩ P ⟨(f1, h1, k1), (f2, h2, k2), ers⟩ v _ _ _ ts _ HP.out HCAP.out HE.out hof.terms).mono ?_
      rintro e w8 ⟨rfl, hb8⟩
      rw [HZ.out, HZ2.out]
      have X := X.below hb8 X.lt
      have D8 := D3.below hb8
      have gC := only_more gC (only_below hb8 none) (fun g e => by cases e)
      have hof := hof.below hb8
      have ht := ht.trans (hb8.mono ht.size)
      clear hb8 D3 HP HE Y HZ HZ2
      cases m with
      | true =>
        by_cases hz2 : Z2 = 0
        · subst hz2
          go_wp2
          go_roundw
          case rel => exact ⟨k + 1, by omega, by go_num, gC, X, D8, hof, ht⟩
          case measure => simp [intOf]; omega
        · have hz3 : (Z2 != 0) = true := by simpa using hz2
          go_wp2
          go_roundw
          case rel => exact ⟨k + 1, by omega, by go_num, gC, X, D8, hof, ht⟩
          case measure => simp [intOf]; omega
      | false =>
        have hz2 := HTZ.out rfl
        subst hz2
        go_wp2
        go_roundw
        case rel => exact ⟨k + 1, by omega, by go_num, gC, X, D8, hof, ht⟩
        case measure => simp [intOf]; omega
    · obtain rfl : k = 6 := by omega
      have HP := Lib.hid (HKEY.out _ gC)
      have HM1 : Hid (∀ w' a n c, Below wr.heap.size wr w' → Terms w' a n ([(1, 0)] ++ [(0, 0)] ++ [(8, 0)]) → Calls Try.prog 25 #[.agg #[.int .i64 wd, .slice q1 m1 d1, .slice q2 m2 d2, .int .i64 tp, .slice q3 m3 d3, .slice q4 m4 d4], .slice a n c] w' fun e w'' => e = .returned (.bool true) ∧ Below w'.heap.size w' w'') := Lib.hid (fun w' a n c hb hT => by rw [← trap_zero HDR.out HOK.out]; exact implMayTrap_any ⟨wd, (q1, m1, d1), (q2, m2, d2), tp, (q3, m3, d3), (q4, m4, d4), rs⟩ P a n c _ w' (HP.out.below hb) HCAP.out hT)
      have HM2 : Hid (∀ w' a n c, Below wr.heap.size wr w' → Terms w' a n ([(1, 0)] ++ [(0, 2)] ++ [(9, 0)]) → Calls Try.prog 25 #[.agg #[.int .i64 wd, .slice q1 m1 d1, .slice q2 m2 d2, .int .i64 tp, .slice q3 m3 d3, .slice q4 m4 d4], .slice a n c] w' fun e w'' => e = .returned (.bool false) ∧ Below w'.heap.size w' w'') := Lib.hid (fun w' a n c hb hT => by rw [← trap_rest (P := P)]; exact implMayTrap_any ⟨wd, (q1, m1, d1), (q2, m2, d2), tp, (q3, m3, d3), (q4, m4, d4), rs⟩ P a n c _ w' (HP.out.below hb) HCAP.out hT)
      have HXB := Lib.hid X
      have HTW := Lib.hid ht
      clear gC D hof ht HP X
      go_wp2_with fail
      refine (variable_any 0 _ (inTm1 (by omega) (by omega))).mono ?_
      rintro e u1 ⟨rfl, hoa, hb1⟩
      obtain ⟨A0, HA0⟩ : ∃ A0, Hid (wr.heap.size = A0) := ⟨_, rfl⟩
      rw [HA0.out] at hoa ⊢
      go_wp2_with fail
      refine (number_any 0 _ (inTm0 (by omega) (by omega))).mono ?_
      rintro e u2 ⟨rfl, hob, hb2⟩
      have HT1 := Lib.hid (hoa.below hb2).terms
      have HT2 := Lib.hid hob.terms
      have hb12 := hb1.trans (hb2.mono hb1.size)
      obtain ⟨A1, HA1⟩ : ∃ A1, Hid (u1.heap.size = A1) := ⟨_, rfl⟩
      rw [HA1.out] at HT2 ⊢
      clear hoa hob hb1 hb2
      go_wp2_with fail
      refine (two_lit (op := 8) (by omega) (by omega) 3 (by omega) (by omega) [(1, 0)] [(0, 0)] _ HT1.out HT2.out).mono ?_
      rintro e u3 ⟨gq, cq, rfl, hq, hb3⟩
      have hb13 := hb12.trans (hb3.mono hb12.size)
      have HBU := Lib.hid hb13
      have HQ := Lib.hid hq
      have X := HXB.out.below hb13 HXB.out.lt
      have hd : Below u3.heap.size u3 u3.drew := ⟨rfl, rfl, rfl, Nat.le_refl _, fun _ _ => rfl⟩
      have HZ0 := Lib.hid (hb13.trans (hd.mono hb13.size))
      have HQ0 := Lib.hid (hq.below (Nat.le_refl _) hd)
      clear hb12 hb3 hb13 hq HT1 HT2
      have x0 := X.cell (j := 0) rfl
      have x1 := X.cell (j := 1) rfl
      have x2 := X.cell (j := 2) rfl
      have x3 := X.cell (j := 3) rfl
      have x4 := X.cell (j := 4) rfl
      have x5 := X.cell (j := 5) rfl
      go_wp2_with fail
      go_region_held3 (fun w' => w'.cell? ⟨X0, 0, none⟩ = some (.int .i64 wd) ∧ w'.cell? ⟨X0, 1, none⟩ = some (.slice q1 m1 d1) ∧ w'.cell? ⟨X0, 2, none⟩ = some (.slice q2 m2 d2) ∧ w'.cell? ⟨X0, 3, none⟩ = some (.int .i64 tp) ∧ w'.cell? ⟨X0, 4, none⟩ = some (.slice q3 m3 d3) ∧ w'.cell? ⟨X0, 5, none⟩ = some (.slice q4 m4 d4)) (first | (refine ⟨?_, ?_, ?_, ?_, ?_, ?_⟩ <;> assumption) | go_keep | (refine ⟨?_, ?_, ?_, ?_, ?_, ?_⟩ <;> go_keep)) (first
        | (go_at_call 25; with_reducible refine (HM1.out _ _ _ _ HZ0.out HQ0.out).mono ?_; rintro e v1 ⟨rfl, hc1⟩; have HZ1 := Lib.hid (HZ0.out.trans (hc1.mono HZ0.out.size)); have X1 := HXB.out.below HZ1.out HXB.out.lt; have y0 := X1.cell (j := 0) rfl; have y1 := X1.cell (j := 1) rfl; have y2 := X1.cell (j := 2) rfl; have y3 := X1.cell (j := 3) rfl; have y4 := X1.cell (j := 4) rfl; have y5 := X1.cell (j := 5) rfl; clear hc1)
        | (go_at_call 30; with_reducible refine (variable_any 0 _ (inTm1 (by omega) (by omega))).mono ?_; rintro e v2 ⟨rfl, hoa, hc2⟩; have HZ2 := Lib.hid (HZ1.out.trans (hc2.mono HZ1.out.size)); have HTA := Lib.hid hoa.terms; have X2 := HXB.out.below HZ2.out HXB.out.lt; have z0 := X2.cell (j := 0) rfl; have z1 := X2.cell (j := 1) rfl; have z2 := X2.cell (j := 2) rfl; have z3 := X2.cell (j := 3) rfl; have z4 := X2.cell (j := 4) rfl; have z5 := X2.cell (j := 5) rfl; clear hc2 hoa)
        | (go_at_call 20; with_reducible refine (number_any 2 _ (inTm0 (by omega) (by omega))).mono ?_; rintro e v3 ⟨rfl, hob, hc3⟩; have HZ3 := Lib.hid (HZ2.out.trans (hc3.mono HZ2.out.size)); have HTB := Lib.hid hob.terms; have HTA := Lib.hid (HTA.out.below (Nat.le_refl _) hc3); have X3 := HXB.out.below HZ3.out HXB.out.lt; have a0 := X3.cell (j := 0) rfl; have a1 := X3.cell (j := 1) rfl; have a2 := X3.cell (j := 2) rfl; have a3 := X3.cell (j := 3) rfl; have a4 := X3.cell (j := 4) rfl; have a5 := X3.cell (j := 5) rfl; clear hc3 hob)
        | (go_at_call 29; with_reducible refine (two_lit (op := 9) (by omega) (by omega) 3 (by omega) (by omega) [(1, 0)] [(0, 2)] _ HTA.out HTB.out).mono ?_; rintro e v4 ⟨gr, cr, rfl, hq4, hc4⟩; have HZ4 := Lib.hid (HZ3.out.trans (hc4.mono HZ3.out.size)); have HQ4 := Lib.hid hq4; have X4 := HXB.out.below HZ4.out HXB.out.lt; have b0 := X4.cell (j := 0) rfl; have b1 := X4.cell (j := 1) rfl; have b2 := X4.cell (j := 2) rfl; have b3 := X4.cell (j := 3) rfl; have b4 := X4.cell (j := 4) rfl; have b5 := X4.cell (j := 5) rfl; clear hc4 hq4)
        | (go_at_call 25; with_reducible refine (HM2.out _ _ _ _ HZ4.out HQ4.out).mono ?_; rintro e v5 ⟨rfl, hc5⟩; have HZ5 := Lib.hid (HZ4.out.trans (hc5.mono HZ4.out.size)); have X5 := HXB.out.below HZ5.out HXB.out.lt; have c0 := X5.cell (j := 0) rfl; have c1 := X5.cell (j := 1) rfl; have c2 := X5.cell (j := 2) rfl; have c3 := X5.cell (j := 3) rfl; have c4 := X5.cell (j := 4) rfl; have c5 := X5.cell (j := 5) rfl; clear hc5))
      all_goals
        have HF := Lib.hid (HTW.out.trans (HZ5.out.mono HTW.out.size))
        go_wp2
        go_ret
        exact ⟨rfl, HF.out⟩

/-! ### THE ROW's STEP: WRITTEN OUT: LEAVE IT -/
set_option maxRecDepth 100000 in
theorem lifted (os : Os) (started : os.Started) (H : Type) (enc : TypeId × Value → H) :
    ReturnsInHanded {} Try.checked os 5 .any (Rows.fnTrapsSpec.pre6 enc Try.prog Try.f5 Rows.fnTrapsRow.domain false) (Rows.fnTrapsSpec.post enc Try.prog Try.f5 false true false false) := by
  refine returnsInHanded_of_change (C := Try.checked) own started (by kernel_rfl) Try.func5
    (ChangeSpec.witness6 (enc := enc) (C := Try.checked) false ⟨#[], #[.slice none 0 0], []⟩ 8 (by kernel_rfl) (by kernel_rfl) (by kernel_rfl) (by kernel_rfl)) ?_
  intro W base args ds gs before hval0 hW hcnd _
  have hval : ∀ (j : Nat) t v, Try.f5.params[j]? = some t → args[j]? = some v → Value.okWide Try.prog W .any base t v := hval0
  have hW' := hW
  obtain ⟨p, q, hA0, hV, rfl, hfz, hnd⟩ := hW
  have hA : DataW.TrodAll enc Try.prog W 0 (fun _ => true) true Try.f5.params.toList args.toList ds p := hA0
  rw [Try.params5] at hA hval
  obtain ⟨v0, vs0, d0, ds0, p0, q0, hargs, rfl, rfl, h0, r0⟩ := trodAll_cons hA
  obtain ⟨rfl, rfl, rfl⟩ := trodAll_nil r0
  obtain rfl : args = #[v0] := by cases args; simp_all
  obtain ⟨rfl, rfl⟩ := trodVars_none hV
  obtain ⟨a0, len0, cap0, rfl⟩ := okWide_slice Try.underlying22 (hval 0 22 v0 rfl rfl)
  have k0 := h0
  have lt0 : ∀ x ∈ p0, x.block < W.heap.size := by obtain ⟨m, hm⟩ := k0; exact DataW.trod_lt m _ _ _ hm
  obtain ⟨z0, w0⟩ : ∃ zs, IsRow .u8 W a0 len0 cap0 zs := by
    obtain ⟨fuel, hf⟩ := h0
    rcases open_ints Try.underlying22 Try.underlying5 (by kernel_rfl) hf with ⟨hcs, _⟩ | ⟨x, l, c, zs, hcs, _, hl, hm, hz, _, hcell, hwz⟩
    · simp [Value.cells] at hcs
      obtain ⟨rfl, rfl, rfl⟩ := hcs
      exact ⟨[], .inl ⟨rfl, rfl, rfl, rfl⟩⟩
    · simp [Value.cells] at hcs
      obtain ⟨rfl, rfl, rfl⟩ := hcs
      exact ⟨zs, .inr ⟨_, rfl, hl, hm, by simpa using hz, hcell, hwz⟩⟩
  clear hA0 hval0
  refine (walk a0 len0 cap0 z0 W w0).mono fun e W' ⟨he, bel⟩ => ?_
  subst he
  exact ⟨_, rfl, _, _, _, [], _, [], hW', trodAll_mk1 (shut_bool Try.underlying4 _), (trodAll_cons_mk (Below.trod laidOut (by kernel_rfl) (of_decide_eq_true (by kernel_rfl)) k0 bel lt0) trodAll_mk0), rfl, bel.frame _, fun h => by cases h⟩

theorem over : Rows.fnTrapsRow.holds Try.pinned (OpenSpec.ofChange Rows.fnTrapsSpec) :=
  OpenClaim.holds_of_wide 5 Try.f5 rfl rfl rfl rfl rfl rfl rfl ⟨rfl, rfl, rfl, rfl, rfl⟩ rfl rfl rfl rfl rfl (by kernel_rfl) Try.func5 (by kernel_rfl)
    (of_decide_eq_true (by kernel_rfl)) (by unfold Func.isWrapper; first | (rw [if_pos (by decide +kernel)]; kernel_rfl) | (rw [if_neg (by decide +kernel)]; exact ⟨rfl, rfl⟩))
    (fun os started H enc _ => lifted os started H enc)

/-- ████ THE STATEMENT ████ -/
theorem proved : Rows.FnTrapsSaid := over
#print axioms proved
end Go.Proofs.Ytmooecbdpfhnlaa.fnTraps
