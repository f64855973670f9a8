/- For every code, of a drawn program, at each of its inputs: a run answers as the model's, there is a start and an end; the variables begin with what is given, the inputs stay; what is put out are values. Conditions: none beyond the given row. (The frame round the walk is the guide's own shell, by program.) -/
import Derived.Test.YtflojbjeloilaaaGreatRows
import Derived.Test.YtflojbjeloilaaaGreatJ1
import Derived.Test.YtflojbjeloilaaaGreatJ13
import Derived.Test.YtflojbjeloilaaaGreatJ27
import Derived.Test.YtflojbjeloilaaaGreatJ28
import Derived.Test.YtflojbjeloilaaaGreatJ34
import Derived.Test.YtflojbjeloilaaaGreatJ26
import Derived.Test.YtflojbjeloilaaaGreatJ35
import Derived.WalkKit
import Derived.ProofKit
import Derived.OpenShut
import Derived.ShutString
import Derived.ChangeOld
import Derived.Below
namespace Go.Proofs.YtflojbjeloilaaaGreat.fnRun
open Go.ChangeShapes Go.WideShapes Go.ChangeAt Go.RowKit
open Go.ChangeMaps (open_string shut_string)
set_option linter.unusedVariables false

theorem own : ownKnob Tryz.prog.godebug = none := by kernel_rfl
theorem laidOut : laidOutB Tryz.prog = true := by kernel_rfl

/-- WHAT THE WALK IS TOLD OF A SLICE OF INTEGERS THAT CAME IN: it is nil; or it leads to a row of 'cap' cells, the numbers 'zs' (the first 'len' are its elements, the rest its spare room), each fitting its kind. -/
def IsRow (k : IntKind) (w : World) (a : Option Addr) (len cap : Nat) (zs : List Int) : Prop :=
  (a = none ∧ len = 0 ∧ cap = 0 ∧ zs = []) ∨
  ∃ x, a = some x ∧ len ≤ cap ∧ cap ≤ maxLen ∧ zs.length = cap ∧ (∀ i, i < zs.length → w.cell? (x.add i) = some (.int k (zs.getD i 0))) ∧ ∀ n ∈ zs, (Lit.int k n).wf = true

/-! ### STEP 1: THE WALK: the Go text returns true, AND WRITES NOTHING THAT WAS THERE: 'Below w.heap.size w w'' (Derived/Below.lean: '.refl', '.alloc', '.drew', '.setCell' at a new block, '.trans'). Open each 'IsRow' by 'rcases' AHEAD of 'go_enter'; part every test ahead of the walk. -/
set_option maxRecDepth 20000 in
set_option maxHeartbeats 6400000 in
theorem walk (a0 : Option Addr) (len0 cap0 : Nat) (z0 : List Int) (w : World) (w0 : IsRow .u8 w a0 len0 cap0 z0) :
    Calls Tryz.prog 3 #[.slice a0 len0 cap0] w fun e w' => e = .returned (.bool true) ∧ Below w.heap.size w w' := by
  by_cases hbig : 4096 < len0
  · go_enter Tryz.func3, Tryz.ntmps3
    go_wp2_with (go_at_call 10; refine (big_any _ _ _ _).mono ?_; rintro e w1 ⟨rfl, rfl⟩; rw [decide_eq_true hbig])
    go_ret
    exact ⟨rfl, Below.refl _ _⟩
  have hcode := code_of_row w0 (by omega)
  clear w0
  go_enter Tryz.func3, Tryz.ntmps3
  go_wp2_with fail
  refine (big_any _ _ _ _).mono ?_
  rintro e w1 ⟨rfl, rfl⟩
  rw [decide_eq_false hbig]
  go_wp2_with fail
  refine (roll_any _ _ _ _ _ hcode).mono ?_
  rintro e w1 ⟨p, rfl, hp, D1, ht1⟩
  clear hcode
  go_wp2_with fail
  refine (program_any p _ D1).mono ?_
  rintro e w2 ⟨⟨wd, ⟨q1, m1, d1⟩, ⟨q2, m2, d2⟩, tp, ⟨q3, m3, d3⟩, ⟨q4, m4, d4⟩, rs⟩, P, A, l, s, b, s', b', rfl, hP, hcap, hH, hok, hDr, _, _, g2⟩
  simp only [progV, slV]
  have ht2 : Below w.heap.size w w2 := ht1.grown g2 ht1.size (fun g e => by injection e with e; omega)
  have hwd : P.width = wd := hP.width.symm
  have hW3 : P.width.toNat = 2 ∨ P.width.toNat = 3 := by have := hDr.width; omega
  obtain ⟨W, HWd⟩ : ∃ W : Nat, Hid (P.width.toNat = W) := ⟨_, Lib.hid rfl⟩
  have hwd' : wd = (W : Int) := by have := hDr.width; have := HWd.out; omega
  subst hwd'
  obtain ⟨S, HS⟩ : ∃ S : Nat, Hid (2 ^ W = S) := ⟨_, Lib.hid rfl⟩
  rw [HWd.out] at hW3
  have hsh : Op.shift .shl .i64 1 .i64 (W : Int) = pure (.int .i64 (S : Int)) := by
    rw [← HS.out]
    rcases hW3 with rfl | rfl <;> rfl
  have hpb := prod_bits hok
  have hpp := prodL_pos (fun m hm => (wide_of_max hok m hm).1)
  have hcb : countB P = prodL (maxesP P) := by rw [countB, if_pos hok, countTo_prod]
  obtain ⟨C, HC⟩ : ∃ C : Nat, Hid (prodL (maxesP P) = (C : Int)) := ⟨(prodL (maxesP P)).toNat, Lib.hid (by omega)⟩
  rw [HC.out] at hcb hpb
  have HAT : Hid (∀ k : Nat, k < C → atOk P (k : Int) = true) := Lib.hid (fun k hk => by simp only [atOk, hok, HC.out, decide_true, Bool.true_and, Bool.and_eq_true, decide_eq_true_eq]; omega)
  have HLOW : Hid (P.lows.length = 1) := Lib.hid (by rw [hDr.lows]; rfl)
  have HSEC : Hid (P.secrets.length = 2) := Lib.hid (by rw [hDr.secrets]; rfl)
  have HTMP := Lib.hid hDr.temps
  have HCB := Lib.hid hcb
  have HCAP := Lib.hid hcap
  clear hcb hpp hDr hok g2 ht1 D1 hwd hH hcap hW3
  obtain ⟨wa, HW⟩ : ∃ wa, Hid (wa = w2.alloc (.cells #[.int .i64 (W : Int), .slice q1 m1 d1, .slice q2 m2 d2, .int .i64 tp, .slice q3 m3 d3, .slice q4 m4 d4] 28)) := ⟨_, rfl⟩
  have X : Blk wa w2.heap.size 28 [.int .i64 (W : Int), .slice q1 m1 d1, .slice q2 m2 d2, .int .i64 tp, .slice q3 m3 d3, .slice q4 m4 d4] := by rw [HW.out]; exact Blk.new w2 _ _
  have hba : Below w2.heap.size w2 wa := by rw [HW.out]; exact (Below.refl _ _).alloc (Nat.le_refl _) _
  have HP := Lib.hid (hP.below hba)
  have HBA := Lib.hid (ht2.trans (hba.mono ht2.size))
  have HX := Lib.hid X
  obtain ⟨k0, HK⟩ : ∃ k, Hid (w2.heap.size = k) := ⟨_, rfl⟩
  rw [HK.out] at HX
  clear hP ht2 hba X
  go_wp2_with fail
  rw [← HW.out, HK.out]
  clear HW HK
  go_loopw [4] (fun iv wr => ∃ k : Nat, k ≤ C ∧ iv = .int .i64 (k : Int) ∧ Below wa.heap.size wa wr) (fun iv _ => C - (intOf iv).toNat)
  case atStart => exact ⟨0, Nat.zero_le _, rfl, Below.refl _ _⟩
  case round =>
    obtain ⟨k, hk, rfl, hbel⟩ := hrel

    have X := HX.out.below hbel HX.out.lt
    have t0 := X.cell (j := 0) rfl
    have t1 := X.cell (j := 1) rfl
    have t2 := X.cell (j := 2) rfl
    have t3 := X.cell (j := 3) rfl
    have t4 := X.cell (j := 4) rfl
    have t5 := X.cell (j := 5) rfl
    clear X
    go_wp2_with fail
    refine (specInputsIn_any ⟨(W : Int), (q1, m1, d1), (q2, m2, d2), tp, (q3, m3, d3), (q4, m4, d4), rs⟩ P _ (HP.out.below hbel)).mono ?_
    rintro e v1 ⟨rfl, hb⟩
    rw [HCB.out]
    have hbel := hbel.trans (hb.mono hbel.size)
    clear hb
    clear t0 t1 t2 t3 t4 t5
    by_cases hlt : k < C
    case neg =>
      obtain rfl : k = C := by omega
      have HF := Lib.hid (HBA.out.trans (hbel.mono HBA.out.size))
      clear hbel
      go_wp2
      go_ret
      exact ⟨rfl, HF.out⟩
    have hat := HAT.out k hlt
    have hst := at_start hat
    obtain ⟨hl1, hl2⟩ := start_lens hst
    rw [HLOW.out] at hl1
    rw [HSEC.out] at hl2
    have hrf := run_facts hst HLOW.out HSEC.out HTMP.out
    obtain ⟨LS, HLS⟩ : ∃ LS, Hid (atL P (k : Int) = LS) := ⟨_, Lib.hid rfl⟩
    obtain ⟨SS, HSS⟩ : ∃ SS, Hid (atS P (k : Int) = SS) := ⟨_, Lib.hid rfl⟩
    rw [HLS.out, HSS.out] at hst hrf
    rw [HLS.out] at hl1
    rw [HSS.out] at hl2
    have HST := Lib.hid hst
    have HRF := Lib.hid hrf
    have HL1 := Lib.hid hl1
    have HL2 := Lib.hid hl2
    clear hat hst hrf hl1 hl2
    have X := HX.out.below hbel HX.out.lt
    have t0 := X.cell (j := 0) rfl
    have t1 := X.cell (j := 1) rfl
    have t2 := X.cell (j := 2) rfl
    have t3 := X.cell (j := 3) rfl
    have t4 := X.cell (j := 4) rfl
    have t5 := X.cell (j := 5) rfl
    clear X
    go_wp2_with fail
    refine (lawInputs_any ⟨(W : Int), (q1, m1, d1), (q2, m2, d2), tp, (q3, m3, d3), (q4, m4, d4), rs⟩ P (k : Int) _ (HP.out.below hbel) ⟨by omega, by omega⟩).mono ?_
    rintro e v2 ⟨hb, ⟨e0a, e0n, e0c⟩, ⟨e1a, e1n, e1c⟩, rfl, hm0, hm1⟩
    simp only [slV]
    rw [HLS.out] at hm0
    rw [HSS.out] at hm1
    have hbel := hbel.trans (hb.mono hbel.size)
    obtain rfl : e0n = 1 := by have := hm0.1; simp only [] at this; have := HL1.out; omega
    obtain rfl : e1n = 2 := by have := hm1.1; simp only [] at this; have := HL2.out; omega
    have HM0 := Lib.hid hm0
    have HM1 := Lib.hid hm1
    have HV := Lib.hid (Below.refl v2.heap.size v2)
    clear hb hm0 hm1
    clear t0 t1 t2 t3 t4 t5
    have hv := HV.out
    clear HV
    have X := HX.out.below hbel HX.out.lt
    have t0 := X.cell (j := 0) rfl
    have t1 := X.cell (j := 1) rfl
    have t2 := X.cell (j := 2) rfl
    have t3 := X.cell (j := 3) rfl
    have t4 := X.cell (j := 4) rfl
    have t5 := X.cell (j := 5) rfl
    clear X
    go_wp2_with fail
    refine (implRunOf_ans ⟨(W : Int), (q1, m1, d1), (q2, m2, d2), tp, (q3, m3, d3), (q4, m4, d4), rs⟩ P _ _ _ _ _ _ LS SS _ (HP.out.below hbel) HCAP.out (HM0.out.below hv) (HM1.out.below hv)).mono ?_
    rintro e v3 ⟨hb, ⟨oa, on, oc⟩, rfl, ho⟩
    simp only [HST.out, slV]
    have hbel := hbel.trans (hb.mono hbel.size)
    have hv := hv.trans (hb.mono hv.size)
    
    clear hb
    clear t0 t1 t2 t3 t4 t5
    obtain ⟨zr, zc, HZR⟩ : ∃ zr zc, Hid (endR P LS SS = (zr, zc)) := ⟨_, _, Lib.hid rfl⟩
    obtain ⟨OS, HOS⟩ : ∃ OS, Hid (outR P LS SS = OS) := ⟨_, Lib.hid rfl⟩
    rw [HOS.out] at ho
    simp only [HZR.out]
    have hou := HRF.out.outs
    rw [HOS.out, HWd.out, HS.out] at hou
    have HOU := Lib.hid hou
    clear hou
    obtain ⟨v3b, HN⟩ : ∃ x, Hid (x = v3.alloc (.cells #[.slice oa on oc, .int .i64 zr, .int .i64 zc] 37)) := ⟨_, rfl⟩
    have hb : Below v3.heap.size v3 v3b := by rw [HN.out]; exact (Below.refl _ _).alloc (Nat.le_refl _) _
    have K1 : Blk v3b v3.heap.size 37 [.slice oa on oc, .int .i64 zr, .int .i64 zc] := by rw [HN.out]; exact Blk.new v3 _ _
    have hbel := hbel.trans (hb.mono hbel.size)
    have hv := hv.trans (hb.mono hv.size)
    have ho := ho.below hb
    clear hb
    have X := HX.out.below hbel HX.out.lt
    have t0 := X.cell (j := 0) rfl
    have t1 := X.cell (j := 1) rfl
    have t2 := X.cell (j := 2) rfl
    have t3 := X.cell (j := 3) rfl
    have t4 := X.cell (j := 4) rfl
    have t5 := X.cell (j := 5) rfl
    clear X
    rw [HN.out] at t0 t1 t2 t3 t4 t5
    go_wp2_with fail
    rw [← HN.out]
    refine (specRunOf_ans ⟨(W : Int), (q1, m1, d1), (q2, m2, d2), tp, (q3, m3, d3), (q4, m4, d4), rs⟩ P _ _ _ _ _ _ LS SS _ (HP.out.below hbel) (HM0.out.below hv) (HM1.out.below hv)).mono ?_
    rintro e v4 ⟨hb, ⟨xa, xn, xc⟩, rfl, hx⟩
    simp only [HST.out, slV]
    have hbel := hbel.trans (hb.mono hbel.size)
    have hv := hv.trans (hb.mono hv.size)
    have K1 := K1.below hb K1.lt
    have ho := ho.below hb
    clear hb
    clear t0 t1 t2 t3 t4 t5
    clear HN
    rw [HOS.out] at hx
    simp only [HZR.out]
    obtain ⟨v4b, HN⟩ : ∃ x, Hid (x = v4.alloc (.cells #[.slice xa xn xc, .int .i64 zr, .int .i64 zc] 37)) := ⟨_, rfl⟩
    have hb : Below v4.heap.size v4 v4b := by rw [HN.out]; exact (Below.refl _ _).alloc (Nat.le_refl _) _
    have K2 : Blk v4b v4.heap.size 37 [.slice xa xn xc, .int .i64 zr, .int .i64 zc] := by rw [HN.out]; exact Blk.new v4 _ _
    have hbel := hbel.trans (hb.mono hbel.size)
    have hv := hv.trans (hb.mono hv.size)
    have K1 := K1.below hb K1.lt
    have ho := ho.below hb
    have hx := hx.below hb
    clear hb
    have X := HX.out.below hbel HX.out.lt
    have t0 := X.cell (j := 0) rfl
    have t1 := X.cell (j := 1) rfl
    have t2 := X.cell (j := 2) rfl
    have t3 := X.cell (j := 3) rfl
    have t4 := X.cell (j := 4) rfl
    have t5 := X.cell (j := 5) rfl
    clear X
    rw [HN.out] at t0 t1 t2 t3 t4 t5
    go_wp2_with fail
    rw [← HN.out]
    refine (implStartOf_ans ⟨(W : Int), (q1, m1, d1), (q2, m2, d2), tp, (q3, m3, d3), (q4, m4, d4), rs⟩ P _ _ _ _ _ _ LS SS _ (HP.out.below hbel) HCAP.out (HM0.out.below hv) (HM1.out.below hv)).mono ?_
    rintro e v5 ⟨hb, ⟨⟨va, vn, vc⟩, ⟨ca, cn, cc⟩, rws⟩, rfl, hm⟩
    simp only [HST.out, slV, envV]
    have hbel := hbel.trans (hb.mono hbel.size)
    have hv := hv.trans (hb.mono hv.size)
    have K1 := K1.below hb K1.lt
    have K2 := K2.below hb K2.lt
    have ho := ho.below hb
    have hx := hx.below hb
    have hvs := hm.vars
    clear hm
    clear hb
    clear t0 t1 t2 t3 t4 t5
    clear HN
    obtain ⟨v5b, HN⟩ : ∃ x, Hid (x = v5.alloc (.cells #[.slice va vn vc, .slice ca cn cc] 42)) := ⟨_, rfl⟩
    have hb : Below v5.heap.size v5 v5b := by rw [HN.out]; exact (Below.refl _ _).alloc (Nat.le_refl _) _
    have K3 : Blk v5b v5.heap.size 42 [.slice va vn vc, .slice ca cn cc] := by rw [HN.out]; exact Blk.new v5 _ _
    have hbel := hbel.trans (hb.mono hbel.size)
    have hv := hv.trans (hb.mono hv.size)
    have K1 := K1.below hb K1.lt
    have K2 := K2.below hb K2.lt
    have ho := ho.below hb
    have hx := hx.below hb
    have hvs := hvs.below hb
    clear hb
    have X := HX.out.below hbel HX.out.lt
    have t0 := X.cell (j := 0) rfl
    have t1 := X.cell (j := 1) rfl
    have t2 := X.cell (j := 2) rfl
    have t3 := X.cell (j := 3) rfl
    have t4 := X.cell (j := 4) rfl
    have t5 := X.cell (j := 5) rfl
    clear X
    rw [HN.out] at t0 t1 t2 t3 t4 t5
    go_wp2_with fail
    rw [← HN.out]
    refine (implAfterOf_ans ⟨(W : Int), (q1, m1, d1), (q2, m2, d2), tp, (q3, m3, d3), (q4, m4, d4), rs⟩ P _ _ _ _ _ _ LS SS _ (HP.out.below hbel) HCAP.out (HM0.out.below hv) (HM1.out.below hv)).mono ?_
    rintro e v6 ⟨hb, ⟨⟨ya, yn, yc⟩, ⟨za, zn, zzc⟩, rwz⟩, rfl, hm⟩
    simp only [HST.out, slV, envV]
    have hbel := hbel.trans (hb.mono hbel.size)
    have hv := hv.trans (hb.mono hv.size)
    have K1 := K1.below hb K1.lt
    have K2 := K2.below hb K2.lt
    have K3 := K3.below hb K3.lt
    have ho := ho.below hb
    have hx := hx.below hb
    have hvs := hvs.below hb
    have hys := hm.vars
    clear hm
    clear hb
    clear t0 t1 t2 t3 t4 t5
    clear HN
    obtain ⟨v6b, HN⟩ : ∃ x, Hid (x = v6.alloc (.cells #[.slice ya yn yc, .slice za zn zzc] 42)) := ⟨_, rfl⟩
    have hb : Below v6.heap.size v6 v6b := by rw [HN.out]; exact (Below.refl _ _).alloc (Nat.le_refl _) _
    have K4 : Blk v6b v6.heap.size 42 [.slice ya yn yc, .slice za zn zzc] := by rw [HN.out]; exact Blk.new v6 _ _
    have hbel := hbel.trans (hb.mono hbel.size)
    have hv := hv.trans (hb.mono hv.size)
    have K1 := K1.below hb K1.lt
    have K2 := K2.below hb K2.lt
    have K3 := K3.below hb K3.lt
    have ho := ho.below hb
    have hx := hx.below hb
    have hvs := hvs.below hb
    have hys := hys.below hb
    clear hb
    have HI0 := Lib.hid (HM0.out.below hv)
    have HI1 := Lib.hid (HM1.out.below hv)
    simp only [] at hvs hys ho hx
    have e1 := hvs.len
    have e2 := hys.len
    rw [HRF.out.startLen] at e1
    rw [HRF.out.endLen] at e2
    subst e1 e2
    obtain ⟨g0, o0, rfl, b0, c0⟩ := ints_one HI0.out (show 0 < 1 by omega)
    obtain ⟨g1, o1, rfl, b1, c1⟩ := ints_one HI1.out (show 0 < 2 by omega)
    obtain ⟨g1', o1', ee, b2, c2⟩ := ints_one HI1.out (show 1 < 2 by omega)
    injection ee with ee
    injection ee with ee1 ee2
    subst ee1 ee2
    obtain ⟨g3, o3, rfl, b3, c3⟩ := ints_one hvs.ints (show 0 < 5 by omega)
    obtain ⟨g3', o3', ee, b4, c4⟩ := ints_one hvs.ints (show 1 < 5 by omega)
    injection ee with ee
    injection ee with ee1 ee2
    subst ee1 ee2
    obtain ⟨g5, o5, rfl, b5, c5⟩ := ints_one hys.ints (show 2 < 5 by omega)
    rw [HRF.out.startLow] at c3
    rw [HRF.out.startSec] at c4
    rw [HRF.out.endSec] at c5
    obtain ⟨L0, HL0⟩ : ∃ z, Hid (LS.getD 0 0 = z) := ⟨_, rfl⟩
    obtain ⟨S0, HS0⟩ : ∃ z, Hid (SS.getD 0 0 = z) := ⟨_, rfl⟩
    obtain ⟨S1, HS1⟩ : ∃ z, Hid (SS.getD 1 0 = z) := ⟨_, rfl⟩
    rw [HL0.out] at c0 c3
    rw [HS0.out] at c1 c4
    rw [HS1.out] at c2 c5
    rw [Nat.add_zero] at c0 c1 c3
    have n0 : (L0 != L0) = false := by simp
    have n1 : (S0 != S0) = false := by simp
    have n2 : (S1 != S1) = false := by simp
    have HK1 := Lib.hid K1
    have HBEL := Lib.hid hbel
    have HO := Lib.hid ho
    have hon : on ≤ 1048576 := ho.2.1
    have HLK : Hid (∀ p : Lat v6b, Calls Tryz.prog 19 #[.agg #[.slice oa on oc, .int .i64 zr, .int .i64 zc], .agg #[.slice xa xn xc, .int .i64 zr, .int .i64 zc]] p.wd fun e w'' => e = .returned (.bool true) ∧ Below p.wd.heap.size p.wd w'') := Lib.hid (fun p => (implLike_any (oa, on, oc) (xa, xn, xc) zr zc zr zc OS OS p.wd (ho.ints.below p.ok) (hx.ints.below p.ok)).mono (fun e w'' h => ⟨by rw [h.1]; simp [likeB], h.2⟩))
    have x0 := lat_cell K1.lt (K1.cell (j := 0) rfl)
    have x1 := lat_cell K1.lt (K1.cell (j := 1) rfl)
    have x2 := lat_cell K1.lt (K1.cell (j := 2) rfl)
    have y0 := lat_cell K2.lt (K2.cell (j := 0) rfl)
    have y1 := lat_cell K2.lt (K2.cell (j := 1) rfl)
    have y2 := lat_cell K2.lt (K2.cell (j := 2) rfl)
    have z0 := lat_cell K3.lt (K3.cell (j := 0) rfl)
    have z1 := lat_cell K3.lt (K3.cell (j := 1) rfl)
    have y3 := lat_cell K4.lt (K4.cell (j := 0) rfl)
    have y4 := lat_cell K4.lt (K4.cell (j := 1) rfl)
    have a0 := lat_cell b0 c0
    have a1 := lat_cell b1 c1
    have a2 := lat_cell b2 c2
    have a3 := lat_cell b3 c3
    have a4 := lat_cell b4 c4
    have a5 := lat_cell b5 c5
    clear hvs hys hx ho HI0 HI1 K1 K2 K3 K4 c0 c1 c2 c3 c4 c5 b0 b1 b2 b3 b4 b5 hv hbel
    go_wp2
    rw [← HN.out]
    refine wp_region_lat (by kernel_rfl) (by kernel_rfl) ?_
    repeat (go_big_quiet_step ((go_at_call 19; exact lat_calls (HLK.out _))))
    refine wpQuiet_nil ?_
    intro _ hw'
    obtain ⟨⟨wq, hwq⟩, hw''⟩ := hw'
    subst hw''
    clear x0 x1 x2 y0 y1 y2 y3 y4 z0 z1 a0 a1 a2 a3 a4 a5 n0 n1 n2 HLK HN
    go_wp2
    go_loopw [15] (fun jv wt => ∃ j : Nat, j ≤ on ∧ jv = .int .i64 (j : Int) ∧ Below v6b.heap.size v6b wt) (fun jv _ => on - (intOf jv).toNat)
    case atStart => exact ⟨0, Nat.zero_le _, rfl, hwq⟩
    case round =>
      clear hwq
      obtain ⟨j, hj, rfl, hbj⟩ := hrel
      have K := HK1.out.below hbj HK1.out.lt
      have x0 := K.cell (j := 0) rfl
      by_cases hlj : j < on
      case neg =>
        obtain rfl : j = on := by omega
        have hbf := HBEL.out.trans (hbj.mono HBEL.out.size)
        clear K
        go_wp2
        go_roundw
        case rel => exact ⟨k + 1, by omega, by go_num, hbf⟩
        case measure => simp [intOf]; omega
      obtain ⟨b, oo, z, rfl, hb, hz, hin, hc⟩ := (HO.out.below hbj).ints.at_ hlj
      have hlen := HO.out.len
      have hzz := HOU.out z (by rw [hz.out]; exact getD_mem (by omega))
      have hd0 : decide (z < 0) = false := by simp; omega
      have hd1 : decide ((S : Int) ≤ z) = false := by simp; omega
      have hd2 : decide (z ≥ (S : Int)) = false := by simp; omega
      have hbel := HBEL.out.trans (hbj.mono HBEL.out.size)
      have t0 := (HX.out.below hbel HX.out.lt).cell (j := 0) rfl
      clear K hbel hzz hlen hin hb
      go_wp2
      go_quiet (fail)
      go_wp2
      go_roundw
      case rel => exact ⟨j + 1, by omega, by go_num, hbj.trans ⟨rfl, rfl, rfl, Nat.le_refl _, fun _ _ => rfl⟩⟩
      case measure => simp [intOf]; omega

/-! ### THE ROW's STEP: WRITTEN OUT: LEAVE IT -/
set_option maxRecDepth 100000 in
theorem lifted (os : Os) (started : os.Started) (H : Type) (enc : TypeId × Value → H) :
    ReturnsInHanded {} Tryz.checked os 3 .any (Rows.fnRunSpec.pre6 enc Tryz.prog Tryz.f3 Rows.fnRunRow.domain false) (Rows.fnRunSpec.post enc Tryz.prog Tryz.f3 false true false false) := by
  refine returnsInHanded_of_change (C := Tryz.checked) own started (by kernel_rfl) Tryz.func3
    (ChangeSpec.witness6 (enc := enc) (C := Tryz.checked) false ⟨#[], #[.slice none 0 0], []⟩ 8 (by kernel_rfl) (by kernel_rfl) (by kernel_rfl) (by kernel_rfl)) ?_
  intro W base args ds gs before hval0 hW hcnd _
  have hval : ∀ (j : Nat) t v, Tryz.f3.params[j]? = some t → args[j]? = some v → Value.okWide Tryz.prog W .any base t v := hval0
  have hW' := hW
  obtain ⟨p, q, hA0, hV, rfl, hfz, hnd⟩ := hW
  have hA : DataW.TrodAll enc Tryz.prog W 0 (fun _ => true) true Tryz.f3.params.toList args.toList ds p := hA0
  rw [Tryz.params3] at hA hval
  obtain ⟨v0, vs0, d0, ds0, p0, q0, hargs, rfl, rfl, h0, r0⟩ := trodAll_cons hA
  obtain ⟨rfl, rfl, rfl⟩ := trodAll_nil r0
  obtain rfl : args = #[v0] := by cases args; simp_all
  obtain ⟨rfl, rfl⟩ := trodVars_none hV
  obtain ⟨a0, len0, cap0, rfl⟩ := okWide_slice Tryz.underlying22 (hval 0 22 v0 rfl rfl)
  have k0 := h0
  have lt0 : ∀ x ∈ p0, x.block < W.heap.size := by obtain ⟨m, hm⟩ := k0; exact DataW.trod_lt m _ _ _ hm
  obtain ⟨z0, w0⟩ : ∃ zs, IsRow .u8 W a0 len0 cap0 zs := by
    obtain ⟨fuel, hf⟩ := h0
    rcases open_ints Tryz.underlying22 Tryz.underlying5 (by kernel_rfl) hf with ⟨hcs, _⟩ | ⟨x, l, c, zs, hcs, _, hl, hm, hz, _, hcell, hwz⟩
    · simp [Value.cells] at hcs
      obtain ⟨rfl, rfl, rfl⟩ := hcs
      exact ⟨[], .inl ⟨rfl, rfl, rfl, rfl⟩⟩
    · simp [Value.cells] at hcs
      obtain ⟨rfl, rfl, rfl⟩ := hcs
      exact ⟨zs, .inr ⟨_, rfl, hl, hm, by simpa using hz, hcell, hwz⟩⟩
  clear hA0 hval0
  refine (walk a0 len0 cap0 z0 W w0).mono fun e W' ⟨he, bel⟩ => ?_
  subst he
  exact ⟨_, rfl, _, _, _, [], _, [], hW', trodAll_mk1 (shut_bool Tryz.underlying4 _), (trodAll_cons_mk (Below.trod laidOut (by kernel_rfl) (of_decide_eq_true (by kernel_rfl)) k0 bel lt0) trodAll_mk0), rfl, bel.frame _, fun h => by cases h⟩

theorem over : Rows.fnRunRow.holds Tryz.pinned (OpenSpec.ofChange Rows.fnRunSpec) :=
  OpenClaim.holds_of_wide 3 Tryz.f3 rfl rfl rfl rfl rfl rfl rfl ⟨rfl, rfl, rfl, rfl, rfl⟩ rfl rfl rfl rfl rfl (by kernel_rfl) Tryz.func3 (by kernel_rfl)
    (of_decide_eq_true (by kernel_rfl)) (by unfold Func.isWrapper; first | (rw [if_pos (by decide +kernel)]; kernel_rfl) | (rw [if_neg (by decide +kernel)]; exact ⟨rfl, rfl⟩))
    (fun os started H enc _ => lifted os started H enc)

/-- ████ THE STATEMENT ████ -/
theorem proved : Rows.FnRunSaid := over
#print axioms proved
end Go.Proofs.YtflojbjeloilaaaGreat.fnRun
