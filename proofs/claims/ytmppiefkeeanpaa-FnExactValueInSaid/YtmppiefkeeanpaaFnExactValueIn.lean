/- For every program, every environment and every slice of Terms, the program's ValueIn answers as the model's, and leaves its arguments as they were. Conditions: none beyond the given row. (The frame round the walk is the guide's own shell, by program.) -/
import Derived.Test.YtmppiefkeeanpaaRows
import Derived.Test.YtmppiefkeeanpaaJ11
import Derived.Test.YtmppiefkeeanpaaJ5
import Derived.Test.YtmppiefkeeanpaaJ12
import Derived.Test.YtmppiefkeeanpaaJ21
import Derived.WalkKit
import Derived.ProofKit
import Derived.OpenShut
import Derived.ShutString
import Derived.ChangeOld
import Derived.Below
import Derived.Carry
namespace Go.Proofs.Ytmppiefkeeanpaa.fnExactValueIn
open Go.ChangeShapes Go.WideShapes Go.ChangeAt Go.RowKit
set_option linter.unusedVariables false

theorem own : ownKnob Try.prog.godebug = none := by kernel_rfl
theorem laidOut : laidOutB Try.prog = true := by kernel_rfl

/-! ### STEP 1: THE WALK -/
set_option maxHeartbeats 6400000 in
theorem walk (r0 : PRow) (r1 : ERow) (a2 : Option Addr) (len2 cap2 : Nat) (w : World) (w0 : ArgProg w r0) (w1 : ArgEnv w r1) (w2 : ArgTerms w a2 len2) :
    Calls Try.prog 6 #[progV r0, envV r1, .slice a2 len2 cap2] w fun e w' => e = .returned (.bool true) ∧ Below w.heap.size w w' := by
  have HA0 := Lib.hid w0
  have HA1 := Lib.hid w1
  have HA2 := Lib.hid w2
  clear w2
  obtain ⟨ea, HEA⟩ : ∃ ea, Hid (a2 = ea) := ⟨_, rfl⟩
  obtain ⟨en, HEN⟩ : ∃ en, Hid (len2 = en) := ⟨_, rfl⟩
  obtain ⟨ec, HEC⟩ : ∃ ec, Hid (cap2 = ec) := ⟨_, rfl⟩
  rw [HEA.out, HEN.out] at HA2
  rw [HEA.out, HEN.out, HEC.out]
  clear HEA HEN HEC a2 len2 cap2
  clear w0 w1
  obtain ⟨wd, ⟨a1, n1, c1⟩, ⟨a2, n2, c2⟩, tp, ⟨a3, n3, c3⟩, ⟨a4, n4, c4⟩, rows0⟩ := r0
  obtain ⟨⟨x1, y1, z1⟩, ⟨x2, y2, z2⟩, erows0⟩ := r1
  have HS : Hid (∀ w', Below w.heap.size w w' → Calls Try.prog 21 #[progV ⟨wd, (a1, n1, c1), (a2, n2, c2), tp, (a3, n3, c3), (a4, n4, c4), rows0⟩, .int .i64 ((1048576 : Nat) : Int)] w' (SzProg w' 1048576 ⟨wd, (a1, n1, c1), (a2, n2, c2), tp, (a3, n3, c3), (a4, n4, c4), rows0⟩)) := Lib.hid (fun w' hb => szProg_any _ _ _ (HA0.out.below hb) (Nat.le_refl _))
  have HSE : Hid (∀ (l : Nat) w', l ≤ 1048576 → Below w.heap.size w w' → Calls Try.prog 22 #[envV ⟨(x1, y1, z1), (x2, y2, z2), erows0⟩, .int .i64 (l : Int)] w' (SzEnv w' l ⟨(x1, y1, z1), (x2, y2, z2), erows0⟩)) := Lib.hid (fun l w' hl hb => szEnv_any _ _ _ (HA1.out.below hb) hl)
  clear HA0 HA1
  simp only [progV, envV, slV] at HS HSE
  show Calls Try.prog 6 #[.agg #[.int .i64 wd, .slice a1 n1 c1, .slice a2 n2 c2, .int .i64 tp, .slice a3 n3 c3, .slice a4 n4 c4], .agg #[.slice x1 y1 z1, .slice x2 y2 z2], .slice ea en ec] w _
  obtain ⟨wa, HW⟩ : ∃ wa, Hid (wa = ((w.alloc (.cells #[.int .i64 wd, .slice a1 n1 c1, .slice a2 n2 c2, .int .i64 tp, .slice a3 n3 c3, .slice a4 n4 c4] 51)).alloc (.cells #[.slice x1 y1 z1, .slice x2 y2 z2] 52))) := ⟨_, rfl⟩
  have BX : LBox w wa [.int .i64 wd, .slice a1 n1 c1, .slice a2 n2 c2, .int .i64 tp, .slice a3 n3 c3, .slice a4 n4 c4] [.slice x1 y1 z1, .slice x2 y2 z2] := by rw [HW.out]; exact lbox_new w _ _
  go_enter Try.func6, Try.ntmps6
  go_wp2_with fail
  rw [← HW.out]
  refine (HS.out _ BX.bel).mono ?_
  rintro e u1 ⟨hb1, he⟩
  rcases he with rfl | ⟨l1, hl1, rfl, rows, p, hp⟩
  · have B := BX.below hb1
    go_wp2_with fail
    go_ret
    exact ⟨rfl, B.bel⟩
  have hvv : decide ((l1 : Int) < 0) = false := by simp
  have HP := Lib.hid (hp.below hb1)
  have BX := BX.below hb1
  clear hp hb1 HW HS
  have k0 := BX.env.cell (j := 0) rfl
  have k1 := BX.env.cell (j := 1) rfl
  go_wp2_with fail
  refine (HSE.out l1 _ hl1 BX.bel).mono ?_
  rintro e u2 ⟨hb1, he⟩
  rcases he with rfl | ⟨l2, hl2, rfl, erows, v, hev⟩
  · have B := BX.below hb1
    clear k0 k1
    go_wp2_with fail
    go_ret
    exact ⟨rfl, B.bel⟩
  have hvv2 : decide ((l2 : Int) < 0) = false := by simp
  have HP := Lib.hid (HP.out.below hb1)
  have HV := Lib.hid (hev.below hb1)
  have BX := BX.below hb1
  clear hev hb1 HSE k0 k1
  go_wp2_with fail
  by_cases hen : en ≤ l2
  case neg =>
    refine (szTermS_over _ _ _ _ _ (by omega) HA2.out.1).mono ?_
    rintro e u3 ⟨rfl, rfl⟩
    go_wp2_with fail
    go_ret
    exact ⟨rfl, BX.bel⟩
  refine (szTermS_fits _ _ _ _ _ hen (by omega)).mono ?_
  rintro e u3 ⟨rfl, rfl⟩
  obtain ⟨ts, hts⟩ := HA2.out.2 (by omega)
  have HTS := Lib.hid (hts.below (Nat.le_refl _) BX.bel)
  obtain ⟨v2, HV2⟩ : ∃ v2 : Nat, Hid (l2 - en = v2) := ⟨_, rfl⟩
  rw [HV2.out]
  have hvv3 : decide ((v2 : Int) < 0) = false := by simp
  clear hts HA2 HV2
  obtain ⟨wi, HWI⟩ : ∃ wi, Hid (u2 = wi) := ⟨_, rfl⟩
  rw [HWI.out] at HP HV BX HTS ⊢
  clear HWI u2
  have HT : Hid (∀ w', Below wi.heap.size wi w' → Calls Try.prog 24 #[.agg #[.int .i64 wd, .slice a1 n1 c1, .slice a2 n2 c2, .int .i64 tp, .slice a3 n3 c3, .slice a4 n4 c4]] w' (MadeProg w' p)) := Lib.hid (fun w' hb => toProg_any ⟨wd, (a1, n1, c1), (a2, n2, c2), tp, (a3, n3, c3), (a4, n4, c4), rows⟩ p w' (HP.out.below hb))
  have HTE : Hid (∀ w', Below wi.heap.size wi w' → Calls Try.prog 25 #[.agg #[.slice x1 y1 z1, .slice x2 y2 z2]] w' (MadeEnv w' v)) := Lib.hid (fun w' hb => toEnv_any ⟨(x1, y1, z1), (x2, y2, z2), erows⟩ v w' (HV.out.below hb))
  have HU : Hid (∀ w', Below wi.heap.size wi w' → Calls Try.prog 29 #[.slice ea en ec] w' (MadeT w' ts)) := Lib.hid (fun w' hb => toTermS_any ea en ec ts w' (HTS.out.below (Nat.le_refl _) hb))
  obtain ⟨Z, HZ⟩ : ∃ Z : Int, Hid ((valueB p v ts : Int) = Z) := ⟨_, rfl⟩
  obtain ⟨Z2, HZ2⟩ : ∃ Z2 : Int, Hid (trapB p v ts = Z2) := ⟨_, rfl⟩
  have hne : (Z != Z) = false := by simp
  have hne2 : (Z2 != Z2) = false := by simp
  have g0 := BX.prg.cell (j := 0) rfl
  have g1 := BX.prg.cell (j := 1) rfl
  have g2 := BX.prg.cell (j := 2) rfl
  have g3 := BX.prg.cell (j := 3) rfl
  have g4 := BX.prg.cell (j := 4) rfl
  have g5 := BX.prg.cell (j := 5) rfl
  have k0 := BX.env.cell (j := 0) rfl
  have k1 := BX.env.cell (j := 1) rfl
  go_wp2_with fail
  have hd : Below wi.heap.size wi wi.drew := ⟨rfl, rfl, rfl, Nat.le_refl _, fun _ _ => rfl⟩
  have HD := Lib.hid hd
  have HBX := Lib.hid BX
  go_region_held3 (fun w' => w'.cell? ⟨w.heap.size, 0, none⟩ = some (.int .i64 wd) ∧ w'.cell? ⟨w.heap.size, 1, none⟩ = some (.slice a1 n1 c1) ∧ w'.cell? ⟨w.heap.size, 2, none⟩ = some (.slice a2 n2 c2) ∧ w'.cell? ⟨w.heap.size, 3, none⟩ = some (.int .i64 tp) ∧ w'.cell? ⟨w.heap.size, 4, none⟩ = some (.slice a3 n3 c3) ∧ w'.cell? ⟨w.heap.size, 5, none⟩ = some (.slice a4 n4 c4) ∧ w'.cell? ⟨w.heap.size + 1, 0, none⟩ = some (.slice x1 y1 z1) ∧ w'.cell? ⟨w.heap.size + 1, 1, none⟩ = some (.slice x2 y2 z2)) (first | (refine ⟨?_, ?_, ?_, ?_, ?_, ?_, ?_, ?_⟩ <;> assumption) | go_keep | (refine ⟨?_, ?_, ?_, ?_, ?_, ?_, ?_, ?_⟩ <;> go_keep)) (first
    | (go_at_call 24; refine (HT.out _ HD.out).mono ?_; rintro e v1 ⟨⟨sd, ⟨s1, t1, sx1⟩, ⟨s2, t2, sx2⟩, sq, ⟨s3, t3, sx3⟩, ⟨s4, t4, sx4⟩, srs⟩, rfl, hos, hbs⟩; have B1 := HBX.out.below (hd.trans (hbs.mono hd.size)); have ht1 := HD.out.trans (hbs.mono HD.out.size); have g0 := B1.prg.cell (j := 0) rfl; have g1 := B1.prg.cell (j := 1) rfl; have g2 := B1.prg.cell (j := 2) rfl; have g3 := B1.prg.cell (j := 3) rfl; have g4 := B1.prg.cell (j := 4) rfl; have g5 := B1.prg.cell (j := 5) rfl; have k0 := B1.env.cell (j := 0) rfl; have k1 := B1.env.cell (j := 1) rfl; clear hbs)
    | (go_at_call 25; refine (HTE.out _ ht1).mono ?_; rintro e v2 ⟨⟨⟨mm1, nn1, mmy1⟩, ⟨mm2, nn2, mmy2⟩, mmrs⟩, rfl, hemm, hbmm⟩; have B2 := B1.below hbmm; have ht2 := ht1.trans (hbmm.mono ht1.size); have hos2 := hos.below hbmm; have h0 := B2.prg.cell (j := 0) rfl; have h1 := B2.prg.cell (j := 1) rfl; have h2 := B2.prg.cell (j := 2) rfl; have h3 := B2.prg.cell (j := 3) rfl; have h4 := B2.prg.cell (j := 4) rfl; have h5 := B2.prg.cell (j := 5) rfl; have l0 := B2.env.cell (j := 0) rfl; have l1 := B2.env.cell (j := 1) rfl; clear hbmm)
    | (go_at_call 29; refine (HU.out _ ht2).mono ?_; rintro e v3 ⟨f1, g1', h1', rfl, hft, hbf⟩; have B3 := B2.below hbf; have ht3 := ht2.trans (hbf.mono ht2.size); have hos3 := hos2.below hbf; have hem3 := hemm.below hbf; have i0 := B3.prg.cell (j := 0) rfl; have i1 := B3.prg.cell (j := 1) rfl; have i2 := B3.prg.cell (j := 2) rfl; have i3 := B3.prg.cell (j := 3) rfl; have i4 := B3.prg.cell (j := 4) rfl; have i5 := B3.prg.cell (j := 5) rfl; have j0 := B3.env.cell (j := 0) rfl; have j1 := B3.env.cell (j := 1) rfl; clear hbf)
    | (go_at_call 15; refine (specValueIn_any ⟨sd, (s1, t1, sx1), (s2, t2, sx2), sq, (s3, t3, sx3), (s4, t4, sx4), srs⟩ p ⟨(mm1, nn1, mmy1), (mm2, nn2, mmy2), mmrs⟩ v _ _ _ ts _ hos3.reads hem3 hft.terms).mono ?_; rintro e v4 ⟨rfl, hb4⟩; rw [HZ.out, HZ2.out]; have B4 := B3.below hb4; have ht4 := ht3.trans (hb4.mono ht3.size); have m0 := B4.prg.cell (j := 0) rfl; have m1 := B4.prg.cell (j := 1) rfl; have m2 := B4.prg.cell (j := 2) rfl; have m3 := B4.prg.cell (j := 3) rfl; have m4 := B4.prg.cell (j := 4) rfl; have m5 := B4.prg.cell (j := 5) rfl; have o0 := B4.env.cell (j := 0) rfl; have o1 := B4.env.cell (j := 1) rfl; clear hb4))
  clear g0 g1 g2 g3 g4 g5 k0 k1
  clear h0 h1 h2 h3 h4 h5 l0 l1 m0 m1 m2 m3 m4 m5 o0 o1 i0 i1 i2 i3 i4 i5 j0 j1 hos hos2 hemm hos3 hem3 hft B3 ht3 B1 B2 ht1 ht2 HBX HD hd
  have g0 := B4.prg.cell (j := 0) rfl
  have g1 := B4.prg.cell (j := 1) rfl
  have g2 := B4.prg.cell (j := 2) rfl
  have g3 := B4.prg.cell (j := 3) rfl
  have g4 := B4.prg.cell (j := 4) rfl
  have g5 := B4.prg.cell (j := 5) rfl
  go_wp2_with fail
  refine (HT.out _ ht4).mono ?_
  rintro e v5 ⟨⟨qd, ⟨q1, l1, qx1⟩, ⟨q2, l2, qx2⟩, qq, ⟨q3, l3, qx3⟩, ⟨q4, l4, qx4⟩, qrs⟩, rfl, hoq, hbq⟩
  simp only [progV, slV]
  have ht5 := ht4.trans (hbq.mono ht4.size)
  have B5 := B4.below hbq
  clear g0 g1 g2 g3 g4 g5 hbq ht4 B4
  obtain ⟨va, HVA⟩ : ∃ va, Hid (va = v5.alloc (.cells #[.int .i64 qd, .slice q1 l1 qx1, .slice q2 l2 qx2, .int .i64 qq, .slice q3 l3 qx3, .slice q4 l4 qx4] 31)) := ⟨_, rfl⟩
  have X : Blk va v5.heap.size 31 [.int .i64 qd, .slice q1 l1 qx1, .slice q2 l2 qx2, .int .i64 qq, .slice q3 l3 qx3, .slice q4 l4 qx4] := by rw [HVA.out]; exact Blk.new v5 _ _
  have hba : Below v5.heap.size v5 va := by rw [HVA.out]; exact (Below.refl _ _).alloc (Nat.le_refl _) _
  have B5 := B5.below hba
  have ht5 := ht5.trans (hba.mono ht5.size)
  have hoq := hoq.below hba
  obtain ⟨X0, HX0⟩ : ∃ X0, Hid (v5.heap.size = X0) := ⟨_, rfl⟩
  rw [HX0.out] at X
  have k0 := B5.env.cell (j := 0) rfl
  have k1 := B5.env.cell (j := 1) rfl
  rw [HVA.out] at k0 k1
  go_wp2_with fail
  rw [← HVA.out, HX0.out]
  clear k0 k1 hba HVA HX0
  refine (HTE.out _ ht5).mono ?_
  rintro e v6 ⟨⟨⟨ff1, gg1, ffy1⟩, ⟨ff2, gg2, ffy2⟩, ffrs⟩, rfl, heff, hbff⟩
  simp only [envV, slV]
  have ht6 := ht5.trans (hbff.mono ht5.size)
  have B6 := B5.below hbff
  have X := X.below hbff X.lt
  have hoq := hoq.below hbff
  clear hbff ht5 B5
  obtain ⟨vb, HVB⟩ : ∃ vb, Hid (vb = v6.alloc (.cells #[.slice ff1 gg1 ffy1, .slice ff2 gg2 ffy2] 35)) := ⟨_, rfl⟩
  have Y : Blk vb v6.heap.size 35 [.slice ff1 gg1 ffy1, .slice ff2 gg2 ffy2] := by rw [HVB.out]; exact Blk.new v6 _ _
  have hba : Below v6.heap.size v6 vb := by rw [HVB.out]; exact (Below.refl _ _).alloc (Nat.le_refl _) _
  have B6 := B6.below hba
  have ht6 := ht6.trans (hba.mono ht6.size)
  have hoq := hoq.below hba
  have heff := heff.below hba
  have X := X.below hba X.lt
  obtain ⟨Y0, HY0⟩ : ∃ Y0, Hid (v6.heap.size = Y0) := ⟨_, rfl⟩
  rw [HY0.out] at Y
  go_wp2_with fail
  rw [← HVB.out, HY0.out]
  clear hba HVB HY0
  refine (HU.out _ ht6).mono ?_
  rintro e v7 ⟨f3, g3', h3', rfl, hft, hbf⟩
  have ht6 := ht6.trans (hbf.mono ht6.size)
  have B6 := B6.below hbf
  have X := X.below hbf X.lt
  have Y := Y.below hbf Y.lt
  have hoq := hoq.below hbf
  have heff := heff.below hbf
  clear hbf
  have g0 := X.cell (j := 0) rfl
  have g1 := X.cell (j := 1) rfl
  have g2 := X.cell (j := 2) rfl
  have g3 := X.cell (j := 3) rfl
  have g4 := X.cell (j := 4) rfl
  have g5 := X.cell (j := 5) rfl
  have k0 := Y.cell (j := 0) rfl
  have k1 := Y.cell (j := 1) rfl
  go_wp2_with fail
  refine (implValueIn_any ⟨qd, (q1, l1, qx1), (q2, l2, qx2), qq, (q3, l3, qx3), (q4, l4, qx4), qrs⟩ p ⟨(ff1, gg1, ffy1), (ff2, gg2, ffy2), ffrs⟩ v _ _ _ ts _ hoq.reads hoq.cap heff hft.terms).mono ?_
  rintro e v8 ⟨rfl, hb8⟩
  rw [HZ.out, HZ2.out]
  have ht8 := ht6.trans (hb8.mono ht6.size)
  have B8 := B6.below hb8
  have X := X.below hb8 X.lt
  have Y := Y.below hb8 Y.lt
  have HO := Lib.hid (hoq.below hb8)
  have HEV := Lib.hid (heff.below hb8)
  have hft := hft.below hb8
  clear g0 g1 g2 g3 g4 g5 k0 k1 hb8 ht6 B6 hoq heff HZ HZ2
  have g0 := B8.prg.cell (j := 0) rfl
  have g1 := B8.prg.cell (j := 1) rfl
  have g2 := B8.prg.cell (j := 2) rfl
  have g3 := B8.prg.cell (j := 3) rfl
  have g4 := B8.prg.cell (j := 4) rfl
  have g5 := B8.prg.cell (j := 5) rfl
  have i0 := X.cell (j := 0) rfl
  have i1 := X.cell (j := 1) rfl
  have i2 := X.cell (j := 2) rfl
  have i3 := X.cell (j := 3) rfl
  have i4 := X.cell (j := 4) rfl
  have i5 := X.cell (j := 5) rfl
  go_wp2_with fail
  have hd : Below v8.heap.size v8 v8.drew := ⟨rfl, rfl, rfl, Nat.le_refl _, fun _ _ => rfl⟩
  have HTD := Lib.hid (HT.out _ (ht8.trans (hd.mono ht8.size)))
  have HEQ : Hid (∀ w' r', Below v8.heap.size v8 w' → ProgAt w' r' p → Calls Try.prog 26 #[.agg #[.int .i64 qd, .slice q1 l1 qx1, .slice q2 l2 qx2, .int .i64 qq, .slice q3 l3 qx3, .slice q4 l4 qx4], progV r'] w' fun e w'' => e = .returned (.bool true) ∧ Below w'.heap.size w' w'') := Lib.hid (fun w' r' hb hr => (eqProg_any ⟨qd, (q1, l1, qx1), (q2, l2, qx2), qq, (q3, l3, qx3), (q4, l4, qx4), qrs⟩ r' p p w' (HO.out.below hb).reads hr).mono fun e w'' h => by rw [decide_eq_true rfl] at h; exact h)
  have HX := Lib.hid X
  have HBB := Lib.hid B8
  go_region_held3 (fun w' => w'.cell? ⟨w.heap.size, 0, none⟩ = some (.int .i64 wd) ∧ w'.cell? ⟨w.heap.size, 1, none⟩ = some (.slice a1 n1 c1) ∧ w'.cell? ⟨w.heap.size, 2, none⟩ = some (.slice a2 n2 c2) ∧ w'.cell? ⟨w.heap.size, 3, none⟩ = some (.int .i64 tp) ∧ w'.cell? ⟨w.heap.size, 4, none⟩ = some (.slice a3 n3 c3) ∧ w'.cell? ⟨w.heap.size, 5, none⟩ = some (.slice a4 n4 c4) ∧ w'.cell? ⟨X0, 0, none⟩ = some (.int .i64 qd) ∧ w'.cell? ⟨X0, 1, none⟩ = some (.slice q1 l1 qx1) ∧ w'.cell? ⟨X0, 2, none⟩ = some (.slice q2 l2 qx2) ∧ w'.cell? ⟨X0, 3, none⟩ = some (.int .i64 qq) ∧ w'.cell? ⟨X0, 4, none⟩ = some (.slice q3 l3 qx3) ∧ w'.cell? ⟨X0, 5, none⟩ = some (.slice q4 l4 qx4)) (first | (refine ⟨?_, ?_, ?_, ?_, ?_, ?_, ?_, ?_, ?_, ?_, ?_, ?_⟩ <;> assumption) | go_keep | (refine ⟨?_, ?_, ?_, ?_, ?_, ?_, ?_, ?_, ?_, ?_, ?_, ?_⟩ <;> go_keep)) (first
    | (go_at_call 24; refine HTD.out.mono ?_; rintro e v9 ⟨⟨sd, ⟨s1, t1, sx1⟩, ⟨s2, t2, sx2⟩, sq, ⟨s3, t3, sx3⟩, ⟨s4, t4, sx4⟩, srs⟩, rfl, hos, hbs⟩; have hb9 := hd.trans (hbs.mono hd.size); have Q := HX.out.below hb9 HX.out.lt; have m0 := Q.cell (j := 0) rfl; have m1 := Q.cell (j := 1) rfl; have m2 := Q.cell (j := 2) rfl; have m3 := Q.cell (j := 3) rfl; have m4 := Q.cell (j := 4) rfl; have m5 := Q.cell (j := 5) rfl; have Q := HBB.out.below hb9; have o0 := Q.prg.cell (j := 0) rfl; have o1 := Q.prg.cell (j := 1) rfl; have o2 := Q.prg.cell (j := 2) rfl; have o3 := Q.prg.cell (j := 3) rfl; have o4 := Q.prg.cell (j := 4) rfl; have o5 := Q.prg.cell (j := 5) rfl; have HE := Lib.hid (HEQ.out _ _ hb9 hos.reads); have HB9 := Lib.hid hb9; clear hos hbs hb9 Q)
    | (go_at_call 26; refine HE.out.mono ?_; rintro e va ⟨rfl, hba⟩; have HB10 := Lib.hid (HB9.out.trans (hba.mono HB9.out.size)); have Q := HX.out.below HB10.out HX.out.lt; have b0 := Q.cell (j := 0) rfl; have b1 := Q.cell (j := 1) rfl; have b2 := Q.cell (j := 2) rfl; have b3 := Q.cell (j := 3) rfl; have b4 := Q.cell (j := 4) rfl; have b5 := Q.cell (j := 5) rfl; have Q := HBB.out.below HB10.out; have f0 := Q.prg.cell (j := 0) rfl; have f1 := Q.prg.cell (j := 1) rfl; have f2 := Q.prg.cell (j := 2) rfl; have f3 := Q.prg.cell (j := 3) rfl; have f4 := Q.prg.cell (j := 4) rfl; have f5 := Q.prg.cell (j := 5) rfl; clear hba Q))
  have ht10 := ht8.trans (HB10.out.mono ht8.size)
  have B10 := B8.below HB10.out
  have Y := Y.below HB10.out Y.lt
  have HEV := Lib.hid (HEV.out.below HB10.out)
  have hft := hft.below HB10.out
  clear m0 m1 m2 m3 m4 m5 o0 o1 o2 o3 o4 o5 b0 b1 b2 b3 b4 b5 f0 f1 f2 f3 f4 f5 g0 g1 g2 g3 g4 g5 i0 i1 i2 i3 i4 i5 HX HBB HEQ HTD hd HE HB9 HB10 B8 X HO
  have g0 := B10.env.cell (j := 0) rfl
  have g1 := B10.env.cell (j := 1) rfl
  have i0 := Y.cell (j := 0) rfl
  have i1 := Y.cell (j := 1) rfl
  go_wp2_with fail
  have hd : Below va.heap.size va va.drew := ⟨rfl, rfl, rfl, Nat.le_refl _, fun _ _ => rfl⟩
  have HTD := Lib.hid (HTE.out _ (ht10.trans (hd.mono ht10.size)))
  have HEQ : Hid (∀ w' r', Below va.heap.size va w' → EnvAt w' r' v → Calls Try.prog 27 #[.agg #[.slice ff1 gg1 ffy1, .slice ff2 gg2 ffy2], envV r'] w' fun e w'' => e = .returned (.bool true) ∧ Below w'.heap.size w' w'') := Lib.hid (fun w' r' hb hr => eqEnv_same ⟨(ff1, gg1, ffy1), (ff2, gg2, ffy2), ffrs⟩ r' v w' (HEV.out.below hb) hr)
  have HX := Lib.hid Y
  have HBB := Lib.hid B10
  go_region_held3 (fun w' => w'.cell? ⟨w.heap.size + 1, 0, none⟩ = some (.slice x1 y1 z1) ∧ w'.cell? ⟨w.heap.size + 1, 1, none⟩ = some (.slice x2 y2 z2) ∧ w'.cell? ⟨Y0, 0, none⟩ = some (.slice ff1 gg1 ffy1) ∧ w'.cell? ⟨Y0, 1, none⟩ = some (.slice ff2 gg2 ffy2)) (first | (refine ⟨?_, ?_, ?_, ?_⟩ <;> assumption) | go_keep | (refine ⟨?_, ?_, ?_, ?_⟩ <;> go_keep)) (first
    | (go_at_call 25; refine HTD.out.mono ?_; rintro e v11 ⟨⟨⟨ss1, tt1, ssy1⟩, ⟨ss2, tt2, ssy2⟩, ssrs⟩, rfl, hess, hbss⟩; have hb9 := hd.trans (hbss.mono hd.size); have Q := HX.out.below hb9 HX.out.lt; have m0 := Q.cell (j := 0) rfl; have m1 := Q.cell (j := 1) rfl; have Q := HBB.out.below hb9; have o0 := Q.env.cell (j := 0) rfl; have o1 := Q.env.cell (j := 1) rfl; have HE := Lib.hid (HEQ.out _ _ hb9 hess); have HB11 := Lib.hid hb9; clear hess hbss hb9 Q)
    | (go_at_call 27; refine HE.out.mono ?_; rintro e v12 ⟨rfl, hba⟩; have HB12 := Lib.hid (HB11.out.trans (hba.mono HB11.out.size)); have Q := HX.out.below HB12.out HX.out.lt; have b0 := Q.cell (j := 0) rfl; have b1 := Q.cell (j := 1) rfl; have Q := HBB.out.below HB12.out; have f0 := Q.env.cell (j := 0) rfl; have f1 := Q.env.cell (j := 1) rfl; clear hba Q))
  have ht12 := ht10.trans (HB12.out.mono ht10.size)
  have B12 := B10.below HB12.out
  have hft := hft.below HB12.out
  go_wp2_with fail
  refine (HU.out _ ht12).mono ?_
  rintro e v13 ⟨f7, g7, h7, rfl, hf7, hb7⟩
  have hft := hft.below hb7
  have B12 := B12.below hb7
  go_wp2_with fail
  refine (eqTermS_any _ _ _ _ _ _ ts ts _ hft.terms hf7.terms).mono ?_
  rintro e v14 ⟨rfl, hb8⟩
  rw [decide_eq_true rfl]
  have B12 := B12.below hb8
  go_wp2_with fail
  go_ret
  exact ⟨rfl, B12.bel⟩

/-! ### THE ROW's STEP -/
set_option maxRecDepth 100000 in
theorem lifted (os : Os) (started : os.Started) (H : Type) (enc : TypeId × Value → H) :
    ReturnsInHanded {} Try.checked os 6 .any (Rows.fnExactValueInSpec.pre6 enc Try.prog Try.f6 Rows.fnExactValueInRow.domain false) (Rows.fnExactValueInSpec.post enc Try.prog Try.f6 false true false false) := by
  refine returnsInHanded_of_change (C := Try.checked) own started (by kernel_rfl) Try.func6
    (ChangeSpec.witness6 (enc := enc) (C := Try.checked) false ⟨#[], #[.agg #[.int .i64 0, .slice none 0 0, .slice none 0 0, .int .i64 0, .slice none 0 0, .slice none 0 0], .agg #[.slice none 0 0, .slice none 0 0], .slice none 0 0], []⟩ 8 (by kernel_rfl) (by kernel_rfl) (by kernel_rfl) (by kernel_rfl)) ?_
  intro W base args ds gs before hval0 hW hcnd _
  have hval : ∀ (j : Nat) t v, Try.f6.params[j]? = some t → args[j]? = some v → Value.okWide Try.prog W .any base t v := hval0
  have hW' := hW
  obtain ⟨p, q, hA0, hV, rfl, hfz, hnd⟩ := hW
  have hA : DataW.TrodAll enc Try.prog W 0 (fun _ => true) true Try.f6.params.toList args.toList ds p := hA0
  rw [Try.params6] at hA hval
  obtain ⟨v0, vs0, d0, ds0, p0, q0, hargs, rfl, rfl, h0, r0⟩ := trodAll_cons hA
  obtain ⟨v1, vs1, d1, ds1, p1, q1, hargs1, rfl, rfl, h1, r1⟩ := trodAll_cons r0
  obtain ⟨v2, vs2, d2, ds2, p2, q2, hargs2, rfl, rfl, h2, r2⟩ := trodAll_cons r1
  obtain ⟨rfl, rfl, rfl⟩ := trodAll_nil r2
  obtain rfl : args = #[v0, v1, v2] := by cases args; simp_all
  obtain ⟨rfl, rfl⟩ := trodVars_none hV
  have lt0 : ∀ x ∈ p0, x.block < W.heap.size := by obtain ⟨m, hm⟩ := h0; exact DataW.trod_lt m _ _ _ hm
  obtain ⟨r0, rfl, w0⟩ := argProg_of (hval 0 51 v0 rfl rfl) h0
  have lt1 : ∀ x ∈ p1, x.block < W.heap.size := by obtain ⟨m, hm⟩ := h1; exact DataW.trod_lt m _ _ _ hm
  obtain ⟨r1, rfl, w1⟩ := argEnv_of (hval 1 52 v1 rfl rfl) h1
  obtain ⟨a2, len2, cap2, rfl⟩ := okWide_slice Try.underlying60 (hval 2 60 v2 rfl rfl)
  have lt2 : ∀ x ∈ p2, x.block < W.heap.size := by obtain ⟨m, hm⟩ := h2; exact DataW.trod_lt m _ _ _ hm
  have w2 := argTerms_of h2
  clear hA0 hval0
  refine (walk r0 r1 a2 len2 cap2 W w0 w1 w2).mono fun e W' ⟨he, bel⟩ => ?_
  subst he
  exact ⟨_, rfl, _, _, _, [], _, [], hW', trodAll_mk1 (shut_bool Try.underlying4 _), (trodAll_cons_mk (Below.trod laidOut (by kernel_rfl) (of_decide_eq_true (by kernel_rfl)) h0 bel lt0) (trodAll_cons_mk (Below.trod laidOut (by kernel_rfl) (of_decide_eq_true (by kernel_rfl)) h1 bel lt1) (trodAll_cons_mk (Below.trod laidOut (by kernel_rfl) (of_decide_eq_true (by kernel_rfl)) h2 bel lt2) trodAll_mk0))), rfl, bel.frame _, fun h => by cases h⟩

theorem over : Rows.fnExactValueInRow.holds Try.pinned (OpenSpec.ofChange Rows.fnExactValueInSpec) :=
  OpenClaim.holds_of_wide 6 Try.f6 rfl rfl rfl rfl rfl rfl rfl ⟨rfl, rfl, rfl, rfl, rfl⟩ rfl rfl rfl rfl rfl (by kernel_rfl) Try.func6 (by kernel_rfl)
    (of_decide_eq_true (by kernel_rfl)) (by unfold Func.isWrapper; first | (rw [if_pos (by decide +kernel)]; kernel_rfl) | (rw [if_neg (by decide +kernel)]; exact ⟨rfl, rfl⟩))
    (fun os started H enc _ => lifted os started H enc)

/-- ████ THE STATEMENT ████ -/
theorem proved : Rows.FnExactValueInSaid := over
#print axioms proved
end Go.Proofs.Ytmppiefkeeanpaa.fnExactValueIn
