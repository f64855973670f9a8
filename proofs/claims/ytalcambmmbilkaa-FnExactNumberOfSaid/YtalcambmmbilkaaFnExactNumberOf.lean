/- For every program and every two slices of numbers, the program's NumberOf answers as the model's, and writes into no argument. Conditions: none beyond the given row. (The frame round the walk is the guide's own shell, by program.) -/
import Derived.Test.YtalcambmmbilkaaRows
import Derived.Test.YtalcambmmbilkaaJ7
import Derived.Test.YtalcambmmbilkaaJ4
import Derived.Test.YtalcambmmbilkaaJ13
import Derived.Test.YtalcambmmbilkaaJ23
import Derived.WalkKit
import Derived.ProofKit
import Derived.OpenShut
import Derived.ShutString
import Derived.ChangeOld
import Derived.Below
import Derived.Carry
namespace Go.Proofs.Ytalcambmmbilkaa.fnExactNumberOf
open Go.ChangeShapes Go.WideShapes Go.ChangeAt Go.RowKit
set_option linter.unusedVariables false

theorem own : ownKnob Try.prog.godebug = none := by kernel_rfl
theorem laidOut : laidOutB Try.prog = true := by kernel_rfl

/-! ### STEP 1: THE WALK -/
set_option maxRecDepth 20000 in
set_option maxHeartbeats 6400000 in
theorem walk (r0 : PRow) (a1 : Option Addr) (len1 cap1 : Nat) (a2 : Option Addr) (len2 cap2 : Nat) (w : World) (w0 : ArgProg w r0) (w1 : ArgInts w a1 len1) (w2 : ArgInts w a2 len2) :
    Calls Try.prog 8 #[progV r0, .slice a1 len1 cap1, .slice a2 len2 cap2] w fun e w' => e = .returned (.bool true) ∧ Below w.heap.size w w' := by
  have HA0 := Lib.hid w0
  have HA1 := Lib.hid w1
  have hm1 := w1.1
  have HA2 := Lib.hid w2
  have hm2 := w2.1
  unfold maxLen at hm1 hm2
  clear w0 w1 w2
  obtain ⟨wd, ⟨pa1, pn1, pc1⟩, ⟨pa2, pn2, pc2⟩, tp, ⟨pa3, pn3, pc3⟩, ⟨pa4, pn4, pc4⟩, rows0⟩ := r0
  show Calls Try.prog 8 #[.agg #[.int .i64 wd, .slice pa1 pn1 pc1, .slice pa2 pn2 pc2, .int .i64 tp, .slice pa3 pn3 pc3, .slice pa4 pn4 pc4], .slice a1 len1 cap1, .slice a2 len2 cap2] w _
  have HS : Hid (∀ w', Below w.heap.size w w' → Calls Try.prog 29 #[.agg #[.int .i64 wd, .slice pa1 pn1 pc1, .slice pa2 pn2 pc2, .int .i64 tp, .slice pa3 pn3 pc3, .slice pa4 pn4 pc4], .int .i64 ((1048576 : Nat) : Int)] w' (SzProg w' 1048576 ⟨wd, (pa1, pn1, pc1), (pa2, pn2, pc2), tp, (pa3, pn3, pc3), (pa4, pn4, pc4), rows0⟩)) := Lib.hid (fun w' hb => szProg_any _ _ _ (HA0.out.below hb) (Nat.le_refl _))
  clear HA0
  by_cases hl1 : len1 ≤ 1048576
  case neg =>
    go_enter Try.func8, Try.ntmps8
    go_wp2
    go_ret
    exact ⟨rfl, (Below.refl _ _).alloc (Nat.le_refl _) _⟩
  by_cases hl2 : len2 ≤ 1048576
  case neg =>
    go_enter Try.func8, Try.ntmps8
    go_wp2
    go_ret
    exact ⟨rfl, (Below.refl _ _).alloc (Nat.le_refl _) _⟩
  obtain ⟨zs1, hz1⟩ := HA1.out.2 hl1
  have HZ1 := Lib.hid hz1
  clear HA1 hz1 hm1
  obtain ⟨zs2, hz2⟩ := HA2.out.2 hl2
  have HZ2 := Lib.hid hz2
  clear HA2 hz2 hm2
  obtain ⟨wa, HW⟩ : ∃ wa, Hid (wa = w.alloc (.cells #[.int .i64 wd, .slice pa1 pn1 pc1, .slice pa2 pn2 pc2, .int .i64 tp, .slice pa3 pn3 pc3, .slice pa4 pn4 pc4] 56)) := ⟨_, rfl⟩
  have B : Blk wa w.heap.size 56 [.int .i64 wd, .slice pa1 pn1 pc1, .slice pa2 pn2 pc2, .int .i64 tp, .slice pa3 pn3 pc3, .slice pa4 pn4 pc4] := by rw [HW.out]; exact Blk.new w _ _
  have HB : Below w.heap.size w wa := by rw [HW.out]; exact (Below.refl _ _).alloc (Nat.le_refl _) _
  go_enter Try.func8, Try.ntmps8
  go_wp2_with fail
  rw [← HW.out]
  refine (HS.out _ HB).mono ?_
  rintro e w1 ⟨hb1, he⟩
  rcases he with rfl | ⟨v, hv, rfl, rows, p, hp⟩
  · have HB := HB.trans (hb1.mono HB.size)
    go_wp2_with fail
    go_ret
    exact ⟨rfl, HB⟩
  have hvv : decide ((v : Int) < 0) = false := by simp
  have HP := Lib.hid (hp.below hb1)
  have B := B.below hb1 B.lt
  have HB := HB.trans (hb1.mono HB.size)
  clear hp hb1 HW HS
  obtain ⟨wi, HWI⟩ : ∃ wi, Hid (w1 = wi) := ⟨_, rfl⟩
  rw [HWI.out] at HP B HB ⊢
  clear HWI w1
  have HT : Hid (∀ w', Below wi.heap.size wi w' → Calls Try.prog 31 #[.agg #[.int .i64 wd, .slice pa1 pn1 pc1, .slice pa2 pn2 pc2, .int .i64 tp, .slice pa3 pn3 pc3, .slice pa4 pn4 pc4]] w' (MadeProg w' p)) := Lib.hid (fun w' hb => toProg_any ⟨wd, (pa1, pn1, pc1), (pa2, pn2, pc2), tp, (pa3, pn3, pc3), (pa4, pn4, pc4), rows⟩ p w' (HP.out.below hb))
  have HU1 : Hid (∀ w', Below wi.heap.size wi w' → Calls Try.prog 32 #[.slice a1 len1 cap1] w' (MadeInts w' zs1)) := Lib.hid (fun w' hb => toInt64S_any _ _ _ _ _ ((HZ1.out.below HB).below hb))
  have HU2 : Hid (∀ w', Below wi.heap.size wi w' → Calls Try.prog 32 #[.slice a2 len2 cap2] w' (MadeInts w' zs2)) := Lib.hid (fun w' hb => toInt64S_any _ _ _ _ _ ((HZ2.out.below HB).below hb))
  clear HP HZ1 HZ2
  obtain ⟨Z, HZ⟩ : ∃ Z, Hid (numB p zs1 zs2 = Z) := ⟨_, Lib.hid rfl⟩
  have hneZ : (Z != Z) = false := by simp
  have t0 := B.cell (j := 0) rfl
  have t1 := B.cell (j := 1) rfl
  have t2 := B.cell (j := 2) rfl
  have t3 := B.cell (j := 3) rfl
  have t4 := B.cell (j := 4) rfl
  have t5 := B.cell (j := 5) rfl
  go_wp2_with fail
  refine (HT.out _ (Below.refl _ _)).mono ?_
  rintro e v1 ⟨⟨sd, ⟨sa1, sn1, sc1⟩, ⟨sa2, sn2, sc2⟩, st, ⟨sa3, sn3, sc3⟩, ⟨sa4, sn4, sc4⟩, srs⟩, rfl, hs0, hb⟩
  simp only [progV, slV]
  have hti := hb
  clear hb t0 t1 t2 t3 t4 t5
  go_wp2_with fail
  refine (HU1.out _ hti).mono ?_
  rintro e v2 ⟨s1a, s1n, s1c, rfl, hs1, hb⟩
  have hs0 := hs0.below hb
  have hti := hti.trans (hb.mono hti.size)
  clear hb
  go_wp2_with fail
  refine (HU2.out _ hti).mono ?_
  rintro e v3 ⟨s2a, s2n, s2c, rfl, hs2, hb⟩
  have hs0 := hs0.below hb
  have hti := hti.trans (hb.mono hti.size)
  have hs1 := hs1.below hb
  clear hb
  go_wp2_with fail
  refine (specNumberOf_ans ⟨sd, (sa1, sn1, sc1), (sa2, sn2, sc2), st, (sa3, sn3, sc3), (sa4, sn4, sc4), srs⟩ p _ _ _ _ _ _ zs1 zs2 _ hs0.reads hs1.ints hs2.ints).mono ?_
  rintro e v4 ⟨rfl, hb⟩
  rw [HZ.out]
  have hti := hti.trans (hb.mono hti.size)
  clear hb hs0 hs1 hs2
  have B := B.below hti B.lt
  obtain ⟨vo, HVO⟩ : ∃ vo, Hid (v4 = vo) := ⟨_, rfl⟩
  rw [HVO.out] at B hti ⊢
  clear HVO
  have t0 := B.cell (j := 0) rfl
  have t1 := B.cell (j := 1) rfl
  have t2 := B.cell (j := 2) rfl
  have t3 := B.cell (j := 3) rfl
  have t4 := B.cell (j := 4) rfl
  have t5 := B.cell (j := 5) rfl
  go_wp2_with fail
  clear t0 t1 t2 t3 t4 t5
  have HOLD := Lib.hid (HB.trans (hti.mono HB.size))
  refine (HT.out _ hti).mono ?_
  rintro e v5 ⟨⟨qd, ⟨qa1, qn1, qc1⟩, ⟨qa2, qn2, qc2⟩, qt, ⟨qa3, qn3, qc3⟩, ⟨qa4, qn4, qc4⟩, qrs⟩, rfl, hx0, hb⟩
  simp only [progV, slV]
  have hin0 := hx0.inside
  have l0 := hb.size
  have hk := hb
  clear hb
  obtain ⟨v6, HV6⟩ : ∃ v6, Hid (v6 = v5.alloc (.cells #[.int .i64 qd, .slice qa1 qn1 qc1, .slice qa2 qn2 qc2, .int .i64 qt, .slice qa3 qn3 qc3, .slice qa4 qn4 qc4] 31)) := ⟨_, rfl⟩
  have B10 : Blk v6 v5.heap.size 31 [.int .i64 qd, .slice qa1 qn1 qc1, .slice qa2 qn2 qc2, .int .i64 qt, .slice qa3 qn3 qc3, .slice qa4 qn4 qc4] := by rw [HV6.out]; exact Blk.new v5 _ _
  have hb : Below v5.heap.size v5 v6 := by rw [HV6.out]; exact (Below.refl _ _).alloc (Nat.le_refl _) _
  have l1 : v5.heap.size ≤ v6.heap.size := hb.size
  have hin0 := hin0.wide (Nat.le_refl _) l1
  have hx0 := hx0.below hb
  have hk := hk.trans (hb.mono hk.size)
  clear hb
  obtain ⟨k10, HK10⟩ : ∃ k10, Hid (v5.heap.size = k10) := ⟨_, rfl⟩
  rw [HK10.out] at B10
  go_wp2_with fail
  rw [← HV6.out, HK10.out]
  refine (HU1.out _ (hti.trans (hk.mono hti.size))).mono ?_
  rintro e v7 ⟨x1a, x1n, x1c, rfl, hx1, hb⟩
  have hin1 : SlIn v6.heap.size v7.heap.size (x1a, x1n, x1c) := fun g hg => hx1.block g hg
  have lx1 := hb.size
  have hx0 := hx0.below hb
  have hk := hk.trans (hb.mono hk.size)
  have B10 := B10.below hb B10.lt
  clear hb
  go_wp2_with fail
  refine (HU2.out _ (hti.trans (hk.mono hti.size))).mono ?_
  rintro e v8 ⟨x2a, x2n, x2c, rfl, hx2, hb⟩
  have hin2 : SlIn v7.heap.size v8.heap.size (x2a, x2n, x2c) := fun g hg => hx2.block g hg
  have lx2 := hb.size
  have hx0 := hx0.below hb
  have hk := hk.trans (hb.mono hk.size)
  have B10 := B10.below hb B10.lt
  have hx1 := hx1.below hb
  clear hb
  have hxn1 : x1n ≤ 1048576 := hx1.2.1
  have hxn2 : x2n ≤ 1048576 := hx2.2.1
  obtain ⟨P0, HP0⟩ : ∃ P0, Hid (vo.heap.size = P0) := ⟨_, rfl⟩
  obtain ⟨P1, HP1⟩ : ∃ P1, Hid (v6.heap.size = P1) := ⟨_, rfl⟩
  obtain ⟨P2, HP2⟩ : ∃ P2, Hid (v7.heap.size = P2) := ⟨_, rfl⟩
  obtain ⟨P3, HP3⟩ : ∃ P3, Hid (v8.heap.size = P3) := ⟨_, rfl⟩
  have q01 : P0 ≤ P1 := by rw [← HP0.out, ← HP1.out]; omega
  have q12 : P1 ≤ P2 := by rw [← HP1.out, ← HP2.out]; exact lx1
  have q23 : P2 ≤ P3 := by rw [← HP2.out, ← HP3.out]; exact lx2
  rw [HP0.out, HP1.out] at hin0
  rw [HP0.out] at hx0
  rw [HP1.out, HP2.out] at hin1
  rw [HP1.out] at hx1
  rw [HP2.out, HP3.out] at hin2
  rw [HP2.out] at hx2
  clear l0 l1 lx1 lx2
  have g0 := B10.cell (j := 0) rfl
  have g1 := B10.cell (j := 1) rfl
  have g2 := B10.cell (j := 2) rfl
  have g3 := B10.cell (j := 3) rfl
  have g4 := B10.cell (j := 4) rfl
  have g5 := B10.cell (j := 5) rfl
  go_wp2_with fail
  clear HV6 HK10
  refine (implNumberOf_ans ⟨qd, (qa1, qn1, qc1), (qa2, qn2, qc2), qt, (qa3, qn3, qc3), (qa4, qn4, qc4), qrs⟩ p _ _ _ _ _ _ zs1 zs2 _ hx0.reads hx0.cap hx1.ints hx2.ints).mono ?_
  rintro e v9 ⟨rfl, hb⟩
  rw [HZ.out]
  have hx0 := hx0.below hb
  have hk := hk.trans (hb.mono hk.size)
  have B10 := B10.below hb B10.lt
  have hx1 := hx1.below hb
  have hx2 := hx2.below hb
  clear hb
  clear g0 g1 g2 g3 g4 g5
  have Bb := B.below hk B.lt
  have g0 := Bb.cell (j := 0) rfl
  have g1 := Bb.cell (j := 1) rfl
  have g2 := Bb.cell (j := 2) rfl
  have g3 := Bb.cell (j := 3) rfl
  have g4 := Bb.cell (j := 4) rfl
  have g5 := Bb.cell (j := 5) rfl
  have i0 := B10.cell (j := 0) rfl
  have i1 := B10.cell (j := 1) rfl
  have i2 := B10.cell (j := 2) rfl
  have i3 := B10.cell (j := 3) rfl
  have i4 := B10.cell (j := 4) rfl
  have i5 := B10.cell (j := 5) rfl
  go_wp2_with fail
  have hd : Below v9.heap.size v9 v9.drew := ⟨rfl, rfl, rfl, Nat.le_refl _, fun _ _ => rfl⟩
  have HTD := Lib.hid (HT.out _ (hti.trans ((hk.trans (hd.mono hk.size)).mono hti.size)))
  have HEQ : Hid (∀ w' r', Below v9.heap.size v9 w' → ProgAt w' r' p → Calls Try.prog 35 #[.agg #[.int .i64 qd, .slice qa1 qn1 qc1, .slice qa2 qn2 qc2, .int .i64 qt, .slice qa3 qn3 qc3, .slice qa4 qn4 qc4], progV r'] w' fun e w'' => e = .returned (.bool true) ∧ Below w'.heap.size w' w'') := Lib.hid (fun w' r' hb hr => (eqProg_any ⟨qd, (qa1, qn1, qc1), (qa2, qn2, qc2), qt, (qa3, qn3, qc3), (qa4, qn4, qc4), qrs⟩ r' p p w' (hx0.below hb).reads hr).mono fun e w'' h => by rw [decide_eq_true rfl] at h; exact h)
  have HX := Lib.hid B10
  have HBB := Lib.hid Bb
  go_region_held3 (fun w' => w'.cell? ⟨w.heap.size, 0, none⟩ = some (.int .i64 wd) ∧ w'.cell? ⟨w.heap.size, 1, none⟩ = some (.slice pa1 pn1 pc1) ∧ w'.cell? ⟨w.heap.size, 2, none⟩ = some (.slice pa2 pn2 pc2) ∧ w'.cell? ⟨w.heap.size, 3, none⟩ = some (.int .i64 tp) ∧ w'.cell? ⟨w.heap.size, 4, none⟩ = some (.slice pa3 pn3 pc3) ∧ w'.cell? ⟨w.heap.size, 5, none⟩ = some (.slice pa4 pn4 pc4) ∧ w'.cell? ⟨k10, 0, none⟩ = some (.int .i64 qd) ∧ w'.cell? ⟨k10, 1, none⟩ = some (.slice qa1 qn1 qc1) ∧ w'.cell? ⟨k10, 2, none⟩ = some (.slice qa2 qn2 qc2) ∧ w'.cell? ⟨k10, 3, none⟩ = some (.int .i64 qt) ∧ w'.cell? ⟨k10, 4, none⟩ = some (.slice qa3 qn3 qc3) ∧ w'.cell? ⟨k10, 5, none⟩ = some (.slice qa4 qn4 qc4)) (first | (refine ⟨?_, ?_, ?_, ?_, ?_, ?_, ?_, ?_, ?_, ?_, ?_, ?_⟩ <;> assumption) | go_keep | (refine ⟨?_, ?_, ?_, ?_, ?_, ?_, ?_, ?_, ?_, ?_, ?_, ?_⟩ <;> go_keep)) (first
    | (go_at_call 31; refine HTD.out.mono ?_; rintro e vx ⟨⟨sd, ⟨sa1, sn1, sc1⟩, ⟨sa2, sn2, sc2⟩, st, ⟨sa3, sn3, sc3⟩, ⟨sa4, sn4, sc4⟩, srs⟩, rfl, hos, hbs⟩; have hb9 := hd.trans (hbs.mono hd.size); have Y := HX.out.below hb9 HX.out.lt; have m0 := Y.cell (j := 0) rfl; have m1 := Y.cell (j := 1) rfl; have m2 := Y.cell (j := 2) rfl; have m3 := Y.cell (j := 3) rfl; have m4 := Y.cell (j := 4) rfl; have m5 := Y.cell (j := 5) rfl; have Y := HBB.out.below hb9 HBB.out.lt; have o0 := Y.cell (j := 0) rfl; have o1 := Y.cell (j := 1) rfl; have o2 := Y.cell (j := 2) rfl; have o3 := Y.cell (j := 3) rfl; have o4 := Y.cell (j := 4) rfl; have o5 := Y.cell (j := 5) rfl; have HE := Lib.hid (HEQ.out _ _ hb9 hos.reads); have HB9 := Lib.hid hb9; clear hos hbs hb9 Y)
    | (go_at_call 35; refine HE.out.mono ?_; rintro e vy ⟨rfl, hba⟩; have HB10 := Lib.hid (HB9.out.trans (hba.mono HB9.out.size)); have Y := HX.out.below HB10.out HX.out.lt; have b0 := Y.cell (j := 0) rfl; have b1 := Y.cell (j := 1) rfl; have b2 := Y.cell (j := 2) rfl; have b3 := Y.cell (j := 3) rfl; have b4 := Y.cell (j := 4) rfl; have b5 := Y.cell (j := 5) rfl; have Y := HBB.out.below HB10.out HBB.out.lt; have f0 := Y.cell (j := 0) rfl; have f1 := Y.cell (j := 1) rfl; have f2 := Y.cell (j := 2) rfl; have f3 := Y.cell (j := 3) rfl; have f4 := Y.cell (j := 4) rfl; have f5 := Y.cell (j := 5) rfl; clear hba Y))
  have hb := HB10.out
  have hx0 := hx0.below hb
  have hk := hk.trans (hb.mono hk.size)
  have B10 := B10.below hb B10.lt
  have hx1 := hx1.below hb
  have hx2 := hx2.below hb
  clear hb
  clear m0 m1 m2 m3 m4 m5 o0 o1 o2 o3 o4 o5 b0 b1 b2 b3 b4 b5 f0 f1 f2 f3 f4 f5 g0 g1 g2 g3 g4 g5 i0 i1 i2 i3 i4 i5 HX HBB HEQ HTD hd HE HB9 HB10 Bb
  go_wp2_with fail
  refine (HU1.out _ (hti.trans (hk.mono hti.size))).mono ?_
  rintro e v10 ⟨ua, un, uc, rfl, hu, hb⟩
  have hx0 := hx0.below hb
  have hk := hk.trans (hb.mono hk.size)
  have B10 := B10.below hb B10.lt
  have hx1 := hx1.below hb
  have hx2 := hx2.below hb
  clear hb
  go_wp2_with fail
  refine (eqInt64S_same _ _ _ _ _ _ zs1 _ hx1.ints hu.ints).mono ?_
  rintro e v11 ⟨rfl, hb⟩
  have hx0 := hx0.below hb
  have hk := hk.trans (hb.mono hk.size)
  have B10 := B10.below hb B10.lt
  have hx1 := hx1.below hb
  have hx2 := hx2.below hb
  have hu := hu.below hb
  clear hb
  clear hu
  go_wp2_with fail
  refine (HU2.out _ (hti.trans (hk.mono hti.size))).mono ?_
  rintro e v12 ⟨ua, un, uc, rfl, hu, hb⟩
  have hx0 := hx0.below hb
  have hk := hk.trans (hb.mono hk.size)
  have B10 := B10.below hb B10.lt
  have hx1 := hx1.below hb
  have hx2 := hx2.below hb
  clear hb
  go_wp2_with fail
  refine (eqInt64S_same _ _ _ _ _ _ zs2 _ hx2.ints hu.ints).mono ?_
  rintro e v13 ⟨rfl, hb⟩
  have hx0 := hx0.below hb
  have hk := hk.trans (hb.mono hk.size)
  have B10 := B10.below hb B10.lt
  have hx1 := hx1.below hb
  have hx2 := hx2.below hb
  have hu := hu.below hb
  clear hb
  clear hu
  have HF := Lib.hid (HOLD.out.trans (hk.mono HOLD.out.size))
  clear hk
  go_wp2_with fail
  go_ret
  exact ⟨rfl, HF.out⟩

/-! ### THE ROW's STEP -/
set_option maxRecDepth 100000 in
theorem lifted (os : Os) (started : os.Started) (H : Type) (enc : TypeId × Value → H) :
    ReturnsInHanded {} Try.checked os 8 .any (Rows.fnExactNumberOfSpec.pre6 enc Try.prog Try.f8 Rows.fnExactNumberOfRow.domain false) (Rows.fnExactNumberOfSpec.post enc Try.prog Try.f8 false true false false) := by
  refine returnsInHanded_of_change (C := Try.checked) own started (by kernel_rfl) Try.func8
    (ChangeSpec.witness6 (enc := enc) (C := Try.checked) false ⟨#[], #[.agg #[.int .i64 0, .slice none 0 0, .slice none 0 0, .int .i64 0, .slice none 0 0, .slice none 0 0], .slice none 0 0, .slice none 0 0], []⟩ 8 (by kernel_rfl) (by kernel_rfl) (by kernel_rfl) (by kernel_rfl)) ?_
  intro W base args ds gs before hval0 hW hcnd _
  have hval : ∀ (j : Nat) t v, Try.f8.params[j]? = some t → args[j]? = some v → Value.okWide Try.prog W .any base t v := hval0
  have hW' := hW
  obtain ⟨p, q, hA0, hV, rfl, hfz, hnd⟩ := hW
  have hA : DataW.TrodAll enc Try.prog W 0 (fun _ => true) true Try.f8.params.toList args.toList ds p := hA0
  rw [Try.params8] at hA hval
  obtain ⟨v0, vs0, d0, ds0, p0, q0, hargs, rfl, rfl, h0, r0⟩ := trodAll_cons hA
  obtain ⟨v1, vs1, d1, ds1, p1, q1, hargs1, rfl, rfl, h1, r1⟩ := trodAll_cons r0
  obtain ⟨v2, vs2, d2, ds2, p2, q2, hargs2, rfl, rfl, h2, r2⟩ := trodAll_cons r1
  obtain ⟨rfl, rfl, rfl⟩ := trodAll_nil r2
  obtain rfl : args = #[v0, v1, v2] := by cases args; simp_all
  obtain ⟨rfl, rfl⟩ := trodVars_none hV
  have lt0 : ∀ x ∈ p0, x.block < W.heap.size := by obtain ⟨m, hm⟩ := h0; exact DataW.trod_lt m _ _ _ hm
  obtain ⟨r0, rfl, w0⟩ := argProg_of (hval 0 56 v0 rfl rfl) h0
  obtain ⟨a1, len1, cap1, rfl⟩ := okWide_slice Try.underlying28 (hval 1 28 v1 rfl rfl)
  have lt1 : ∀ x ∈ p1, x.block < W.heap.size := by obtain ⟨m, hm⟩ := h1; exact DataW.trod_lt m _ _ _ hm
  have w1 := argInts_of h1
  obtain ⟨a2, len2, cap2, rfl⟩ := okWide_slice Try.underlying28 (hval 2 28 v2 rfl rfl)
  have lt2 : ∀ x ∈ p2, x.block < W.heap.size := by obtain ⟨m, hm⟩ := h2; exact DataW.trod_lt m _ _ _ hm
  have w2 := argInts_of h2
  clear hA0 hval0
  refine (walk r0 a1 len1 cap1 a2 len2 cap2 W w0 w1 w2).mono fun e W' ⟨he, bel⟩ => ?_
  subst he
  exact ⟨_, rfl, _, _, _, [], _, [], hW', trodAll_mk1 (shut_bool Try.underlying4 _), (trodAll_cons_mk (Below.trod laidOut (by kernel_rfl) (of_decide_eq_true (by kernel_rfl)) h0 bel lt0) (trodAll_cons_mk (Below.trod laidOut (by kernel_rfl) (of_decide_eq_true (by kernel_rfl)) h1 bel lt1) (trodAll_cons_mk (Below.trod laidOut (by kernel_rfl) (of_decide_eq_true (by kernel_rfl)) h2 bel lt2) trodAll_mk0))), rfl, bel.frame _, fun h => by cases h⟩

theorem over : Rows.fnExactNumberOfRow.holds Try.pinned (OpenSpec.ofChange Rows.fnExactNumberOfSpec) :=
  OpenClaim.holds_of_wide 8 Try.f8 rfl rfl rfl rfl rfl rfl rfl ⟨rfl, rfl, rfl, rfl, rfl⟩ rfl rfl rfl rfl rfl (by kernel_rfl) Try.func8 (by kernel_rfl)
    (of_decide_eq_true (by kernel_rfl)) (by unfold Func.isWrapper; first | (rw [if_pos (by decide +kernel)]; kernel_rfl) | (rw [if_neg (by decide +kernel)]; exact ⟨rfl, rfl⟩))
    (fun os started H enc _ => lifted os started H enc)

/-- ████ THE STATEMENT ████ -/
theorem proved : Rows.FnExactNumberOfSaid := over
#print axioms proved
end Go.Proofs.Ytalcambmmbilkaa.fnExactNumberOf
