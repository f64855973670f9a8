/- For every program and every two slices of numbers and every slice of bools, the program's OutcomesOf answers as the model's in every field, writes into no argument, and its answer owns its memory. Conditions: none beyond the given row. (The frame round the walk is the guide's own shell, by program.) -/
import Derived.Test.YtmooecbdpfhnlaaGreatRows
import Derived.Test.YtmooecbdpfhnlaaGreatJ7
import Derived.Test.YtmooecbdpfhnlaaGreatJ4
import Derived.Test.YtmooecbdpfhnlaaGreatJ13
import Derived.Test.YtmooecbdpfhnlaaGreatJ15
import Derived.Test.YtmooecbdpfhnlaaGreatJ42
import Derived.WalkKit
import Derived.ProofKit
import Derived.OpenShut
import Derived.ShutString
import Derived.ChangeOld
import Derived.Below
import Derived.Carry
namespace Go.Proofs.YtmooecbdpfhnlaaGreat.fnExactOutcomesOf
open Go.ChangeShapes Go.WideShapes Go.ChangeAt Go.RowKit
set_option linter.unusedVariables false

theorem own : ownKnob Tryz.prog.godebug = none := by kernel_rfl
theorem laidOut : laidOutB Tryz.prog = true := by kernel_rfl

/-! ### STEP 1: THE WALK -/
set_option maxRecDepth 20000 in
set_option maxHeartbeats 6400000 in
theorem walk (r0 : PRow) (a1 : Option Addr) (len1 cap1 : Nat) (a2 : Option Addr) (len2 cap2 : Nat) (a3 : Option Addr) (len3 cap3 : Nat) (w : World) (w0 : ArgProg w r0) (w1 : ArgInts w a1 len1) (w2 : ArgInts w a2 len2) (w3 : ArgBools w a3 len3) :
    Calls Tryz.prog 6 #[progV r0, .slice a1 len1 cap1, .slice a2 len2 cap2, .slice a3 len3 cap3] w fun e w' => e = .returned (.bool true) ∧ Below w.heap.size w w' := by
  have HA0 := Lib.hid w0
  have HA1 := Lib.hid w1
  have hm1 := w1.1
  have HA2 := Lib.hid w2
  have hm2 := w2.1
  have HA3 := Lib.hid w3
  have hm3 := w3.1
  unfold maxLen at hm1 hm2 hm3
  clear w0 w1 w2 w3
  obtain ⟨wd, ⟨pa1, pn1, pc1⟩, ⟨pa2, pn2, pc2⟩, tp, ⟨pa3, pn3, pc3⟩, ⟨pa4, pn4, pc4⟩, rows0⟩ := r0
  show Calls Tryz.prog 6 #[.agg #[.int .i64 wd, .slice pa1 pn1 pc1, .slice pa2 pn2 pc2, .int .i64 tp, .slice pa3 pn3 pc3, .slice pa4 pn4 pc4], .slice a1 len1 cap1, .slice a2 len2 cap2, .slice a3 len3 cap3] w _
  have HS : Hid (∀ w', Below w.heap.size w w' → Calls Tryz.prog 31 #[.agg #[.int .i64 wd, .slice pa1 pn1 pc1, .slice pa2 pn2 pc2, .int .i64 tp, .slice pa3 pn3 pc3, .slice pa4 pn4 pc4], .int .i64 ((1048576 : Nat) : Int)] w' (SzProg w' 1048576 ⟨wd, (pa1, pn1, pc1), (pa2, pn2, pc2), tp, (pa3, pn3, pc3), (pa4, pn4, pc4), rows0⟩)) := Lib.hid (fun w' hb => szProg_any _ _ _ (HA0.out.below hb) (Nat.le_refl _))
  clear HA0
  by_cases hl1 : len1 ≤ 1048576
  case neg =>
    go_enter Tryz.func6, Tryz.ntmps6
    go_wp2
    go_ret
    exact ⟨rfl, (Below.refl _ _).alloc (Nat.le_refl _) _⟩
  by_cases hl2 : len2 ≤ 1048576
  case neg =>
    go_enter Tryz.func6, Tryz.ntmps6
    go_wp2
    go_ret
    exact ⟨rfl, (Below.refl _ _).alloc (Nat.le_refl _) _⟩
  by_cases hl3 : len3 ≤ 1048576
  case neg =>
    go_enter Tryz.func6, Tryz.ntmps6
    go_wp2
    go_ret
    exact ⟨rfl, (Below.refl _ _).alloc (Nat.le_refl _) _⟩
  obtain ⟨zs1, hz1⟩ := HA1.out.2 hl1
  have HZ1 := Lib.hid hz1
  clear HA1 hz1 hm1
  obtain ⟨zs2, hz2⟩ := HA2.out.2 hl2
  have HZ2 := Lib.hid hz2
  clear HA2 hz2 hm2
  obtain ⟨zs3, hz3⟩ := HA3.out.2 hl3
  have HZ3 := Lib.hid hz3
  clear HA3 hz3 hm3
  obtain ⟨wa, HW⟩ : ∃ wa, Hid (wa = w.alloc (.cells #[.int .i64 wd, .slice pa1 pn1 pc1, .slice pa2 pn2 pc2, .int .i64 tp, .slice pa3 pn3 pc3, .slice pa4 pn4 pc4] 58)) := ⟨_, rfl⟩
  have B : Blk wa w.heap.size 58 [.int .i64 wd, .slice pa1 pn1 pc1, .slice pa2 pn2 pc2, .int .i64 tp, .slice pa3 pn3 pc3, .slice pa4 pn4 pc4] := by rw [HW.out]; exact Blk.new w _ _
  have HB : Below w.heap.size w wa := by rw [HW.out]; exact (Below.refl _ _).alloc (Nat.le_refl _) _
  go_enter Tryz.func6, Tryz.ntmps6
  go_wp2_with fail
  rw [← HW.out]
  refine (HS.out _ HB).mono ?_
  rintro e w1 ⟨hb1, he⟩
  rcases he with rfl | ⟨v, hv, rfl, rows, p, hp⟩
  · have HB := HB.trans (hb1.mono HB.size)
    go_wp2_with fail
    go_ret
    exact ⟨rfl, HB⟩
  have hvv : decide ((v : Int) < 0) = false := by simp
  have HP := Lib.hid (hp.below hb1)
  have B := B.below hb1 B.lt
  have HB := HB.trans (hb1.mono HB.size)
  clear hp hb1 HW HS
  obtain ⟨wi, HWI⟩ : ∃ wi, Hid (w1 = wi) := ⟨_, rfl⟩
  rw [HWI.out] at HP B HB ⊢
  clear HWI w1
  have HT : Hid (∀ w', Below wi.heap.size wi w' → Calls Tryz.prog 33 #[.agg #[.int .i64 wd, .slice pa1 pn1 pc1, .slice pa2 pn2 pc2, .int .i64 tp, .slice pa3 pn3 pc3, .slice pa4 pn4 pc4]] w' (MadeProg w' p)) := Lib.hid (fun w' hb => toProg_any ⟨wd, (pa1, pn1, pc1), (pa2, pn2, pc2), tp, (pa3, pn3, pc3), (pa4, pn4, pc4), rows⟩ p w' (HP.out.below hb))
  have HU1 : Hid (∀ w', Below wi.heap.size wi w' → Calls Tryz.prog 34 #[.slice a1 len1 cap1] w' (MadeInts w' zs1)) := Lib.hid (fun w' hb => toInt64S_any _ _ _ _ _ ((HZ1.out.below HB).below hb))
  have HU2 : Hid (∀ w', Below wi.heap.size wi w' → Calls Tryz.prog 34 #[.slice a2 len2 cap2] w' (MadeInts w' zs2)) := Lib.hid (fun w' hb => toInt64S_any _ _ _ _ _ ((HZ2.out.below HB).below hb))
  have HU3 : Hid (∀ w', Below wi.heap.size wi w' → Calls Tryz.prog 35 #[.slice a3 len3 cap3] w' (MadeB w' zs3)) := Lib.hid (fun w' hb => toBoolS_any _ _ _ _ _ ((HZ3.out.below HB).below hb))
  clear HP HZ1 HZ2 HZ3
  obtain ⟨Q, HQ⟩ : ∃ Q, Hid (ofO p zs1 zs2 zs3 = Q) := ⟨_, Lib.hid rfl⟩
  have HSZ : Hid (sumO Q Q.length ≤ 1000000) := Lib.hid (by rw [← HQ.out]; exact ofO_sum p zs1 zs2 zs3)
  have t0 := B.cell (j := 0) rfl
  have t1 := B.cell (j := 1) rfl
  have t2 := B.cell (j := 2) rfl
  have t3 := B.cell (j := 3) rfl
  have t4 := B.cell (j := 4) rfl
  have t5 := B.cell (j := 5) rfl
  go_wp2_with fail
  refine (HT.out _ (Below.refl _ _)).mono ?_
  rintro e v1 ⟨⟨sd, ⟨sa1, sn1, sc1⟩, ⟨sa2, sn2, sc2⟩, st, ⟨sa3, sn3, sc3⟩, ⟨sa4, sn4, sc4⟩, srs⟩, rfl, hs0, hb⟩
  simp only [progV, slV]
  have hti := hb
  clear hb t0 t1 t2 t3 t4 t5
  go_wp2_with fail
  refine (HU1.out _ hti).mono ?_
  rintro e v2 ⟨s1a, s1n, s1c, rfl, hs1, hb⟩
  have hs0 := hs0.below hb
  have hti := hti.trans (hb.mono hti.size)
  clear hb
  go_wp2_with fail
  refine (HU2.out _ hti).mono ?_
  rintro e v3 ⟨s2a, s2n, s2c, rfl, hs2, hb⟩
  have hs0 := hs0.below hb
  have hti := hti.trans (hb.mono hti.size)
  have hs1 := hs1.below hb
  clear hb
  go_wp2_with fail
  refine (HU3.out _ hti).mono ?_
  rintro e v4 ⟨s3a, s3n, s3c, rfl, hs3, hb⟩
  have hs0 := hs0.below hb
  have hti := hti.trans (hb.mono hti.size)
  have hs1 := hs1.below hb
  have hs2 := hs2.below hb
  clear hb
  go_wp2_with fail
  refine (specOutcomesOf_ans ⟨sd, (sa1, sn1, sc1), (sa2, sn2, sc2), st, (sa3, sn3, sc3), (sa4, sn4, sc4), srs⟩ p _ _ _ _ _ _ _ _ _ zs1 zs2 zs3 _ hs0.reads hs1.ints hs2.ints hs3.reads).mono ?_
  rintro e v5 ⟨hb, ⟨⟨e0a, e0n, e0c⟩, e0rs⟩, rfl, hm0⟩
  simp only [oslV, slV]
  rw [HQ.out] at hm0
  have hti := hti.trans (hb.mono hti.size)
  clear hb hs0 hs1 hs2 hs3
  have B := B.below hti B.lt
  have HM0 := Lib.hid (hm0)
  clear hm0
  obtain ⟨vo, HVO⟩ : ∃ vo, Hid (v5 = vo) := ⟨_, rfl⟩
  rw [HVO.out] at B hti HM0 ⊢
  clear HVO
  have t0 := B.cell (j := 0) rfl
  have t1 := B.cell (j := 1) rfl
  have t2 := B.cell (j := 2) rfl
  have t3 := B.cell (j := 3) rfl
  have t4 := B.cell (j := 4) rfl
  have t5 := B.cell (j := 5) rfl
  go_wp2_with fail
  clear t0 t1 t2 t3 t4 t5
  have HOLD := Lib.hid (HB.trans (hti.mono HB.size))
  refine (HT.out _ hti).mono ?_
  rintro e v6 ⟨⟨qd, ⟨qa1, qn1, qc1⟩, ⟨qa2, qn2, qc2⟩, qt, ⟨qa3, qn3, qc3⟩, ⟨qa4, qn4, qc4⟩, qrs⟩, rfl, hx0, hb⟩
  simp only [progV, slV]
  have hin0 := hx0.inside
  have l0 := hb.size
  have hk := hb
  clear hb
  obtain ⟨v7, HV6⟩ : ∃ v7, Hid (v7 = v6.alloc (.cells #[.int .i64 qd, .slice qa1 qn1 qc1, .slice qa2 qn2 qc2, .int .i64 qt, .slice qa3 qn3 qc3, .slice qa4 qn4 qc4] 31)) := ⟨_, rfl⟩
  have B10 : Blk v7 v6.heap.size 31 [.int .i64 qd, .slice qa1 qn1 qc1, .slice qa2 qn2 qc2, .int .i64 qt, .slice qa3 qn3 qc3, .slice qa4 qn4 qc4] := by rw [HV6.out]; exact Blk.new v6 _ _
  have hb : Below v6.heap.size v6 v7 := by rw [HV6.out]; exact (Below.refl _ _).alloc (Nat.le_refl _) _
  have l1 : v6.heap.size ≤ v7.heap.size := hb.size
  have hin0 := hin0.wide (Nat.le_refl _) l1
  have hx0 := hx0.below hb
  have hk := hk.trans (hb.mono hk.size)
  clear hb
  obtain ⟨k10, HK10⟩ : ∃ k10, Hid (v6.heap.size = k10) := ⟨_, rfl⟩
  rw [HK10.out] at B10
  go_wp2_with fail
  rw [← HV6.out, HK10.out]
  refine (HU1.out _ (hti.trans (hk.mono hti.size))).mono ?_
  rintro e v8 ⟨x1a, x1n, x1c, rfl, hx1, hb⟩
  have hin1 : SlIn v7.heap.size v8.heap.size (x1a, x1n, x1c) := fun g hg => hx1.block g hg
  have lx1 := hb.size
  have hx0 := hx0.below hb
  have hk := hk.trans (hb.mono hk.size)
  have B10 := B10.below hb B10.lt
  clear hb
  go_wp2_with fail
  refine (HU2.out _ (hti.trans (hk.mono hti.size))).mono ?_
  rintro e v9 ⟨x2a, x2n, x2c, rfl, hx2, hb⟩
  have hin2 : SlIn v8.heap.size v9.heap.size (x2a, x2n, x2c) := fun g hg => hx2.block g hg
  have lx2 := hb.size
  have hx0 := hx0.below hb
  have hk := hk.trans (hb.mono hk.size)
  have B10 := B10.below hb B10.lt
  have hx1 := hx1.below hb
  clear hb
  go_wp2_with fail
  refine (HU3.out _ (hti.trans (hk.mono hti.size))).mono ?_
  rintro e v10 ⟨x3a, x3n, x3c, rfl, hx3, hb⟩
  have hin3 : SlIn v9.heap.size v10.heap.size (x3a, x3n, x3c) := fun g hg => hx3.block g hg
  have lx3 := hb.size
  have hx0 := hx0.below hb
  have hk := hk.trans (hb.mono hk.size)
  have B10 := B10.below hb B10.lt
  have hx1 := hx1.below hb
  have hx2 := hx2.below hb
  clear hb
  have hxn1 : x1n ≤ 1048576 := hx1.2.1
  have hxn2 : x2n ≤ 1048576 := hx2.2.1
  have hxn3 : x3n ≤ 1048576 := hx3.2
  obtain ⟨P0, HP0⟩ : ∃ P0, Hid (vo.heap.size = P0) := ⟨_, rfl⟩
  obtain ⟨P1, HP1⟩ : ∃ P1, Hid (v7.heap.size = P1) := ⟨_, rfl⟩
  obtain ⟨P2, HP2⟩ : ∃ P2, Hid (v8.heap.size = P2) := ⟨_, rfl⟩
  obtain ⟨P3, HP3⟩ : ∃ P3, Hid (v9.heap.size = P3) := ⟨_, rfl⟩
  obtain ⟨P4, HP4⟩ : ∃ P4, Hid (v10.heap.size = P4) := ⟨_, rfl⟩
  have q01 : P0 ≤ P1 := by rw [← HP0.out, ← HP1.out]; omega
  have q12 : P1 ≤ P2 := by rw [← HP1.out, ← HP2.out]; exact lx1
  have q23 : P2 ≤ P3 := by rw [← HP2.out, ← HP3.out]; exact lx2
  have q34 : P3 ≤ P4 := by rw [← HP3.out, ← HP4.out]; exact lx3
  rw [HP0.out, HP1.out] at hin0
  rw [HP0.out] at hx0
  rw [HP1.out, HP2.out] at hin1
  rw [HP1.out] at hx1
  rw [HP2.out, HP3.out] at hin2
  rw [HP2.out] at hx2
  rw [HP3.out, HP4.out] at hin3
  rw [HP3.out] at hx3
  clear l0 l1 lx1 lx2 lx3
  have g0 := B10.cell (j := 0) rfl
  have g1 := B10.cell (j := 1) rfl
  have g2 := B10.cell (j := 2) rfl
  have g3 := B10.cell (j := 3) rfl
  have g4 := B10.cell (j := 4) rfl
  have g5 := B10.cell (j := 5) rfl
  go_wp2_with fail
  clear HV6 HK10
  refine (implOutcomesOf_ans ⟨qd, (qa1, qn1, qc1), (qa2, qn2, qc2), qt, (qa3, qn3, qc3), (qa4, qn4, qc4), qrs⟩ p _ _ _ _ _ _ _ _ _ zs1 zs2 zs3 _ hx0.reads hx0.cap hx1.ints hx2.ints hx3.reads).mono ?_
  rintro e v11 ⟨hb, ⟨⟨f0a, f0n, f0c⟩, f0rs⟩, rfl, hm0⟩
  simp only [oslV, slV]
  rw [HQ.out] at hm0
  have hgin0 := hm0.inside
  have l9 : P4 ≤ v11.heap.size := by have := hb.size; rw [HP4.out] at this; exact this
  have ls9 : P4 ≤ v11.heap.size := l9
  rw [HP4.out] at hm0 hgin0
  have hx0 := hx0.below hb
  have hk := hk.trans (hb.mono hk.size)
  have B10 := B10.below hb B10.lt
  have hx1 := hx1.below hb
  have hx2 := hx2.below hb
  have hx3 := hx3.below hb
  clear hb
  clear g0 g1 g2 g3 g4 g5
  obtain ⟨PE, HPE⟩ : ∃ PE, Hid (v11.heap.size = PE) := ⟨_, rfl⟩
  rw [HPE.out] at l9 hgin0
  go_wp2_with fail
  refine (eqOcs_same ⟨(f0a, f0n, f0c), f0rs⟩ ⟨(e0a, e0n, e0c), e0rs⟩ Q _ hm0.reads (HM0.out.below hk)).mono ?_
  rintro e v12 ⟨rfl, hb⟩
  have hx0 := hx0.below hb
  have hk := hk.trans (hb.mono hk.size)
  have B10 := B10.below hb B10.lt
  have hx1 := hx1.below hb
  have hx2 := hx2.below hb
  have hx3 := hx3.below hb
  have hm0 := hm0.below hb
  have ls9 := Nat.le_trans ls9 hb.size
  clear hb
  have Bb := B.below hk B.lt
  have g0 := Bb.cell (j := 0) rfl
  have g1 := Bb.cell (j := 1) rfl
  have g2 := Bb.cell (j := 2) rfl
  have g3 := Bb.cell (j := 3) rfl
  have g4 := Bb.cell (j := 4) rfl
  have g5 := Bb.cell (j := 5) rfl
  have i0 := B10.cell (j := 0) rfl
  have i1 := B10.cell (j := 1) rfl
  have i2 := B10.cell (j := 2) rfl
  have i3 := B10.cell (j := 3) rfl
  have i4 := B10.cell (j := 4) rfl
  have i5 := B10.cell (j := 5) rfl
  go_wp2_with fail
  have hd : Below v12.heap.size v12 v12.drew := ⟨rfl, rfl, rfl, Nat.le_refl _, fun _ _ => rfl⟩
  have HTD := Lib.hid (HT.out _ (hti.trans ((hk.trans (hd.mono hk.size)).mono hti.size)))
  have HEQ : Hid (∀ w' r', Below v12.heap.size v12 w' → ProgAt w' r' p → Calls Tryz.prog 37 #[.agg #[.int .i64 qd, .slice qa1 qn1 qc1, .slice qa2 qn2 qc2, .int .i64 qt, .slice qa3 qn3 qc3, .slice qa4 qn4 qc4], progV r'] w' fun e w'' => e = .returned (.bool true) ∧ Below w'.heap.size w' w'') := Lib.hid (fun w' r' hb hr => (eqProg_any ⟨qd, (qa1, qn1, qc1), (qa2, qn2, qc2), qt, (qa3, qn3, qc3), (qa4, qn4, qc4), qrs⟩ r' p p w' (hx0.below hb).reads hr).mono fun e w'' h => by rw [decide_eq_true rfl] at h; exact h)
  have HX := Lib.hid B10
  have HBB := Lib.hid Bb
  go_region_held3 (fun w' => w'.cell? ⟨w.heap.size, 0, none⟩ = some (.int .i64 wd) ∧ w'.cell? ⟨w.heap.size, 1, none⟩ = some (.slice pa1 pn1 pc1) ∧ w'.cell? ⟨w.heap.size, 2, none⟩ = some (.slice pa2 pn2 pc2) ∧ w'.cell? ⟨w.heap.size, 3, none⟩ = some (.int .i64 tp) ∧ w'.cell? ⟨w.heap.size, 4, none⟩ = some (.slice pa3 pn3 pc3) ∧ w'.cell? ⟨w.heap.size, 5, none⟩ = some (.slice pa4 pn4 pc4) ∧ w'.cell? ⟨k10, 0, none⟩ = some (.int .i64 qd) ∧ w'.cell? ⟨k10, 1, none⟩ = some (.slice qa1 qn1 qc1) ∧ w'.cell? ⟨k10, 2, none⟩ = some (.slice qa2 qn2 qc2) ∧ w'.cell? ⟨k10, 3, none⟩ = some (.int .i64 qt) ∧ w'.cell? ⟨k10, 4, none⟩ = some (.slice qa3 qn3 qc3) ∧ w'.cell? ⟨k10, 5, none⟩ = some (.slice qa4 qn4 qc4)) (first | (refine ⟨?_, ?_, ?_, ?_, ?_, ?_, ?_, ?_, ?_, ?_, ?_, ?_⟩ <;> assumption) | go_keep | (refine ⟨?_, ?_, ?_, ?_, ?_, ?_, ?_, ?_, ?_, ?_, ?_, ?_⟩ <;> go_keep)) (first
    | (go_at_call 33; refine HTD.out.mono ?_; rintro e vx ⟨⟨sd, ⟨sa1, sn1, sc1⟩, ⟨sa2, sn2, sc2⟩, st, ⟨sa3, sn3, sc3⟩, ⟨sa4, sn4, sc4⟩, srs⟩, rfl, hos, hbs⟩; have hb9 := hd.trans (hbs.mono hd.size); have Y := HX.out.below hb9 HX.out.lt; have m0 := Y.cell (j := 0) rfl; have m1 := Y.cell (j := 1) rfl; have m2 := Y.cell (j := 2) rfl; have m3 := Y.cell (j := 3) rfl; have m4 := Y.cell (j := 4) rfl; have m5 := Y.cell (j := 5) rfl; have Y := HBB.out.below hb9 HBB.out.lt; have o0 := Y.cell (j := 0) rfl; have o1 := Y.cell (j := 1) rfl; have o2 := Y.cell (j := 2) rfl; have o3 := Y.cell (j := 3) rfl; have o4 := Y.cell (j := 4) rfl; have o5 := Y.cell (j := 5) rfl; have HE := Lib.hid (HEQ.out _ _ hb9 hos.reads); have HB9 := Lib.hid hb9; clear hos hbs hb9 Y)
    | (go_at_call 37; refine HE.out.mono ?_; rintro e vy ⟨rfl, hba⟩; have HB10 := Lib.hid (HB9.out.trans (hba.mono HB9.out.size)); have Y := HX.out.below HB10.out HX.out.lt; have b0 := Y.cell (j := 0) rfl; have b1 := Y.cell (j := 1) rfl; have b2 := Y.cell (j := 2) rfl; have b3 := Y.cell (j := 3) rfl; have b4 := Y.cell (j := 4) rfl; have b5 := Y.cell (j := 5) rfl; have Y := HBB.out.below HB10.out HBB.out.lt; have f0 := Y.cell (j := 0) rfl; have f1 := Y.cell (j := 1) rfl; have f2 := Y.cell (j := 2) rfl; have f3 := Y.cell (j := 3) rfl; have f4 := Y.cell (j := 4) rfl; have f5 := Y.cell (j := 5) rfl; clear hba Y))
  have hb := HB10.out
  have hx0 := hx0.below hb
  have hk := hk.trans (hb.mono hk.size)
  have B10 := B10.below hb B10.lt
  have hx1 := hx1.below hb
  have hx2 := hx2.below hb
  have hx3 := hx3.below hb
  have hm0 := hm0.below hb
  have ls9 := Nat.le_trans ls9 hb.size
  clear hb
  clear m0 m1 m2 m3 m4 m5 o0 o1 o2 o3 o4 o5 b0 b1 b2 b3 b4 b5 f0 f1 f2 f3 f4 f5 g0 g1 g2 g3 g4 g5 i0 i1 i2 i3 i4 i5 HX HBB HEQ HTD hd HE HB9 HB10 Bb
  go_wp2_with fail
  refine (HU1.out _ (hti.trans (hk.mono hti.size))).mono ?_
  rintro e v13 ⟨ua, un, uc, rfl, hu, hb⟩
  have hx0 := hx0.below hb
  have hk := hk.trans (hb.mono hk.size)
  have B10 := B10.below hb B10.lt
  have hx1 := hx1.below hb
  have hx2 := hx2.below hb
  have hx3 := hx3.below hb
  have hm0 := hm0.below hb
  have ls9 := Nat.le_trans ls9 hb.size
  clear hb
  go_wp2_with fail
  refine (eqInt64S_same _ _ _ _ _ _ zs1 _ hx1.ints hu.ints).mono ?_
  rintro e v14 ⟨rfl, hb⟩
  have hx0 := hx0.below hb
  have hk := hk.trans (hb.mono hk.size)
  have B10 := B10.below hb B10.lt
  have hx1 := hx1.below hb
  have hx2 := hx2.below hb
  have hx3 := hx3.below hb
  have hm0 := hm0.below hb
  have ls9 := Nat.le_trans ls9 hb.size
  have hu := hu.below hb
  clear hb
  clear hu
  go_wp2_with fail
  refine (HU2.out _ (hti.trans (hk.mono hti.size))).mono ?_
  rintro e v15 ⟨ua, un, uc, rfl, hu, hb⟩
  have hx0 := hx0.below hb
  have hk := hk.trans (hb.mono hk.size)
  have B10 := B10.below hb B10.lt
  have hx1 := hx1.below hb
  have hx2 := hx2.below hb
  have hx3 := hx3.below hb
  have hm0 := hm0.below hb
  have ls9 := Nat.le_trans ls9 hb.size
  clear hb
  go_wp2_with fail
  refine (eqInt64S_same _ _ _ _ _ _ zs2 _ hx2.ints hu.ints).mono ?_
  rintro e v16 ⟨rfl, hb⟩
  have hx0 := hx0.below hb
  have hk := hk.trans (hb.mono hk.size)
  have B10 := B10.below hb B10.lt
  have hx1 := hx1.below hb
  have hx2 := hx2.below hb
  have hx3 := hx3.below hb
  have hm0 := hm0.below hb
  have ls9 := Nat.le_trans ls9 hb.size
  have hu := hu.below hb
  clear hb
  clear hu
  go_wp2_with fail
  refine (HU3.out _ (hti.trans (hk.mono hti.size))).mono ?_
  rintro e v17 ⟨ua, un, uc, rfl, hu, hb⟩
  have hx0 := hx0.below hb
  have hk := hk.trans (hb.mono hk.size)
  have B10 := B10.below hb B10.lt
  have hx1 := hx1.below hb
  have hx2 := hx2.below hb
  have hx3 := hx3.below hb
  have hm0 := hm0.below hb
  have ls9 := Nat.le_trans ls9 hb.size
  clear hb
  go_wp2_with fail
  refine (eqBoolS_same _ _ _ _ _ _ zs3 _ hx3.reads hu.reads).mono ?_
  rintro e v18 ⟨rfl, hb⟩
  have hx0 := hx0.below hb
  have hk := hk.trans (hb.mono hk.size)
  have B10 := B10.below hb B10.lt
  have hx1 := hx1.below hb
  have hx2 := hx2.below hb
  have hx3 := hx3.below hb
  have hm0 := hm0.below hb
  have ls9 := Nat.le_trans ls9 hb.size
  have hu := hu.below hb
  clear hb
  clear hu
  have g0 := B10.cell (j := 0) rfl
  have g1 := B10.cell (j := 1) rfl
  have g2 := B10.cell (j := 2) rfl
  have g3 := B10.cell (j := 3) rfl
  have g4 := B10.cell (j := 4) rfl
  have g5 := B10.cell (j := 5) rfl
  go_wp2_with fail
  refine (markProg_any ⟨qd, (qa1, qn1, qc1), (qa2, qn2, qc2), qt, (qa3, qn3, qc3), (qa4, qn4, qc4), qrs⟩ p 1 _ P0 P0 P1 hx0 hin0 (by omega)).mono ?_
  rintro e v19 ⟨k1, rfl, hk1, hs⟩
  have hx1 := hx1.span hs (by omega)
  have hx2 := hx2.span hs (by omega)
  have hx3 := hx3.span hs (by omega)
  have HSP := hs.wide (Nat.le_refl P0) (show P1 ≤ P4 by omega)
  clear hs hx0 g0 g1 g2 g3 g4 g5 B10
  go_wp2_with fail
  refine (markInt64S_w _ _ _ zs1 (k1) _ P1 hx1 (by omega)).mono ?_
  rintro e v20 ⟨rfl, _, hg⟩
  have hs := Span.of_grown hg (fun g e => hin1 g e)
  have hx2 := hx2.span hs (by omega)
  have hx3 := hx3.span hs (by omega)
  have HSP := HSP.trans (hs.wide (show P0 ≤ P1 by omega) (show P2 ≤ P4 by omega))
  clear hs hg hx1
  go_wp2_with fail
  refine (markInt64S_w _ _ _ zs2 (k1 + x1n) _ P2 hx2 (by omega)).mono ?_
  rintro e v21 ⟨rfl, _, hg⟩
  have hs := Span.of_grown hg (fun g e => hin2 g e)
  have hx3 := hx3.span hs (by omega)
  have HSP := HSP.trans (hs.wide (show P0 ≤ P2 by omega) (show P3 ≤ P4 by omega))
  clear hs hg hx2
  go_wp2_with fail
  refine (markBoolS_w _ _ _ zs3 (k1 + x1n + x2n) _ P3 hx3 (by omega)).mono ?_
  rintro e v22 ⟨rfl, _, hg⟩
  have hs := Span.of_grown hg (fun g e => hin3 g e)
  have HSP := HSP.trans (hs.wide (show P0 ≤ P3 by omega) (show P4 ≤ P4 by omega))
  clear hs hg hx3
  have hm0 := hm0.span HSP (Nat.le_refl _)
  have ls9 := Nat.le_trans ls9 HSP.size
  have HP03 := Lib.hid (show vo.heap.size ≤ P4 by rw [HP0.out]; omega)
  have hz := HSP.below (by rw [← HP0.out]; exact hk.size)
  rw [← HP0.out] at hz
  have hk := hk.trans hz
  obtain ⟨K, HK⟩ : ∃ K, Hid (k1 + x1n + x2n + x3n = K) := ⟨_, rfl⟩
  rw [HK.out]
  have hkk : decide ((K : Int) < 0) = false := by simp
  clear HSP hz HK hk1 hin0 hin1 hxn1 hin2 hxn2 hin3 hxn3 HP0 HP1 HP2 HP3
  go_wp2_with fail
  refine (eqOcs_same ⟨(f0a, f0n, f0c), f0rs⟩ ⟨(e0a, e0n, e0c), e0rs⟩ Q _ hm0.reads (HM0.out.below hk)).mono ?_
  rintro e v23 ⟨rfl, hb⟩
  have hk := hk.trans (hb.mono hk.size)
  have ls9 := Nat.le_trans ls9 hb.size
  have hm0 := hm0.below hb
  clear hb
  go_wp2_with fail
  refine (markOcs_ans ⟨(f0a, f0n, f0c), f0rs⟩ Q 1 _ P4 hm0 (by omega) HSZ.out hgin0).mono ?_
  rintro e v24 ⟨rfl, hmm0, hs⟩
  have hz := (hs.below ls9).mono HP03.out
  have ls9 := Nat.le_trans ls9 hs.size
  have hk := hk.trans hz
  obtain ⟨M, HM⟩ : ∃ M, Hid (1 + sumO Q Q.length = M) := ⟨_, rfl⟩
  rw [HM.out]
  have hmm : decide ((M : Int) < 0) = false := by simp
  have hmn : ((M : Int) != (M : Int)) = false := by simp
  clear hm0 hs hz
  go_wp2_with fail
  refine (heldOcs_ans ⟨(f0a, f0n, f0c), f0rs⟩ Q 1 _ hmm0.reads (by omega) HSZ.out).mono ?_
  rintro e v25 ⟨rfl, hb⟩
  rw [HM.out]
  have hk := hk.trans (hb.mono hk.size)
  have hmm0 := hmm0.below hb
  clear hb
  have Bn := B.below hk B.lt
  have t0 := Bn.cell (j := 0) rfl
  have t1 := Bn.cell (j := 1) rfl
  have t2 := Bn.cell (j := 2) rfl
  have t3 := Bn.cell (j := 3) rfl
  have t4 := Bn.cell (j := 4) rfl
  have t5 := Bn.cell (j := 5) rfl
  go_wp2_with fail
  refine (HT.out _ (hti.trans (hk.mono hti.size))).mono ?_
  rintro e v26 ⟨⟨sd, ⟨sa1, sn1, sc1⟩, ⟨sa2, sn2, sc2⟩, st, ⟨sa3, sn3, sc3⟩, ⟨sa4, sn4, sc4⟩, srs⟩, rfl, hs0, hb⟩
  simp only [progV, slV]
  clear t0 t1 t2 t3 t4 t5 Bn
  have hk := hk.trans (hb.mono hk.size)
  have hmm0 := hmm0.below hb
  clear hb
  go_wp2_with fail
  refine (HU1.out _ (hti.trans (hk.mono hti.size))).mono ?_
  rintro e v27 ⟨s1a, s1n, s1c, rfl, hs1, hb⟩
  have hk := hk.trans (hb.mono hk.size)
  have hmm0 := hmm0.below hb
  have hs0 := hs0.below hb
  clear hb
  go_wp2_with fail
  refine (HU2.out _ (hti.trans (hk.mono hti.size))).mono ?_
  rintro e v28 ⟨s2a, s2n, s2c, rfl, hs2, hb⟩
  have hk := hk.trans (hb.mono hk.size)
  have hmm0 := hmm0.below hb
  have hs0 := hs0.below hb
  have hs1 := hs1.below hb
  clear hb
  go_wp2_with fail
  refine (HU3.out _ (hti.trans (hk.mono hti.size))).mono ?_
  rintro e v29 ⟨s3a, s3n, s3c, rfl, hs3, hb⟩
  have hk := hk.trans (hb.mono hk.size)
  have hmm0 := hmm0.below hb
  have hs0 := hs0.below hb
  have hs1 := hs1.below hb
  have hs2 := hs2.below hb
  clear hb
  go_wp2_with fail
  refine (implOutcomesOf_ans ⟨sd, (sa1, sn1, sc1), (sa2, sn2, sc2), st, (sa3, sn3, sc3), (sa4, sn4, sc4), srs⟩ p _ _ _ _ _ _ _ _ _ zs1 zs2 zs3 _ hs0.reads hs0.cap hs1.ints hs2.ints hs3.reads).mono ?_
  rintro e v30 ⟨hb, ⟨⟨h0a, h0n, h0c⟩, h0rs⟩, rfl, hg0⟩
  simp only [oslV, slV]
  rw [HQ.out] at hg0
  have hk := hk.trans (hb.mono hk.size)
  have hmm0 := hmm0.below hb
  clear hb
  clear hs0 hs1 hs2 hs3
  go_wp2_with fail
  refine (eqOcs_same ⟨(h0a, h0n, h0c), h0rs⟩ ⟨(e0a, e0n, e0c), e0rs⟩ Q _ hg0.reads (HM0.out.below hk)).mono ?_
  rintro e v31 ⟨rfl, hb⟩
  have hk := hk.trans (hb.mono hk.size)
  have hmm0 := hmm0.below hb
  have hg0 := hg0.below hb
  clear hb
  go_wp2_with fail
  refine (heldOcs_ans ⟨(f0a, f0n, f0c), f0rs⟩ Q 1 _ hmm0.reads (by omega) HSZ.out).mono ?_
  rintro e v32 ⟨rfl, hb⟩
  rw [HM.out]
  have hk := hk.trans (hb.mono hk.size)
  have hmm0 := hmm0.below hb
  clear hb
  have HF := Lib.hid (HOLD.out.trans (hk.mono HOLD.out.size))
  clear hk
  go_wp2_with fail
  go_ret
  exact ⟨rfl, HF.out⟩

/-! ### THE ROW's STEP -/
set_option maxRecDepth 100000 in
set_option maxHeartbeats 3200000 in
theorem lifted (os : Os) (started : os.Started) (H : Type) (enc : TypeId × Value → H) :
    ReturnsInHanded {} Tryz.checked os 6 .any (Rows.fnExactOutcomesOfSpec.pre6 enc Tryz.prog Tryz.f6 Rows.fnExactOutcomesOfRow.domain false) (Rows.fnExactOutcomesOfSpec.post enc Tryz.prog Tryz.f6 false true false false) := by
  refine returnsInHanded_of_change (C := Tryz.checked) own started (by kernel_rfl) Tryz.func6
    (ChangeSpec.witness6 (enc := enc) (C := Tryz.checked) false ⟨#[], #[.agg #[.int .i64 0, .slice none 0 0, .slice none 0 0, .int .i64 0, .slice none 0 0, .slice none 0 0], .slice none 0 0, .slice none 0 0, .slice none 0 0], []⟩ 8 (by kernel_rfl) (by kernel_rfl) (by kernel_rfl) (by kernel_rfl)) ?_
  intro W base args ds gs before hval0 hW hcnd _
  have hval : ∀ (j : Nat) t v, Tryz.f6.params[j]? = some t → args[j]? = some v → Value.okWide Tryz.prog W .any base t v := hval0
  have hW' := hW
  obtain ⟨p, q, hA0, hV, rfl, hfz, hnd⟩ := hW
  have hA : DataW.TrodAll enc Tryz.prog W 0 (fun _ => true) true Tryz.f6.params.toList args.toList ds p := hA0
  rw [Tryz.params6] at hA hval
  obtain ⟨v0, vs0, d0, ds0, p0, q0, hargs, rfl, rfl, h0, r0⟩ := trodAll_cons hA
  obtain ⟨v1, vs1, d1, ds1, p1, q1, hargs1, rfl, rfl, h1, r1⟩ := trodAll_cons r0
  obtain ⟨v2, vs2, d2, ds2, p2, q2, hargs2, rfl, rfl, h2, r2⟩ := trodAll_cons r1
  obtain ⟨v3, vs3, d3, ds3, p3, q3, hargs3, rfl, rfl, h3, r3⟩ := trodAll_cons r2
  obtain ⟨rfl, rfl, rfl⟩ := trodAll_nil r3
  obtain rfl : args = #[v0, v1, v2, v3] := by cases args; simp_all
  obtain ⟨rfl, rfl⟩ := trodVars_none hV
  have lt0 : ∀ x ∈ p0, x.block < W.heap.size := by obtain ⟨m, hm⟩ := h0; exact DataW.trod_lt m _ _ _ hm
  obtain ⟨R0, rfl, w0⟩ := argProg_of (hval 0 58 v0 rfl rfl) h0
  obtain ⟨a1, len1, cap1, rfl⟩ := okWide_slice Tryz.underlying28 (hval 1 28 v1 rfl rfl)
  have lt1 : ∀ x ∈ p1, x.block < W.heap.size := by obtain ⟨m, hm⟩ := h1; exact DataW.trod_lt m _ _ _ hm
  have w1 := argInts_of h1
  obtain ⟨a2, len2, cap2, rfl⟩ := okWide_slice Tryz.underlying28 (hval 2 28 v2 rfl rfl)
  have lt2 : ∀ x ∈ p2, x.block < W.heap.size := by obtain ⟨m, hm⟩ := h2; exact DataW.trod_lt m _ _ _ hm
  have w2 := argInts_of h2
  obtain ⟨a3, len3, cap3, rfl⟩ := okWide_slice Tryz.underlying39 (hval 3 39 v3 rfl rfl)
  have lt3 : ∀ x ∈ p3, x.block < W.heap.size := by obtain ⟨m, hm⟩ := h3; exact DataW.trod_lt m _ _ _ hm
  have w3 := argBools_of h3
  clear hA0 hval0
  refine (walk R0 a1 len1 cap1 a2 len2 cap2 a3 len3 cap3 W w0 w1 w2 w3).mono fun e W' ⟨he, bel⟩ => ?_
  subst he
  exact ⟨_, rfl, _, _, _, [], _, [], hW', trodAll_mk1 (shut_bool Tryz.underlying4 _), (trodAll_cons_mk (Below.trod laidOut (by kernel_rfl) (of_decide_eq_true (by kernel_rfl)) h0 bel lt0) (trodAll_cons_mk (Below.trod laidOut (by kernel_rfl) (of_decide_eq_true (by kernel_rfl)) h1 bel lt1) (trodAll_cons_mk (Below.trod laidOut (by kernel_rfl) (of_decide_eq_true (by kernel_rfl)) h2 bel lt2) (trodAll_cons_mk (Below.trod laidOut (by kernel_rfl) (of_decide_eq_true (by kernel_rfl)) h3 bel lt3) trodAll_mk0)))), rfl, bel.frame _, fun h => by cases h⟩

theorem over : Rows.fnExactOutcomesOfRow.holds Tryz.pinned (OpenSpec.ofChange Rows.fnExactOutcomesOfSpec) :=
  OpenClaim.holds_of_wide 6 Tryz.f6 rfl rfl rfl rfl rfl rfl rfl ⟨rfl, rfl, rfl, rfl, rfl⟩ rfl rfl rfl rfl rfl (by kernel_rfl) Tryz.func6 (by kernel_rfl)
    (of_decide_eq_true (by kernel_rfl)) (by unfold Func.isWrapper; first | (rw [if_pos (by decide +kernel)]; kernel_rfl) | (rw [if_neg (by decide +kernel)]; exact ⟨rfl, rfl⟩))
    (fun os started H enc _ => lifted os started H enc)

/-- ████ THE STATEMENT ████ -/
theorem proved : Rows.FnExactOutcomesOfSaid := over
#print axioms proved
end Go.Proofs.YtmooecbdpfhnlaaGreat.fnExactOutcomesOf
