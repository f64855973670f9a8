/- For every program, the program's Sliced answers as the model's in every field, writes into no argument, and its answer owns its memory. Conditions: none beyond the given row. (The frame round the walk is the guide's own shell, by program.) -/
import Derived.Test.YtbnpoliogldohaaGreatRows
import Derived.Test.YtbnpoliogldohaaGreatS7
import Derived.Test.YtbnpoliogldohaaGreatS4
import Derived.Test.YtbnpoliogldohaaGreatS14
import Derived.Test.YtbnpoliogldohaaGreatS43
import Derived.WalkKit
import Derived.ProofKit
import Derived.OpenShut
import Derived.ShutString
import Derived.ChangeOld
import Derived.Below
import Derived.Carry
namespace Go.Proofs.YtbnpoliogldohaaGreat.fnExactSliced
open Go.ChangeShapes Go.WideShapes Go.ChangeAt Go.RowKit
set_option linter.unusedVariables false

theorem own : ownKnob Tryz.prog.godebug = none := by kernel_rfl
theorem laidOut : laidOutB Tryz.prog = true := by kernel_rfl

/-! ### STEP 1: THE WALK -/
set_option maxRecDepth 20000 in
set_option maxHeartbeats 6400000 in
theorem walk (r0 : PRow) (w : World) (w0 : ArgProg w r0) :
    Calls Tryz.prog 5 #[progV r0] w fun e w' => e = .returned (.bool true) ∧ Below w.heap.size w w' := by
  have HA0 := Lib.hid w0
  clear w0
  obtain ⟨wd, ⟨pa1, pn1, pc1⟩, ⟨pa2, pn2, pc2⟩, tp, ⟨pa3, pn3, pc3⟩, ⟨pa4, pn4, pc4⟩, rows0⟩ := r0
  show Calls Tryz.prog 5 #[.agg #[.int .i64 wd, .slice pa1 pn1 pc1, .slice pa2 pn2 pc2, .int .i64 tp, .slice pa3 pn3 pc3, .slice pa4 pn4 pc4]] w _
  have HS : Hid (∀ w', Below w.heap.size w w' → Calls Tryz.prog 24 #[.agg #[.int .i64 wd, .slice pa1 pn1 pc1, .slice pa2 pn2 pc2, .int .i64 tp, .slice pa3 pn3 pc3, .slice pa4 pn4 pc4], .int .i64 ((1048576 : Nat) : Int)] w' (SzProg w' 1048576 ⟨wd, (pa1, pn1, pc1), (pa2, pn2, pc2), tp, (pa3, pn3, pc3), (pa4, pn4, pc4), rows0⟩)) := Lib.hid (fun w' hb => szProg_any _ _ _ (HA0.out.below hb) (Nat.le_refl _))
  clear HA0
  obtain ⟨wa, HW⟩ : ∃ wa, Hid (wa = w.alloc (.cells #[.int .i64 wd, .slice pa1 pn1 pc1, .slice pa2 pn2 pc2, .int .i64 tp, .slice pa3 pn3 pc3, .slice pa4 pn4 pc4] 49)) := ⟨_, rfl⟩
  have B : Blk wa w.heap.size 49 [.int .i64 wd, .slice pa1 pn1 pc1, .slice pa2 pn2 pc2, .int .i64 tp, .slice pa3 pn3 pc3, .slice pa4 pn4 pc4] := by rw [HW.out]; exact Blk.new w _ _
  have HB : Below w.heap.size w wa := by rw [HW.out]; exact (Below.refl _ _).alloc (Nat.le_refl _) _
  go_enter Tryz.func5, Tryz.ntmps5
  go_wp2_with fail
  rw [← HW.out]
  refine (HS.out _ HB).mono ?_
  rintro e w1 ⟨hb1, he⟩
  rcases he with rfl | ⟨v, hv, rfl, rows, p, hp⟩
  · have HB := HB.trans (hb1.mono HB.size)
    go_wp2_with fail
    go_ret
    exact ⟨rfl, HB⟩
  have hvv : decide ((v : Int) < 0) = false := by simp
  have HP := Lib.hid (hp.below hb1)
  have B := B.below hb1 B.lt
  have HB := HB.trans (hb1.mono HB.size)
  clear hp hb1 HW HS
  obtain ⟨wi, HWI⟩ : ∃ wi, Hid (w1 = wi) := ⟨_, rfl⟩
  rw [HWI.out] at HP B HB ⊢
  clear HWI w1
  have HT : Hid (∀ w', Below wi.heap.size wi w' → Calls Tryz.prog 26 #[.agg #[.int .i64 wd, .slice pa1 pn1 pc1, .slice pa2 pn2 pc2, .int .i64 tp, .slice pa3 pn3 pc3, .slice pa4 pn4 pc4]] w' (MadeProg w' p)) := Lib.hid (fun w' hb => toProg_any ⟨wd, (pa1, pn1, pc1), (pa2, pn2, pc2), tp, (pa3, pn3, pc3), (pa4, pn4, pc4), rows⟩ p w' (HP.out.below hb))
  clear HP
  obtain ⟨Q, HQ⟩ : ∃ Q, Hid (sliceP p = Q) := ⟨_, Lib.hid rfl⟩
  have t0 := B.cell (j := 0) rfl
  have t1 := B.cell (j := 1) rfl
  have t2 := B.cell (j := 2) rfl
  have t3 := B.cell (j := 3) rfl
  have t4 := B.cell (j := 4) rfl
  have t5 := B.cell (j := 5) rfl
  go_wp2_with fail
  refine (HT.out _ (Below.refl _ _)).mono ?_
  rintro e v1 ⟨⟨sd, ⟨sa1, sn1, sc1⟩, ⟨sa2, sn2, sc2⟩, st, ⟨sa3, sn3, sc3⟩, ⟨sa4, sn4, sc4⟩, srs⟩, rfl, hs0, hb⟩
  simp only [progV, slV]
  have hti := hb
  clear hb t0 t1 t2 t3 t4 t5
  go_wp2_with fail
  refine (specSliced_ans ⟨sd, (sa1, sn1, sc1), (sa2, sn2, sc2), st, (sa3, sn3, sc3), (sa4, sn4, sc4), srs⟩ p   _ hs0.reads hs0.caps ).mono ?_
  rintro e v2 ⟨hb, ⟨e0d, ⟨e0a1, e0n1, e0c1⟩, ⟨e0a2, e0n2, e0c2⟩, e0t, ⟨e0a3, e0n3, e0c3⟩, ⟨e0a4, e0n4, e0c4⟩, e0rs⟩, rfl, hm0⟩
  simp only [progV, slV]
  rw [HQ.out] at hm0
  have hti := hti.trans (hb.mono hti.size)
  clear hb hs0
  have B := B.below hti B.lt
  obtain ⟨v3, HV0⟩ : ∃ v3, Hid (v3 = v2.alloc (.cells #[.int .i64 e0d, .slice e0a1 e0n1 e0c1, .slice e0a2 e0n2 e0c2, .int .i64 e0t, .slice e0a3 e0n3 e0c3, .slice e0a4 e0n4 e0c4] 28)) := ⟨_, rfl⟩
  have W80 : Blk v3 v2.heap.size 28 [.int .i64 e0d, .slice e0a1 e0n1 e0c1, .slice e0a2 e0n2 e0c2, .int .i64 e0t, .slice e0a3 e0n3 e0c3, .slice e0a4 e0n4 e0c4] := by rw [HV0.out]; exact Blk.new v2 _ _
  have hb : Below v2.heap.size v2 v3 := by rw [HV0.out]; exact (Below.refl _ _).alloc (Nat.le_refl _) _
  obtain ⟨k80, HK80⟩ : ∃ k80, Hid (v2.heap.size = k80) := ⟨_, rfl⟩
  rw [HK80.out] at W80
  have hm0 := hm0.below hb
  have hti := hti.trans (hb.mono hti.size)
  have B := B.below hb B.lt
  clear hb
  have HM0 := Lib.hid (hm0)
  clear hm0
  obtain ⟨vo, HVO⟩ : ∃ vo, Hid (v3 = vo) := ⟨_, rfl⟩
  rw [HVO.out] at B hti W80 HM0
  have t0 := B.cell (j := 0) rfl
  have t1 := B.cell (j := 1) rfl
  have t2 := B.cell (j := 2) rfl
  have t3 := B.cell (j := 3) rfl
  have t4 := B.cell (j := 4) rfl
  have t5 := B.cell (j := 5) rfl
  rw [← HVO.out, HV0.out] at t0 t1 t2 t3 t4 t5
  go_wp2_with fail
  rw [← HV0.out]
  rw [HK80.out]
  rw [HVO.out]
  clear t0 t1 t2 t3 t4 t5 HVO HV0 HK80
  have HOLD := Lib.hid (HB.trans (hti.mono HB.size))
  refine (HT.out _ hti).mono ?_
  rintro e v4 ⟨⟨qd, ⟨qa1, qn1, qc1⟩, ⟨qa2, qn2, qc2⟩, qt, ⟨qa3, qn3, qc3⟩, ⟨qa4, qn4, qc4⟩, qrs⟩, rfl, hx0, hb⟩
  simp only [progV, slV]
  have hin0 := hx0.inside
  have l0 := hb.size
  have hk := hb
  clear hb
  obtain ⟨v5, HV6⟩ : ∃ v5, Hid (v5 = v4.alloc (.cells #[.int .i64 qd, .slice qa1 qn1 qc1, .slice qa2 qn2 qc2, .int .i64 qt, .slice qa3 qn3 qc3, .slice qa4 qn4 qc4] 28)) := ⟨_, rfl⟩
  have B10 : Blk v5 v4.heap.size 28 [.int .i64 qd, .slice qa1 qn1 qc1, .slice qa2 qn2 qc2, .int .i64 qt, .slice qa3 qn3 qc3, .slice qa4 qn4 qc4] := by rw [HV6.out]; exact Blk.new v4 _ _
  have hb : Below v4.heap.size v4 v5 := by rw [HV6.out]; exact (Below.refl _ _).alloc (Nat.le_refl _) _
  have l1 : v4.heap.size ≤ v5.heap.size := hb.size
  have hin0 := hin0.wide (Nat.le_refl _) l1
  have hx0 := hx0.below hb
  have hk := hk.trans (hb.mono hk.size)
  clear hb
  obtain ⟨k10, HK10⟩ : ∃ k10, Hid (v4.heap.size = k10) := ⟨_, rfl⟩
  rw [HK10.out] at B10
  obtain ⟨P0, HP0⟩ : ∃ P0, Hid (vo.heap.size = P0) := ⟨_, rfl⟩
  obtain ⟨P1, HP1⟩ : ∃ P1, Hid (v5.heap.size = P1) := ⟨_, rfl⟩
  have q01 : P0 ≤ P1 := by rw [← HP0.out, ← HP1.out]; omega
  rw [HP0.out, HP1.out] at hin0
  rw [HP0.out] at hx0
  clear l0 l1 
  have g0 := B10.cell (j := 0) rfl
  have g1 := B10.cell (j := 1) rfl
  have g2 := B10.cell (j := 2) rfl
  have g3 := B10.cell (j := 3) rfl
  have g4 := B10.cell (j := 4) rfl
  have g5 := B10.cell (j := 5) rfl
  rw [HV6.out, ← HK10.out] at g0 g1 g2 g3 g4 g5
  go_wp2_with fail
  rw [← HV6.out, HK10.out]
  clear HV6 HK10
  refine (implSliced_ans ⟨qd, (qa1, qn1, qc1), (qa2, qn2, qc2), qt, (qa3, qn3, qc3), (qa4, qn4, qc4), qrs⟩ p   _ hx0.reads hx0.cap ).mono ?_
  rintro e v6 ⟨hb, ⟨f0d, ⟨f0a1, f0n1, f0c1⟩, ⟨f0a2, f0n2, f0c2⟩, f0t, ⟨f0a3, f0n3, f0c3⟩, ⟨f0a4, f0n4, f0c4⟩, f0rs⟩, rfl, hm0⟩
  simp only [progV, slV]
  rw [HQ.out] at hm0
  have hgin0 := hm0.inside
  have l9 : P1 ≤ v6.heap.size := by have := hb.size; rw [HP1.out] at this; exact this
  have ls9 : P1 ≤ v6.heap.size := l9
  rw [HP1.out] at hm0 hgin0
  have hx0 := hx0.below hb
  have hk := hk.trans (hb.mono hk.size)
  have B10 := B10.below hb B10.lt
  clear hb
  clear g0 g1 g2 g3 g4 g5
  obtain ⟨PE, HPE⟩ : ∃ PE, Hid (v6.heap.size = PE) := ⟨_, rfl⟩
  rw [HPE.out] at l9 hgin0
  obtain ⟨v7, HVA0⟩ : ∃ v7, Hid (v7 = v6.alloc (.cells #[.int .i64 f0d, .slice f0a1 f0n1 f0c1, .slice f0a2 f0n2 f0c2, .int .i64 f0t, .slice f0a3 f0n3 f0c3, .slice f0a4 f0n4 f0c4] 28)) := ⟨_, rfl⟩
  have W130 : Blk v7 v6.heap.size 28 [.int .i64 f0d, .slice f0a1 f0n1 f0c1, .slice f0a2 f0n2 f0c2, .int .i64 f0t, .slice f0a3 f0n3 f0c3, .slice f0a4 f0n4 f0c4] := by rw [HVA0.out]; exact Blk.new v6 _ _
  have hb : Below v6.heap.size v6 v7 := by rw [HVA0.out]; exact (Below.refl _ _).alloc (Nat.le_refl _) _
  have lb0 : PE ≤ v6.heap.size := by rw [HPE.out]; exact Nat.le_refl _
  have hx0 := hx0.below hb
  have hk := hk.trans (hb.mono hk.size)
  have B10 := B10.below hb B10.lt
  have hm0 := hm0.below hb
  have ls9 := Nat.le_trans ls9 hb.size
  clear hb
  obtain ⟨k130, HK130⟩ : ∃ k130, Hid (v6.heap.size = k130) := ⟨_, rfl⟩
  rw [HK130.out] at W130 lb0
  have W8a := W80.below hk W80.lt
  have g0 := W8a.cell (j := 0) rfl
  have g1 := W8a.cell (j := 1) rfl
  have g2 := W8a.cell (j := 2) rfl
  have g3 := W8a.cell (j := 3) rfl
  have g4 := W8a.cell (j := 4) rfl
  have g5 := W8a.cell (j := 5) rfl
  have i0 := W130.cell (j := 0) rfl
  have i1 := W130.cell (j := 1) rfl
  have i2 := W130.cell (j := 2) rfl
  have i3 := W130.cell (j := 3) rfl
  have i4 := W130.cell (j := 4) rfl
  have i5 := W130.cell (j := 5) rfl
  rw [HVA0.out] at g0 g1 g2 g3 g4 g5
  rw [HVA0.out, ← HK130.out] at i0 i1 i2 i3 i4 i5
  go_wp2_with fail
  rw [← HVA0.out, HK130.out]
  clear g0 g1 g2 g3 g4 g5 i0 i1 i2 i3 i4 i5 W8a
  refine (eqProg_same ⟨f0d, (f0a1, f0n1, f0c1), (f0a2, f0n2, f0c2), f0t, (f0a3, f0n3, f0c3), (f0a4, f0n4, f0c4), f0rs⟩ ⟨e0d, (e0a1, e0n1, e0c1), (e0a2, e0n2, e0c2), e0t, (e0a3, e0n3, e0c3), (e0a4, e0n4, e0c4), e0rs⟩ _ _ hm0.reads (HM0.out.below hk)).mono ?_
  rintro e v8 ⟨rfl, hb⟩
  have hx0 := hx0.below hb
  have hk := hk.trans (hb.mono hk.size)
  have B10 := B10.below hb B10.lt
  have hm0 := hm0.below hb
  have ls9 := Nat.le_trans ls9 hb.size
  have W130 := W130.below hb W130.lt
  clear hb
  clear HVA0
  have Bb := B.below hk B.lt
  have g0 := Bb.cell (j := 0) rfl
  have g1 := Bb.cell (j := 1) rfl
  have g2 := Bb.cell (j := 2) rfl
  have g3 := Bb.cell (j := 3) rfl
  have g4 := Bb.cell (j := 4) rfl
  have g5 := Bb.cell (j := 5) rfl
  have i0 := B10.cell (j := 0) rfl
  have i1 := B10.cell (j := 1) rfl
  have i2 := B10.cell (j := 2) rfl
  have i3 := B10.cell (j := 3) rfl
  have i4 := B10.cell (j := 4) rfl
  have i5 := B10.cell (j := 5) rfl
  go_wp2_with fail
  have hd : Below v8.heap.size v8 v8.drew := ⟨rfl, rfl, rfl, Nat.le_refl _, fun _ _ => rfl⟩
  have HTD := Lib.hid (HT.out _ (hti.trans ((hk.trans (hd.mono hk.size)).mono hti.size)))
  have HEQ : Hid (∀ w' r', Below v8.heap.size v8 w' → ProgAt w' r' p → Calls Tryz.prog 28 #[.agg #[.int .i64 qd, .slice qa1 qn1 qc1, .slice qa2 qn2 qc2, .int .i64 qt, .slice qa3 qn3 qc3, .slice qa4 qn4 qc4], progV r'] w' fun e w'' => e = .returned (.bool true) ∧ Below w'.heap.size w' w'') := Lib.hid (fun w' r' hb hr => (eqProg_any ⟨qd, (qa1, qn1, qc1), (qa2, qn2, qc2), qt, (qa3, qn3, qc3), (qa4, qn4, qc4), qrs⟩ r' p p w' (hx0.below hb).reads hr).mono fun e w'' h => by rw [decide_eq_true rfl] at h; exact h)
  have HX := Lib.hid B10
  have HBB := Lib.hid Bb
  go_region_held3 (fun w' => w'.cell? ⟨w.heap.size, 0, none⟩ = some (.int .i64 wd) ∧ w'.cell? ⟨w.heap.size, 1, none⟩ = some (.slice pa1 pn1 pc1) ∧ w'.cell? ⟨w.heap.size, 2, none⟩ = some (.slice pa2 pn2 pc2) ∧ w'.cell? ⟨w.heap.size, 3, none⟩ = some (.int .i64 tp) ∧ w'.cell? ⟨w.heap.size, 4, none⟩ = some (.slice pa3 pn3 pc3) ∧ w'.cell? ⟨w.heap.size, 5, none⟩ = some (.slice pa4 pn4 pc4) ∧ w'.cell? ⟨k10, 0, none⟩ = some (.int .i64 qd) ∧ w'.cell? ⟨k10, 1, none⟩ = some (.slice qa1 qn1 qc1) ∧ w'.cell? ⟨k10, 2, none⟩ = some (.slice qa2 qn2 qc2) ∧ w'.cell? ⟨k10, 3, none⟩ = some (.int .i64 qt) ∧ w'.cell? ⟨k10, 4, none⟩ = some (.slice qa3 qn3 qc3) ∧ w'.cell? ⟨k10, 5, none⟩ = some (.slice qa4 qn4 qc4)) (first | (refine ⟨?_, ?_, ?_, ?_, ?_, ?_, ?_, ?_, ?_, ?_, ?_, ?_⟩ <;> assumption) | go_keep | (refine ⟨?_, ?_, ?_, ?_, ?_, ?_, ?_, ?_, ?_, ?_, ?_, ?_⟩ <;> go_keep)) (first
    | (go_at_call 26; refine HTD.out.mono ?_; rintro e vx ⟨⟨sd, ⟨sa1, sn1, sc1⟩, ⟨sa2, sn2, sc2⟩, st, ⟨sa3, sn3, sc3⟩, ⟨sa4, sn4, sc4⟩, srs⟩, rfl, hos, hbs⟩; have hb9 := hd.trans (hbs.mono hd.size); have Y := HX.out.below hb9 HX.out.lt; have m0 := Y.cell (j := 0) rfl; have m1 := Y.cell (j := 1) rfl; have m2 := Y.cell (j := 2) rfl; have m3 := Y.cell (j := 3) rfl; have m4 := Y.cell (j := 4) rfl; have m5 := Y.cell (j := 5) rfl; have Y := HBB.out.below hb9 HBB.out.lt; have o0 := Y.cell (j := 0) rfl; have o1 := Y.cell (j := 1) rfl; have o2 := Y.cell (j := 2) rfl; have o3 := Y.cell (j := 3) rfl; have o4 := Y.cell (j := 4) rfl; have o5 := Y.cell (j := 5) rfl; have HE := Lib.hid (HEQ.out _ _ hb9 hos.reads); have HB9 := Lib.hid hb9; clear hos hbs hb9 Y)
    | (go_at_call 28; refine HE.out.mono ?_; rintro e vy ⟨rfl, hba⟩; have HB10 := Lib.hid (HB9.out.trans (hba.mono HB9.out.size)); have Y := HX.out.below HB10.out HX.out.lt; have b0 := Y.cell (j := 0) rfl; have b1 := Y.cell (j := 1) rfl; have b2 := Y.cell (j := 2) rfl; have b3 := Y.cell (j := 3) rfl; have b4 := Y.cell (j := 4) rfl; have b5 := Y.cell (j := 5) rfl; have Y := HBB.out.below HB10.out HBB.out.lt; have f0 := Y.cell (j := 0) rfl; have f1 := Y.cell (j := 1) rfl; have f2 := Y.cell (j := 2) rfl; have f3 := Y.cell (j := 3) rfl; have f4 := Y.cell (j := 4) rfl; have f5 := Y.cell (j := 5) rfl; clear hba Y))
  have hb := HB10.out
  have hx0 := hx0.below hb
  have hk := hk.trans (hb.mono hk.size)
  have B10 := B10.below hb B10.lt
  have hm0 := hm0.below hb
  have ls9 := Nat.le_trans ls9 hb.size
  have W130 := W130.below hb W130.lt
  clear hb
  clear m0 m1 m2 m3 m4 m5 o0 o1 o2 o3 o4 o5 b0 b1 b2 b3 b4 b5 f0 f1 f2 f3 f4 f5 g0 g1 g2 g3 g4 g5 i0 i1 i2 i3 i4 i5 HX HBB HEQ HTD hd HE HB9 HB10 Bb
  have g0 := B10.cell (j := 0) rfl
  have g1 := B10.cell (j := 1) rfl
  have g2 := B10.cell (j := 2) rfl
  have g3 := B10.cell (j := 3) rfl
  have g4 := B10.cell (j := 4) rfl
  have g5 := B10.cell (j := 5) rfl
  go_wp2_with fail
  refine (markProg_any ⟨qd, (qa1, qn1, qc1), (qa2, qn2, qc2), qt, (qa3, qn3, qc3), (qa4, qn4, qc4), qrs⟩ p 1 _ P0 P0 P1 hx0 hin0 (by omega)).mono ?_
  rintro e v9 ⟨k1, rfl, hk1, hs⟩
  have HSP := hs.wide (Nat.le_refl P0) (show P1 ≤ P1 by omega)
  clear hs hx0 g0 g1 g2 g3 g4 g5 B10
  have hm0 := hm0.span HSP (Nat.le_refl _)
  have ls9 := Nat.le_trans ls9 HSP.size
  have W130 := W130.span HSP (.inr (by omega))
  have HP03 := Lib.hid (show vo.heap.size ≤ P1 by rw [HP0.out]; omega)
  have hz := HSP.below (by rw [← HP0.out]; exact hk.size)
  rw [← HP0.out] at hz
  have hk := hk.trans hz
  obtain ⟨K, HK⟩ : ∃ K, Hid (k1 = K) := ⟨_, rfl⟩
  rw [HK.out]
  have hkk : decide ((K : Int) < 0) = false := by simp
  clear HSP hz HK hk1 hin0  HP0
  have W8a := W80.below hk W80.lt
  have g0 := W8a.cell (j := 0) rfl
  have g1 := W8a.cell (j := 1) rfl
  have g2 := W8a.cell (j := 2) rfl
  have g3 := W8a.cell (j := 3) rfl
  have g4 := W8a.cell (j := 4) rfl
  have g5 := W8a.cell (j := 5) rfl
  have i0 := W130.cell (j := 0) rfl
  have i1 := W130.cell (j := 1) rfl
  have i2 := W130.cell (j := 2) rfl
  have i3 := W130.cell (j := 3) rfl
  have i4 := W130.cell (j := 4) rfl
  have i5 := W130.cell (j := 5) rfl
  go_wp2_with fail
  clear g0 g1 g2 g3 g4 g5 i0 i1 i2 i3 i4 i5 W8a
  refine (eqProg_same ⟨f0d, (f0a1, f0n1, f0c1), (f0a2, f0n2, f0c2), f0t, (f0a3, f0n3, f0c3), (f0a4, f0n4, f0c4), f0rs⟩ ⟨e0d, (e0a1, e0n1, e0c1), (e0a2, e0n2, e0c2), e0t, (e0a3, e0n3, e0c3), (e0a4, e0n4, e0c4), e0rs⟩ _ _ hm0.reads (HM0.out.below hk)).mono ?_
  rintro e v10 ⟨rfl, hb⟩
  have hk := hk.trans (hb.mono hk.size)
  have ls9 := Nat.le_trans ls9 hb.size
  have hm0 := hm0.below hb
  have W130 := W130.below hb W130.lt
  clear hb
  have i0 := W130.cell (j := 0) rfl
  have i1 := W130.cell (j := 1) rfl
  have i2 := W130.cell (j := 2) rfl
  have i3 := W130.cell (j := 3) rfl
  have i4 := W130.cell (j := 4) rfl
  have i5 := W130.cell (j := 5) rfl
  go_wp2_with fail
  refine (markProg_held ⟨f0d, (f0a1, f0n1, f0c1), (f0a2, f0n2, f0c2), f0t, (f0a3, f0n3, f0c3), (f0a4, f0n4, f0c4), f0rs⟩ Q 1 _ P1 _ _ hm0 hgin0 (by omega)).mono ?_
  rintro e v11 ⟨rfl, hmm0, hs⟩
  have hz := (hs.below ls9).mono HP03.out
  have ls9 := Nat.le_trans ls9 hs.size
  have hk := hk.trans hz
  have W130 := W130.span hs (.inr lb0)
  obtain ⟨M, HM⟩ : ∃ M, Hid (endP ⟨f0d, (f0a1, f0n1, f0c1), (f0a2, f0n2, f0c2), f0t, (f0a3, f0n3, f0c3), (f0a4, f0n4, f0c4), f0rs⟩ 1 = M) := ⟨_, rfl⟩
  rw [HM.out]
  have hmm : decide ((M : Int) < 0) = false := by simp
  have hmn : ((M : Int) != (M : Int)) = false := by simp
  clear hm0 hs hz i0 i1 i2 i3 i4 i5
  have i0 := W130.cell (j := 0) rfl
  have i1 := W130.cell (j := 1) rfl
  have i2 := W130.cell (j := 2) rfl
  have i3 := W130.cell (j := 3) rfl
  have i4 := W130.cell (j := 4) rfl
  have i5 := W130.cell (j := 5) rfl
  go_wp2_with fail
  refine (heldProg_any ⟨f0d, (f0a1, f0n1, f0c1), (f0a2, f0n2, f0c2), f0t, (f0a3, f0n3, f0c3), (f0a4, f0n4, f0c4), f0rs⟩ 1 _ _ hmm0 (by omega)).mono ?_
  rintro e v12 ⟨rfl, hb⟩
  rw [HM.out]
  have hk := hk.trans (hb.mono hk.size)
  have hmm0 := hmm0.below hb
  have W130 := W130.below hb W130.lt
  clear hb
  clear i0 i1 i2 i3 i4 i5
  have Bn := B.below hk B.lt
  have t0 := Bn.cell (j := 0) rfl
  have t1 := Bn.cell (j := 1) rfl
  have t2 := Bn.cell (j := 2) rfl
  have t3 := Bn.cell (j := 3) rfl
  have t4 := Bn.cell (j := 4) rfl
  have t5 := Bn.cell (j := 5) rfl
  go_wp2_with fail
  refine (HT.out _ (hti.trans (hk.mono hti.size))).mono ?_
  rintro e v13 ⟨⟨sd, ⟨sa1, sn1, sc1⟩, ⟨sa2, sn2, sc2⟩, st, ⟨sa3, sn3, sc3⟩, ⟨sa4, sn4, sc4⟩, srs⟩, rfl, hs0, hb⟩
  simp only [progV, slV]
  clear t0 t1 t2 t3 t4 t5 Bn
  have hk := hk.trans (hb.mono hk.size)
  have hmm0 := hmm0.below hb
  have W130 := W130.below hb W130.lt
  clear hb
  go_wp2_with fail
  refine (implSliced_ans ⟨sd, (sa1, sn1, sc1), (sa2, sn2, sc2), st, (sa3, sn3, sc3), (sa4, sn4, sc4), srs⟩ p   _ hs0.reads hs0.cap ).mono ?_
  rintro e v14 ⟨hb, ⟨h0d, ⟨h0a1, h0n1, h0c1⟩, ⟨h0a2, h0n2, h0c2⟩, h0t, ⟨h0a3, h0n3, h0c3⟩, ⟨h0a4, h0n4, h0c4⟩, h0rs⟩, rfl, hg0⟩
  simp only [progV, slV]
  rw [HQ.out] at hg0
  have hk := hk.trans (hb.mono hk.size)
  have hmm0 := hmm0.below hb
  have W130 := W130.below hb W130.lt
  clear hb
  clear hs0
  obtain ⟨v15, HVT0⟩ : ∃ v15, Hid (v15 = v14.alloc (.cells #[.int .i64 h0d, .slice h0a1 h0n1 h0c1, .slice h0a2 h0n2 h0c2, .int .i64 h0t, .slice h0a3 h0n3 h0c3, .slice h0a4 h0n4 h0c4] 28)) := ⟨_, rfl⟩
  have W180 : Blk v15 v14.heap.size 28 [.int .i64 h0d, .slice h0a1 h0n1 h0c1, .slice h0a2 h0n2 h0c2, .int .i64 h0t, .slice h0a3 h0n3 h0c3, .slice h0a4 h0n4 h0c4] := by rw [HVT0.out]; exact Blk.new v14 _ _
  have hb : Below v14.heap.size v14 v15 := by rw [HVT0.out]; exact (Below.refl _ _).alloc (Nat.le_refl _) _
  have hk := hk.trans (hb.mono hk.size)
  have hmm0 := hmm0.below hb
  have W130 := W130.below hb W130.lt
  have hg0 := hg0.below hb
  clear hb
  obtain ⟨k180, HK180⟩ : ∃ k180, Hid (v14.heap.size = k180) := ⟨_, rfl⟩
  rw [HK180.out] at W180
  have W8a := W80.below hk W80.lt
  have g0 := W8a.cell (j := 0) rfl
  have g1 := W8a.cell (j := 1) rfl
  have g2 := W8a.cell (j := 2) rfl
  have g3 := W8a.cell (j := 3) rfl
  have g4 := W8a.cell (j := 4) rfl
  have g5 := W8a.cell (j := 5) rfl
  have i0 := W180.cell (j := 0) rfl
  have i1 := W180.cell (j := 1) rfl
  have i2 := W180.cell (j := 2) rfl
  have i3 := W180.cell (j := 3) rfl
  have i4 := W180.cell (j := 4) rfl
  have i5 := W180.cell (j := 5) rfl
  rw [HVT0.out] at g0 g1 g2 g3 g4 g5
  rw [HVT0.out, ← HK180.out] at i0 i1 i2 i3 i4 i5
  go_wp2_with fail
  rw [← HVT0.out, HK180.out]
  clear g0 g1 g2 g3 g4 g5 i0 i1 i2 i3 i4 i5 W8a
  refine (eqProg_same ⟨h0d, (h0a1, h0n1, h0c1), (h0a2, h0n2, h0c2), h0t, (h0a3, h0n3, h0c3), (h0a4, h0n4, h0c4), h0rs⟩ ⟨e0d, (e0a1, e0n1, e0c1), (e0a2, e0n2, e0c2), e0t, (e0a3, e0n3, e0c3), (e0a4, e0n4, e0c4), e0rs⟩ _ _ hg0.reads (HM0.out.below hk)).mono ?_
  rintro e v16 ⟨rfl, hb⟩
  have hk := hk.trans (hb.mono hk.size)
  have hmm0 := hmm0.below hb
  have W130 := W130.below hb W130.lt
  have hg0 := hg0.below hb
  have W180 := W180.below hb W180.lt
  clear hb
  have i0 := W130.cell (j := 0) rfl
  have i1 := W130.cell (j := 1) rfl
  have i2 := W130.cell (j := 2) rfl
  have i3 := W130.cell (j := 3) rfl
  have i4 := W130.cell (j := 4) rfl
  have i5 := W130.cell (j := 5) rfl
  go_wp2_with fail
  refine (heldProg_any ⟨f0d, (f0a1, f0n1, f0c1), (f0a2, f0n2, f0c2), f0t, (f0a3, f0n3, f0c3), (f0a4, f0n4, f0c4), f0rs⟩ 1 _ _ hmm0 (by omega)).mono ?_
  rintro e v17 ⟨rfl, hb⟩
  rw [HM.out]
  have hk := hk.trans (hb.mono hk.size)
  have hmm0 := hmm0.below hb
  have W130 := W130.below hb W130.lt
  clear hb
  clear i0 i1 i2 i3 i4 i5
  have HF := Lib.hid (HOLD.out.trans (hk.mono HOLD.out.size))
  clear hk
  go_wp2_with fail
  go_ret
  exact ⟨rfl, HF.out⟩

/-! ### THE ROW's STEP -/
set_option maxRecDepth 100000 in
set_option maxHeartbeats 3200000 in
theorem lifted (os : Os) (started : os.Started) (H : Type) (enc : TypeId × Value → H) :
    ReturnsInHanded {} Tryz.checked os 5 .any (Rows.fnExactSlicedSpec.pre6 enc Tryz.prog Tryz.f5 Rows.fnExactSlicedRow.domain false) (Rows.fnExactSlicedSpec.post enc Tryz.prog Tryz.f5 false true false false) := by
  refine returnsInHanded_of_change (C := Tryz.checked) own started (by kernel_rfl) Tryz.func5
    (ChangeSpec.witness6 (enc := enc) (C := Tryz.checked) false ⟨#[], #[.agg #[.int .i64 0, .slice none 0 0, .slice none 0 0, .int .i64 0, .slice none 0 0, .slice none 0 0]], []⟩ 8 (by kernel_rfl) (by kernel_rfl) (by kernel_rfl) (by kernel_rfl)) ?_
  intro W base args ds gs before hval0 hW hcnd _
  have hval : ∀ (j : Nat) t v, Tryz.f5.params[j]? = some t → args[j]? = some v → Value.okWide Tryz.prog W .any base t v := hval0
  have hW' := hW
  obtain ⟨p, q, hA0, hV, rfl, hfz, hnd⟩ := hW
  have hA : DataW.TrodAll enc Tryz.prog W 0 (fun _ => true) true Tryz.f5.params.toList args.toList ds p := hA0
  rw [Tryz.params5] at hA hval
  obtain ⟨v0, vs0, d0, ds0, p0, q0, hargs, rfl, rfl, h0, r0⟩ := trodAll_cons hA
  obtain ⟨rfl, rfl, rfl⟩ := trodAll_nil r0
  obtain rfl : args = #[v0] := by cases args; simp_all
  obtain ⟨rfl, rfl⟩ := trodVars_none hV
  have lt0 : ∀ x ∈ p0, x.block < W.heap.size := by obtain ⟨m, hm⟩ := h0; exact DataW.trod_lt m _ _ _ hm
  obtain ⟨R0, rfl, w0⟩ := argProg_of (hval 0 49 v0 rfl rfl) h0
  clear hA0 hval0
  refine (walk R0 W w0).mono fun e W' ⟨he, bel⟩ => ?_
  subst he
  exact ⟨_, rfl, _, _, _, [], _, [], hW', trodAll_mk1 (shut_bool Tryz.underlying4 _), (trodAll_cons_mk (Below.trod laidOut (by kernel_rfl) (of_decide_eq_true (by kernel_rfl)) h0 bel lt0) trodAll_mk0), rfl, bel.frame _, fun h => by cases h⟩

theorem over : Rows.fnExactSlicedRow.holds Tryz.pinned (OpenSpec.ofChange Rows.fnExactSlicedSpec) :=
  OpenClaim.holds_of_wide 5 Tryz.f5 rfl rfl rfl rfl rfl rfl rfl ⟨rfl, rfl, rfl, rfl, rfl⟩ rfl rfl rfl rfl rfl (by kernel_rfl) Tryz.func5 (by kernel_rfl)
    (of_decide_eq_true (by kernel_rfl)) (by unfold Func.isWrapper; first | (rw [if_pos (by decide +kernel)]; kernel_rfl) | (rw [if_neg (by decide +kernel)]; exact ⟨rfl, rfl⟩))
    (fun os started H enc _ => lifted os started H enc)

/-- ████ THE STATEMENT ████ -/
theorem proved : Rows.FnExactSlicedSaid := over
#print axioms proved
end Go.Proofs.YtbnpoliogldohaaGreat.fnExactSliced
