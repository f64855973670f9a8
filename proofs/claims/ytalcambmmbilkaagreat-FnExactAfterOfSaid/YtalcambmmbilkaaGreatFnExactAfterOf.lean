/- For every program and every two slices of numbers, the program's AfterOf answers as the model's in every field, writes into no argument, and its answer owns its memory. Conditions: none beyond the given row. (The frame round the walk is the guide's own shell, by program.) -/
import Derived.Test.YtalcambmmbilkaaGreatRows
import Derived.Test.YtalcambmmbilkaaGreatJ7
import Derived.Test.YtalcambmmbilkaaGreatJ4
import Derived.Test.YtalcambmmbilkaaGreatJ13
import Derived.Test.YtalcambmmbilkaaGreatJ21
import Derived.Test.YtalcambmmbilkaaGreatJ27
import Derived.WalkKit
import Derived.ProofKit
import Derived.OpenShut
import Derived.ShutString
import Derived.ChangeOld
import Derived.Below
import Derived.Carry
namespace Go.Proofs.YtalcambmmbilkaaGreat.fnExactAfterOf
open Go.ChangeShapes Go.WideShapes Go.ChangeAt Go.RowKit
set_option linter.unusedVariables false

theorem own : ownKnob Tryz.prog.godebug = none := by kernel_rfl
theorem laidOut : laidOutB Tryz.prog = true := by kernel_rfl

/-! ### STEP 1: THE WALK -/
set_option maxRecDepth 20000 in
set_option maxHeartbeats 6400000 in
theorem walk (r0 : PRow) (a1 : Option Addr) (len1 cap1 : Nat) (a2 : Option Addr) (len2 cap2 : Nat) (w : World) (w0 : ArgProg w r0) (w1 : ArgInts w a1 len1) (w2 : ArgInts w a2 len2) :
    Calls Tryz.prog 5 #[progV r0, .slice a1 len1 cap1, .slice a2 len2 cap2] w fun e w' => e = .returned (.bool true) ∧ Below w.heap.size w w' := by
  have HA0 := Lib.hid w0
  have HA1 := Lib.hid w1
  have HA2 := Lib.hid w2
  have hm1 := w1.1
  have hm2 := w2.1
  unfold maxLen at hm1 hm2
  clear w0 w1 w2
  obtain ⟨wd, ⟨pa1, pn1, pc1⟩, ⟨pa2, pn2, pc2⟩, tp, ⟨pa3, pn3, pc3⟩, ⟨pa4, pn4, pc4⟩, rows0⟩ := r0
  show Calls Tryz.prog 5 #[.agg #[.int .i64 wd, .slice pa1 pn1 pc1, .slice pa2 pn2 pc2, .int .i64 tp, .slice pa3 pn3 pc3, .slice pa4 pn4 pc4], .slice a1 len1 cap1, .slice a2 len2 cap2] w _
  have HS : Hid (∀ w', Below w.heap.size w w' → Calls Tryz.prog 16 #[.agg #[.int .i64 wd, .slice pa1 pn1 pc1, .slice pa2 pn2 pc2, .int .i64 tp, .slice pa3 pn3 pc3, .slice pa4 pn4 pc4], .int .i64 ((1048576 : Nat) : Int)] w' (SzProg w' 1048576 ⟨wd, (pa1, pn1, pc1), (pa2, pn2, pc2), tp, (pa3, pn3, pc3), (pa4, pn4, pc4), rows0⟩)) := Lib.hid (fun w' hb => szProg_any _ _ _ (HA0.out.below hb) (Nat.le_refl _))
  clear HA0
  by_cases hl1 : len1 ≤ 1048576
  case neg =>
    go_enter Tryz.func5, Tryz.ntmps5
    go_wp2
    go_ret
    exact ⟨rfl, (Below.refl _ _).alloc (Nat.le_refl _) _⟩
  by_cases hl2 : len2 ≤ 1048576
  case neg =>
    go_enter Tryz.func5, Tryz.ntmps5
    go_wp2
    go_ret
    exact ⟨rfl, (Below.refl _ _).alloc (Nat.le_refl _) _⟩
  obtain ⟨zs1, hz1⟩ := HA1.out.2 hl1
  obtain ⟨zs2, hz2⟩ := HA2.out.2 hl2
  have HZ1 := Lib.hid hz1
  have HZ2 := Lib.hid hz2
  clear HA1 HA2 hz1 hz2 hm1 hm2
  obtain ⟨wa, HW⟩ : ∃ wa, Hid (wa = w.alloc (.cells #[.int .i64 wd, .slice pa1 pn1 pc1, .slice pa2 pn2 pc2, .int .i64 tp, .slice pa3 pn3 pc3, .slice pa4 pn4 pc4] 49)) := ⟨_, rfl⟩
  have B : Blk wa w.heap.size 49 [.int .i64 wd, .slice pa1 pn1 pc1, .slice pa2 pn2 pc2, .int .i64 tp, .slice pa3 pn3 pc3, .slice pa4 pn4 pc4] := by rw [HW.out]; exact Blk.new w _ _
  have HB : Below w.heap.size w wa := by rw [HW.out]; exact (Below.refl _ _).alloc (Nat.le_refl _) _
  go_enter Tryz.func5, Tryz.ntmps5
  go_wp2_with fail
  rw [← HW.out]
  refine (HS.out _ HB).mono ?_
  rintro e w1 ⟨hb1, he⟩
  rcases he with rfl | ⟨v, hv, rfl, rows, p, hp⟩
  · have HB := HB.trans (hb1.mono HB.size)
    go_wp2_with fail
    go_ret
    exact ⟨rfl, HB⟩
  have hvv : decide ((v : Int) < 0) = false := by simp
  have HP := Lib.hid (hp.below hb1)
  have B := B.below hb1 B.lt
  have HB := HB.trans (hb1.mono HB.size)
  clear hp hb1 HW HS
  obtain ⟨wi, HWI⟩ : ∃ wi, Hid (w1 = wi) := ⟨_, rfl⟩
  rw [HWI.out] at HP B HB ⊢
  clear HWI w1
  have HT : Hid (∀ w', Below wi.heap.size wi w' → Calls Tryz.prog 17 #[.agg #[.int .i64 wd, .slice pa1 pn1 pc1, .slice pa2 pn2 pc2, .int .i64 tp, .slice pa3 pn3 pc3, .slice pa4 pn4 pc4]] w' (MadeProg w' p)) := Lib.hid (fun w' hb => toProg_any ⟨wd, (pa1, pn1, pc1), (pa2, pn2, pc2), tp, (pa3, pn3, pc3), (pa4, pn4, pc4), rows⟩ p w' (HP.out.below hb))
  have HU1 : Hid (∀ w', Below wi.heap.size wi w' → Calls Tryz.prog 18 #[.slice a1 len1 cap1] w' (MadeInts w' zs1)) := Lib.hid (fun w' hb => toInt64S_any _ _ _ _ _ ((HZ1.out.below HB).below hb))
  have HU2 : Hid (∀ w', Below wi.heap.size wi w' → Calls Tryz.prog 18 #[.slice a2 len2 cap2] w' (MadeInts w' zs2)) := Lib.hid (fun w' hb => toInt64S_any _ _ _ _ _ ((HZ2.out.below HB).below hb))
  clear HZ1 HZ2 HP
  obtain ⟨Z, HZ⟩ : ∃ Z, Hid (startB p zs1 zs2 = Z) := ⟨_, rfl⟩
  obtain ⟨Q, HQ⟩ : ∃ Q, Hid (afterR p zs1 zs2 = Q) := ⟨_, Lib.hid rfl⟩
  have hsz : sizeQ Q ≤ 3000 := by rw [← HQ.out]; exact afterR_size p zs1 zs2
  have HSZ := Lib.hid hsz
  have hne : (Z != Z) = false := by simp
  clear hsz
  have t0 := B.cell (j := 0) rfl
  have t1 := B.cell (j := 1) rfl
  have t2 := B.cell (j := 2) rfl
  have t3 := B.cell (j := 3) rfl
  have t4 := B.cell (j := 4) rfl
  have t5 := B.cell (j := 5) rfl
  go_wp2_with fail
  refine (HT.out _ (Below.refl _ _)).mono ?_
  rintro e v1 ⟨⟨sd, ⟨sa1, sn1, sc1⟩, ⟨sa2, sn2, sc2⟩, st, ⟨sa3, sn3, sc3⟩, ⟨sa4, sn4, sc4⟩, srs⟩, rfl, ho1, hb1⟩
  simp only [progV, slV]
  have ht1 := hb1
  clear t0 t1 t2 t3 t4 t5
  go_wp2_with fail
  refine (HU1.out _ ht1).mono ?_
  rintro e v2 ⟨ua, un, uc, rfl, ho2, hb2⟩
  have ht2 := ht1.trans (hb2.mono ht1.size)
  have ho1 := ho1.below hb2
  clear hb2 hb1 ht1
  go_wp2_with fail
  refine (HU2.out _ ht2).mono ?_
  rintro e v3 ⟨wa2, wn2, wc2, rfl, ho3, hb3⟩
  have ht3 := ht2.trans (hb3.mono ht2.size)
  have ho1 := ho1.below hb3
  have ho2 := ho2.below hb3
  clear hb3 ht2
  go_wp2_with fail
  refine (specAfterOf_ans ⟨sd, (sa1, sn1, sc1), (sa2, sn2, sc2), st, (sa3, sn3, sc3), (sa4, sn4, sc4), srs⟩ p _ _ _ _ _ _ zs1 zs2 _ ho1.reads ho2.ints ho3.ints).mono ?_
  rintro e v4 ⟨hb4, ⟨⟨ea, en, ec⟩, ⟨ea2, en2, ec2⟩, ers⟩, rfl, hm0⟩
  simp only [envV, slV]
  rw [HZ.out]
  rw [HQ.out] at hm0
  have ht4 := ht3.trans (hb4.mono ht3.size)
  clear ho1 ho2 ho3 hb4 ht3
  obtain ⟨vo, HVO⟩ : ∃ vo, Hid (vo = v4.alloc (.cells #[.slice ea en ec, .slice ea2 en2 ec2] 42)) := ⟨_, rfl⟩
  have W8 : Blk vo v4.heap.size 42 [.slice ea en ec, .slice ea2 en2 ec2] := by rw [HVO.out]; exact Blk.new v4 _ _
  have hbo : Below v4.heap.size v4 vo := by rw [HVO.out]; exact (Below.refl _ _).alloc (Nat.le_refl _) _
  have hto := ht4.trans (hbo.mono ht4.size)
  have B := B.below hto B.lt
  have HM0 := Lib.hid ((hm0.below hbo).env)
  obtain ⟨k8, HK8⟩ : ∃ k8, Hid (v4.heap.size = k8) := ⟨_, rfl⟩
  rw [HK8.out] at W8
  clear hbo ht4 hm0
  have t0 := B.cell (j := 0) rfl
  have t1 := B.cell (j := 1) rfl
  have t2 := B.cell (j := 2) rfl
  have t3 := B.cell (j := 3) rfl
  have t4 := B.cell (j := 4) rfl
  have t5 := B.cell (j := 5) rfl
  rw [HVO.out] at t0 t1 t2 t3 t4 t5
  go_wp2_with fail
  rw [← HVO.out, HK8.out]
  clear t0 t1 t2 t3 t4 t5 HVO HK8
  have HOLD := Lib.hid (HB.trans (hto.mono HB.size))
  refine (HT.out _ hto).mono ?_
  rintro e v5 ⟨⟨qd, ⟨qa1, qn1, qc1⟩, ⟨qa2, qn2, qc2⟩, qt, ⟨qa3, qn3, qc3⟩, ⟨qa4, qn4, qc4⟩, qrs⟩, rfl, hx0, hb5⟩
  simp only [progV, slV]
  have hin0 := hx0.inside
  have l5 := hb5.size
  have hk5 := hb5
  obtain ⟨v6, HV6⟩ : ∃ v6, Hid (v6 = v5.alloc (.cells #[.int .i64 qd, .slice qa1 qn1 qc1, .slice qa2 qn2 qc2, .int .i64 qt, .slice qa3 qn3 qc3, .slice qa4 qn4 qc4] 28)) := ⟨_, rfl⟩
  have B10 : Blk v6 v5.heap.size 28 [.int .i64 qd, .slice qa1 qn1 qc1, .slice qa2 qn2 qc2, .int .i64 qt, .slice qa3 qn3 qc3, .slice qa4 qn4 qc4] := by rw [HV6.out]; exact Blk.new v5 _ _
  have hb6 : Below v5.heap.size v5 v6 := by rw [HV6.out]; exact (Below.refl _ _).alloc (Nat.le_refl _) _
  have hx0 := hx0.below hb6
  have hk6 := hk5.trans (hb6.mono l5)
  obtain ⟨k10, HK10⟩ : ∃ k10, Hid (v5.heap.size = k10) := ⟨_, rfl⟩
  rw [HK10.out] at B10
  have l6 : v5.heap.size ≤ v6.heap.size := hb6.size
  clear hb5 hb6 hk5
  go_wp2_with fail
  rw [← HV6.out, HK10.out]
  refine (HU1.out _ (hto.trans (hk6.mono hto.size))).mono ?_
  rintro e v7 ⟨xa, xn, xc, rfl, hx1, hb7⟩
  have hin1 : SlIn v6.heap.size v7.heap.size (xa, xn, xc) := fun g hg => hx1.block g hg
  have l7 := hb7.size
  have hx0 := hx0.below hb7
  have B10 := B10.below hb7 B10.lt
  have hk7 := hk6.trans (hb7.mono hk6.size)
  clear hb7 hk6
  go_wp2_with fail
  refine (HU2.out _ (hto.trans (hk7.mono hto.size))).mono ?_
  rintro e v8 ⟨ya, yn, yc, rfl, hx2, hb8⟩
  have hin2 : SlIn v7.heap.size v8.heap.size (ya, yn, yc) := fun g hg => hx2.block g hg
  have l8 := hb8.size
  have B10 := B10.below hb8 B10.lt
  have hk8 := hk7.trans (hb8.mono hk7.size)
  have XX : XG v8 vo.heap.size v6.heap.size v7.heap.size ⟨qd, (qa1, qn1, qc1), (qa2, qn2, qc2), qt, (qa3, qn3, qc3), (qa4, qn4, qc4), qrs⟩ p (xa, xn, xc) (ya, yn, yc) zs1 zs2 := ⟨hx0.below hb8, hx1.below hb8, hx2⟩
  have XI : XIn vo.heap.size v6.heap.size v7.heap.size v8.heap.size ⟨qd, (qa1, qn1, qc1), (qa2, qn2, qc2), qt, (qa3, qn3, qc3), (qa4, qn4, qc4), qrs⟩ (xa, xn, xc) (ya, yn, yc) := ⟨hin0.wide (Nat.le_refl _) l6, hin1, hin2, by omega, l7, l8⟩
  have hxn : xn ≤ 1048576 := hx1.2.1
  have hyn : yn ≤ 1048576 := hx2.2.1
  clear hb8 hk7 hx0 hx1 hx2 hin0 hin1 hin2 l5 l6 HV6 HK10
  obtain ⟨P0, HP0⟩ : ∃ P0, Hid (vo.heap.size = P0) := ⟨_, rfl⟩
  obtain ⟨P1, HP1⟩ : ∃ P1, Hid (v6.heap.size = P1) := ⟨_, rfl⟩
  obtain ⟨P2, HP2⟩ : ∃ P2, Hid (v7.heap.size = P2) := ⟨_, rfl⟩
  obtain ⟨P3, HP3⟩ : ∃ P3, Hid (v8.heap.size = P3) := ⟨_, rfl⟩
  rw [HP0.out, HP1.out, HP2.out] at XX
  rw [HP0.out, HP1.out, HP2.out, HP3.out] at XI
  clear l7 l8
  have g0 := B10.cell (j := 0) rfl
  have g1 := B10.cell (j := 1) rfl
  have g2 := B10.cell (j := 2) rfl
  have g3 := B10.cell (j := 3) rfl
  have g4 := B10.cell (j := 4) rfl
  have g5 := B10.cell (j := 5) rfl
  go_wp2_with fail
  refine (implAfterOf_ans ⟨qd, (qa1, qn1, qc1), (qa2, qn2, qc2), qt, (qa3, qn3, qc3), (qa4, qn4, qc4), qrs⟩ p _ _ _ _ _ _ zs1 zs2 _ XX.x0.reads XX.x0.cap XX.x1.ints XX.x2.ints).mono ?_
  rintro e v9 ⟨hb9, ⟨⟨fa, fn, fc⟩, ⟨fa2, fn2, fc2⟩, frs⟩, rfl, hm1⟩
  simp only [envV, slV]
  rw [HZ.out]
  rw [HQ.out] at hm1
  have hin := hm1.inside
  rw [HP3.out] at hm1 hin
  have XX := XX.below hb9
  have B10 := B10.below hb9 B10.lt
  have hk9 := hk8.trans (hb9.mono hk8.size)
  have l9 : P3 ≤ v9.heap.size := by have := hb9.size; rw [HP3.out] at this; exact this
  clear hb9 hk8 g0 g1 g2 g3 g4 g5
  obtain ⟨va, HVA⟩ : ∃ va, Hid (va = v9.alloc (.cells #[.slice fa fn fc, .slice fa2 fn2 fc2] 42)) := ⟨_, rfl⟩
  have W13 : Blk va v9.heap.size 42 [.slice fa fn fc, .slice fa2 fn2 fc2] := by rw [HVA.out]; exact Blk.new v9 _ _
  have hba : Below v9.heap.size v9 va := by rw [HVA.out]; exact (Below.refl _ _).alloc (Nat.le_refl _) _
  have hm1 := hm1.below hba
  have XX := XX.below hba
  have B10 := B10.below hba B10.lt
  have hka := hk9.trans (hba.mono hk9.size)
  obtain ⟨k13, HK13⟩ : ∃ k13, Hid (v9.heap.size = k13) := ⟨_, rfl⟩
  rw [HK13.out] at W13 hin l9
  clear hba hk9
  have W8a := W8.below hka W8.lt
  have g0 := W8a.cell (j := 0) rfl
  have g1 := W8a.cell (j := 1) rfl
  have i0 := W13.cell (j := 0) rfl
  have i1 := W13.cell (j := 1) rfl
  rw [HVA.out] at g0 g1
  rw [HVA.out, ← HK13.out] at i0 i1
  go_wp2_with fail
  rw [← HVA.out, HK13.out]
  clear g0 g1 i0 i1 HVA
  refine (eqEnv_same ⟨(fa, fn, fc), (fa2, fn2, fc2), frs⟩ ⟨(ea, en, ec), (ea2, en2, ec2), ers⟩ _ _ hm1.env (HM0.out.below hka)).mono ?_
  rintro e vb ⟨rfl, hbb⟩
  have hm1 := hm1.below hbb
  have XX := XX.below hbb
  have B10 := B10.below hbb B10.lt
  have W13 := W13.below hbb W13.lt
  have hkb := hka.trans (hbb.mono hka.size)
  have Bb := B.below hkb B.lt
  clear hbb hka W8a
  have g0 := Bb.cell (j := 0) rfl
  have g1 := Bb.cell (j := 1) rfl
  have g2 := Bb.cell (j := 2) rfl
  have g3 := Bb.cell (j := 3) rfl
  have g4 := Bb.cell (j := 4) rfl
  have g5 := Bb.cell (j := 5) rfl
  have i0 := B10.cell (j := 0) rfl
  have i1 := B10.cell (j := 1) rfl
  have i2 := B10.cell (j := 2) rfl
  have i3 := B10.cell (j := 3) rfl
  have i4 := B10.cell (j := 4) rfl
  have i5 := B10.cell (j := 5) rfl
  go_wp2_with fail
  have hd : Below vb.heap.size vb vb.drew := ⟨rfl, rfl, rfl, Nat.le_refl _, fun _ _ => rfl⟩
  have HTD := Lib.hid (HT.out _ (hto.trans ((hkb.trans (hd.mono hkb.size)).mono hto.size)))
  have HEQ : Hid (∀ w' r', Below vb.heap.size vb w' → ProgAt w' r' p → Calls Tryz.prog 20 #[.agg #[.int .i64 qd, .slice qa1 qn1 qc1, .slice qa2 qn2 qc2, .int .i64 qt, .slice qa3 qn3 qc3, .slice qa4 qn4 qc4], progV r'] w' fun e w'' => e = .returned (.bool true) ∧ Below w'.heap.size w' w'') := Lib.hid (fun w' r' hb hr => (eqProg_any ⟨qd, (qa1, qn1, qc1), (qa2, qn2, qc2), qt, (qa3, qn3, qc3), (qa4, qn4, qc4), qrs⟩ r' p p w' (XX.x0.below hb).reads hr).mono fun e w'' h => by rw [decide_eq_true rfl] at h; exact h)
  have HX := Lib.hid B10
  have HBB := Lib.hid Bb
  go_region_held3 (fun w' => w'.cell? ⟨w.heap.size, 0, none⟩ = some (.int .i64 wd) ∧ w'.cell? ⟨w.heap.size, 1, none⟩ = some (.slice pa1 pn1 pc1) ∧ w'.cell? ⟨w.heap.size, 2, none⟩ = some (.slice pa2 pn2 pc2) ∧ w'.cell? ⟨w.heap.size, 3, none⟩ = some (.int .i64 tp) ∧ w'.cell? ⟨w.heap.size, 4, none⟩ = some (.slice pa3 pn3 pc3) ∧ w'.cell? ⟨w.heap.size, 5, none⟩ = some (.slice pa4 pn4 pc4) ∧ w'.cell? ⟨k10, 0, none⟩ = some (.int .i64 qd) ∧ w'.cell? ⟨k10, 1, none⟩ = some (.slice qa1 qn1 qc1) ∧ w'.cell? ⟨k10, 2, none⟩ = some (.slice qa2 qn2 qc2) ∧ w'.cell? ⟨k10, 3, none⟩ = some (.int .i64 qt) ∧ w'.cell? ⟨k10, 4, none⟩ = some (.slice qa3 qn3 qc3) ∧ w'.cell? ⟨k10, 5, none⟩ = some (.slice qa4 qn4 qc4)) (first | (refine ⟨?_, ?_, ?_, ?_, ?_, ?_, ?_, ?_, ?_, ?_, ?_, ?_⟩ <;> assumption) | go_keep | (refine ⟨?_, ?_, ?_, ?_, ?_, ?_, ?_, ?_, ?_, ?_, ?_, ?_⟩ <;> go_keep)) (first
    | (go_at_call 17; refine HTD.out.mono ?_; rintro e vc ⟨⟨sd, ⟨sa1, sn1, sc1⟩, ⟨sa2, sn2, sc2⟩, st, ⟨sa3, sn3, sc3⟩, ⟨sa4, sn4, sc4⟩, srs⟩, rfl, hos, hbs⟩; have hb9 := hd.trans (hbs.mono hd.size); have Y := HX.out.below hb9 HX.out.lt; have m0 := Y.cell (j := 0) rfl; have m1 := Y.cell (j := 1) rfl; have m2 := Y.cell (j := 2) rfl; have m3 := Y.cell (j := 3) rfl; have m4 := Y.cell (j := 4) rfl; have m5 := Y.cell (j := 5) rfl; have Y := HBB.out.below hb9 HBB.out.lt; have o0 := Y.cell (j := 0) rfl; have o1 := Y.cell (j := 1) rfl; have o2 := Y.cell (j := 2) rfl; have o3 := Y.cell (j := 3) rfl; have o4 := Y.cell (j := 4) rfl; have o5 := Y.cell (j := 5) rfl; have HE := Lib.hid (HEQ.out _ _ hb9 hos.reads); have HB9 := Lib.hid hb9; clear hos hbs hb9 Y)
    | (go_at_call 20; refine HE.out.mono ?_; rintro e vd ⟨rfl, hba⟩; have HB10 := Lib.hid (HB9.out.trans (hba.mono HB9.out.size)); have Y := HX.out.below HB10.out HX.out.lt; have b0 := Y.cell (j := 0) rfl; have b1 := Y.cell (j := 1) rfl; have b2 := Y.cell (j := 2) rfl; have b3 := Y.cell (j := 3) rfl; have b4 := Y.cell (j := 4) rfl; have b5 := Y.cell (j := 5) rfl; have Y := HBB.out.below HB10.out HBB.out.lt; have f0 := Y.cell (j := 0) rfl; have f1 := Y.cell (j := 1) rfl; have f2 := Y.cell (j := 2) rfl; have f3 := Y.cell (j := 3) rfl; have f4 := Y.cell (j := 4) rfl; have f5 := Y.cell (j := 5) rfl; clear hba Y))
  have hm1 := hm1.below HB10.out
  have XX := XX.below HB10.out
  have B10 := B10.below HB10.out B10.lt
  have W13 := W13.below HB10.out W13.lt
  have hkd := hkb.trans (HB10.out.mono hkb.size)
  clear m0 m1 m2 m3 m4 m5 o0 o1 o2 o3 o4 o5 b0 b1 b2 b3 b4 b5 f0 f1 f2 f3 f4 f5 g0 g1 g2 g3 g4 g5 i0 i1 i2 i3 i4 i5 HX HBB HEQ HTD hd HE HB9 HB10 Bb hkb
  go_wp2_with fail
  refine (HU1.out _ (hto.trans (hkd.mono hto.size))).mono ?_
  rintro e ve ⟨ua, un, uc, rfl, hou, hbu⟩
  have hm1 := hm1.below hbu
  have XX := XX.below hbu
  have B10 := B10.below hbu B10.lt
  have W13 := W13.below hbu W13.lt
  have hke := hkd.trans (hbu.mono hkd.size)
  clear hbu hkd
  go_wp2_with fail
  refine (eqInt64S_same _ _ _ _ _ _ zs1 _ XX.x1.ints hou.ints).mono ?_
  rintro e vf ⟨rfl, hbu⟩
  have hm1 := hm1.below hbu
  have XX := XX.below hbu
  have B10 := B10.below hbu B10.lt
  have W13 := W13.below hbu W13.lt
  have hkf := hke.trans (hbu.mono hke.size)
  clear hbu hke hou
  go_wp2_with fail
  refine (HU2.out _ (hto.trans (hkf.mono hto.size))).mono ?_
  rintro e vg ⟨ta, tn, tc, rfl, hou, hbu⟩
  have hm1 := hm1.below hbu
  have XX := XX.below hbu
  have B10 := B10.below hbu B10.lt
  have W13 := W13.below hbu W13.lt
  have hkg := hkf.trans (hbu.mono hkf.size)
  clear hbu hkf
  go_wp2_with fail
  refine (eqInt64S_same _ _ _ _ _ _ zs2 _ XX.x2.ints hou.ints).mono ?_
  rintro e vh ⟨rfl, hbu⟩
  have hm1 := hm1.below hbu
  have XX := XX.below hbu
  have B10 := B10.below hbu B10.lt
  have W13 := W13.below hbu W13.lt
  have hkh := hkg.trans (hbu.mono hkg.size)
  clear hbu hkg hou
  have g0 := B10.cell (j := 0) rfl
  have g1 := B10.cell (j := 1) rfl
  have g2 := B10.cell (j := 2) rfl
  have g3 := B10.cell (j := 3) rfl
  have g4 := B10.cell (j := 4) rfl
  have g5 := B10.cell (j := 5) rfl
  go_wp2_with fail
  refine (markProg_any ⟨qd, (qa1, qn1, qc1), (qa2, qn2, qc2), qt, (qa3, qn3, qc3), (qa4, qn4, qc4), qrs⟩ p 1 _ P0 P0 P1 XX.x0 XI.x0 (by omega)).mono ?_
  rintro e vi ⟨k1, rfl, hk1, hs1⟩
  have y1 := XX.x1.span hs1 (Nat.le_refl _)
  have y2 := XX.x2.span hs1 XI.l2
  clear g0 g1 g2 g3 g4 g5 B10
  go_wp2_with fail
  refine (markInt64S_w _ _ _ zs1 k1 _ P1 y1 (by omega)).mono ?_
  rintro e vj ⟨rfl, _, hg1⟩
  have hs2 : Span P1 P2 vi vj := Span.of_grown hg1 (fun g e => XI.x1 g e)
  have y2 := y2.span hs2 (Nat.le_refl _)
  go_wp2_with fail
  refine (markInt64S_w _ _ _ zs2 (k1 + xn) _ P2 y2 (by omega)).mono ?_
  rintro e vk ⟨rfl, _, hg2⟩
  have hs3 : Span P2 P3 vj vk := Span.of_grown hg2 (fun g e => XI.x2 g e)
  have HSP : Span P0 P3 vh vk := ((hs1.wide (Nat.le_refl _) (by have := XI.l2; have := XI.l3; omega)).trans (hs2.wide XI.l1 XI.l3)).trans (hs3.wide (by have := XI.l1; have := XI.l2; omega) (Nat.le_refl _))
  have hm1 := hm1.span HSP (Nat.le_refl _)
  have W13 := W13.span HSP (.inr l9)
  have hko : Below vo.heap.size vo vk := by
    have hz := HSP.below (by rw [← HP0.out]; exact hkh.size)
    rw [← HP0.out] at hz
    exact hkh.trans hz
  obtain ⟨K, HK⟩ : ∃ K, Hid (k1 + xn + yn = K) := ⟨_, rfl⟩
  rw [HK.out]
  have hkk : decide ((K : Int) < 0) = false := by simp
  have HP03 := Lib.hid (show vo.heap.size ≤ P3 by rw [HP0.out]; have := XI.l1; have := XI.l2; have := XI.l3; omega)
  clear HSP hs1 hs2 hs3 hg1 hg2 y1 y2 XX hkh HK hk1 XI hxn hyn HP1 HP2 HP0
  have W8a := W8.below hko W8.lt
  have g0 := W8a.cell (j := 0) rfl
  have g1 := W8a.cell (j := 1) rfl
  have i0 := W13.cell (j := 0) rfl
  have i1 := W13.cell (j := 1) rfl
  go_wp2_with fail
  refine (eqEnv_same ⟨(fa, fn, fc), (fa2, fn2, fc2), frs⟩ ⟨(ea, en, ec), (ea2, en2, ec2), ers⟩ _ _ hm1.env (HM0.out.below hko)).mono ?_
  rintro e vl ⟨rfl, hbu⟩
  have hm1 := hm1.below hbu
  have W13 := W13.below hbu W13.lt
  have hkl := hko.trans (hbu.mono hko.size)
  clear hbu hko W8a g0 g1 i0 i1
  have i0 := W13.cell (j := 0) rfl
  have i1 := W13.cell (j := 1) rfl
  go_wp2_with fail
  refine (markEnv_any ⟨(fa, fn, fc), (fa2, fn2, fc2), frs⟩ Q 1 _ P3 hm1 (by omega) HSZ.out hin).mono ?_
  rintro e vm ⟨rfl, hm2, hs4⟩
  have hkm : Below vo.heap.size vo vm := hkl.trans ((hs4.below (by have := W13.lt; omega)).mono HP03.out)
  have W13 := W13.span hs4 (.inr (Nat.le_refl _))
  obtain ⟨M, HM⟩ : ∃ M, Hid (1 + sizeQ Q = M) := ⟨_, rfl⟩
  rw [HM.out]
  have hmm : decide ((M : Int) < 0) = false := by simp
  have hmn : ((M : Int) != (M : Int)) = false := by simp
  clear hm1 hs4 hkl i0 i1
  have i0 := W13.cell (j := 0) rfl
  have i1 := W13.cell (j := 1) rfl
  go_wp2_with fail
  refine (heldEnv_any ⟨(fa, fn, fc), (fa2, fn2, fc2), frs⟩ Q 1 _ hm2.env (by omega) HSZ.out).mono ?_
  rintro e vn ⟨rfl, hbu⟩
  rw [HM.out]
  have hm2 := hm2.below hbu
  have W13 := W13.below hbu W13.lt
  have hkn := hkm.trans (hbu.mono hkm.size)
  have Bn := B.below hkn B.lt
  clear hbu hkm i0 i1
  have t0 := Bn.cell (j := 0) rfl
  have t1 := Bn.cell (j := 1) rfl
  have t2 := Bn.cell (j := 2) rfl
  have t3 := Bn.cell (j := 3) rfl
  have t4 := Bn.cell (j := 4) rfl
  have t5 := Bn.cell (j := 5) rfl
  go_wp2_with fail
  refine (HT.out _ (hto.trans (hkn.mono hto.size))).mono ?_
  rintro e vp ⟨⟨sd, ⟨sa1, sn1, sc1⟩, ⟨sa2, sn2, sc2⟩, st, ⟨sa3, sn3, sc3⟩, ⟨sa4, sn4, sc4⟩, srs⟩, rfl, ho1, hbu⟩
  simp only [progV, slV]
  have hm2 := hm2.below hbu
  have W13 := W13.below hbu W13.lt
  have hkp := hkn.trans (hbu.mono hkn.size)
  clear t0 t1 t2 t3 t4 t5 hbu hkn Bn
  go_wp2_with fail
  refine (HU1.out _ (hto.trans (hkp.mono hto.size))).mono ?_
  rintro e vq ⟨ua, un, uc, rfl, ho2, hbu⟩
  have ho1 := ho1.below hbu
  have hm2 := hm2.below hbu
  have W13 := W13.below hbu W13.lt
  have hkq := hkp.trans (hbu.mono hkp.size)
  clear hbu hkp
  go_wp2_with fail
  refine (HU2.out _ (hto.trans (hkq.mono hto.size))).mono ?_
  rintro e vr ⟨wa2, wn2, wc2, rfl, ho3, hbu⟩
  have ho1 := ho1.below hbu
  have ho2 := ho2.below hbu
  have hm2 := hm2.below hbu
  have W13 := W13.below hbu W13.lt
  have hkr := hkq.trans (hbu.mono hkq.size)
  clear hbu hkq
  go_wp2_with fail
  refine (implAfterOf_ans ⟨sd, (sa1, sn1, sc1), (sa2, sn2, sc2), st, (sa3, sn3, sc3), (sa4, sn4, sc4), srs⟩ p _ _ _ _ _ _ zs1 zs2 _ ho1.reads ho1.cap ho2.ints ho3.ints).mono ?_
  rintro e vs ⟨hbu, ⟨⟨ga, gn, gc⟩, ⟨ga2, gn2, gc2⟩, grs⟩, rfl, hm3⟩
  simp only [envV, slV]
  rw [HZ.out]
  rw [HQ.out] at hm3
  have hm2 := hm2.below hbu
  have W13 := W13.below hbu W13.lt
  have hks := hkr.trans (hbu.mono hkr.size)
  clear ho1 ho2 ho3 hbu hkr
  obtain ⟨vt, HVT⟩ : ∃ vt, Hid (vt = vs.alloc (.cells #[.slice ga gn gc, .slice ga2 gn2 gc2] 42)) := ⟨_, rfl⟩
  have W18 : Blk vt vs.heap.size 42 [.slice ga gn gc, .slice ga2 gn2 gc2] := by rw [HVT.out]; exact Blk.new vs _ _
  have hba : Below vs.heap.size vs vt := by rw [HVT.out]; exact (Below.refl _ _).alloc (Nat.le_refl _) _
  have hm2 := hm2.below hba
  have hm3 := hm3.below hba
  have W13 := W13.below hba W13.lt
  have hkt := hks.trans (hba.mono hks.size)
  have W8a := W8.below hkt W8.lt
  obtain ⟨k18, HK18⟩ : ∃ k18, Hid (vs.heap.size = k18) := ⟨_, rfl⟩
  rw [HK18.out] at W18
  clear hba hks
  have g0 := W8a.cell (j := 0) rfl
  have g1 := W8a.cell (j := 1) rfl
  have i0 := W18.cell (j := 0) rfl
  have i1 := W18.cell (j := 1) rfl
  rw [HVT.out] at g0 g1
  rw [HVT.out, ← HK18.out] at i0 i1
  go_wp2_with fail
  rw [← HVT.out, HK18.out]
  clear g0 g1 i0 i1 HVT
  refine (eqEnv_same ⟨(ga, gn, gc), (ga2, gn2, gc2), grs⟩ ⟨(ea, en, ec), (ea2, en2, ec2), ers⟩ _ _ hm3.env (HM0.out.below hkt)).mono ?_
  rintro e vu ⟨rfl, hbu⟩
  have hm2 := hm2.below hbu
  have W13 := W13.below hbu W13.lt
  have hku := hkt.trans (hbu.mono hkt.size)
  clear hbu hkt hm3 W8a W18
  have i0 := W13.cell (j := 0) rfl
  have i1 := W13.cell (j := 1) rfl
  go_wp2_with fail
  refine (heldEnv_any ⟨(fa, fn, fc), (fa2, fn2, fc2), frs⟩ Q 1 _ hm2.env (by omega) HSZ.out).mono ?_
  rintro e vx ⟨rfl, hbu⟩
  rw [HM.out]
  have hkx := hku.trans (hbu.mono hku.size)
  clear hbu hku hm2 i0 i1 W13
  have HF := Lib.hid (HOLD.out.trans (hkx.mono HOLD.out.size))
  clear hkx
  go_wp2_with fail
  go_ret
  exact ⟨rfl, HF.out⟩

/-! ### THE ROW's STEP -/
set_option maxRecDepth 100000 in
theorem lifted (os : Os) (started : os.Started) (H : Type) (enc : TypeId × Value → H) :
    ReturnsInHanded {} Tryz.checked os 5 .any (Rows.fnExactAfterOfSpec.pre6 enc Tryz.prog Tryz.f5 Rows.fnExactAfterOfRow.domain false) (Rows.fnExactAfterOfSpec.post enc Tryz.prog Tryz.f5 false true false false) := by
  refine returnsInHanded_of_change (C := Tryz.checked) own started (by kernel_rfl) Tryz.func5
    (ChangeSpec.witness6 (enc := enc) (C := Tryz.checked) false ⟨#[], #[.agg #[.int .i64 0, .slice none 0 0, .slice none 0 0, .int .i64 0, .slice none 0 0, .slice none 0 0], .slice none 0 0, .slice none 0 0], []⟩ 8 (by kernel_rfl) (by kernel_rfl) (by kernel_rfl) (by kernel_rfl)) ?_
  intro W base args ds gs before hval0 hW hcnd _
  have hval : ∀ (j : Nat) t v, Tryz.f5.params[j]? = some t → args[j]? = some v → Value.okWide Tryz.prog W .any base t v := hval0
  have hW' := hW
  obtain ⟨p, q, hA0, hV, rfl, hfz, hnd⟩ := hW
  have hA : DataW.TrodAll enc Tryz.prog W 0 (fun _ => true) true Tryz.f5.params.toList args.toList ds p := hA0
  rw [Tryz.params5] at hA hval
  obtain ⟨v0, vs0, d0, ds0, p0, q0, hargs, rfl, rfl, h0, r0⟩ := trodAll_cons hA
  obtain ⟨v1, vs1, d1, ds1, p1, q1, hargs1, rfl, rfl, h1, r1⟩ := trodAll_cons r0
  obtain ⟨v2, vs2, d2, ds2, p2, q2, hargs2, rfl, rfl, h2, r2⟩ := trodAll_cons r1
  obtain ⟨rfl, rfl, rfl⟩ := trodAll_nil r2
  obtain rfl : args = #[v0, v1, v2] := by cases args; simp_all
  obtain ⟨rfl, rfl⟩ := trodVars_none hV
  have lt0 : ∀ x ∈ p0, x.block < W.heap.size := by obtain ⟨m, hm⟩ := h0; exact DataW.trod_lt m _ _ _ hm
  obtain ⟨r0, rfl, w0⟩ := argProg_of (hval 0 49 v0 rfl rfl) h0
  obtain ⟨a1, len1, cap1, rfl⟩ := okWide_slice Tryz.underlying25 (hval 1 25 v1 rfl rfl)
  have lt1 : ∀ x ∈ p1, x.block < W.heap.size := by obtain ⟨m, hm⟩ := h1; exact DataW.trod_lt m _ _ _ hm
  have w1 := argInts_of h1
  obtain ⟨a2, len2, cap2, rfl⟩ := okWide_slice Tryz.underlying25 (hval 2 25 v2 rfl rfl)
  have lt2 : ∀ x ∈ p2, x.block < W.heap.size := by obtain ⟨m, hm⟩ := h2; exact DataW.trod_lt m _ _ _ hm
  have w2 := argInts_of h2
  clear hA0 hval0
  refine (walk r0 a1 len1 cap1 a2 len2 cap2 W w0 w1 w2).mono fun e W' ⟨he, bel⟩ => ?_
  subst he
  exact ⟨_, rfl, _, _, _, [], _, [], hW', trodAll_mk1 (shut_bool Tryz.underlying4 _), (trodAll_cons_mk (Below.trod laidOut (by kernel_rfl) (of_decide_eq_true (by kernel_rfl)) h0 bel lt0) (trodAll_cons_mk (Below.trod laidOut (by kernel_rfl) (of_decide_eq_true (by kernel_rfl)) h1 bel lt1) (trodAll_cons_mk (Below.trod laidOut (by kernel_rfl) (of_decide_eq_true (by kernel_rfl)) h2 bel lt2) trodAll_mk0))), rfl, bel.frame _, fun h => by cases h⟩

theorem over : Rows.fnExactAfterOfRow.holds Tryz.pinned (OpenSpec.ofChange Rows.fnExactAfterOfSpec) :=
  OpenClaim.holds_of_wide 5 Tryz.f5 rfl rfl rfl rfl rfl rfl rfl ⟨rfl, rfl, rfl, rfl, rfl⟩ rfl rfl rfl rfl rfl (by kernel_rfl) Tryz.func5 (by kernel_rfl)
    (of_decide_eq_true (by kernel_rfl)) (by unfold Func.isWrapper; first | (rw [if_pos (by decide +kernel)]; kernel_rfl) | (rw [if_neg (by decide +kernel)]; exact ⟨rfl, rfl⟩))
    (fun os started H enc _ => lifted os started H enc)

/-- ████ THE STATEMENT ████ -/
theorem proved : Rows.FnExactAfterOfSaid := over
#print axioms proved
end Go.Proofs.YtalcambmmbilkaaGreat.fnExactAfterOf
