/- For every program, the program's MostJoint answers as the model's, and writes into no argument. Conditions: none beyond the given row. (The frame round the walk is the guide's own shell, by program.) -/
import Derived.Test.YtmooecbdpfhnlaaGreatRows
import Derived.Test.YtmooecbdpfhnlaaGreatJ7
import Derived.Test.YtmooecbdpfhnlaaGreatJ4
import Derived.Test.YtmooecbdpfhnlaaGreatJ13
import Derived.Test.YtmooecbdpfhnlaaGreatJ15
import Derived.Test.YtmooecbdpfhnlaaGreatJ42
import Derived.WalkKit
import Derived.ProofKit
import Derived.OpenShut
import Derived.ShutString
import Derived.ChangeOld
import Derived.Below
import Derived.Carry
namespace Go.Proofs.YtmooecbdpfhnlaaGreat.fnExactMostJoint
open Go.ChangeShapes Go.WideShapes Go.ChangeAt Go.RowKit
set_option linter.unusedVariables false

theorem own : ownKnob Tryz.prog.godebug = none := by kernel_rfl
theorem laidOut : laidOutB Tryz.prog = true := by kernel_rfl

/-! ### STEP 1: THE WALK -/
set_option maxRecDepth 20000 in
set_option maxHeartbeats 6400000 in
theorem walk (r0 : PRow) (w : World) (w0 : ArgProg w r0) :
    Calls Tryz.prog 8 #[progV r0] w fun e w' => e = .returned (.bool true) ∧ Below w.heap.size w w' := by
  have HA0 := Lib.hid w0
  clear w0
  obtain ⟨wd, ⟨pa1, pn1, pc1⟩, ⟨pa2, pn2, pc2⟩, tp, ⟨pa3, pn3, pc3⟩, ⟨pa4, pn4, pc4⟩, rows0⟩ := r0
  show Calls Tryz.prog 8 #[.agg #[.int .i64 wd, .slice pa1 pn1 pc1, .slice pa2 pn2 pc2, .int .i64 tp, .slice pa3 pn3 pc3, .slice pa4 pn4 pc4]] w _
  have HS : Hid (∀ w', Below w.heap.size w w' → Calls Tryz.prog 31 #[.agg #[.int .i64 wd, .slice pa1 pn1 pc1, .slice pa2 pn2 pc2, .int .i64 tp, .slice pa3 pn3 pc3, .slice pa4 pn4 pc4], .int .i64 ((1048576 : Nat) : Int)] w' (SzProg w' 1048576 ⟨wd, (pa1, pn1, pc1), (pa2, pn2, pc2), tp, (pa3, pn3, pc3), (pa4, pn4, pc4), rows0⟩)) := Lib.hid (fun w' hb => szProg_any _ _ _ (HA0.out.below hb) (Nat.le_refl _))
  clear HA0
  obtain ⟨wa, HW⟩ : ∃ wa, Hid (wa = w.alloc (.cells #[.int .i64 wd, .slice pa1 pn1 pc1, .slice pa2 pn2 pc2, .int .i64 tp, .slice pa3 pn3 pc3, .slice pa4 pn4 pc4] 58)) := ⟨_, rfl⟩
  have B : Blk wa w.heap.size 58 [.int .i64 wd, .slice pa1 pn1 pc1, .slice pa2 pn2 pc2, .int .i64 tp, .slice pa3 pn3 pc3, .slice pa4 pn4 pc4] := by rw [HW.out]; exact Blk.new w _ _
  have HB : Below w.heap.size w wa := by rw [HW.out]; exact (Below.refl _ _).alloc (Nat.le_refl _) _
  go_enter Tryz.func8, Tryz.ntmps8
  go_wp2_with fail
  rw [← HW.out]
  refine (HS.out _ HB).mono ?_
  rintro e w1 ⟨hb1, he⟩
  rcases he with rfl | ⟨v, hv, rfl, rows, p, hp⟩
  · have HB := HB.trans (hb1.mono HB.size)
    go_wp2_with fail
    go_ret
    exact ⟨rfl, HB⟩
  have hvv : decide ((v : Int) < 0) = false := by simp
  have HP := Lib.hid (hp.below hb1)
  have B := B.below hb1 B.lt
  have HB := HB.trans (hb1.mono HB.size)
  clear hp hb1 HW HS
  obtain ⟨wi, HWI⟩ : ∃ wi, Hid (w1 = wi) := ⟨_, rfl⟩
  rw [HWI.out] at HP B HB ⊢
  clear HWI w1
  have HT : Hid (∀ w', Below wi.heap.size wi w' → Calls Tryz.prog 33 #[.agg #[.int .i64 wd, .slice pa1 pn1 pc1, .slice pa2 pn2 pc2, .int .i64 tp, .slice pa3 pn3 pc3, .slice pa4 pn4 pc4]] w' (MadeProg w' p)) := Lib.hid (fun w' hb => toProg_any ⟨wd, (pa1, pn1, pc1), (pa2, pn2, pc2), tp, (pa3, pn3, pc3), (pa4, pn4, pc4), rows⟩ p w' (HP.out.below hb))
  clear HP
  obtain ⟨Z, HZ⟩ : ∃ Z, Hid (mostJointB p = Z) := ⟨_, Lib.hid rfl⟩
  have hneZ : (Z != Z) = false := by simp
  have t0 := B.cell (j := 0) rfl
  have t1 := B.cell (j := 1) rfl
  have t2 := B.cell (j := 2) rfl
  have t3 := B.cell (j := 3) rfl
  have t4 := B.cell (j := 4) rfl
  have t5 := B.cell (j := 5) rfl
  go_wp2_with fail
  refine (HT.out _ (Below.refl _ _)).mono ?_
  rintro e v1 ⟨⟨sd, ⟨sa1, sn1, sc1⟩, ⟨sa2, sn2, sc2⟩, st, ⟨sa3, sn3, sc3⟩, ⟨sa4, sn4, sc4⟩, srs⟩, rfl, hs0, hb⟩
  simp only [progV, slV]
  have hti := hb
  clear hb t0 t1 t2 t3 t4 t5
  go_wp2_with fail
  refine (specMostJoint_ans ⟨sd, (sa1, sn1, sc1), (sa2, sn2, sc2), st, (sa3, sn3, sc3), (sa4, sn4, sc4), srs⟩ p   _ hs0.reads ).mono ?_
  rintro e v2 ⟨rfl, hb⟩
  rw [HZ.out]
  have hti := hti.trans (hb.mono hti.size)
  clear hb hs0
  have B := B.below hti B.lt
  obtain ⟨vo, HVO⟩ : ∃ vo, Hid (v2 = vo) := ⟨_, rfl⟩
  rw [HVO.out] at B hti ⊢
  clear HVO
  have t0 := B.cell (j := 0) rfl
  have t1 := B.cell (j := 1) rfl
  have t2 := B.cell (j := 2) rfl
  have t3 := B.cell (j := 3) rfl
  have t4 := B.cell (j := 4) rfl
  have t5 := B.cell (j := 5) rfl
  go_wp2_with fail
  clear t0 t1 t2 t3 t4 t5
  have HOLD := Lib.hid (HB.trans (hti.mono HB.size))
  refine (HT.out _ hti).mono ?_
  rintro e v3 ⟨⟨qd, ⟨qa1, qn1, qc1⟩, ⟨qa2, qn2, qc2⟩, qt, ⟨qa3, qn3, qc3⟩, ⟨qa4, qn4, qc4⟩, qrs⟩, rfl, hx0, hb⟩
  simp only [progV, slV]
  have hin0 := hx0.inside
  have l0 := hb.size
  have hk := hb
  clear hb
  obtain ⟨v4, HV6⟩ : ∃ v4, Hid (v4 = v3.alloc (.cells #[.int .i64 qd, .slice qa1 qn1 qc1, .slice qa2 qn2 qc2, .int .i64 qt, .slice qa3 qn3 qc3, .slice qa4 qn4 qc4] 31)) := ⟨_, rfl⟩
  have B10 : Blk v4 v3.heap.size 31 [.int .i64 qd, .slice qa1 qn1 qc1, .slice qa2 qn2 qc2, .int .i64 qt, .slice qa3 qn3 qc3, .slice qa4 qn4 qc4] := by rw [HV6.out]; exact Blk.new v3 _ _
  have hb : Below v3.heap.size v3 v4 := by rw [HV6.out]; exact (Below.refl _ _).alloc (Nat.le_refl _) _
  have l1 : v3.heap.size ≤ v4.heap.size := hb.size
  have hin0 := hin0.wide (Nat.le_refl _) l1
  have hx0 := hx0.below hb
  have hk := hk.trans (hb.mono hk.size)
  clear hb
  obtain ⟨k10, HK10⟩ : ∃ k10, Hid (v3.heap.size = k10) := ⟨_, rfl⟩
  rw [HK10.out] at B10
  obtain ⟨P0, HP0⟩ : ∃ P0, Hid (vo.heap.size = P0) := ⟨_, rfl⟩
  obtain ⟨P1, HP1⟩ : ∃ P1, Hid (v4.heap.size = P1) := ⟨_, rfl⟩
  have q01 : P0 ≤ P1 := by rw [← HP0.out, ← HP1.out]; omega
  rw [HP0.out, HP1.out] at hin0
  rw [HP0.out] at hx0
  clear l0 l1 
  have g0 := B10.cell (j := 0) rfl
  have g1 := B10.cell (j := 1) rfl
  have g2 := B10.cell (j := 2) rfl
  have g3 := B10.cell (j := 3) rfl
  have g4 := B10.cell (j := 4) rfl
  have g5 := B10.cell (j := 5) rfl
  rw [HV6.out, ← HK10.out] at g0 g1 g2 g3 g4 g5
  go_wp2_with fail
  rw [← HV6.out, HK10.out]
  clear HV6 HK10
  refine (implMostJoint_ans ⟨qd, (qa1, qn1, qc1), (qa2, qn2, qc2), qt, (qa3, qn3, qc3), (qa4, qn4, qc4), qrs⟩ p   _ hx0.reads hx0.cap ).mono ?_
  rintro e v5 ⟨rfl, hb⟩
  rw [HZ.out]
  have hx0 := hx0.below hb
  have hk := hk.trans (hb.mono hk.size)
  have B10 := B10.below hb B10.lt
  clear hb
  clear g0 g1 g2 g3 g4 g5
  have Bb := B.below hk B.lt
  have g0 := Bb.cell (j := 0) rfl
  have g1 := Bb.cell (j := 1) rfl
  have g2 := Bb.cell (j := 2) rfl
  have g3 := Bb.cell (j := 3) rfl
  have g4 := Bb.cell (j := 4) rfl
  have g5 := Bb.cell (j := 5) rfl
  have i0 := B10.cell (j := 0) rfl
  have i1 := B10.cell (j := 1) rfl
  have i2 := B10.cell (j := 2) rfl
  have i3 := B10.cell (j := 3) rfl
  have i4 := B10.cell (j := 4) rfl
  have i5 := B10.cell (j := 5) rfl
  go_wp2_with fail
  have hd : Below v5.heap.size v5 v5.drew := ⟨rfl, rfl, rfl, Nat.le_refl _, fun _ _ => rfl⟩
  have HTD := Lib.hid (HT.out _ (hti.trans ((hk.trans (hd.mono hk.size)).mono hti.size)))
  have HEQ : Hid (∀ w' r', Below v5.heap.size v5 w' → ProgAt w' r' p → Calls Tryz.prog 37 #[.agg #[.int .i64 qd, .slice qa1 qn1 qc1, .slice qa2 qn2 qc2, .int .i64 qt, .slice qa3 qn3 qc3, .slice qa4 qn4 qc4], progV r'] w' fun e w'' => e = .returned (.bool true) ∧ Below w'.heap.size w' w'') := Lib.hid (fun w' r' hb hr => (eqProg_any ⟨qd, (qa1, qn1, qc1), (qa2, qn2, qc2), qt, (qa3, qn3, qc3), (qa4, qn4, qc4), qrs⟩ r' p p w' (hx0.below hb).reads hr).mono fun e w'' h => by rw [decide_eq_true rfl] at h; exact h)
  have HX := Lib.hid B10
  have HBB := Lib.hid Bb
  go_region_held3 (fun w' => w'.cell? ⟨w.heap.size, 0, none⟩ = some (.int .i64 wd) ∧ w'.cell? ⟨w.heap.size, 1, none⟩ = some (.slice pa1 pn1 pc1) ∧ w'.cell? ⟨w.heap.size, 2, none⟩ = some (.slice pa2 pn2 pc2) ∧ w'.cell? ⟨w.heap.size, 3, none⟩ = some (.int .i64 tp) ∧ w'.cell? ⟨w.heap.size, 4, none⟩ = some (.slice pa3 pn3 pc3) ∧ w'.cell? ⟨w.heap.size, 5, none⟩ = some (.slice pa4 pn4 pc4) ∧ w'.cell? ⟨k10, 0, none⟩ = some (.int .i64 qd) ∧ w'.cell? ⟨k10, 1, none⟩ = some (.slice qa1 qn1 qc1) ∧ w'.cell? ⟨k10, 2, none⟩ = some (.slice qa2 qn2 qc2) ∧ w'.cell? ⟨k10, 3, none⟩ = some (.int .i64 qt) ∧ w'.cell? ⟨k10, 4, none⟩ = some (.slice qa3 qn3 qc3) ∧ w'.cell? ⟨k10, 5, none⟩ = some (.slice qa4 qn4 qc4)) (first | (refine ⟨?_, ?_, ?_, ?_, ?_, ?_, ?_, ?_, ?_, ?_, ?_, ?_⟩ <;> assumption) | go_keep | (refine ⟨?_, ?_, ?_, ?_, ?_, ?_, ?_, ?_, ?_, ?_, ?_, ?_⟩ <;> go_keep)) (first
    | (go_at_call 33; refine HTD.out.mono ?_; rintro e vx ⟨⟨sd, ⟨sa1, sn1, sc1⟩, ⟨sa2, sn2, sc2⟩, st, ⟨sa3, sn3, sc3⟩, ⟨sa4, sn4, sc4⟩, srs⟩, rfl, hos, hbs⟩; have hb9 := hd.trans (hbs.mono hd.size); have Y := HX.out.below hb9 HX.out.lt; have m0 := Y.cell (j := 0) rfl; have m1 := Y.cell (j := 1) rfl; have m2 := Y.cell (j := 2) rfl; have m3 := Y.cell (j := 3) rfl; have m4 := Y.cell (j := 4) rfl; have m5 := Y.cell (j := 5) rfl; have Y := HBB.out.below hb9 HBB.out.lt; have o0 := Y.cell (j := 0) rfl; have o1 := Y.cell (j := 1) rfl; have o2 := Y.cell (j := 2) rfl; have o3 := Y.cell (j := 3) rfl; have o4 := Y.cell (j := 4) rfl; have o5 := Y.cell (j := 5) rfl; have HE := Lib.hid (HEQ.out _ _ hb9 hos.reads); have HB9 := Lib.hid hb9; clear hos hbs hb9 Y)
    | (go_at_call 37; refine HE.out.mono ?_; rintro e vy ⟨rfl, hba⟩; have HB10 := Lib.hid (HB9.out.trans (hba.mono HB9.out.size)); have Y := HX.out.below HB10.out HX.out.lt; have b0 := Y.cell (j := 0) rfl; have b1 := Y.cell (j := 1) rfl; have b2 := Y.cell (j := 2) rfl; have b3 := Y.cell (j := 3) rfl; have b4 := Y.cell (j := 4) rfl; have b5 := Y.cell (j := 5) rfl; have Y := HBB.out.below HB10.out HBB.out.lt; have f0 := Y.cell (j := 0) rfl; have f1 := Y.cell (j := 1) rfl; have f2 := Y.cell (j := 2) rfl; have f3 := Y.cell (j := 3) rfl; have f4 := Y.cell (j := 4) rfl; have f5 := Y.cell (j := 5) rfl; clear hba Y))
  have hb := HB10.out
  have hx0 := hx0.below hb
  have hk := hk.trans (hb.mono hk.size)
  have B10 := B10.below hb B10.lt
  clear hb
  clear m0 m1 m2 m3 m4 m5 o0 o1 o2 o3 o4 o5 b0 b1 b2 b3 b4 b5 f0 f1 f2 f3 f4 f5 g0 g1 g2 g3 g4 g5 i0 i1 i2 i3 i4 i5 HX HBB HEQ HTD hd HE HB9 HB10 Bb
  have HF := Lib.hid (HOLD.out.trans (hk.mono HOLD.out.size))
  clear hk
  go_wp2_with fail
  go_ret
  exact ⟨rfl, HF.out⟩

/-! ### THE ROW's STEP -/
set_option maxRecDepth 100000 in
set_option maxHeartbeats 3200000 in
theorem lifted (os : Os) (started : os.Started) (H : Type) (enc : TypeId × Value → H) :
    ReturnsInHanded {} Tryz.checked os 8 .any (Rows.fnExactMostJointSpec.pre6 enc Tryz.prog Tryz.f8 Rows.fnExactMostJointRow.domain false) (Rows.fnExactMostJointSpec.post enc Tryz.prog Tryz.f8 false true false false) := by
  refine returnsInHanded_of_change (C := Tryz.checked) own started (by kernel_rfl) Tryz.func8
    (ChangeSpec.witness6 (enc := enc) (C := Tryz.checked) false ⟨#[], #[.agg #[.int .i64 0, .slice none 0 0, .slice none 0 0, .int .i64 0, .slice none 0 0, .slice none 0 0]], []⟩ 8 (by kernel_rfl) (by kernel_rfl) (by kernel_rfl) (by kernel_rfl)) ?_
  intro W base args ds gs before hval0 hW hcnd _
  have hval : ∀ (j : Nat) t v, Tryz.f8.params[j]? = some t → args[j]? = some v → Value.okWide Tryz.prog W .any base t v := hval0
  have hW' := hW
  obtain ⟨p, q, hA0, hV, rfl, hfz, hnd⟩ := hW
  have hA : DataW.TrodAll enc Tryz.prog W 0 (fun _ => true) true Tryz.f8.params.toList args.toList ds p := hA0
  rw [Tryz.params8] at hA hval
  obtain ⟨v0, vs0, d0, ds0, p0, q0, hargs, rfl, rfl, h0, r0⟩ := trodAll_cons hA
  obtain ⟨rfl, rfl, rfl⟩ := trodAll_nil r0
  obtain rfl : args = #[v0] := by cases args; simp_all
  obtain ⟨rfl, rfl⟩ := trodVars_none hV
  have lt0 : ∀ x ∈ p0, x.block < W.heap.size := by obtain ⟨m, hm⟩ := h0; exact DataW.trod_lt m _ _ _ hm
  obtain ⟨R0, rfl, w0⟩ := argProg_of (hval 0 58 v0 rfl rfl) h0
  clear hA0 hval0
  refine (walk R0 W w0).mono fun e W' ⟨he, bel⟩ => ?_
  subst he
  exact ⟨_, rfl, _, _, _, [], _, [], hW', trodAll_mk1 (shut_bool Tryz.underlying4 _), (trodAll_cons_mk (Below.trod laidOut (by kernel_rfl) (of_decide_eq_true (by kernel_rfl)) h0 bel lt0) trodAll_mk0), rfl, bel.frame _, fun h => by cases h⟩

theorem over : Rows.fnExactMostJointRow.holds Tryz.pinned (OpenSpec.ofChange Rows.fnExactMostJointSpec) :=
  OpenClaim.holds_of_wide 8 Tryz.f8 rfl rfl rfl rfl rfl rfl rfl ⟨rfl, rfl, rfl, rfl, rfl⟩ rfl rfl rfl rfl rfl (by kernel_rfl) Tryz.func8 (by kernel_rfl)
    (of_decide_eq_true (by kernel_rfl)) (by unfold Func.isWrapper; first | (rw [if_pos (by decide +kernel)]; kernel_rfl) | (rw [if_neg (by decide +kernel)]; exact ⟨rfl, rfl⟩))
    (fun os started H enc _ => lifted os started H enc)

/-- ████ THE STATEMENT ████ -/
theorem proved : Rows.FnExactMostJointSaid := over
#print axioms proved
end Go.Proofs.YtmooecbdpfhnlaaGreat.fnExactMostJoint
