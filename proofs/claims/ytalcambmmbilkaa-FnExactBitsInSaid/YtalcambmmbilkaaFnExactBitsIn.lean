/- For every program, the program's BitsIn answers as the model's, and leaves its argument as it was. Conditions: none beyond the given row. (The frame round the walk is the guide's own shell, by program.) -/
import Derived.Test.YtalcambmmbilkaaRows
import Derived.Test.YtalcambmmbilkaaJ7
import Derived.Test.YtalcambmmbilkaaJ4
import Derived.Test.YtalcambmmbilkaaJ14
import Derived.Test.YtalcambmmbilkaaJ18
import Derived.WalkKit
import Derived.ProofKit
import Derived.OpenShut
import Derived.ShutString
import Derived.ChangeOld
import Derived.Below
import Derived.Carry
namespace Go.Proofs.Ytalcambmmbilkaa.fnExactBitsIn
open Go.ChangeShapes Go.WideShapes Go.ChangeAt Go.RowKit
set_option linter.unusedVariables false

theorem own : ownKnob Try.prog.godebug = none := by kernel_rfl
theorem laidOut : laidOutB Try.prog = true := by kernel_rfl

/-! ### STEP 1: THE WALK -/
set_option maxHeartbeats 6400000 in
theorem walk (r0 : PRow) (w : World) (w0 : ArgProg w r0) :
    Calls Try.prog 9 #[progV r0] w fun e w' => e = .returned (.bool true) ∧ Below w.heap.size w w' := by
  obtain ⟨wd, ⟨a1, n1, c1⟩, ⟨a2, n2, c2⟩, tp, ⟨a3, n3, c3⟩, ⟨a4, n4, c4⟩, rows0⟩ := r0
  have HS : Hid (∀ w', Below w.heap.size w w' → Calls Try.prog 29 #[progV ⟨wd, (a1, n1, c1), (a2, n2, c2), tp, (a3, n3, c3), (a4, n4, c4), rows0⟩, .int .i64 ((1048576 : Nat) : Int)] w' (SzProg w' 1048576 ⟨wd, (a1, n1, c1), (a2, n2, c2), tp, (a3, n3, c3), (a4, n4, c4), rows0⟩)) := Lib.hid (fun w' hb => szProg_any _ _ _ (w0.below hb) (Nat.le_refl _))
  clear w0
  show Calls Try.prog 9 #[.agg #[.int .i64 wd, .slice a1 n1 c1, .slice a2 n2 c2, .int .i64 tp, .slice a3 n3 c3, .slice a4 n4 c4]] w _
  obtain ⟨wa, HW⟩ : ∃ wa, Hid (wa = w.alloc (.cells #[.int .i64 wd, .slice a1 n1 c1, .slice a2 n2 c2, .int .i64 tp, .slice a3 n3 c3, .slice a4 n4 c4] 56)) := ⟨_, rfl⟩
  have B : Blk wa w.heap.size 56 [.int .i64 wd, .slice a1 n1 c1, .slice a2 n2 c2, .int .i64 tp, .slice a3 n3 c3, .slice a4 n4 c4] := by rw [HW.out]; exact Blk.new w _ _
  have HB : Below w.heap.size w wa := by rw [HW.out]; exact (Below.refl _ _).alloc (Nat.le_refl _) _
  go_enter Try.func9, Try.ntmps9
  go_wp2_with fail
  rw [← HW.out]
  refine (HS.out _ HB).mono ?_
  rintro e w1 ⟨hb1, he⟩
  rcases he with rfl | ⟨v, hv, rfl, rows, p, hp⟩
  · have HB := HB.trans (hb1.mono HB.size)
    go_wp2_with fail
    go_ret
    exact ⟨rfl, HB⟩
  have hvv : decide ((v : Int) < 0) = false := by simp
  have HP := Lib.hid (hp.below hb1)
  have B := B.below hb1 B.lt
  have HB := HB.trans (hb1.mono HB.size)
  clear hp hb1 HW HS
  obtain ⟨wi, HWI⟩ : ∃ wi, Hid (w1 = wi) := ⟨_, rfl⟩
  rw [HWI.out] at HP B HB ⊢
  clear HWI w1
  have HBI : Hid (Below wi.heap.size wi wi) := Lib.hid (Below.refl _ _)
  have HT : Hid (∀ w', Below wi.heap.size wi w' → Calls Try.prog 31 #[.agg #[.int .i64 wd, .slice a1 n1 c1, .slice a2 n2 c2, .int .i64 tp, .slice a3 n3 c3, .slice a4 n4 c4]] w' (MadeProg w' p)) := Lib.hid (fun w' hb => toProg_any ⟨wd, (a1, n1, c1), (a2, n2, c2), tp, (a3, n3, c3), (a4, n4, c4), rows⟩ p w' (HP.out.below hb))
  obtain ⟨Z, HZ⟩ : ∃ Z, Hid (bitsInB p = Z) := ⟨_, rfl⟩
  have hne : (Z != Z) = false := by simp
  have t0 := B.cell (j := 0) rfl
  have t1 := B.cell (j := 1) rfl
  have t2 := B.cell (j := 2) rfl
  have t3 := B.cell (j := 3) rfl
  have t4 := B.cell (j := 4) rfl
  have t5 := B.cell (j := 5) rfl
  go_wp2_with fail
  refine (HT.out _ HBI.out).mono ?_
  rintro e v1 ⟨⟨ad, ⟨p1, m1, d1⟩, ⟨p2, m2, d2⟩, aq, ⟨p3, m3, d3⟩, ⟨p4, m4, d4⟩, ars⟩, rfl, ho1, hb1⟩
  simp only [progV, slV]
  have B1 := B.below hb1 B.lt
  clear t0 t1 t2 t3 t4 t5
  go_wp2_with fail
  refine (specBitsIn_any ⟨ad, (p1, m1, d1), (p2, m2, d2), aq, (p3, m3, d3), (p4, m4, d4), ars⟩ p _ ho1.reads).mono ?_
  rintro e v2 ⟨rfl, hb2⟩
  rw [HZ.out]
  have ht2 : Below wi.heap.size wi v2 := hb1.trans (hb2.mono hb1.size)
  have B2 := B1.below hb2 B1.lt
  clear ho1 hb1 hb2 B1
  have t0 := B2.cell (j := 0) rfl
  have t1 := B2.cell (j := 1) rfl
  have t2 := B2.cell (j := 2) rfl
  have t3 := B2.cell (j := 3) rfl
  have t4 := B2.cell (j := 4) rfl
  have t5 := B2.cell (j := 5) rfl
  go_wp2_with fail
  refine (HT.out _ ht2).mono ?_
  rintro e v3 ⟨⟨bd, ⟨q1, l1, k1⟩, ⟨q2, l2, k2⟩, bq, ⟨q3, l3, k3⟩, ⟨q4, l4, k4⟩, brs⟩, rfl, ho3, hb3⟩
  simp only [progV, slV]
  have ht3 : Below wi.heap.size wi v3 := ht2.trans (hb3.mono ht2.size)
  have B3 := B2.below hb3 B2.lt
  clear t0 t1 t2 t3 t4 t5 hb3 ht2 B2
  obtain ⟨va, HV⟩ : ∃ va, Hid (va = v3.alloc (.cells #[.int .i64 bd, .slice q1 l1 k1, .slice q2 l2 k2, .int .i64 bq, .slice q3 l3 k3, .slice q4 l4 k4] 31)) := ⟨_, rfl⟩
  have X : Blk va v3.heap.size 31 [.int .i64 bd, .slice q1 l1 k1, .slice q2 l2 k2, .int .i64 bq, .slice q3 l3 k3, .slice q4 l4 k4] := by rw [HV.out]; exact Blk.new v3 _ _
  have hba : Below v3.heap.size v3 va := by rw [HV.out]; exact (Below.refl _ _).alloc (Nat.le_refl _) _
  go_wp2_with fail
  rw [← HV.out]
  refine (implBitsIn_any ⟨bd, (q1, l1, k1), (q2, l2, k2), bq, (q3, l3, k3), (q4, l4, k4), brs⟩ p _ (ho3.below hba).reads ho3.cap).mono ?_
  rintro e v4 ⟨rfl, hb4⟩
  rw [HZ.out]
  have ht4 : Below wi.heap.size wi v4 := (ht3.trans (hba.mono ht3.size)).trans (hb4.mono (ht3.trans (hba.mono ht3.size)).size)
  have hb34 := hba.trans (hb4.mono hba.size)
  have B4 := B3.below hb34 B3.lt
  have X4 := X.below hb4 X.lt
  have HO := Lib.hid (ho3.below hb34)
  clear ho3 hba hb4 hb34 ht3 X B3 HV HZ
  have t0 := B4.cell (j := 0) rfl
  have t1 := B4.cell (j := 1) rfl
  have t2 := B4.cell (j := 2) rfl
  have t3 := B4.cell (j := 3) rfl
  have t4 := B4.cell (j := 4) rfl
  have t5 := B4.cell (j := 5) rfl
  have x0 := X4.cell (j := 0) rfl
  have x1 := X4.cell (j := 1) rfl
  have x2 := X4.cell (j := 2) rfl
  have x3 := X4.cell (j := 3) rfl
  have x4 := X4.cell (j := 4) rfl
  have x5 := X4.cell (j := 5) rfl
  go_wp2_with fail
  have hd : Below v4.heap.size v4 v4.drew := ⟨rfl, rfl, rfl, Nat.le_refl _, fun _ _ => rfl⟩
  have HTD := Lib.hid (HT.out _ (ht4.trans (hd.mono ht4.size)))
  have HEQ : Hid (∀ w' r', Below v4.heap.size v4 w' → ProgAt w' r' p → Calls Try.prog 35 #[.agg #[.int .i64 bd, .slice q1 l1 k1, .slice q2 l2 k2, .int .i64 bq, .slice q3 l3 k3, .slice q4 l4 k4], progV r'] w' fun e w'' => e = .returned (.bool true) ∧ Below w'.heap.size w' w'') := Lib.hid (fun w' r' hb hr => (eqProg_any ⟨bd, (q1, l1, k1), (q2, l2, k2), bq, (q3, l3, k3), (q4, l4, k4), brs⟩ r' p p w' (HO.out.below hb).reads hr).mono fun e w'' h => by rw [decide_eq_true rfl] at h; exact h)
  have HX : Hid (Blk v4 v3.heap.size 31 [.int .i64 bd, .slice q1 l1 k1, .slice q2 l2 k2, .int .i64 bq, .slice q3 l3 k3, .slice q4 l4 k4]) := Lib.hid X4
  go_region_with (first
    | (go_at_call 31; refine HTD.out.mono ?_; rintro e v5 ⟨⟨ed, ⟨s1, i1, j1⟩, ⟨s2, i2, j2⟩, eq, ⟨s3, i3, j3⟩, ⟨s4, i4, j4⟩, ers⟩, rfl, ho5, hb5⟩; have hb5' := hd.trans (hb5.mono hd.size); have Y := HX.out.below hb5' HX.out.lt; have y0 := Y.cell (j := 0) rfl; have y1 := Y.cell (j := 1) rfl; have y2 := Y.cell (j := 2) rfl; have y3 := Y.cell (j := 3) rfl; have y4 := Y.cell (j := 4) rfl; have y5 := Y.cell (j := 5) rfl; have HE := Lib.hid (HEQ.out _ _ hb5' ho5.reads); have HB5 := Lib.hid (ht4.trans (hb5'.mono ht4.size)); clear ho5 hb5 hb5' Y)
    | (go_at_call 35; refine HE.out.mono ?_; rintro e v6 ⟨rfl, hb6⟩; have HB6 := Lib.hid (HB5.out.trans (hb6.mono HB5.out.size)); clear hb6))
  all_goals (go_wp2_with fail; go_ret; exact ⟨rfl, HB.trans (HB6.out.mono HB.size)⟩)

/-! ### THE ROW's STEP -/
set_option maxRecDepth 100000 in
theorem lifted (os : Os) (started : os.Started) (H : Type) (enc : TypeId × Value → H) :
    ReturnsInHanded {} Try.checked os 9 .any (Rows.fnExactBitsInSpec.pre6 enc Try.prog Try.f9 Rows.fnExactBitsInRow.domain false) (Rows.fnExactBitsInSpec.post enc Try.prog Try.f9 false true false false) := by
  refine returnsInHanded_of_change (C := Try.checked) own started (by kernel_rfl) Try.func9
    (ChangeSpec.witness6 (enc := enc) (C := Try.checked) false ⟨#[], #[.agg #[.int .i64 0, .slice none 0 0, .slice none 0 0, .int .i64 0, .slice none 0 0, .slice none 0 0]], []⟩ 8 (by kernel_rfl) (by kernel_rfl) (by kernel_rfl) (by kernel_rfl)) ?_
  intro W base args ds gs before hval0 hW hcnd _
  have hval : ∀ (j : Nat) t v, Try.f9.params[j]? = some t → args[j]? = some v → Value.okWide Try.prog W .any base t v := hval0
  have hW' := hW
  obtain ⟨p, q, hA0, hV, rfl, hfz, hnd⟩ := hW
  have hA : DataW.TrodAll enc Try.prog W 0 (fun _ => true) true Try.f9.params.toList args.toList ds p := hA0
  rw [Try.params9] at hA hval
  obtain ⟨v0, vs0, d0, ds0, p0, q0, hargs, rfl, rfl, h0, r0⟩ := trodAll_cons hA
  obtain ⟨rfl, rfl, rfl⟩ := trodAll_nil r0
  obtain rfl : args = #[v0] := by cases args; simp_all
  obtain ⟨rfl, rfl⟩ := trodVars_none hV
  have lt0 : ∀ x ∈ p0, x.block < W.heap.size := by obtain ⟨m, hm⟩ := h0; exact DataW.trod_lt m _ _ _ hm
  obtain ⟨r0, rfl, w0⟩ := argProg_of (hval 0 56 v0 rfl rfl) h0
  clear hA0 hval0
  refine (walk r0 W w0).mono fun e W' ⟨he, bel⟩ => ?_
  subst he
  exact ⟨_, rfl, _, _, _, [], _, [], hW', trodAll_mk1 (shut_bool Try.underlying4 _), (trodAll_cons_mk (Below.trod laidOut (by kernel_rfl) (of_decide_eq_true (by kernel_rfl)) h0 bel lt0) trodAll_mk0), rfl, bel.frame _, fun h => by cases h⟩

theorem over : Rows.fnExactBitsInRow.holds Try.pinned (OpenSpec.ofChange Rows.fnExactBitsInSpec) :=
  OpenClaim.holds_of_wide 9 Try.f9 rfl rfl rfl rfl rfl rfl rfl ⟨rfl, rfl, rfl, rfl, rfl⟩ rfl rfl rfl rfl rfl (by kernel_rfl) Try.func9 (by kernel_rfl)
    (of_decide_eq_true (by kernel_rfl)) (by unfold Func.isWrapper; first | (rw [if_pos (by decide +kernel)]; kernel_rfl) | (rw [if_neg (by decide +kernel)]; exact ⟨rfl, rfl⟩))
    (fun os started H enc _ => lifted os started H enc)

/-- ████ THE STATEMENT ████ -/
theorem proved : Rows.FnExactBitsInSaid := over
#print axioms proved
end Go.Proofs.Ytalcambmmbilkaa.fnExactBitsIn
