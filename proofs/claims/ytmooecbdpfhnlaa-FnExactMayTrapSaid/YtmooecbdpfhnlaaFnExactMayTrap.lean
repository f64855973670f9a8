/- For every program and every slice of Terms, the program's MayTrap answers as the model's, and leaves its arguments as they were. Conditions: none beyond the given row. (The frame round the walk is the guide's own shell, by program.) -/
import Derived.Test.YtmooecbdpfhnlaaRows
import Derived.Test.YtmooecbdpfhnlaaJ7
import Derived.Test.YtmooecbdpfhnlaaJ4
import Derived.Test.YtmooecbdpfhnlaaJ17
import Derived.WalkKit
import Derived.ProofKit
import Derived.OpenShut
import Derived.ShutString
import Derived.ChangeOld
import Derived.Below
import Derived.Carry
namespace Go.Proofs.Ytmooecbdpfhnlaa.fnExactMayTrap
open Go.ChangeShapes Go.WideShapes Go.ChangeAt Go.RowKit
set_option linter.unusedVariables false

theorem own : ownKnob Try.prog.godebug = none := by kernel_rfl
theorem laidOut : laidOutB Try.prog = true := by kernel_rfl

/-! ### STEP 1: THE WALK -/
set_option maxHeartbeats 6400000 in
theorem walk (r0 : PRow) (a1 : Option Addr) (len1 cap1 : Nat) (w : World) (w0 : ArgProg w r0) (w1 : ArgTerms w a1 len1) :
    Calls Try.prog 6 #[progV r0, .slice a1 len1 cap1] w fun e w' => e = .returned (.bool true) ∧ Below w.heap.size w w' := by
  obtain ⟨ea, HEA⟩ : ∃ ea, Hid (a1 = ea) := ⟨_, rfl⟩
  obtain ⟨en, HEN⟩ : ∃ en, Hid (len1 = en) := ⟨_, rfl⟩
  obtain ⟨ec, HEC⟩ : ∃ ec, Hid (cap1 = ec) := ⟨_, rfl⟩
  rw [HEA.out, HEN.out] at w1
  rw [HEA.out, HEN.out, HEC.out]
  clear HEA HEN HEC a1 len1 cap1
  have HARG := Lib.hid w1
  clear w1
  obtain ⟨wd, ⟨a1, n1, c1⟩, ⟨a2, n2, c2⟩, tp, ⟨a3, n3, c3⟩, ⟨a4, n4, c4⟩, rows0⟩ := r0
  have HS : Hid (∀ w', Below w.heap.size w w' → Calls Try.prog 31 #[progV ⟨wd, (a1, n1, c1), (a2, n2, c2), tp, (a3, n3, c3), (a4, n4, c4), rows0⟩, .int .i64 ((1048576 : Nat) : Int)] w' (SzProg w' 1048576 ⟨wd, (a1, n1, c1), (a2, n2, c2), tp, (a3, n3, c3), (a4, n4, c4), rows0⟩)) := Lib.hid (fun w' hb => szProg_any _ _ _ (w0.below hb) (Nat.le_refl _))
  clear w0
  show Calls Try.prog 6 #[.agg #[.int .i64 wd, .slice a1 n1 c1, .slice a2 n2 c2, .int .i64 tp, .slice a3 n3 c3, .slice a4 n4 c4], .slice ea en ec] w _
  obtain ⟨wa, HW⟩ : ∃ wa, Hid (wa = w.alloc (.cells #[.int .i64 wd, .slice a1 n1 c1, .slice a2 n2 c2, .int .i64 tp, .slice a3 n3 c3, .slice a4 n4 c4] 61)) := ⟨_, rfl⟩
  have B : Blk wa w.heap.size 61 [.int .i64 wd, .slice a1 n1 c1, .slice a2 n2 c2, .int .i64 tp, .slice a3 n3 c3, .slice a4 n4 c4] := by rw [HW.out]; exact Blk.new w _ _
  have HB : Below w.heap.size w wa := by rw [HW.out]; exact (Below.refl _ _).alloc (Nat.le_refl _) _
  go_enter Try.func6, Try.ntmps6
  go_wp2_with fail
  rw [← HW.out]
  refine (HS.out _ HB).mono ?_
  rintro e w1 ⟨hb1, he⟩
  rcases he with rfl | ⟨v, hv, rfl, rows, p, hp⟩
  · have HB := HB.trans (hb1.mono HB.size)
    go_wp2_with fail
    go_ret
    exact ⟨rfl, HB⟩
  have hvv : decide ((v : Int) < 0) = false := by simp
  have HP := Lib.hid (hp.below hb1)
  have B := B.below hb1 B.lt
  have HB := HB.trans (hb1.mono HB.size)
  clear hp hb1 HW HS
  go_wp2_with fail
  by_cases hen : en ≤ v
  case neg =>
    refine (szTermS_over _ _ _ _ _ (by omega) HARG.out.1).mono ?_
    rintro e w1 ⟨rfl, rfl⟩
    go_wp2_with fail
    go_ret
    exact ⟨rfl, HB⟩
  refine (szTermS_fits _ _ _ _ _ hen hv).mono ?_
  rintro e w2 ⟨rfl, rfl⟩
  obtain ⟨ts, hts⟩ := HARG.out.2 (by omega)
  have HTS := Lib.hid (hts.below (Nat.le_refl _) HB)
  obtain ⟨v2, HV2⟩ : ∃ v2 : Nat, Hid (v - en = v2) := ⟨_, rfl⟩
  rw [HV2.out]
  have hvv2 : decide ((v2 : Int) < 0) = false := by simp
  clear hts HARG HV2
  obtain ⟨wi, HWI⟩ : ∃ wi, Hid (w1 = wi) := ⟨_, rfl⟩
  rw [HWI.out] at HP B HB HTS ⊢
  clear HWI w1
  have HBI : Hid (Below wi.heap.size wi wi) := Lib.hid (Below.refl _ _)
  have HT : Hid (∀ w', Below wi.heap.size wi w' → Calls Try.prog 33 #[.agg #[.int .i64 wd, .slice a1 n1 c1, .slice a2 n2 c2, .int .i64 tp, .slice a3 n3 c3, .slice a4 n4 c4]] w' (MadeProg w' p)) := Lib.hid (fun w' hb => toProg_any ⟨wd, (a1, n1, c1), (a2, n2, c2), tp, (a3, n3, c3), (a4, n4, c4), rows⟩ p w' (HP.out.below hb))
  have HU : Hid (∀ w', Below wi.heap.size wi w' → Calls Try.prog 34 #[.slice ea en ec] w' (MadeT w' ts)) := Lib.hid (fun w' hb => toTermS_any ea en ec ts w' (HTS.out.below (Nat.le_refl _) hb))
  obtain ⟨Z, HZ⟩ : ∃ Z : Bool, Hid (trapQ p ts = Z) := ⟨_, rfl⟩
  have t0 := B.cell (j := 0) rfl
  have t1 := B.cell (j := 1) rfl
  have t2 := B.cell (j := 2) rfl
  have t3 := B.cell (j := 3) rfl
  have t4 := B.cell (j := 4) rfl
  have t5 := B.cell (j := 5) rfl
  go_wp2_with fail
  refine (HT.out _ HBI.out).mono ?_
  rintro e v1 ⟨⟨ad, ⟨p1, m1, d1⟩, ⟨p2, m2, d2⟩, aq, ⟨p3, m3, d3⟩, ⟨p4, m4, d4⟩, ars⟩, rfl, ho1, hb1⟩
  simp only [progV, slV]
  have B1 := B.below hb1 B.lt
  clear t0 t1 t2 t3 t4 t5
  go_wp2_with fail
  refine (HU.out _ hb1).mono ?_
  rintro e v1 ⟨f1, g1, h1, rfl, hf1, hbf1⟩
  have ho1 := ho1.below hbf1
  have hb1 := hb1.trans (hbf1.mono hb1.size)
  have B1 := B1.below hbf1 B1.lt
  go_wp2_with fail
  refine (specMayTrap_any ⟨ad, (p1, m1, d1), (p2, m2, d2), aq, (p3, m3, d3), (p4, m4, d4), ars⟩ p _ _ _ ts _ ho1.reads hf1.terms hf1.cap).mono ?_
  rintro e v2 ⟨rfl, hb2⟩
  rw [HZ.out]
  have ht2 : Below wi.heap.size wi v2 := hb1.trans (hb2.mono hb1.size)
  have B2 := B1.below hb2 B1.lt
  clear ho1 hb1 hb2 B1 hf1 hbf1
  have t0 := B2.cell (j := 0) rfl
  have t1 := B2.cell (j := 1) rfl
  have t2 := B2.cell (j := 2) rfl
  have t3 := B2.cell (j := 3) rfl
  have t4 := B2.cell (j := 4) rfl
  have t5 := B2.cell (j := 5) rfl
  go_wp2_with fail
  refine (HT.out _ ht2).mono ?_
  rintro e v3 ⟨⟨bd, ⟨q1, l1, k1⟩, ⟨q2, l2, k2⟩, bq, ⟨q3, l3, k3⟩, ⟨q4, l4, k4⟩, brs⟩, rfl, ho3, hb3⟩
  simp only [progV, slV]
  have ht3 : Below wi.heap.size wi v3 := ht2.trans (hb3.mono ht2.size)
  have B3 := B2.below hb3 B2.lt
  clear t0 t1 t2 t3 t4 t5 hb3 ht2 B2
  obtain ⟨va, HV⟩ : ∃ va, Hid (va = v3.alloc (.cells #[.int .i64 bd, .slice q1 l1 k1, .slice q2 l2 k2, .int .i64 bq, .slice q3 l3 k3, .slice q4 l4 k4] 28)) := ⟨_, rfl⟩
  have X : Blk va v3.heap.size 28 [.int .i64 bd, .slice q1 l1 k1, .slice q2 l2 k2, .int .i64 bq, .slice q3 l3 k3, .slice q4 l4 k4] := by rw [HV.out]; exact Blk.new v3 _ _
  have hba : Below v3.heap.size v3 va := by rw [HV.out]; exact (Below.refl _ _).alloc (Nat.le_refl _) _
  obtain ⟨X0, HX0⟩ : ∃ X0, Hid (v3.heap.size = X0) := ⟨_, rfl⟩
  rw [HX0.out] at X
  go_wp2_with fail
  rw [← HV.out]
  have ho3 := ho3.below hba
  have ht3 := ht3.trans (hba.mono ht3.size)
  have B3 := B3.below hba B3.lt
  rw [HX0.out]
  clear hba HV HX0
  refine (HU.out _ ht3).mono ?_
  rintro e vb ⟨f3, g3, h3, rfl, hf3, hbf3⟩
  have ho3 := ho3.below hbf3
  have ht3 := ht3.trans (hbf3.mono ht3.size)
  have B3 := B3.below hbf3 B3.lt
  have X := X.below hbf3 X.lt
  clear hbf3
  have t0 := X.cell (j := 0) rfl
  have t1 := X.cell (j := 1) rfl
  have t2 := X.cell (j := 2) rfl
  have t3 := X.cell (j := 3) rfl
  have t4 := X.cell (j := 4) rfl
  have t5 := X.cell (j := 5) rfl
  go_wp2_with fail
  refine (implMayTrap_any ⟨bd, (q1, l1, k1), (q2, l2, k2), bq, (q3, l3, k3), (q4, l4, k4), brs⟩ p _ _ _ ts _ ho3.reads ho3.cap hf3.terms).mono ?_
  rintro e v4 ⟨rfl, hb4⟩
  rw [HZ.out]
  have ht4 : Below wi.heap.size wi v4 := ht3.trans (hb4.mono ht3.size)
  have B4 := B3.below hb4 B3.lt
  have X4 := X.below hb4 X.lt
  have HO := Lib.hid (ho3.below hb4)
  have hf4 := hf3.below hb4
  clear ho3 hb4 ht3 X B3 HZ hf3 t0 t1 t2 t3 t4 t5
  have t0 := B4.cell (j := 0) rfl
  have t1 := B4.cell (j := 1) rfl
  have t2 := B4.cell (j := 2) rfl
  have t3 := B4.cell (j := 3) rfl
  have t4 := B4.cell (j := 4) rfl
  have t5 := B4.cell (j := 5) rfl
  have x0 := X4.cell (j := 0) rfl
  have x1 := X4.cell (j := 1) rfl
  have x2 := X4.cell (j := 2) rfl
  have x3 := X4.cell (j := 3) rfl
  have x4 := X4.cell (j := 4) rfl
  have x5 := X4.cell (j := 5) rfl
  go_wp2_with fail
  have hd : Below v4.heap.size v4 v4.drew := ⟨rfl, rfl, rfl, Nat.le_refl _, fun _ _ => rfl⟩
  have HTD := Lib.hid (HT.out _ (ht4.trans (hd.mono ht4.size)))
  have HEQ : Hid (∀ w' r', Below v4.heap.size v4 w' → ProgAt w' r' p → Calls Try.prog 35 #[.agg #[.int .i64 bd, .slice q1 l1 k1, .slice q2 l2 k2, .int .i64 bq, .slice q3 l3 k3, .slice q4 l4 k4], progV r'] w' fun e w'' => e = .returned (.bool true) ∧ Below w'.heap.size w' w'') := Lib.hid (fun w' r' hb hr => (eqProg_any ⟨bd, (q1, l1, k1), (q2, l2, k2), bq, (q3, l3, k3), (q4, l4, k4), brs⟩ r' p p w' (HO.out.below hb).reads hr).mono fun e w'' h => by rw [decide_eq_true rfl] at h; exact h)
  have HX := Lib.hid X4
  have HBB := Lib.hid B4
  go_region_held3 (fun w' => w'.cell? ⟨w.heap.size, 0, none⟩ = some (.int .i64 wd) ∧ w'.cell? ⟨w.heap.size, 1, none⟩ = some (.slice a1 n1 c1) ∧ w'.cell? ⟨w.heap.size, 2, none⟩ = some (.slice a2 n2 c2) ∧ w'.cell? ⟨w.heap.size, 3, none⟩ = some (.int .i64 tp) ∧ w'.cell? ⟨w.heap.size, 4, none⟩ = some (.slice a3 n3 c3) ∧ w'.cell? ⟨w.heap.size, 5, none⟩ = some (.slice a4 n4 c4) ∧ w'.cell? ⟨X0, 0, none⟩ = some (.int .i64 bd) ∧ w'.cell? ⟨X0, 1, none⟩ = some (.slice q1 l1 k1) ∧ w'.cell? ⟨X0, 2, none⟩ = some (.slice q2 l2 k2) ∧ w'.cell? ⟨X0, 3, none⟩ = some (.int .i64 bq) ∧ w'.cell? ⟨X0, 4, none⟩ = some (.slice q3 l3 k3) ∧ w'.cell? ⟨X0, 5, none⟩ = some (.slice q4 l4 k4)) (first | (refine ⟨?_, ?_, ?_, ?_, ?_, ?_, ?_, ?_, ?_, ?_, ?_, ?_⟩ <;> assumption) | go_keep | (refine ⟨?_, ?_, ?_, ?_, ?_, ?_, ?_, ?_, ?_, ?_, ?_, ?_⟩ <;> go_keep)) (first
    | (go_at_call 33; refine HTD.out.mono ?_; rintro e v5 ⟨⟨ed, ⟨s1, i1, j1⟩, ⟨s2, i2, j2⟩, eq, ⟨s3, i3, j3⟩, ⟨s4, i4, j4⟩, ers⟩, rfl, ho5, hb5⟩; have hb5' := hd.trans (hb5.mono hd.size); have Y := HX.out.below hb5' HX.out.lt; have y0 := Y.cell (j := 0) rfl; have y1 := Y.cell (j := 1) rfl; have y2 := Y.cell (j := 2) rfl; have y3 := Y.cell (j := 3) rfl; have y4 := Y.cell (j := 4) rfl; have y5 := Y.cell (j := 5) rfl; have Y := HBB.out.below hb5' HBB.out.lt; have z0 := Y.cell (j := 0) rfl; have z1 := Y.cell (j := 1) rfl; have z2 := Y.cell (j := 2) rfl; have z3 := Y.cell (j := 3) rfl; have z4 := Y.cell (j := 4) rfl; have z5 := Y.cell (j := 5) rfl; have HE := Lib.hid (HEQ.out _ _ hb5' ho5.reads); have HB5 := Lib.hid hb5'; clear ho5 hb5 hb5' Y)
    | (go_at_call 35; refine HE.out.mono ?_; rintro e v6 ⟨rfl, hb6⟩; have HB6 := Lib.hid (HB5.out.trans (hb6.mono HB5.out.size)); have Y := HX.out.below HB6.out HX.out.lt; have y0 := Y.cell (j := 0) rfl; have y1 := Y.cell (j := 1) rfl; have y2 := Y.cell (j := 2) rfl; have y3 := Y.cell (j := 3) rfl; have y4 := Y.cell (j := 4) rfl; have y5 := Y.cell (j := 5) rfl; have Y := HBB.out.below HB6.out HBB.out.lt; have z0 := Y.cell (j := 0) rfl; have z1 := Y.cell (j := 1) rfl; have z2 := Y.cell (j := 2) rfl; have z3 := Y.cell (j := 3) rfl; have z4 := Y.cell (j := 4) rfl; have z5 := Y.cell (j := 5) rfl; clear hb6 Y))
  have ht6 := ht4.trans (HB6.out.mono ht4.size)
  have hf6 := hf4.below HB6.out
  go_wp2_with fail
  refine (HU.out _ ht6).mono ?_
  rintro e v7 ⟨f7, g7, h7, rfl, hf7, hb7⟩
  have hf67 := hf6.below hb7
  have ht7 := ht6.trans (hb7.mono ht6.size)
  go_wp2_with fail
  refine (eqTermS_any _ _ _ _ _ _ ts ts _ hf67.terms hf7.terms).mono ?_
  rintro e v8 ⟨rfl, hb8⟩
  rw [decide_eq_true rfl]
  have ht8 := ht7.trans (hb8.mono ht7.size)
  go_wp2_with fail
  go_ret
  exact ⟨rfl, HB.trans (ht8.mono HB.size)⟩

/-! ### THE ROW's STEP -/
set_option maxRecDepth 100000 in
set_option maxHeartbeats 3200000 in
theorem lifted (os : Os) (started : os.Started) (H : Type) (enc : TypeId × Value → H) :
    ReturnsInHanded {} Try.checked os 6 .any (Rows.fnExactMayTrapSpec.pre6 enc Try.prog Try.f6 Rows.fnExactMayTrapRow.domain false) (Rows.fnExactMayTrapSpec.post enc Try.prog Try.f6 false true false false) := by
  refine returnsInHanded_of_change (C := Try.checked) own started (by kernel_rfl) Try.func6
    (ChangeSpec.witness6 (enc := enc) (C := Try.checked) false ⟨#[], #[.agg #[.int .i64 0, .slice none 0 0, .slice none 0 0, .int .i64 0, .slice none 0 0, .slice none 0 0], .slice none 0 0], []⟩ 8 (by kernel_rfl) (by kernel_rfl) (by kernel_rfl) (by kernel_rfl)) ?_
  intro W base args ds gs before hval0 hW hcnd _
  have hval : ∀ (j : Nat) t v, Try.f6.params[j]? = some t → args[j]? = some v → Value.okWide Try.prog W .any base t v := hval0
  have hW' := hW
  obtain ⟨p, q, hA0, hV, rfl, hfz, hnd⟩ := hW
  have hA : DataW.TrodAll enc Try.prog W 0 (fun _ => true) true Try.f6.params.toList args.toList ds p := hA0
  rw [Try.params6] at hA hval
  obtain ⟨v0, vs0, d0, ds0, p0, q0, hargs, rfl, rfl, h0, r0⟩ := trodAll_cons hA
  obtain ⟨v1, vs1, d1, ds1, p1, q1, hargs1, rfl, rfl, h1, r1⟩ := trodAll_cons r0
  obtain ⟨rfl, rfl, rfl⟩ := trodAll_nil r1
  obtain rfl : args = #[v0, v1] := by cases args; simp_all
  obtain ⟨rfl, rfl⟩ := trodVars_none hV
  have lt0 : ∀ x ∈ p0, x.block < W.heap.size := by obtain ⟨m, hm⟩ := h0; exact DataW.trod_lt m _ _ _ hm
  obtain ⟨R0, rfl, w0⟩ := argProg_of (hval 0 61 v0 rfl rfl) h0
  obtain ⟨a1, len1, cap1, rfl⟩ := okWide_slice Try.underlying62 (hval 1 62 v1 rfl rfl)
  have lt1 : ∀ x ∈ p1, x.block < W.heap.size := by obtain ⟨m, hm⟩ := h1; exact DataW.trod_lt m _ _ _ hm
  have w1 := argTerms_of h1
  clear hA0 hval0
  refine (walk R0 a1 len1 cap1 W w0 w1).mono fun e W' ⟨he, bel⟩ => ?_
  subst he
  exact ⟨_, rfl, _, _, _, [], _, [], hW', trodAll_mk1 (shut_bool Try.underlying4 _), (trodAll_cons_mk (Below.trod laidOut (by kernel_rfl) (of_decide_eq_true (by kernel_rfl)) h0 bel lt0) (trodAll_cons_mk (Below.trod laidOut (by kernel_rfl) (of_decide_eq_true (by kernel_rfl)) h1 bel lt1) trodAll_mk0)), rfl, bel.frame _, fun h => by cases h⟩

theorem over : Rows.fnExactMayTrapRow.holds Try.pinned (OpenSpec.ofChange Rows.fnExactMayTrapSpec) :=
  OpenClaim.holds_of_wide 6 Try.f6 rfl rfl rfl rfl rfl rfl rfl ⟨rfl, rfl, rfl, rfl, rfl⟩ rfl rfl rfl rfl rfl (by kernel_rfl) Try.func6 (by kernel_rfl)
    (of_decide_eq_true (by kernel_rfl)) (by unfold Func.isWrapper; first | (rw [if_pos (by decide +kernel)]; kernel_rfl) | (rw [if_neg (by decide +kernel)]; exact ⟨rfl, rfl⟩))
    (fun os started H enc _ => lifted os started H enc)

/-- ████ THE STATEMENT ████ -/
theorem proved : Rows.FnExactMayTrapSaid := over
#print axioms proved
end Go.Proofs.Ytmooecbdpfhnlaa.fnExactMayTrap
