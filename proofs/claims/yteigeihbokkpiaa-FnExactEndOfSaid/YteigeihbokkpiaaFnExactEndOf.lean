/- For every slice of Stmts and every number, the program's EndOf answers as the model's, and leaves its argument as it was. Conditions: none beyond the given row. (The frame round the walk is the guide's own shell, by program.) -/
import Derived.Test.YteigeihbokkpiaaRows
import Derived.Test.YteigeihbokkpiaaProgArgs
import Derived.Test.YteigeihbokkpiaaProgSize
import Derived.Test.YteigeihbokkpiaaStmtEq
import Derived.Test.YteigeihbokkpiaaSpecEndOf
import Derived.Test.YteigeihbokkpiaaImplEnd
import Derived.WalkKit
import Derived.ProofKit
import Derived.OpenShut
import Derived.ShutString
import Derived.ChangeOld
import Derived.Below
import Derived.Carry
namespace Go.Proofs.Yteigeihbokkpiaa.fnExactEndOf
open Go.ChangeShapes Go.WideShapes Go.ChangeAt Go.RowKit
set_option linter.unusedVariables false

theorem own : ownKnob Try.prog.godebug = none := by kernel_rfl
theorem laidOut : laidOutB Try.prog = true := by kernel_rfl

/-! ### STEP 1: THE WALK -/
theorem walk (a0 : Option Addr) (len0 cap0 : Nat) (a1 : Int) (w : World) (w0 : ArgStmts w a0 len0) (w1 : (Lit.int .i64 a1).wf = true) :
    Calls Try.prog 6 #[.slice a0 len0 cap0, .int .i64 a1] w fun e w' => e = .returned (.bool true) ∧ Below w.heap.size w w' := by
  by_cases hbig : 1048576 < len0
  · go_enter Try.func6, Try.ntmps6
    go_wp2_with fail
    refine (szStmtS_over _ _ _ 1048576 _ hbig w0.1).mono ?_
    rintro e w1 ⟨rfl, rfl⟩
    go_wp2_with fail
    go_ret
    exact ⟨rfl, Below.refl _ _⟩
  obtain ⟨rs, hr⟩ := w0.2 (by omega)
  clear w0
  obtain ⟨Z, HZ⟩ : ∃ Z, Hid (szI (len0 + sumTo rs len0) 1048576 = Z) := ⟨_, rfl⟩
  by_cases hfit : len0 + sumTo rs len0 ≤ 1048576
  case neg =>
    have hZ : Z = -1 := by rw [← HZ.out, szI_over (by omega)]
    subst hZ
    go_enter Try.func6, Try.ntmps6
    go_wp2_with fail
    refine (szStmtS_rows _ _ _ 1048576 rs _ hr (by omega) (Nat.le_refl _)).mono ?_
    rintro e w1 ⟨rfl, hb1⟩
    rw [HZ.out]
    go_wp2_with fail
    go_ret
    exact ⟨rfl, hb1⟩
  obtain ⟨ss, h⟩ := hr.reads hfit
  obtain ⟨z, hz, hZ⟩ : ∃ z : Nat, z ≤ 1048576 ∧ Z = (z : Int) := ⟨1048576 - (len0 + sumTo rs len0), by omega, by rw [← HZ.out, szI_fits hfit]⟩
  subst hZ
  obtain ⟨⟨p, q⟩, HQ⟩ : ∃ P, Hid (endB ss a1 = P) := ⟨_, rfl⟩
  have hne1 : (p != p) = false := by simp
  have hne2 : (q != q) = false := by simp
  clear hfit
  go_enter Try.func6, Try.ntmps6
  go_wp2_with fail
  refine (szStmtS_rows _ _ _ 1048576 rs _ hr (by omega) (Nat.le_refl _)).mono ?_
  rintro e w1 ⟨rfl, hb0⟩
  rw [HZ.out]
  clear HZ hr
  go_wp2_with fail
  refine (toStmtS_any _ _ _ rs ss _ (h.below hb0)).mono ?_
  rintro e v1 ⟨b1, n1, c1, r1, rfl, ho1, hb1⟩
  have ht1 : Below w.heap.size w v1 := hb0.trans (hb1.mono hb0.size)
  go_wp2_with fail
  refine (specEndOf_any _ _ _ r1 ss _ _ ho1.reads).mono ?_
  rintro e v2 ⟨rfl, rfl⟩
  simp only [HQ.out]
  clear ho1 hb1 hb0
  go_wp2_with fail
  refine (toStmtS_any _ _ _ rs ss _ (h.below ht1)).mono ?_
  rintro e v3 ⟨b3, n3, c3, r3, rfl, ho3, hb3⟩
  have ht3 : Below w.heap.size w v3 := ht1.trans (hb3.mono ht1.size)
  clear hb3 ht1
  go_wp2_with fail
  refine (implEndOf_any _ _ _ r3 ss _ _ ho3.reads).mono ?_
  rintro e v4 ⟨rfl, hb4⟩
  simp only [HQ.out]
  have ht4 : Below w.heap.size w v4 := ht3.trans (hb4.mono ht3.size)
  have ho4 := ho3.below hb4
  clear ho3 hb4 ht3
  go_wp2_with fail
  refine (toStmtS_any _ _ _ rs ss _ (h.below ht4)).mono ?_
  rintro e v5 ⟨b5, n5, c5, r5, rfl, ho5, hb5⟩
  have ht5 : Below w.heap.size w v5 := ht4.trans (hb5.mono ht4.size)
  have ho45 := ho4.below hb5
  clear ho4 hb5 ht4
  go_wp2_with fail
  refine (eqStmtS_any _ _ _ _ _ _ _ _ ss ss _ ho45.reads ho5.reads).mono ?_
  rintro e v6 ⟨rfl, hb6⟩
  rw [decide_eq_true rfl]
  go_wp2_with fail
  go_ret
  exact ⟨rfl, ht5.trans (hb6.mono ht5.size)⟩

/-! ### THE ROW's STEP -/
set_option maxRecDepth 100000 in
theorem lifted (os : Os) (started : os.Started) (H : Type) (enc : TypeId × Value → H) :
    ReturnsInHanded {} Try.checked os 6 .any (Rows.fnExactEndOfSpec.pre6 enc Try.prog Try.f6 Rows.fnExactEndOfRow.domain false) (Rows.fnExactEndOfSpec.post enc Try.prog Try.f6 false true false false) := by
  refine returnsInHanded_of_change (C := Try.checked) own started (by kernel_rfl) Try.func6
    (ChangeSpec.witness6 (enc := enc) (C := Try.checked) false ⟨#[], #[.slice none 0 0, .int .i64 0], []⟩ 8 (by kernel_rfl) (by kernel_rfl) (by kernel_rfl) (by kernel_rfl)) ?_
  intro W base args ds gs before hval0 hW hcnd _
  have hval : ∀ (j : Nat) t v, Try.f6.params[j]? = some t → args[j]? = some v → Value.okWide Try.prog W .any base t v := hval0
  have hW' := hW
  obtain ⟨p, q, hA0, hV, rfl, hfz, hnd⟩ := hW
  have hA : DataW.TrodAll enc Try.prog W 0 (fun _ => true) true Try.f6.params.toList args.toList ds p := hA0
  rw [Try.params6] at hA hval
  obtain ⟨v0, vs0, d0, ds0, p0, q0, hargs, rfl, rfl, h0, r0⟩ := trodAll_cons hA
  obtain ⟨v1, vs1, d1, ds1, p1, q1, hargs1, rfl, rfl, h1, r1⟩ := trodAll_cons r0
  obtain ⟨rfl, rfl, rfl⟩ := trodAll_nil r1
  obtain rfl : args = #[v0, v1] := by cases args; simp_all
  obtain ⟨rfl, rfl⟩ := trodVars_none hV
  obtain ⟨a0, len0, cap0, rfl⟩ := okWide_slice Try.underlying48 (hval 0 48 v0 rfl rfl)
  have lt0 : ∀ x ∈ p0, x.block < W.heap.size := by obtain ⟨m, hm⟩ := h0; exact DataW.trod_lt m _ _ _ hm
  have w0 := argStmts_of h0
  obtain ⟨a1, rfl, rfl, rfl, w1⟩ := open_int Try.underlying2 (hval 1 2 v1 rfl rfl) h1
  clear hA0 hval0
  refine (walk a0 len0 cap0 a1 W w0 w1).mono fun e W' ⟨he, bel⟩ => ?_
  subst he
  exact ⟨_, rfl, _, _, _, [], _, [], hW', trodAll_mk1 (shut_bool Try.underlying4 _), (trodAll_cons_mk (Below.trod laidOut (by kernel_rfl) (of_decide_eq_true (by kernel_rfl)) h0 bel lt0) (trodAll_cons_mk (shut_int Try.underlying2 w1) trodAll_mk0)), rfl, bel.frame _, fun h => by cases h⟩

theorem over : Rows.fnExactEndOfRow.holds Try.pinned (OpenSpec.ofChange Rows.fnExactEndOfSpec) :=
  OpenClaim.holds_of_wide 6 Try.f6 rfl rfl rfl rfl rfl rfl rfl ⟨rfl, rfl, rfl, rfl, rfl⟩ rfl rfl rfl rfl rfl (by kernel_rfl) Try.func6 (by kernel_rfl)
    (of_decide_eq_true (by kernel_rfl)) (by unfold Func.isWrapper; first | (rw [if_pos (by decide +kernel)]; kernel_rfl) | (rw [if_neg (by decide +kernel)]; exact ⟨rfl, rfl⟩))
    (fun os started H enc _ => lifted os started H enc)

/-- ████ THE STATEMENT ████ -/
theorem proved : Rows.FnExactEndOfSaid := over
#print axioms proved
end Go.Proofs.Yteigeihbokkpiaa.fnExactEndOf
