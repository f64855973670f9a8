/- For every number, the program's PowerNat answers as the model's, in new memory, the same each time. Conditions: none beyond the given row. (The frame round the walk is the guide's own shell, by program.) -/
import Derived.Test.YtnbeofnafdljhaaRows
import Derived.Test.YtnbeofnafdljhaaPower
import Derived.Test.YtnbeofnafdljhaaCopies
import Derived.WalkKit
import Derived.ProofKit
import Derived.OpenShut
import Derived.ShutString
import Derived.ChangeOld
import Derived.Below
namespace Go.Proofs.Ytnbeofnafdljhaa.fnExactPowerNat
open Go.ChangeShapes Go.WideShapes Go.ChangeAt Go.RowKit
open Go.ChangeMaps (open_string shut_string)
set_option linter.unusedVariables false      -- a walk need not use every 'w<i>' (that an integer argument fits its kind)

theorem own : ownKnob Try.prog.godebug = none := by kernel_rfl

/-! ### STEP 1: THE WALK: the Go text returns true. 'Grown w w'': the world has at most new blocks (Derived/RowKit3.lean). Part the cases AHEAD of 'go_enter' where a test parts the walk; take each callee by a contract of your own. -/
theorem walk (a0 : Int) (w0 : (Lit.int .i64 a0).wf = true) (w : World) :
    Calls Try.prog 12 #[.int .i64 a0] w fun e w' => e = .returned (.bool true) ∧ Below w.heap.size w w' := by
  clear w0
  go_enter Try.func12, Try.ntmps12
  go_wp2_with fail
  refine (specPowerNat_any _ _).mono ?_
  rintro e w1 ⟨a1, n1, c1, rfl, ho1, hb1⟩
  go_wp2_with fail
  refine (powerNat_any _ _).mono ?_
  rintro e w2 ⟨a2, n2, c2, rfl, ho2, hb2⟩
  obtain ⟨ok, HOK⟩ : ∃ ok, Hid (powB a0 = ok) := ⟨_, rfl⟩
  rw [HOK.out]
  go_wp2_with fail
  refine (eqInt64S_any _ _ _ _ _ _ _ _ _ ho2.ints (ho1.below hb2).ints).mono ?_
  rintro e w3 ⟨rfl, j, rfl⟩
  rw [decide_eq_true rfl]
  go_wp2_with fail
  refine (markInt64S_any _ _ _ _ 1 _ _ (ho2.drewN j) (by omega)).mono ?_
  rintro e w4 ⟨rfl, ho4, hg4⟩
  have hn2 := ho4.2.1
  have hw : Below w.heap.size w w4 := (below_dn (hb1.trans (hb2.mono hb1.size)) j).grown hg4 (by simpa using Nat.le_trans hb1.size hb2.size) (fun k hk => Nat.le_trans hb1.size (ho2.block k hk).1)
  have ho1' := ((ho1.below hb2).drewN j).apart hg4 (K := w1.heap.size) (fun g hg => (ho1.block g hg).2) (fun g hg => (ho2.block g hg).1)
  clear hg4 ho1 ho2 hb1 hb2
  go_wp2_with fail
  refine (heldInt64S_any _ _ _ 1 _ ho4.ints (by omega)).mono ?_
  rintro e w5 ⟨rfl, rfl⟩
  go_wp2_with fail
  refine (powerNat_any _ _).mono ?_
  rintro e w6 ⟨a6, n6, c6, rfl, ho6, hb6⟩
  rw [HOK.out]
  go_wp2_with fail
  refine (eqInt64S_any _ _ _ _ _ _ _ _ _ ho6.ints (ho1'.below hb6).ints).mono ?_
  rintro e w7 ⟨rfl, j2, rfl⟩
  rw [decide_eq_true rfl]
  go_wp2_with fail
  refine (heldInt64S_any _ _ _ 1 _ ((ho4.below hb6).drewN j2).ints (by omega)).mono ?_
  rintro e w8 ⟨rfl, rfl⟩
  go_wp2_with fail
  go_ret
  exact ⟨rfl, below_dn (hw.trans (hb6.mono hw.size)) j2⟩

/-! ### THE ROW's STEP: WRITTEN OUT: LEAVE IT -/
set_option maxRecDepth 100000 in
theorem lifted (os : Os) (started : os.Started) (H : Type) (enc : TypeId × Value → H) :
    ReturnsInHanded {} Try.checked os 12 .any (Rows.fnExactPowerNatSpec.pre6 enc Try.prog Try.f12 Rows.fnExactPowerNatRow.domain false) (Rows.fnExactPowerNatSpec.post enc Try.prog Try.f12 false true false false) := by
  refine returnsInHanded_of_change (C := Try.checked) own started (by kernel_rfl) Try.func12
    (ChangeSpec.witness6 (enc := enc) (C := Try.checked) false ⟨#[], #[.int .i64 0], []⟩ 8 (by kernel_rfl) (by kernel_rfl) (by kernel_rfl) (by kernel_rfl)) ?_
  intro W base args ds gs before hval0 hW hcnd _
  have hval : ∀ (j : Nat) t v, Try.f12.params[j]? = some t → args[j]? = some v → Value.okWide Try.prog W .any base t v := hval0
  have hW' := hW
  obtain ⟨p, q, hA0, hV, rfl, hfz, hnd⟩ := hW
  have hA : DataW.TrodAll enc Try.prog W 0 (fun _ => true) true Try.f12.params.toList args.toList ds p := hA0
  rw [Try.params12] at hA hval
  obtain ⟨v0, vs0, d0, ds0, p0, q0, hargs, rfl, rfl, h0, r0⟩ := trodAll_cons hA
  obtain ⟨rfl, rfl, rfl⟩ := trodAll_nil r0
  obtain rfl : args = #[v0] := by cases args; simp_all
  obtain ⟨rfl, rfl⟩ := trodVars_none hV
  obtain ⟨a0, rfl, rfl, rfl, w0⟩ := open_int Try.underlying2 (hval 0 2 v0 rfl rfl) h0
  clear hA0 hval0
  refine (walk a0 w0 W).mono fun e W' ⟨he, bel⟩ => ?_
  subst he
  exact ⟨_, rfl, _, _, _, [], _, [], hW', trodAll_mk1 (shut_bool Try.underlying4 _), (trodAll_cons_mk (shut_int Try.underlying2 w0) trodAll_mk0), rfl, bel.frame _, fun h => by cases h⟩

theorem over : Rows.fnExactPowerNatRow.holds Try.pinned (OpenSpec.ofChange Rows.fnExactPowerNatSpec) :=
  OpenClaim.holds_of_wide 12 Try.f12 rfl rfl rfl rfl rfl rfl rfl ⟨rfl, rfl, rfl, rfl, rfl⟩ rfl rfl rfl rfl rfl (by kernel_rfl) Try.func12 (by kernel_rfl)
    (of_decide_eq_true (by kernel_rfl)) (by unfold Func.isWrapper; first | (rw [if_pos (by decide +kernel)]; kernel_rfl) | (rw [if_neg (by decide +kernel)]; exact ⟨rfl, rfl⟩))
    (fun os started H enc _ => lifted os started H enc)

/-- ████ THE STATEMENT ████ -/
theorem proved : Rows.FnExactPowerNatSaid :=
  over
#print axioms proved
end Go.Proofs.Ytnbeofnafdljhaa.fnExactPowerNat
