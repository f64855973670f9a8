/- For every slice of Terms and every number, the program's FirstOf answers as the model's, and leaves its argument as it was. Conditions: none beyond the given row. (The frame round the walk is the guide's own shell, by program.) -/
import Derived.Test.YtjfdmdemgnponaaRows
import Derived.Test.YtjfdmdemgnponaaArgs
import Derived.Test.YtjfdmdemgnponaaFirst
import Derived.WalkKit
import Derived.ProofKit
import Derived.OpenShut
import Derived.ShutString
import Derived.ChangeOld
import Derived.Below
import Derived.Carry
namespace Go.Proofs.Ytjfdmdemgnponaa.fnExactFirstOf
open Go.ChangeShapes Go.WideShapes Go.ChangeAt Go.RowKit
set_option linter.unusedVariables false

theorem own : ownKnob Try.prog.godebug = none := by kernel_rfl
theorem laidOut : laidOutB Try.prog = true := by kernel_rfl

/-! ### STEP 1: THE WALK -/
theorem walk (a0 : Option Addr) (len0 cap0 : Nat) (a1 : Int) (w : World) (w0 : ArgTerms w a0 len0) (w1 : (Lit.int .i64 a1).wf = true) :
    Calls Try.prog 7 #[.slice a0 len0 cap0, .int .i64 a1] w fun e w' => e = .returned (.bool true) ∧ Below w.heap.size w w' := by
  by_cases hbig : 1048576 < len0
  · go_enter Try.func7, Try.ntmps7
    go_wp2_with fail
    refine (szTermS_big _ _ _ _ hbig w0.1).mono ?_
    rintro e w1 ⟨rfl, rfl⟩
    go_wp2_with fail
    go_ret
    exact ⟨rfl, Below.refl _ _⟩
  obtain ⟨ts, h⟩ := w0.2 (by omega)
  clear w0
  obtain ⟨q, HQ⟩ : ∃ q, Hid (firstI ts a1 = q) := ⟨_, rfl⟩
  have hne : (q != q) = false := by simp
  go_enter Try.func7, Try.ntmps7
  go_wp2_with fail
  refine (szTermS_any _ _ _ _ (by omega)).mono ?_
  rintro e w1 ⟨rfl, rfl⟩
  go_wp2_with fail
  refine (toTermS_any _ _ _ ts _ h).mono ?_
  rintro e v1 ⟨b1, n1, c1, rfl, ho1, hb1⟩
  go_wp2_with fail
  refine (specFirstOf_any _ _ _ ts _ ho1.terms _).mono ?_
  rintro e v2 ⟨rfl, hb2⟩
  rw [HQ.out]
  have ht2 : Below w.heap.size w v2 := hb1.trans (hb2.mono hb1.size)
  clear ho1 hb1 hb2
  go_wp2_with fail
  refine (toTermS_any _ _ _ ts _ (h.below (Nat.le_refl _) ht2)).mono ?_
  rintro e v3 ⟨b3, n3, c3, rfl, ho3, hb3⟩
  have ht3 : Below w.heap.size w v3 := ht2.trans (hb3.mono ht2.size)
  clear hb3 ht2
  go_wp2_with fail
  refine (firstOf_any _ _ _ ts _ ho3.terms _).mono ?_
  rintro e v4 ⟨rfl, hb4⟩
  rw [HQ.out]
  have ht4 : Below w.heap.size w v4 := ht3.trans (hb4.mono ht3.size)
  have ho4 := ho3.below hb4
  clear ho3 hb4 ht3
  go_wp2_with fail
  refine (toTermS_any _ _ _ ts _ (h.below (Nat.le_refl _) ht4)).mono ?_
  rintro e v5 ⟨b5, n5, c5, rfl, ho5, hb5⟩
  have ht5 : Below w.heap.size w v5 := ht4.trans (hb5.mono ht4.size)
  have ho45 := ho4.below hb5
  clear ho4 hb5 ht4
  go_wp2_with fail
  refine (eqTermS_any _ _ _ _ _ _ ts ts _ ho45.terms ho5.terms).mono ?_
  rintro e v6 ⟨rfl, hb6⟩
  rw [decide_eq_true rfl]
  go_wp2_with fail
  go_ret
  exact ⟨rfl, ht5.trans (hb6.mono ht5.size)⟩

/-! ### THE ROW's STEP -/
set_option maxRecDepth 100000 in
theorem lifted (os : Os) (started : os.Started) (H : Type) (enc : TypeId × Value → H) :
    ReturnsInHanded {} Try.checked os 7 .any (Rows.fnExactFirstOfSpec.pre6 enc Try.prog Try.f7 Rows.fnExactFirstOfRow.domain false) (Rows.fnExactFirstOfSpec.post enc Try.prog Try.f7 false true false false) := by
  refine returnsInHanded_of_change (C := Try.checked) own started (by kernel_rfl) Try.func7
    (ChangeSpec.witness6 (enc := enc) (C := Try.checked) false ⟨#[], #[.slice none 0 0, .int .i64 0], []⟩ 8 (by kernel_rfl) (by kernel_rfl) (by kernel_rfl) (by kernel_rfl)) ?_
  intro W base args ds gs before hval0 hW hcnd _
  have hval : ∀ (j : Nat) t v, Try.f7.params[j]? = some t → args[j]? = some v → Value.okWide Try.prog W .any base t v := hval0
  have hW' := hW
  obtain ⟨p, q, hA0, hV, rfl, hfz, hnd⟩ := hW
  have hA : DataW.TrodAll enc Try.prog W 0 (fun _ => true) true Try.f7.params.toList args.toList ds p := hA0
  rw [Try.params7] at hA hval
  obtain ⟨v0, vs0, d0, ds0, p0, q0, hargs, rfl, rfl, h0, r0⟩ := trodAll_cons hA
  obtain ⟨v1, vs1, d1, ds1, p1, q1, hargs1, rfl, rfl, h1, r1⟩ := trodAll_cons r0
  obtain ⟨rfl, rfl, rfl⟩ := trodAll_nil r1
  obtain rfl : args = #[v0, v1] := by cases args; simp_all
  obtain ⟨rfl, rfl⟩ := trodVars_none hV
  obtain ⟨a0, len0, cap0, rfl⟩ := okWide_slice Try.underlying39 (hval 0 39 v0 rfl rfl)
  have lt0 : ∀ x ∈ p0, x.block < W.heap.size := by obtain ⟨m, hm⟩ := h0; exact DataW.trod_lt m _ _ _ hm
  have w0 := argTerms_of h0
  obtain ⟨a1, rfl, rfl, rfl, w1⟩ := open_int Try.underlying2 (hval 1 2 v1 rfl rfl) h1
  clear hA0 hval0
  refine (walk a0 len0 cap0 a1 W w0 w1).mono fun e W' ⟨he, bel⟩ => ?_
  subst he
  exact ⟨_, rfl, _, _, _, [], _, [], hW', trodAll_mk1 (shut_bool Try.underlying4 _), (trodAll_cons_mk (Below.trod laidOut (by kernel_rfl) (of_decide_eq_true (by kernel_rfl)) h0 bel lt0) (trodAll_cons_mk (shut_int Try.underlying2 w1) trodAll_mk0)), rfl, bel.frame _, fun h => by cases h⟩

theorem over : Rows.fnExactFirstOfRow.holds Try.pinned (OpenSpec.ofChange Rows.fnExactFirstOfSpec) :=
  OpenClaim.holds_of_wide 7 Try.f7 rfl rfl rfl rfl rfl rfl rfl ⟨rfl, rfl, rfl, rfl, rfl⟩ rfl rfl rfl rfl rfl (by kernel_rfl) Try.func7 (by kernel_rfl)
    (of_decide_eq_true (by kernel_rfl)) (by unfold Func.isWrapper; first | (rw [if_pos (by decide +kernel)]; kernel_rfl) | (rw [if_neg (by decide +kernel)]; exact ⟨rfl, rfl⟩))
    (fun os started H enc _ => lifted os started H enc)

/-- ████ THE STATEMENT ████ -/
theorem proved : Rows.FnExactFirstOfSaid := over
#print axioms proved
end Go.Proofs.Ytjfdmdemgnponaa.fnExactFirstOf
