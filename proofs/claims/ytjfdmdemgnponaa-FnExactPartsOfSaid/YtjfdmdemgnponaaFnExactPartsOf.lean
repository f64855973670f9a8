/- For every slice of Terms, the program's PartsOf answers as the model's, in new memory of which no two lists share any, the same each time, and leaves its argument as it was. Conditions: none beyond the given row. (The frame round the walk is the guide's own shell, by program.) -/
import Derived.Test.YtjfdmdemgnponaaRows
import Derived.Test.YtjfdmdemgnponaaArgs
import Derived.Test.YtjfdmdemgnponaaPartsSum
import Derived.WalkKit
import Derived.ProofKit
import Derived.OpenShut
import Derived.ShutString
import Derived.ChangeOld
import Derived.Below
import Derived.Carry
namespace Go.Proofs.Ytjfdmdemgnponaa.fnExactPartsOf
open Go.ChangeShapes Go.WideShapes Go.ChangeAt Go.RowKit
set_option linter.unusedVariables false

theorem own : ownKnob Try.prog.godebug = none := by kernel_rfl
theorem laidOut : laidOutB Try.prog = true := by kernel_rfl

/-! ### STEP 1: THE WALK -/
theorem walk (a0 : Option Addr) (len0 cap0 : Nat) (w : World) (w0 : ArgTerms w a0 len0) :
    Calls Try.prog 8 #[.slice a0 len0 cap0] w fun e w' => e = .returned (.bool true) ∧ Below w.heap.size w w' := by
  by_cases hbig : 1048576 < len0
  · go_enter Try.func8, Try.ntmps8
    go_wp2_with fail
    refine (szTermS_big _ _ _ _ hbig w0.1).mono ?_
    rintro e w1 ⟨rfl, rfl⟩
    go_wp2_with fail
    go_ret
    exact ⟨rfl, Below.refl _ _⟩
  obtain ⟨ts, h⟩ := w0.2 (by omega)
  clear w0
  obtain ⟨tss, HT⟩ : ∃ tss, Hid (partsL ts = tss) := ⟨_, rfl⟩
  have hsum := partsL_sum ts
  rw [HT.out] at hsum
  have HSUM := Lib.hid hsum
  clear hsum
  go_enter Try.func8, Try.ntmps8
  go_wp2_with fail
  refine (szTermS_any _ _ _ _ (by omega)).mono ?_
  rintro e v0 ⟨rfl, rfl⟩
  go_wp2_with fail
  refine (toTermS_any _ _ _ ts _ h).mono ?_
  rintro e v1 ⟨b1, n1, c1, rfl, ho1, hb1⟩
  go_wp2_with fail
  refine (specPartsOf_any _ _ _ ts _ ho1.terms ho1.cap).mono ?_
  rintro e v2 ⟨b2, n2, c2, rs2, rfl, hs2, hb2⟩
  rw [HT.out] at hs2
  have ht2 : Below w.heap.size w v2 := hb1.trans (hb2.mono hb1.size)
  clear ho1 hb1 hb2
  go_wp2_with fail
  refine (toTermS_any _ _ _ ts _ (h.below (Nat.le_refl _) ht2)).mono ?_
  rintro e v3 ⟨b3, n3, c3, rfl, ho3, hb3⟩
  have ht3 : Below w.heap.size w v3 := ht2.trans (hb3.mono ht2.size)
  have k3 : Below v2.heap.size v2 v3 := hb3
  have hz3 : v2.heap.size ≤ v3.heap.size := hb3.size
  clear hb3
  go_wp2_with fail
  refine (partsOf_any _ _ _ ts _ ho3.terms).mono ?_
  rintro e v4 ⟨b4, n4, c4, rs4, rfl, hs4, hb4⟩
  rw [HT.out] at hs4
  have ht4 : Below w.heap.size w v4 := ht3.trans (hb4.mono ht3.size)
  have k4 : Below v2.heap.size v2 v4 := k3.trans (hb4.mono hz3)
  have ho34 := ho3.below hb4
  have K3 := Lib.hid (show ∀ g, (Value.slice b3 n3 c3).ownBlock = some g → v2.heap.size ≤ g ∧ g < v3.heap.size from fun g hg => ho3.block g hg)
  have hz34 : v3.heap.size ≤ v4.heap.size := hb4.size
  have hn2 := hs2.2.1
  have hn4 := hs4.2.1
  have HL4 := Lib.hid hs4.2.2.1
  clear ho3 hb4 k3
  go_wp2_with fail
  refine (eqTermSS_any _ _ _ _ _ _ rs4 rs2 tss tss _ hs4.reads (hs2.below k4).reads hn4 hn2).mono ?_
  rintro e v5 ⟨rfl, hb5⟩
  rw [decide_eq_true rfl]
  have ht5 : Below w.heap.size w v5 := ht4.trans (hb5.mono ht4.size)
  have k5 : Below v2.heap.size v2 v5 := k4.trans (hb5.mono k4.size)
  have ho35 := ho34.below hb5
  have hs45 := hs4.below hb5
  have hz35 : v3.heap.size ≤ v5.heap.size := Nat.le_trans hz34 hb5.size
  clear hs4 ho34 hb5 k4
  go_wp2_with fail
  refine (toTermS_any _ _ _ ts _ (h.below (Nat.le_refl _) ht5)).mono ?_
  rintro e v6 ⟨b6, n6, c6, rfl, ho6, hb6⟩
  have ht6 : Below w.heap.size w v6 := ht5.trans (hb6.mono ht5.size)
  have k6 : Below v2.heap.size v2 v6 := k5.trans (hb6.mono k5.size)
  have ho36 := ho35.below hb6
  have hs46 := hs45.below hb6
  have hz36 : v3.heap.size ≤ v6.heap.size := Nat.le_trans hz35 hb6.size
  clear hs45 ho35 hb6 k5
  go_wp2_with fail
  refine (eqTermS_any _ _ _ _ _ _ ts ts _ ho36.terms ho6.terms).mono ?_
  rintro e v7 ⟨rfl, hb7⟩
  rw [decide_eq_true rfl]
  have ht7 : Below w.heap.size w v7 := ht6.trans (hb7.mono ht6.size)
  have k7 : Below v2.heap.size v2 v7 := k6.trans (hb7.mono k6.size)
  have ho37 := ho36.below hb7
  have hs47 := hs46.below hb7
  have hz37 : v3.heap.size ≤ v7.heap.size := Nat.le_trans hz36 hb7.size
  clear hs46 ho36 ho6 hb7 k6
  go_wp2_with fail
  refine (markTermS_any _ _ _ _ 1 _ _ ho37 (by omega)).mono ?_
  rintro e v8 ⟨rfl, _, hg8⟩
  have ht8 : Below w.heap.size w v8 := ht7.grown hg8 ht7.size (fun g hg => Nat.le_trans ht2.size (K3.out g hg).1)
  have k8 : Below v2.heap.size v2 v8 := k7.grown hg8 k7.size (fun g hg => (K3.out g hg).1)
  have hs48 := hs47.apart hg8 (fun g hg => (K3.out g hg).2)
  have hz38 : v3.heap.size ≤ v8.heap.size := Nat.le_trans hz37 hg8.size
  clear hs47 ho37 hg8 k7
  go_wp2_with fail
  refine (eqTermSS_any _ _ _ _ _ _ rs4 rs2 tss tss _ hs48.reads (hs2.below k8).reads hn4 hn2).mono ?_
  rintro e v9 ⟨rfl, hb9⟩
  rw [decide_eq_true rfl]
  have ht9 : Below w.heap.size w v9 := ht8.trans (hb9.mono ht8.size)
  have k9 : Below v2.heap.size v2 v9 := k8.trans (hb9.mono k8.size)
  have hs49 := hs48.below hb9
  have hz39 : v3.heap.size ≤ v9.heap.size := Nat.le_trans hz38 hb9.size
  clear hs48 hb9 k8
  go_wp2_with fail
  refine (markTermSS_any _ _ _ rs4 tss 1 _ _ hs49 (by omega) (HSUM.out _ HL4.out) hz39).mono ?_
  rintro e v10 ⟨rfl, hs10, hb10⟩
  have ht10 : Below w.heap.size w v10 := ht9.trans (hb10.mono ht3.size)
  have k10 : Below v2.heap.size v2 v10 := k9.trans (hb10.mono hz3)
  obtain ⟨p, HP⟩ : ∃ p : Nat, Hid (1 + 2 * sumL tss n4 = p) := ⟨_, rfl⟩
  have hne : ((p : Int) != (p : Int)) = false := by simp
  rw [HP.out]
  clear hs49 hb10 k9
  go_wp2_with fail
  refine (heldTermSS_any _ _ _ rs4 tss 1 _ hs10.reads (by omega) (HSUM.out _ HL4.out) hn4).mono ?_
  rintro e v11 ⟨rfl, rfl⟩
  rw [HP.out]
  go_wp2_with fail
  refine (toTermS_any _ _ _ ts _ (h.below (Nat.le_refl _) ht10)).mono ?_
  rintro e v12 ⟨b12, n12, c12, rfl, ho12, hb12⟩
  have ht12 : Below w.heap.size w v12 := ht10.trans (hb12.mono ht10.size)
  have k12 : Below v2.heap.size v2 v12 := k10.trans (hb12.mono k10.size)
  have hs12 := hs10.below hb12
  clear hs10 hb12 k10
  go_wp2_with fail
  refine (partsOf_any _ _ _ ts _ ho12.terms).mono ?_
  rintro e v13 ⟨b13, n13, c13, rs13, rfl, hs13, hb13⟩
  rw [HT.out] at hs13
  have ht13 : Below w.heap.size w v13 := ht12.trans (hb13.mono ht12.size)
  have k13 : Below v2.heap.size v2 v13 := k12.trans (hb13.mono k12.size)
  have hs413 := hs12.below hb13
  have hn13 := hs13.2.1
  clear hs12 ho12 hb13 k12
  go_wp2_with fail
  refine (eqTermSS_any _ _ _ _ _ _ rs13 rs2 tss tss _ hs13.reads (hs2.below k13).reads hn13 hn2).mono ?_
  rintro e v14 ⟨rfl, hb14⟩
  rw [decide_eq_true rfl]
  have ht14 : Below w.heap.size w v14 := ht13.trans (hb14.mono ht13.size)
  have hs414 := hs413.below hb14
  clear hs413 hs13 hb14 k13 hs2
  go_wp2_with fail
  refine (heldTermSS_any _ _ _ rs4 tss 1 _ hs414.reads (by omega) (HSUM.out _ HL4.out) hn4).mono ?_
  rintro e v15 ⟨rfl, rfl⟩
  rw [HP.out]
  go_wp2_with fail
  go_ret
  exact ⟨rfl, ht14⟩

/-! ### THE ROW's STEP -/
set_option maxRecDepth 100000 in
theorem lifted (os : Os) (started : os.Started) (H : Type) (enc : TypeId × Value → H) :
    ReturnsInHanded {} Try.checked os 8 .any (Rows.fnExactPartsOfSpec.pre6 enc Try.prog Try.f8 Rows.fnExactPartsOfRow.domain false) (Rows.fnExactPartsOfSpec.post enc Try.prog Try.f8 false true false false) := by
  refine returnsInHanded_of_change (C := Try.checked) own started (by kernel_rfl) Try.func8
    (ChangeSpec.witness6 (enc := enc) (C := Try.checked) false ⟨#[], #[.slice none 0 0], []⟩ 8 (by kernel_rfl) (by kernel_rfl) (by kernel_rfl) (by kernel_rfl)) ?_
  intro W base args ds gs before hval0 hW hcnd _
  have hval : ∀ (j : Nat) t v, Try.f8.params[j]? = some t → args[j]? = some v → Value.okWide Try.prog W .any base t v := hval0
  have hW' := hW
  obtain ⟨p, q, hA0, hV, rfl, hfz, hnd⟩ := hW
  have hA : DataW.TrodAll enc Try.prog W 0 (fun _ => true) true Try.f8.params.toList args.toList ds p := hA0
  rw [Try.params8] at hA hval
  obtain ⟨v0, vs0, d0, ds0, p0, q0, hargs, rfl, rfl, h0, r0⟩ := trodAll_cons hA
  obtain ⟨rfl, rfl, rfl⟩ := trodAll_nil r0
  obtain rfl : args = #[v0] := by cases args; simp_all
  obtain ⟨rfl, rfl⟩ := trodVars_none hV
  obtain ⟨a0, len0, cap0, rfl⟩ := okWide_slice Try.underlying39 (hval 0 39 v0 rfl rfl)
  have lt0 : ∀ x ∈ p0, x.block < W.heap.size := by obtain ⟨m, hm⟩ := h0; exact DataW.trod_lt m _ _ _ hm
  have w0 := argTerms_of h0
  clear hA0 hval0
  refine (walk a0 len0 cap0 W w0).mono fun e W' ⟨he, bel⟩ => ?_
  subst he
  exact ⟨_, rfl, _, _, _, [], _, [], hW', trodAll_mk1 (shut_bool Try.underlying4 _), (trodAll_cons_mk (Below.trod laidOut (by kernel_rfl) (of_decide_eq_true (by kernel_rfl)) h0 bel lt0) trodAll_mk0), rfl, bel.frame _, fun h => by cases h⟩

theorem over : Rows.fnExactPartsOfRow.holds Try.pinned (OpenSpec.ofChange Rows.fnExactPartsOfSpec) :=
  OpenClaim.holds_of_wide 8 Try.f8 rfl rfl rfl rfl rfl rfl rfl ⟨rfl, rfl, rfl, rfl, rfl⟩ rfl rfl rfl rfl rfl (by kernel_rfl) Try.func8 (by kernel_rfl)
    (of_decide_eq_true (by kernel_rfl)) (by unfold Func.isWrapper; first | (rw [if_pos (by decide +kernel)]; kernel_rfl) | (rw [if_neg (by decide +kernel)]; exact ⟨rfl, rfl⟩))
    (fun os started H enc _ => lifted os started H enc)

/-- ████ THE STATEMENT ████ -/
theorem proved : Rows.FnExactPartsOfSaid := over
#print axioms proved
end Go.Proofs.Ytjfdmdemgnponaa.fnExactPartsOf
