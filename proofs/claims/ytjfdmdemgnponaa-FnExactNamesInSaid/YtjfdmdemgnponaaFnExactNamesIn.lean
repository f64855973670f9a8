/- For every slice of Terms, the program's NamesIn answers as the model's, both lists, in new memory of their own, the same each time, and leaves its argument as it was. Conditions: none beyond the given row. (The frame round the walk is the guide's own shell, by program.) -/
import Derived.Test.YtjfdmdemgnponaaRows
import Derived.Test.YtjfdmdemgnponaaArgs
import Derived.Test.YtjfdmdemgnponaaNames2
import Derived.WalkKit
import Derived.ProofKit
import Derived.OpenShut
import Derived.ShutString
import Derived.ChangeOld
import Derived.Below
import Derived.Carry
namespace Go.Proofs.Ytjfdmdemgnponaa.fnExactNamesIn
open Go.ChangeShapes Go.WideShapes Go.ChangeAt Go.RowKit
set_option linter.unusedVariables false

theorem own : ownKnob Try.prog.godebug = none := by kernel_rfl
theorem laidOut : laidOutB Try.prog = true := by kernel_rfl

/-! ### STEP 1: THE WALK -/
theorem walk (a0 : Option Addr) (len0 cap0 : Nat) (w : World) (w0 : ArgTerms w a0 len0) :
    Calls Try.prog 9 #[.slice a0 len0 cap0] w fun e w' => e = .returned (.bool true) ∧ Below w.heap.size w w' := by
  by_cases hbig : 1048576 < len0
  · go_enter Try.func9, Try.ntmps9
    go_wp2_with fail
    refine (szTermS_big _ _ _ _ hbig w0.1).mono ?_
    rintro e w1 ⟨rfl, rfl⟩
    go_wp2_with fail
    go_ret
    exact ⟨rfl, Below.refl _ _⟩
  obtain ⟨ts, h⟩ := w0.2 (by omega)
  clear w0
  obtain ⟨zs, HZ⟩ : ∃ zs, Hid (namesB 1 ts = zs) := ⟨_, rfl⟩
  obtain ⟨ys, HY⟩ : ∃ ys, Hid (namesB 2 ts = ys) := ⟨_, rfl⟩
  go_enter Try.func9, Try.ntmps9
  go_wp2_with fail
  refine (szTermS_any _ _ _ _ (by omega)).mono ?_
  rintro e v0 ⟨rfl, rfl⟩
  go_wp2_with fail
  refine (toTermS_any _ _ _ ts _ h).mono ?_
  rintro e v1 ⟨b1, n1, c1, rfl, ho1, hb1⟩
  go_wp2_with fail
  refine (specNamesIn_any _ _ _ ts _ ho1.terms).mono ?_
  rintro e v2 ⟨⟨p2, n2, c2⟩, ⟨q2, m2, d2⟩, rfl, hs2, hb2⟩
  rw [HZ.out, HY.out] at hs2
  simp only [slV]
  have ht2 : Below w.heap.size w v2 := hb1.trans (hb2.mono hb1.size)
  clear ho1 hb1 hb2
  go_wp2_with fail
  refine (toTermS_any _ _ _ ts _ (h.below (Nat.le_refl _) ht2)).mono ?_
  rintro e v3 ⟨b3, n3, c3, rfl, ho3, hb3⟩
  have ht3 : Below w.heap.size w v3 := ht2.trans (hb3.mono ht2.size)
  have k3 : Below v2.heap.size v2 v3 := hb3
  have hz3 : v2.heap.size ≤ v3.heap.size := hb3.size
  clear hb3
  go_wp2_with fail
  refine (namesIn_any _ _ _ ts _ ho3.terms).mono ?_
  rintro e v4 ⟨⟨p4, n4, c4⟩, ⟨q4, m4, d4⟩, rfl, hs4, hb4⟩
  rw [HZ.out, HY.out] at hs4
  simp only [slV]
  have ht4 : Below w.heap.size w v4 := ht3.trans (hb4.mono ht3.size)
  have k4 : Below v2.heap.size v2 v4 := k3.trans (hb4.mono hz3)
  have ho34 := ho3.below hb4
  have K3 := Lib.hid (show ∀ g, (Value.slice b3 n3 c3).ownBlock = some g → v2.heap.size ≤ g ∧ g < v3.heap.size from fun g hg => ho3.block g hg)
  have hz34 : v3.heap.size ≤ v4.heap.size := hb4.size
  have hn4 := hs4.1.2.1
  have hm4 := hs4.2.1.2.1
  simp only [] at hn4 hm4
  clear ho3 hb4 k3
  go_wp2_with fail
  refine (eqInt64S_any _ _ _ _ _ _ zs zs _ hs4.1.ints (hs2.below k4).1.ints).mono ?_
  rintro e v5 ⟨rfl, st5⟩
  rw [decide_eq_true rfl]
  have ht5 : Below w.heap.size w v5 := ht4.trans (Still.below st5 _)
  have k5 : Below v2.heap.size v2 v5 := k4.trans (Still.below st5 _)
  have hs5 := hs4.still st5
  have ho35 := ho34.below (Still.below st5 _)
  have hz35 : v3.heap.size ≤ v5.heap.size := by rw [Still.size st5]; exact hz34
  clear hs4 st5 k4 ho34
  go_wp2_with fail
  refine (eqInt64S_any _ _ _ _ _ _ ys ys _ hs5.2.1.ints (hs2.below k5).2.1.ints).mono ?_
  rintro e v6 ⟨rfl, st6⟩
  rw [decide_eq_true rfl]
  have ht6 : Below w.heap.size w v6 := ht5.trans (Still.below st6 _)
  have k6 : Below v2.heap.size v2 v6 := k5.trans (Still.below st6 _)
  have hs6 := hs5.still st6
  have ho36 := ho35.below (Still.below st6 _)
  have hz36 : v3.heap.size ≤ v6.heap.size := by rw [Still.size st6]; exact hz35
  clear hs5 st6 k5 ho35
  go_wp2_with fail
  refine (toTermS_any _ _ _ ts _ (h.below (Nat.le_refl _) ht6)).mono ?_
  rintro e v7 ⟨b7, n7, c7, rfl, ho7, hb7⟩
  have ht7 : Below w.heap.size w v7 := ht6.trans (hb7.mono ht6.size)
  have k7 : Below v2.heap.size v2 v7 := k6.trans (hb7.mono k6.size)
  have hs7 := hs6.below hb7
  have ho37 := ho36.below hb7
  have hz37 : v3.heap.size ≤ v7.heap.size := Nat.le_trans hz36 hb7.size
  clear hs6 hb7 k6 ho36
  go_wp2_with fail
  refine (eqTermS_any _ _ _ _ _ _ ts ts _ ho37.terms ho7.terms).mono ?_
  rintro e v8 ⟨rfl, hb8⟩
  rw [decide_eq_true rfl]
  have ht8 : Below w.heap.size w v8 := ht7.trans (hb8.mono ht7.size)
  have k8 : Below v2.heap.size v2 v8 := k7.trans (hb8.mono k7.size)
  have hs8 := hs7.below hb8
  have ho38 := ho37.below hb8
  have hz38 : v3.heap.size ≤ v8.heap.size := Nat.le_trans hz37 hb8.size
  clear hs7 hb8 k7 ho37 ho7
  go_wp2_with fail
  refine (markTermS_any _ _ _ _ 1 _ _ ho38 (by omega)).mono ?_
  rintro e v9 ⟨rfl, _, hg9⟩
  have ht9 : Below w.heap.size w v9 := ht8.grown hg9 ht8.size (fun g hg => Nat.le_trans ht2.size (K3.out g hg).1)
  have k9 : Below v2.heap.size v2 v9 := k8.grown hg9 k8.size (fun g hg => (K3.out g hg).1)
  have hs9 := hs8.other hg9 (fun g hg => (K3.out g hg).2)
  have hz39 : v3.heap.size ≤ v9.heap.size := Nat.le_trans hz38 hg9.size
  clear hs8 hg9 k8 ho38
  go_wp2_with fail
  refine (eqInt64S_any _ _ _ _ _ _ zs zs _ hs9.1.ints (hs2.below k9).1.ints).mono ?_
  rintro e v10 ⟨rfl, st10⟩
  rw [decide_eq_true rfl]
  have ht10 : Below w.heap.size w v10 := ht9.trans (Still.below st10 _)
  have k10 : Below v2.heap.size v2 v10 := k9.trans (Still.below st10 _)
  have hs10 := hs9.still st10
  have hz310 : v3.heap.size ≤ v10.heap.size := by rw [Still.size st10]; exact hz39
  clear hs9 st10 k9
  go_wp2_with fail
  refine (eqInt64S_any _ _ _ _ _ _ ys ys _ hs10.2.1.ints (hs2.below k10).2.1.ints).mono ?_
  rintro e v11 ⟨rfl, st11⟩
  rw [decide_eq_true rfl]
  have ht11 : Below w.heap.size w v11 := ht10.trans (Still.below st11 _)
  have k11 : Below v2.heap.size v2 v11 := k10.trans (Still.below st11 _)
  have hs11 := hs10.still st11
  have hz311 : v3.heap.size ≤ v11.heap.size := by rw [Still.size st11]; exact hz310
  clear hs10 st11 k10
  go_wp2_with fail
  refine (markInt64S_any _ _ _ _ 1 _ _ hs11.1 (by omega)).mono ?_
  rintro e v12 ⟨rfl, hm12, hg12⟩
  have hs12 := hs11.mark_left hm12 hg12
  have ht12 : Below w.heap.size w v12 := ht11.grown hg12 ht11.size (fun g hg => Nat.le_trans ht3.size (hs11.1.block g hg).1)
  have k12 : Below v2.heap.size v2 v12 := k11.grown hg12 k11.size (fun g hg => Nat.le_trans hz3 (hs11.1.block g hg).1)
  clear hs11 hm12 hg12 k11
  go_wp2_with fail
  refine (markInt64S_any _ _ _ _ (1 + n4) _ _ hs12.2.1 (by omega)).mono ?_
  rintro e v13 ⟨rfl, hm13, hg13⟩
  have hs13 := hs12.mark_right hm13 hg13
  have ht13 : Below w.heap.size w v13 := ht12.grown hg13 ht12.size (fun g hg => Nat.le_trans ht3.size (hs12.2.1.block g hg).1)
  have k13 : Below v2.heap.size v2 v13 := k12.grown hg13 k12.size (fun g hg => Nat.le_trans hz3 (hs12.2.1.block g hg).1)
  clear hs12 hm13 hg13 k12
  obtain ⟨p, HP⟩ : ∃ p : Nat, Hid (1 + n4 + m4 = p) := ⟨_, rfl⟩
  have hne : ((p : Int) != (p : Int)) = false := by simp
  rw [HP.out]
  go_wp2_with fail
  refine (heldInt64S_any _ _ _ 1 _ hs13.1.ints (by omega)).mono ?_
  rintro e v14 ⟨rfl, rfl⟩
  go_wp2_with fail
  refine (heldInt64S_any _ _ _ (1 + n4) _ hs13.2.1.ints (by omega)).mono ?_
  rintro e v14 ⟨rfl, rfl⟩
  rw [HP.out]
  go_wp2_with fail
  refine (toTermS_any _ _ _ ts _ (h.below (Nat.le_refl _) ht13)).mono ?_
  rintro e v15 ⟨b15, n15, c15, rfl, ho15, hb15⟩
  have ht15 : Below w.heap.size w v15 := ht13.trans (hb15.mono ht13.size)
  have k15 : Below v2.heap.size v2 v15 := k13.trans (hb15.mono k13.size)
  have hs15 := hs13.below hb15
  clear hs13 hb15 k13
  go_wp2_with fail
  refine (namesIn_any _ _ _ ts _ ho15.terms).mono ?_
  rintro e v16 ⟨⟨p16, n16, c16⟩, ⟨q16, m16, d16⟩, rfl, hs16, hb16⟩
  rw [HZ.out, HY.out] at hs16
  simp only [slV]
  have ht16 : Below w.heap.size w v16 := ht15.trans (hb16.mono ht15.size)
  have k16 : Below v2.heap.size v2 v16 := k15.trans (hb16.mono k15.size)
  have hs416 := hs15.below hb16
  clear hs15 hb16 k15 ho15
  go_wp2_with fail
  refine (eqInt64S_any _ _ _ _ _ _ zs zs _ hs16.1.ints (hs2.below k16).1.ints).mono ?_
  rintro e v17 ⟨rfl, st17⟩
  rw [decide_eq_true rfl]
  have ht17 : Below w.heap.size w v17 := ht16.trans (Still.below st17 _)
  have k17 : Below v2.heap.size v2 v17 := k16.trans (Still.below st17 _)
  have hs17 := hs16.still st17
  have hs417 := hs416.still st17
  clear hs16 hs416 st17 k16
  go_wp2_with fail
  refine (eqInt64S_any _ _ _ _ _ _ ys ys _ hs17.2.1.ints (hs2.below k17).2.1.ints).mono ?_
  rintro e v18 ⟨rfl, st18⟩
  rw [decide_eq_true rfl]
  have ht18 : Below w.heap.size w v18 := ht17.trans (Still.below st18 _)
  have hs418 := hs417.still st18
  clear hs17 hs417 st18 k17 hs2
  go_wp2_with fail
  refine (heldInt64S_any _ _ _ 1 _ hs418.1.ints (by omega)).mono ?_
  rintro e v19 ⟨rfl, rfl⟩
  go_wp2_with fail
  refine (heldInt64S_any _ _ _ (1 + n4) _ hs418.2.1.ints (by omega)).mono ?_
  rintro e v19 ⟨rfl, rfl⟩
  rw [HP.out]
  go_wp2_with fail
  go_ret
  exact ⟨rfl, ht18⟩

/-! ### THE ROW's STEP -/
set_option maxRecDepth 100000 in
theorem lifted (os : Os) (started : os.Started) (H : Type) (enc : TypeId × Value → H) :
    ReturnsInHanded {} Try.checked os 9 .any (Rows.fnExactNamesInSpec.pre6 enc Try.prog Try.f9 Rows.fnExactNamesInRow.domain false) (Rows.fnExactNamesInSpec.post enc Try.prog Try.f9 false true false false) := by
  refine returnsInHanded_of_change (C := Try.checked) own started (by kernel_rfl) Try.func9
    (ChangeSpec.witness6 (enc := enc) (C := Try.checked) false ⟨#[], #[.slice none 0 0], []⟩ 8 (by kernel_rfl) (by kernel_rfl) (by kernel_rfl) (by kernel_rfl)) ?_
  intro W base args ds gs before hval0 hW hcnd _
  have hval : ∀ (j : Nat) t v, Try.f9.params[j]? = some t → args[j]? = some v → Value.okWide Try.prog W .any base t v := hval0
  have hW' := hW
  obtain ⟨p, q, hA0, hV, rfl, hfz, hnd⟩ := hW
  have hA : DataW.TrodAll enc Try.prog W 0 (fun _ => true) true Try.f9.params.toList args.toList ds p := hA0
  rw [Try.params9] at hA hval
  obtain ⟨v0, vs0, d0, ds0, p0, q0, hargs, rfl, rfl, h0, r0⟩ := trodAll_cons hA
  obtain ⟨rfl, rfl, rfl⟩ := trodAll_nil r0
  obtain rfl : args = #[v0] := by cases args; simp_all
  obtain ⟨rfl, rfl⟩ := trodVars_none hV
  obtain ⟨a0, len0, cap0, rfl⟩ := okWide_slice Try.underlying39 (hval 0 39 v0 rfl rfl)
  have lt0 : ∀ x ∈ p0, x.block < W.heap.size := by obtain ⟨m, hm⟩ := h0; exact DataW.trod_lt m _ _ _ hm
  have w0 := argTerms_of h0
  clear hA0 hval0
  refine (walk a0 len0 cap0 W w0).mono fun e W' ⟨he, bel⟩ => ?_
  subst he
  exact ⟨_, rfl, _, _, _, [], _, [], hW', trodAll_mk1 (shut_bool Try.underlying4 _), (trodAll_cons_mk (Below.trod laidOut (by kernel_rfl) (of_decide_eq_true (by kernel_rfl)) h0 bel lt0) trodAll_mk0), rfl, bel.frame _, fun h => by cases h⟩

theorem over : Rows.fnExactNamesInRow.holds Try.pinned (OpenSpec.ofChange Rows.fnExactNamesInSpec) :=
  OpenClaim.holds_of_wide 9 Try.f9 rfl rfl rfl rfl rfl rfl rfl ⟨rfl, rfl, rfl, rfl, rfl⟩ rfl rfl rfl rfl rfl (by kernel_rfl) Try.func9 (by kernel_rfl)
    (of_decide_eq_true (by kernel_rfl)) (by unfold Func.isWrapper; first | (rw [if_pos (by decide +kernel)]; kernel_rfl) | (rw [if_neg (by decide +kernel)]; exact ⟨rfl, rfl⟩))
    (fun os started H enc _ => lifted os started H enc)

/-- ████ THE STATEMENT ████ -/
theorem proved : Rows.FnExactNamesInSaid := over
#print axioms proved
end Go.Proofs.Ytjfdmdemgnponaa.fnExactNamesIn
