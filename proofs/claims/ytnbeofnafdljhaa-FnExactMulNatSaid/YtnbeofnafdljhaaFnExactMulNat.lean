/- For every two slices of numbers, the program's MulNat answers as the model's, in new memory, the same each time, and leaves its arguments as they were. Conditions: none beyond the given row. (The frame round the walk is the guide's own shell, by program.) -/
import Derived.Test.YtnbeofnafdljhaaRows
import Derived.Test.YtnbeofnafdljhaaMulNat
import Derived.Test.YtnbeofnafdljhaaCopies
import Derived.WalkKit
import Derived.ProofKit
import Derived.OpenShut
import Derived.ShutString
import Derived.ChangeOld
import Derived.Below
namespace Go.Proofs.Ytnbeofnafdljhaa.fnExactMulNat
open Go.ChangeShapes Go.WideShapes Go.ChangeAt Go.RowKit
open Go.ChangeMaps (open_string shut_string)
set_option linter.unusedVariables false

theorem own : ownKnob Try.prog.godebug = none := by kernel_rfl
theorem laidOut : laidOutB Try.prog = true := by kernel_rfl

/-- WHAT THE WALK IS TOLD OF A SLICE OF INTEGERS THAT CAME IN: it is nil; or it leads to a row of 'cap' cells, the numbers 'zs' (the first 'len' are its elements, the rest its spare room), each fitting its kind. -/
def IsRow (k : IntKind) (w : World) (a : Option Addr) (len cap : Nat) (zs : List Int) : Prop :=
  (a = none ∧ len = 0 ∧ cap = 0 ∧ zs = []) ∨
  ∃ x, a = some x ∧ len ≤ cap ∧ cap ≤ maxLen ∧ zs.length = cap ∧ (∀ i, i < zs.length → w.cell? (x.add i) = some (.int k (zs.getD i 0))) ∧ ∀ n ∈ zs, (Lit.int k n).wf = true

/-! ### STEP 1: THE WALK: the Go text returns true, AND WRITES NOTHING THAT WAS THERE: 'Below w.heap.size w w'' (Derived/Below.lean: '.refl', '.alloc', '.drew', '.setCell' at a new block, '.trans'). Open each 'IsRow' by 'rcases' AHEAD of 'go_enter'; part every test ahead of the walk. -/
theorem walk (a0 : Option Addr) (len0 cap0 : Nat) (z0 : List Int) (a1 : Option Addr) (len1 cap1 : Nat) (z1 : List Int) (w : World) (w0 : IsRow .i64 w a0 len0 cap0 z0) (w1 : IsRow .i64 w a1 len1 cap1 z1) :
    Calls Try.prog 10 #[.slice a0 len0 cap0, .slice a1 len1 cap1] w fun e w' => e = .returned (.bool true) ∧ Below w.heap.size w w' := by
  by_cases hbig0 : 1048576 < len0
  · go_enter Try.func10, Try.ntmps10
    go_wp2_with fail
    go_ret
    exact ⟨rfl, Below.refl _ _⟩
  by_cases hbig1 : 1048576 < len1
  · go_enter Try.func10, Try.ntmps10
    go_wp2_with fail
    go_ret
    exact ⟨rfl, Below.refl _ _⟩
  have h : Ints w a0 len0 (z0.take len0) := ints_of_row w0 (by omega)
  have h' : Ints w a1 len1 (z1.take len1) := ints_of_row w1 (by omega)
  clear w0 w1
  generalize z0.take len0 = xs at h
  generalize z1.take len1 = ys at h'
  go_enter Try.func10, Try.ntmps10
  go_wp2_with fail
  refine (toInt64S_any _ _ _ xs _ h).mono ?_
  rintro e v1 ⟨b1, n1, c1, rfl, ho1, hb1⟩
  have ht1 : Below w.heap.size w v1 := hb1
  go_wp2_with fail
  refine (toInt64S_any _ _ _ ys _ (h'.below ht1)).mono ?_
  rintro e v2 ⟨b2, n2, c2, rfl, ho2, hb2⟩
  have ht2 : Below w.heap.size w v2 := ht1.trans (hb2.mono ht1.size)
  go_wp2_with fail
  refine (specMulNat_any _ _ _ _ _ _ xs ys _ (ho1.below hb2).ints ho2.ints).mono ?_
  rintro e v3 ⟨b3, n3, c3, rfl, ho3, hb3⟩
  have ht3 : Below w.heap.size w v3 := ht2.trans (hb3.mono ht2.size)
  have K3 := Lib.hid (show ∀ g, (Value.slice b3 n3 c3).ownBlock = some g → g < v3.heap.size from fun g hg => (ho3.block g hg).2)
  clear ho1 ho2 hb1 hb2 hb3
  go_wp2_with fail
  refine (toInt64S_any _ _ _ xs _ (h.below ht3)).mono ?_
  rintro e v4 ⟨b4, n4, c4, rfl, ho4, hb4⟩
  have ht4 : Below w.heap.size w v4 := ht3.trans (hb4.mono ht3.size)
  have ho34 := ho3.below hb4
  have K4 := Lib.hid (show ∀ g, (Value.slice b4 n4 c4).ownBlock = some g → v3.heap.size ≤ g ∧ g < v4.heap.size from fun g hg => ho4.block g hg)
  have hs34 : v3.heap.size ≤ v4.heap.size := hb4.size
  clear ho3 hb4
  go_wp2_with fail
  refine (toInt64S_any _ _ _ ys _ (h'.below ht4)).mono ?_
  rintro e v5 ⟨b5, n5, c5, rfl, ho5, hb5⟩
  have ht5 : Below w.heap.size w v5 := ht4.trans (hb5.mono ht4.size)
  have ho35 := ho34.below hb5
  have ho45 := ho4.below hb5
  have K5 := Lib.hid (show ∀ g, (Value.slice b5 n5 c5).ownBlock = some g → v4.heap.size ≤ g ∧ g < v5.heap.size from fun g hg => ho5.block g hg)
  have hs45 : v4.heap.size ≤ v5.heap.size := hb5.size
  clear ho34 ho4 hb5
  go_wp2_with fail
  refine (mulNat_any _ _ _ _ _ _ xs ys _ ho45.ints ho5.ints).mono ?_
  rintro e v6 ⟨b6, n6, c6, rfl, ho6, hb6⟩
  have ht6 : Below w.heap.size w v6 := ht5.trans (hb6.mono ht5.size)
  have ho36 := ho35.below hb6
  have ho46 := ho45.below hb6
  have ho56 := ho5.below hb6
  have K6 := Lib.hid (show ∀ g, (Value.slice b6 n6 c6).ownBlock = some g → v5.heap.size ≤ g from fun g hg => (ho6.block g hg).1)
  have hn4 := ho46.2.1
  have hn5 := ho56.2.1
  have hn6 := ho6.2.1
  clear ho35 ho45 ho5 hb6
  obtain ⟨ok, HOK⟩ : ∃ ok, Hid (fitB xs ys (val xs * val ys) = ok) := ⟨_, rfl⟩
  obtain ⟨rs, HRS⟩ : ∃ rs, Hid (fitL xs ys (val xs * val ys) = rs) := ⟨_, rfl⟩
  rw [HOK.out]
  rw [HRS.out] at ho6 ho36
  go_wp2_with fail
  refine (eqInt64S_any _ _ _ _ _ _ rs rs _ ho6.ints ho36.ints).mono ?_
  rintro e v7 ⟨rfl, st7⟩
  rw [decide_eq_true rfl]
  have ht7 : Below w.heap.size w v7 := ht6.trans (Still.below st7 _)
  have ho37 := ho36.still st7
  have ho47 := ho46.still st7
  have ho57 := ho56.still st7
  have ho67 := ho6.still st7
  clear ho36 ho46 ho56 ho6 st7
  go_wp2_with fail
  refine (toInt64S_any _ _ _ xs _ (h.below ht7)).mono ?_
  rintro e v8 ⟨b8, n8, c8, rfl, ho8, hb8⟩
  have ht8 : Below w.heap.size w v8 := ht7.trans (hb8.mono ht7.size)
  go_wp2_with fail
  refine (eqInt64S_any _ _ _ _ _ _ xs xs _ (ho47.below hb8).ints ho8.ints).mono ?_
  rintro e v9 ⟨rfl, st9⟩
  rw [decide_eq_true rfl]
  have ht9 : Below w.heap.size w v9 := ht8.trans (Still.below st9 _)
  have ho39 := (ho37.below hb8).still st9
  have ho49 := (ho47.below hb8).still st9
  have ho59 := (ho57.below hb8).still st9
  have ho69 := (ho67.below hb8).still st9
  clear ho37 ho47 ho57 ho67 ho8 hb8 st9
  go_wp2_with fail
  refine (toInt64S_any _ _ _ ys _ (h'.below ht9)).mono ?_
  rintro e v10 ⟨b10, n10, c10, rfl, ho10, hb10⟩
  have ht10 : Below w.heap.size w v10 := ht9.trans (hb10.mono ht9.size)
  go_wp2_with fail
  refine (eqInt64S_any _ _ _ _ _ _ ys ys _ (ho59.below hb10).ints ho10.ints).mono ?_
  rintro e v11 ⟨rfl, st11⟩
  rw [decide_eq_true rfl]
  have ht11 : Below w.heap.size w v11 := ht10.trans (Still.below st11 _)
  have ho311 := (ho39.below hb10).still st11
  have ho411 := (ho49.below hb10).still st11
  have ho511 := (ho59.below hb10).still st11
  have ho611 := (ho69.below hb10).still st11
  clear ho39 ho49 ho59 ho69 ho10 hb10 st11
  go_wp2_with fail
  refine (markInt64S_any _ _ _ _ 1 _ _ ho411 (by omega)).mono ?_
  rintro e v12 ⟨rfl, ho412, hg12⟩
  have ht12 : Below w.heap.size w v12 := ht11.grown hg12 ht11.size (fun k hk => Nat.le_trans ht3.size (K4.out k hk).1)
  have ho312 := ho311.apart hg12 (K := v3.heap.size) K3.out (fun g hg => (K4.out g hg).1)
  have ho512 := ho511.other hg12 (fun g hg => (K4.out g hg).2)
  have ho612 := ho611.other hg12 (fun g hg => Nat.lt_of_lt_of_le (K4.out g hg).2 hs45)
  clear ho311 ho411 ho412 ho511 ho611 hg12
  go_wp2_with fail
  refine (markInt64S_any _ _ _ _ (1 + n4) _ _ ho512 (by omega)).mono ?_
  rintro e v13 ⟨rfl, ho513, hg13⟩
  have ht13 : Below w.heap.size w v13 := ht12.grown hg13 ht12.size (fun k hk => Nat.le_trans ht4.size (K5.out k hk).1)
  have ho313 := ho312.apart hg13 (K := v4.heap.size) (fun g hg => Nat.lt_of_lt_of_le (K3.out g hg) hs34) (fun g hg => (K5.out g hg).1)
  have ho613 := ho612.other hg13 (fun g hg => (K5.out g hg).2)
  clear ho312 ho512 ho513 ho612 hg13
  go_wp2_with fail
  refine (eqInt64S_any _ _ _ _ _ _ rs rs _ ho613.ints ho313.ints).mono ?_
  rintro e v14 ⟨rfl, st14⟩
  rw [decide_eq_true rfl]
  have ht14 : Below w.heap.size w v14 := ht13.trans (Still.below st14 _)
  have ho314 := ho313.still st14
  have ho614 := ho613.still st14
  clear ho313 ho613 st14
  go_wp2_with fail
  refine (markInt64S_any _ _ _ _ 1 _ _ ho614 (by omega)).mono ?_
  rintro e v15 ⟨rfl, ho615, hg15⟩
  have ht15 : Below w.heap.size w v15 := ht14.grown hg15 ht14.size (fun k hk => Nat.le_trans ht5.size (K6.out k hk))
  have ho315 := ho314.apart hg15 (K := v5.heap.size) (fun g hg => Nat.lt_of_lt_of_le (K3.out g hg) (Nat.le_trans hs34 hs45)) K6.out
  clear ho314 ho614 hg15
  go_wp2_with fail
  refine (heldInt64S_any _ _ _ 1 _ ho615.ints (by omega)).mono ?_
  rintro e v16 ⟨rfl, rfl⟩
  go_wp2_with fail
  refine (toInt64S_any _ _ _ xs _ (h.below ht15)).mono ?_
  rintro e v17 ⟨b17, n17, c17, rfl, ho17, hb17⟩
  have ht17 : Below w.heap.size w v17 := ht15.trans (hb17.mono ht15.size)
  have ho317 := ho315.below hb17
  have ho617 := ho615.below hb17
  clear ho315 ho615 hb17
  go_wp2_with fail
  refine (toInt64S_any _ _ _ ys _ (h'.below ht17)).mono ?_
  rintro e v18 ⟨b18, n18, c18, rfl, ho18, hb18⟩
  have ht18 : Below w.heap.size w v18 := ht17.trans (hb18.mono ht17.size)
  have ho318 := ho317.below hb18
  have ho618 := ho617.below hb18
  go_wp2_with fail
  refine (mulNat_any _ _ _ _ _ _ xs ys _ (ho17.below hb18).ints ho18.ints).mono ?_
  rintro e v19 ⟨b19, n19, c19, rfl, ho19, hb19⟩
  have ht19 : Below w.heap.size w v19 := ht18.trans (hb19.mono ht18.size)
  have ho319 := ho318.below hb19
  have ho619 := ho618.below hb19
  clear ho317 ho617 ho17 ho18 hb18 ho318 ho618 hb19
  rw [HOK.out]
  rw [HRS.out] at ho19
  go_wp2_with fail
  refine (eqInt64S_any _ _ _ _ _ _ rs rs _ ho19.ints ho319.ints).mono ?_
  rintro e v20 ⟨rfl, st20⟩
  rw [decide_eq_true rfl]
  have ht20 : Below w.heap.size w v20 := ht19.trans (Still.below st20 _)
  have ho620 := ho619.still st20
  go_wp2_with fail
  refine (heldInt64S_any _ _ _ 1 _ ho620.ints (by omega)).mono ?_
  rintro e v21 ⟨rfl, rfl⟩
  go_wp2_with fail
  go_ret
  exact ⟨rfl, ht20⟩

/-! ### THE ROW's STEP: WRITTEN OUT: LEAVE IT -/
set_option maxRecDepth 100000 in
theorem lifted (os : Os) (started : os.Started) (H : Type) (enc : TypeId × Value → H) :
    ReturnsInHanded {} Try.checked os 10 .any (Rows.fnExactMulNatSpec.pre6 enc Try.prog Try.f10 Rows.fnExactMulNatRow.domain false) (Rows.fnExactMulNatSpec.post enc Try.prog Try.f10 false true false false) := by
  refine returnsInHanded_of_change (C := Try.checked) own started (by kernel_rfl) Try.func10
    (ChangeSpec.witness6 (enc := enc) (C := Try.checked) false ⟨#[], #[.slice none 0 0, .slice none 0 0], []⟩ 8 (by kernel_rfl) (by kernel_rfl) (by kernel_rfl) (by kernel_rfl)) ?_
  intro W base args ds gs before hval0 hW hcnd _
  have hval : ∀ (j : Nat) t v, Try.f10.params[j]? = some t → args[j]? = some v → Value.okWide Try.prog W .any base t v := hval0
  have hW' := hW
  obtain ⟨p, q, hA0, hV, rfl, hfz, hnd⟩ := hW
  have hA : DataW.TrodAll enc Try.prog W 0 (fun _ => true) true Try.f10.params.toList args.toList ds p := hA0
  rw [Try.params10] at hA hval
  obtain ⟨v0, vs0, d0, ds0, p0, q0, hargs, rfl, rfl, h0, r0⟩ := trodAll_cons hA
  obtain ⟨v1, vs1, d1, ds1, p1, q1, rfl, rfl, rfl, h1, r1⟩ := trodAll_cons r0
  obtain ⟨rfl, rfl, rfl⟩ := trodAll_nil r1
  obtain rfl : args = #[v0, v1] := by cases args; simp_all
  obtain ⟨rfl, rfl⟩ := trodVars_none hV
  obtain ⟨a0, len0, cap0, rfl⟩ := okWide_slice Try.underlying24 (hval 0 24 v0 rfl rfl)
  have k0 := h0
  have lt0 : ∀ x ∈ p0, x.block < W.heap.size := by obtain ⟨m, hm⟩ := k0; exact DataW.trod_lt m _ _ _ hm
  obtain ⟨z0, w0⟩ : ∃ zs, IsRow .i64 W a0 len0 cap0 zs := by
    obtain ⟨fuel, hf⟩ := h0
    rcases open_ints Try.underlying24 Try.underlying2 (by kernel_rfl) hf with ⟨hcs, _⟩ | ⟨x, l, c, zs, hcs, _, hl, hm, hz, _, hcell, hwz⟩
    · simp [Value.cells] at hcs
      obtain ⟨rfl, rfl, rfl⟩ := hcs
      exact ⟨[], .inl ⟨rfl, rfl, rfl, rfl⟩⟩
    · simp [Value.cells] at hcs
      obtain ⟨rfl, rfl, rfl⟩ := hcs
      exact ⟨zs, .inr ⟨_, rfl, hl, hm, by simpa using hz, hcell, hwz⟩⟩
  obtain ⟨a1, len1, cap1, rfl⟩ := okWide_slice Try.underlying24 (hval 1 24 v1 rfl rfl)
  have k1 := h1
  have lt1 : ∀ x ∈ p1, x.block < W.heap.size := by obtain ⟨m, hm⟩ := k1; exact DataW.trod_lt m _ _ _ hm
  obtain ⟨z1, w1⟩ : ∃ zs, IsRow .i64 W a1 len1 cap1 zs := by
    obtain ⟨fuel, hf⟩ := h1
    rcases open_ints Try.underlying24 Try.underlying2 (by kernel_rfl) hf with ⟨hcs, _⟩ | ⟨x, l, c, zs, hcs, _, hl, hm, hz, _, hcell, hwz⟩
    · simp [Value.cells] at hcs
      obtain ⟨rfl, rfl, rfl⟩ := hcs
      exact ⟨[], .inl ⟨rfl, rfl, rfl, rfl⟩⟩
    · simp [Value.cells] at hcs
      obtain ⟨rfl, rfl, rfl⟩ := hcs
      exact ⟨zs, .inr ⟨_, rfl, hl, hm, by simpa using hz, hcell, hwz⟩⟩
  clear hA0 hval0
  refine (walk a0 len0 cap0 z0 a1 len1 cap1 z1 W w0 w1).mono fun e W' ⟨he, bel⟩ => ?_
  subst he
  exact ⟨_, rfl, _, _, _, [], _, [], hW', trodAll_mk1 (shut_bool Try.underlying4 _), (trodAll_cons_mk (Below.trod laidOut (by kernel_rfl) (of_decide_eq_true (by kernel_rfl)) k0 bel lt0) (trodAll_cons_mk (Below.trod laidOut (by kernel_rfl) (of_decide_eq_true (by kernel_rfl)) k1 bel lt1) trodAll_mk0)), rfl, bel.frame _, fun h => by cases h⟩

theorem over : Rows.fnExactMulNatRow.holds Try.pinned (OpenSpec.ofChange Rows.fnExactMulNatSpec) :=
  OpenClaim.holds_of_wide 10 Try.f10 rfl rfl rfl rfl rfl rfl rfl ⟨rfl, rfl, rfl, rfl, rfl⟩ rfl rfl rfl rfl rfl (by kernel_rfl) Try.func10 (by kernel_rfl)
    (of_decide_eq_true (by kernel_rfl)) (by unfold Func.isWrapper; first | (rw [if_pos (by decide +kernel)]; kernel_rfl) | (rw [if_neg (by decide +kernel)]; exact ⟨rfl, rfl⟩))
    (fun os started H enc _ => lifted os started H enc)

/-- ████ THE STATEMENT ████ -/
theorem proved : Rows.FnExactMulNatSaid := over
#print axioms proved
end Go.Proofs.Ytnbeofnafdljhaa.fnExactMulNat
