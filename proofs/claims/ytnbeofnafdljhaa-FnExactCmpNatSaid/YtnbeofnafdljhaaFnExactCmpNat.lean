/- For every two slices of numbers, the program's CmpNat answers as the model's, and leaves its arguments as they were. Conditions: none beyond the given row. (The frame round the walk is the guide's own shell, by program.) -/
import Derived.Test.YtnbeofnafdljhaaRows
import Derived.Test.YtnbeofnafdljhaaCmp
import Derived.Test.YtnbeofnafdljhaaCopies
import Derived.WalkKit
import Derived.ProofKit
import Derived.OpenShut
import Derived.ShutString
import Derived.ChangeOld
import Derived.Below
namespace Go.Proofs.Ytnbeofnafdljhaa.fnExactCmpNat
open Go.ChangeShapes Go.WideShapes Go.ChangeAt Go.RowKit
open Go.ChangeMaps (open_string shut_string)
set_option linter.unusedVariables false

theorem own : ownKnob Try.prog.godebug = none := by kernel_rfl
theorem laidOut : laidOutB Try.prog = true := by kernel_rfl

/-- WHAT THE WALK IS TOLD OF A SLICE OF INTEGERS THAT CAME IN: it is nil; or it leads to a row of 'cap' cells, the numbers 'zs' (the first 'len' are its elements, the rest its spare room), each fitting its kind. -/
def IsRow (k : IntKind) (w : World) (a : Option Addr) (len cap : Nat) (zs : List Int) : Prop :=
  (a = none ∧ len = 0 ∧ cap = 0 ∧ zs = []) ∨
  ∃ x, a = some x ∧ len ≤ cap ∧ cap ≤ maxLen ∧ zs.length = cap ∧ (∀ i, i < zs.length → w.cell? (x.add i) = some (.int k (zs.getD i 0))) ∧ ∀ n ∈ zs, (Lit.int k n).wf = true

/-! ### STEP 1: THE WALK: the Go text returns true, AND WRITES NOTHING THAT WAS THERE: 'Below w.heap.size w w'' (Derived/Below.lean: '.refl', '.alloc', '.drew', '.setCell' at a new block, '.trans'). Open each 'IsRow' by 'rcases' AHEAD of 'go_enter'; part every test ahead of the walk. -/
theorem walk (a0 : Option Addr) (len0 cap0 : Nat) (z0 : List Int) (a1 : Option Addr) (len1 cap1 : Nat) (z1 : List Int) (w : World) (w0 : IsRow .i64 w a0 len0 cap0 z0) (w1 : IsRow .i64 w a1 len1 cap1 z1) :
    Calls Try.prog 11 #[.slice a0 len0 cap0, .slice a1 len1 cap1] w fun e w' => e = .returned (.bool true) ∧ Below w.heap.size w w' := by
  by_cases hbig : 1048576 < len0
  · go_enter Try.func11, Try.ntmps11
    go_wp2_with fail
    go_ret
    exact ⟨rfl, Below.refl _ _⟩
  by_cases hbig1 : 1048576 < len1
  · go_enter Try.func11, Try.ntmps11
    go_wp2_with fail
    go_ret
    exact ⟨rfl, Below.refl _ _⟩
  have h : Ints w a0 len0 (z0.take len0) := ints_of_row w0 (by omega)
  have h' : Ints w a1 len1 (z1.take len1) := ints_of_row w1 (by omega)
  clear w0 w1
  generalize z0.take len0 = xs at h
  generalize z1.take len1 = ys at h'
  go_enter Try.func11, Try.ntmps11
  go_wp2_with fail
  refine (toInt64S_any _ _ _ xs _ h).mono ?_
  rintro e v1 ⟨b1, n1, c1, rfl, ho1, hb1⟩
  have ht1 : Below w.heap.size w v1 := hb1
  go_wp2_with fail
  refine (toInt64S_any _ _ _ ys _ (h'.below ht1)).mono ?_
  rintro e v2 ⟨b2, n2, c2, rfl, ho2, hb2⟩
  have ht2 : Below w.heap.size w v2 := ht1.trans (hb2.mono ht1.size)
  go_wp2_with fail
  refine (specCmpNat_any _ _ _ _ _ _ xs ys _ (ho1.below hb2).ints ho2.ints).mono ?_
  rintro e v3 ⟨rfl, rfl⟩
  clear ho1 ho2 hb1 hb2
  go_wp2_with fail
  refine (toInt64S_any _ _ _ xs _ (h.below ht2)).mono ?_
  rintro e v3 ⟨b3, n3, c3, rfl, ho3, hb3⟩
  have ht3 : Below w.heap.size w v3 := ht2.trans (hb3.mono ht2.size)
  go_wp2_with fail
  refine (toInt64S_any _ _ _ ys _ (h'.below ht3)).mono ?_
  rintro e v4 ⟨b4, n4, c4, rfl, ho4, hb4⟩
  have ht4 : Below w.heap.size w v4 := ht3.trans (hb4.mono ht3.size)
  have ho3' := ho3.below hb4
  go_wp2_with fail
  refine (cmpNat_any _ _ _ _ _ _ xs ys _ ho3'.ints ho4.ints).mono ?_
  rintro e v5 ⟨rfl, hst⟩
  have ht5 : Below w.heap.size w v5 := ht4.trans (hst.below _)
  have ho3'' := ho3'.still hst
  have ho4' := ho4.still hst
  clear ho3 ho3' ho4 hb3 hb4 hst
  generalize cmpB xs ys = q
  go_wp2_with fail
  refine (toInt64S_any _ _ _ xs _ (h.below ht5)).mono ?_
  rintro e v6 ⟨b6, n6, c6, rfl, ho6, hb6⟩
  have ht6 : Below w.heap.size w v6 := ht5.trans (hb6.mono ht5.size)
  go_wp2_with fail
  refine (eqInt64S_any _ _ _ _ _ _ xs xs _ (ho3''.below hb6).ints ho6.ints).mono ?_
  rintro e v7 ⟨rfl, hst7⟩
  have ht7 : Below w.heap.size w v7 := ht6.trans (Still.below hst7 _)
  have ho4'' := (ho4'.below hb6).still hst7
  clear ho3'' ho6 hb6 hst7 ho4'
  rw [decide_eq_true rfl]
  go_wp2_with fail
  refine (toInt64S_any _ _ _ ys _ (h'.below ht7)).mono ?_
  rintro e v8 ⟨b8, n8, c8, rfl, ho8, hb8⟩
  have ht8 : Below w.heap.size w v8 := ht7.trans (hb8.mono ht7.size)
  go_wp2_with fail
  refine (eqInt64S_any _ _ _ _ _ _ ys ys _ (ho4''.below hb8).ints ho8.ints).mono ?_
  rintro e v9 ⟨rfl, hst9⟩
  rw [decide_eq_true rfl]
  go_wp2_with fail
  go_ret
  exact ⟨rfl, ht8.trans (Still.below hst9 _)⟩

/-! ### THE ROW's STEP: WRITTEN OUT: LEAVE IT -/
set_option maxRecDepth 100000 in
theorem lifted (os : Os) (started : os.Started) (H : Type) (enc : TypeId × Value → H) :
    ReturnsInHanded {} Try.checked os 11 .any (Rows.fnExactCmpNatSpec.pre6 enc Try.prog Try.f11 Rows.fnExactCmpNatRow.domain false) (Rows.fnExactCmpNatSpec.post enc Try.prog Try.f11 false true false false) := by
  refine returnsInHanded_of_change (C := Try.checked) own started (by kernel_rfl) Try.func11
    (ChangeSpec.witness6 (enc := enc) (C := Try.checked) false ⟨#[], #[.slice none 0 0, .slice none 0 0], []⟩ 8 (by kernel_rfl) (by kernel_rfl) (by kernel_rfl) (by kernel_rfl)) ?_
  intro W base args ds gs before hval0 hW hcnd _
  have hval : ∀ (j : Nat) t v, Try.f11.params[j]? = some t → args[j]? = some v → Value.okWide Try.prog W .any base t v := hval0
  have hW' := hW
  obtain ⟨p, q, hA0, hV, rfl, hfz, hnd⟩ := hW
  have hA : DataW.TrodAll enc Try.prog W 0 (fun _ => true) true Try.f11.params.toList args.toList ds p := hA0
  rw [Try.params11] at hA hval
  obtain ⟨v0, vs0, d0, ds0, p0, q0, hargs, rfl, rfl, h0, r0⟩ := trodAll_cons hA
  obtain ⟨v1, vs1, d1, ds1, p1, q1, rfl, rfl, rfl, h1, r1⟩ := trodAll_cons r0
  obtain ⟨rfl, rfl, rfl⟩ := trodAll_nil r1
  obtain rfl : args = #[v0, v1] := by cases args; simp_all
  obtain ⟨rfl, rfl⟩ := trodVars_none hV
  obtain ⟨a0, len0, cap0, rfl⟩ := okWide_slice Try.underlying24 (hval 0 24 v0 rfl rfl)
  have k0 := h0
  have lt0 : ∀ x ∈ p0, x.block < W.heap.size := by obtain ⟨m, hm⟩ := k0; exact DataW.trod_lt m _ _ _ hm
  obtain ⟨z0, w0⟩ : ∃ zs, IsRow .i64 W a0 len0 cap0 zs := by
    obtain ⟨fuel, hf⟩ := h0
    rcases open_ints Try.underlying24 Try.underlying2 (by kernel_rfl) hf with ⟨hcs, _⟩ | ⟨x, l, c, zs, hcs, _, hl, hm, hz, _, hcell, hwz⟩
    · simp [Value.cells] at hcs
      obtain ⟨rfl, rfl, rfl⟩ := hcs
      exact ⟨[], .inl ⟨rfl, rfl, rfl, rfl⟩⟩
    · simp [Value.cells] at hcs
      obtain ⟨rfl, rfl, rfl⟩ := hcs
      exact ⟨zs, .inr ⟨_, rfl, hl, hm, by simpa using hz, hcell, hwz⟩⟩
  obtain ⟨a1, len1, cap1, rfl⟩ := okWide_slice Try.underlying24 (hval 1 24 v1 rfl rfl)
  have k1 := h1
  have lt1 : ∀ x ∈ p1, x.block < W.heap.size := by obtain ⟨m, hm⟩ := k1; exact DataW.trod_lt m _ _ _ hm
  obtain ⟨z1, w1⟩ : ∃ zs, IsRow .i64 W a1 len1 cap1 zs := by
    obtain ⟨fuel, hf⟩ := h1
    rcases open_ints Try.underlying24 Try.underlying2 (by kernel_rfl) hf with ⟨hcs, _⟩ | ⟨x, l, c, zs, hcs, _, hl, hm, hz, _, hcell, hwz⟩
    · simp [Value.cells] at hcs
      obtain ⟨rfl, rfl, rfl⟩ := hcs
      exact ⟨[], .inl ⟨rfl, rfl, rfl, rfl⟩⟩
    · simp [Value.cells] at hcs
      obtain ⟨rfl, rfl, rfl⟩ := hcs
      exact ⟨zs, .inr ⟨_, rfl, hl, hm, by simpa using hz, hcell, hwz⟩⟩
  clear hA0 hval0
  refine (walk a0 len0 cap0 z0 a1 len1 cap1 z1 W w0 w1).mono fun e W' ⟨he, bel⟩ => ?_
  subst he
  exact ⟨_, rfl, _, _, _, [], _, [], hW', trodAll_mk1 (shut_bool Try.underlying4 _), (trodAll_cons_mk (Below.trod laidOut (by kernel_rfl) (of_decide_eq_true (by kernel_rfl)) k0 bel lt0) (trodAll_cons_mk (Below.trod laidOut (by kernel_rfl) (of_decide_eq_true (by kernel_rfl)) k1 bel lt1) trodAll_mk0)), rfl, bel.frame _, fun h => by cases h⟩

theorem over : Rows.fnExactCmpNatRow.holds Try.pinned (OpenSpec.ofChange Rows.fnExactCmpNatSpec) :=
  OpenClaim.holds_of_wide 11 Try.f11 rfl rfl rfl rfl rfl rfl rfl ⟨rfl, rfl, rfl, rfl, rfl⟩ rfl rfl rfl rfl rfl (by kernel_rfl) Try.func11 (by kernel_rfl)
    (of_decide_eq_true (by kernel_rfl)) (by unfold Func.isWrapper; first | (rw [if_pos (by decide +kernel)]; kernel_rfl) | (rw [if_neg (by decide +kernel)]; exact ⟨rfl, rfl⟩))
    (fun os started H enc _ => lifted os started H enc)

/-- ████ THE STATEMENT ████ -/
theorem proved : Rows.FnExactCmpNatSaid := over
#print axioms proved
end Go.Proofs.Ytnbeofnafdljhaa.fnExactCmpNat
