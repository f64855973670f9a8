/- For every code, of three drawn great numbers: a product of a sum is the sum of the products, wherever all of these are great numbers. Conditions: none beyond the given row. (The frame round the walk is the guide's own shell, by program.) -/
import Derived.Test.YtnbeofnafdljhaaRows
import Derived.Test.YtnbeofnafdljhaaSumsMath
import Derived.Test.YtnbeofnafdljhaaMulNat
import Derived.WalkKit
import Derived.ProofKit
import Derived.OpenShut
import Derived.ShutString
import Derived.ChangeOld
import Derived.Below
namespace Go.Proofs.Ytnbeofnafdljhaa.fnNatTimes
open Go.ChangeShapes Go.WideShapes Go.ChangeAt Go.RowKit
open Go.ChangeMaps (open_string shut_string)
set_option linter.unusedVariables false

theorem own : ownKnob Try.prog.godebug = none := by kernel_rfl
theorem laidOut : laidOutB Try.prog = true := by kernel_rfl

/-- WHAT THE WALK IS TOLD OF A SLICE OF INTEGERS THAT CAME IN: it is nil; or it leads to a row of 'cap' cells, the numbers 'zs' (the first 'len' are its elements, the rest its spare room), each fitting its kind. -/
def IsRow (k : IntKind) (w : World) (a : Option Addr) (len cap : Nat) (zs : List Int) : Prop :=
  (a = none ∧ len = 0 ∧ cap = 0 ∧ zs = []) ∨
  ∃ x, a = some x ∧ len ≤ cap ∧ cap ≤ maxLen ∧ zs.length = cap ∧ (∀ i, i < zs.length → w.cell? (x.add i) = some (.int k (zs.getD i 0))) ∧ ∀ n ∈ zs, (Lit.int k n).wf = true

/-! ### STEP 1: THE WALK: the Go text returns true, AND WRITES NOTHING THAT WAS THERE: 'Below w.heap.size w w'' (Derived/Below.lean: '.refl', '.alloc', '.drew', '.setCell' at a new block, '.trans'). Open each 'IsRow' by 'rcases' AHEAD of 'go_enter'; part every test ahead of the walk. -/
theorem walk (a0 : Option Addr) (len0 cap0 : Nat) (z0 : List Int) (w : World) (w0 : IsRow .u8 w a0 len0 cap0 z0) :
    Calls Try.prog 4 #[.slice a0 len0 cap0] w fun e w' => e = .returned (.bool true) ∧ Below w.heap.size w w' := by
  by_cases hbig : 4096 < len0
  · go_enter Try.func4, Try.ntmps4
    go_wp2_with (go_at_call 14; refine (big_any _ _ _ _).mono ?_; rintro e w1 ⟨rfl, rfl⟩; rw [decide_eq_true hbig])
    go_ret
    exact ⟨rfl, Below.refl _ _⟩
  have hcode := code_of_row w0 (by omega)
  clear w0
  go_enter Try.func4, Try.ntmps4
  go_wp2_with fail
  refine (big_any _ _ _ _).mono ?_
  rintro e w1 ⟨rfl, rfl⟩
  rw [decide_eq_false hbig]
  go_wp2_with fail
  refine (drawMulNat_any _ _ _ _ hcode).mono ?_
  rintro e w1 ⟨a, n, c, xs, b, m, d, ys, rfl, hn, hm, hx, hy, ht1⟩
  have hcode1 : CodeAt w1 w1.heap.size a0 len0 := (hcode.below ht1).up ht1.size
  go_wp2_with fail
  refine (drawCmpNat_any _ _ _ _ hcode1).mono ?_
  rintro e w2 ⟨a2, n2, c2, zs, b2, m2, d2, us, rfl, hn2, hm2, hz, hu, hb2⟩
  have ht2 := ht1.trans (hb2.mono ht1.size)
  have hx2 := hx.below hb2
  have hy2 := hy.below hb2
  clear hb2 hx hy hu hcode hcode1
  go_wp2_with fail
  refine (mulNat_any _ _ _ _ _ _ xs ys _ hx2 hy2).mono ?_
  rintro e w3 ⟨a3, n3, c3, rfl, ho3, hb3⟩
  have ht3 := ht2.trans (hb3.mono ht2.size)
  have hx3 := hx2.below hb3
  have hy3 := hy2.below hb3
  have hz3 := hz.below hb3
  clear hb3 hx2 hy2 hz
  go_wp2_with fail
  refine (specMulNat_any _ _ _ _ _ _ xs ys _ hx3 hy3).mono ?_
  rintro e w4 ⟨a4, n4, c4, rfl, ho4, hb4⟩
  have ht4 := ht3.trans (hb4.mono ht3.size)
  have hx4 := hx3.below hb4
  have hy4 := hy3.below hb4
  have hz4 := hz3.below hb4
  have ho34 := ho3.below hb4
  clear hb4 hx3 hy3 hz3 ho3
  obtain ⟨k1, K1⟩ : ∃ k, Hid (fitB xs ys (val xs * val ys) = k) := ⟨_, rfl⟩
  rw [K1.out]
  go_wp2_with fail
  refine (likeInts_any _ _ _ _ _ _ _ _ _ ho34.ints ho4.ints).mono ?_
  rintro e w5 ⟨rfl, st5⟩
  rw [decide_eq_true rfl]
  have ht5 := ht4.trans (st5.below _)
  have hx5 := hx4.still st5
  have hy5 := hy4.still st5
  have hz5 := hz4.still st5
  have ho35 := ho34.still st5
  clear ho34 ho4 hx4 hy4 hz4 st5
  go_wp2_with fail
  refine (addNat_any _ _ _ _ _ _ ys zs _ hy5 hz5).mono ?_
  rintro e w6 ⟨a6, n6, c6, rfl, ho6, hb6⟩
  obtain ⟨k2, K2⟩ : ∃ k, Hid (fitB ys zs (val ys + val zs) = k) := ⟨_, rfl⟩
  rw [K2.out]
  obtain ⟨s, HS⟩ : ∃ s, Hid (fitL ys zs (val ys + val zs) = s) := ⟨_, rfl⟩
  rw [HS.out] at ho6
  have ht6 := ht5.trans (hb6.mono ht5.size)
  have hx6 := hx5.below hb6
  have hz6 := hz5.below hb6
  have ho36 := ho35.below hb6
  clear hb6 hx5 hy5 hz5 ho35
  go_wp2_with fail
  refine (mulNat_any _ _ _ _ _ _ xs s _ hx6 ho6.ints).mono ?_
  rintro e w7 ⟨a7, n7, c7, rfl, ho7, hb7⟩
  obtain ⟨k3, K3⟩ : ∃ k, Hid (fitB xs s (val xs * val s) = k) := ⟨_, rfl⟩
  rw [K3.out]
  have ht7 := ht6.trans (hb7.mono ht6.size)
  have hx7 := hx6.below hb7
  have hz7 := hz6.below hb7
  have ho37 := ho36.below hb7
  clear hb7 hx6 hz6 ho36 ho6
  go_wp2_with fail
  refine (mulNat_any _ _ _ _ _ _ xs zs _ hx7 hz7).mono ?_
  rintro e w8 ⟨a8, n8, c8, rfl, ho8, hb8⟩
  obtain ⟨k4, K4⟩ : ∃ k, Hid (fitB xs zs (val xs * val zs) = k) := ⟨_, rfl⟩
  rw [K4.out]
  have ht8 := ht7.trans (hb8.mono ht7.size)
  have ho38 := ho37.below hb8
  have ho78 := ho7.below hb8
  clear hb8 hx7 hz7 ho37 ho7
  cases k1 with
  | false =>
    go_wp2_with fail
    go_ret
    exact ⟨rfl, ht8⟩
  | true =>
  cases k2 with
  | false =>
    go_wp2_with fail
    go_ret
    exact ⟨rfl, ht8⟩
  | true =>
  cases k3 with
  | false =>
    go_wp2_with fail
    go_ret
    exact ⟨rfl, ht8⟩
  | true =>
  cases k4 with
  | false =>
    go_wp2_with fail
    go_ret
    exact ⟨rfl, ht8⟩
  | true =>
  have M := Lib.hid (times_sum K1.out K2.out HS.out K3.out K4.out)
  rw [M.out.1] at ho38
  rw [M.out.2.1] at ho78
  rw [M.out.2.2.1] at ho8
  go_wp2_with fail
  refine (addNat_any _ _ _ _ _ _ _ _ _ ho38.ints ho8.ints).mono ?_
  rintro e w9 ⟨a9, n9, c9, rfl, ho9, hb9⟩
  rw [M.out.2.2.2.1]
  rw [M.out.2.2.2.2.1] at ho9
  have ht9 := ht8.trans (hb9.mono ht8.size)
  have ho79 := ho78.below hb9
  clear ho38 ho78 ho8 hb9
  go_wp2_with fail
  refine (likeInts_any _ _ _ _ _ _ _ _ _ ho79.ints ho9.ints).mono ?_
  rintro e w10 ⟨rfl, st10⟩
  rw [decide_eq_true rfl]
  have ht10 := ht9.trans (st10.below _)
  have ho710 := ho79.still st10
  clear ho79 ho9 st10
  go_wp2_with fail
  refine (natOk_any _ _ _ _ _ ho710.ints).mono ?_
  rintro e w11 ⟨rfl, rfl⟩
  rw [M.out.2.2.2.2.2]
  go_wp2_with fail
  go_ret
  exact ⟨rfl, ht10⟩

/-! ### THE ROW's STEP: WRITTEN OUT: LEAVE IT -/
set_option maxRecDepth 100000 in
theorem lifted (os : Os) (started : os.Started) (H : Type) (enc : TypeId × Value → H) :
    ReturnsInHanded {} Try.checked os 4 .any (Rows.fnNatTimesSpec.pre6 enc Try.prog Try.f4 Rows.fnNatTimesRow.domain false) (Rows.fnNatTimesSpec.post enc Try.prog Try.f4 false true false false) := by
  refine returnsInHanded_of_change (C := Try.checked) own started (by kernel_rfl) Try.func4
    (ChangeSpec.witness6 (enc := enc) (C := Try.checked) false ⟨#[], #[.slice none 0 0], []⟩ 8 (by kernel_rfl) (by kernel_rfl) (by kernel_rfl) (by kernel_rfl)) ?_
  intro W base args ds gs before hval0 hW hcnd _
  have hval : ∀ (j : Nat) t v, Try.f4.params[j]? = some t → args[j]? = some v → Value.okWide Try.prog W .any base t v := hval0
  have hW' := hW
  obtain ⟨p, q, hA0, hV, rfl, hfz, hnd⟩ := hW
  have hA : DataW.TrodAll enc Try.prog W 0 (fun _ => true) true Try.f4.params.toList args.toList ds p := hA0
  rw [Try.params4] at hA hval
  obtain ⟨v0, vs0, d0, ds0, p0, q0, hargs, rfl, rfl, h0, r0⟩ := trodAll_cons hA
  obtain ⟨rfl, rfl, rfl⟩ := trodAll_nil r0
  obtain rfl : args = #[v0] := by cases args; simp_all
  obtain ⟨rfl, rfl⟩ := trodVars_none hV
  obtain ⟨a0, len0, cap0, rfl⟩ := okWide_slice Try.underlying22 (hval 0 22 v0 rfl rfl)
  have k0 := h0
  have lt0 : ∀ x ∈ p0, x.block < W.heap.size := by obtain ⟨m, hm⟩ := k0; exact DataW.trod_lt m _ _ _ hm
  obtain ⟨z0, w0⟩ : ∃ zs, IsRow .u8 W a0 len0 cap0 zs := by
    obtain ⟨fuel, hf⟩ := h0
    rcases open_ints Try.underlying22 Try.underlying5 (by kernel_rfl) hf with ⟨hcs, _⟩ | ⟨x, l, c, zs, hcs, _, hl, hm, hz, _, hcell, hwz⟩
    · simp [Value.cells] at hcs
      obtain ⟨rfl, rfl, rfl⟩ := hcs
      exact ⟨[], .inl ⟨rfl, rfl, rfl, rfl⟩⟩
    · simp [Value.cells] at hcs
      obtain ⟨rfl, rfl, rfl⟩ := hcs
      exact ⟨zs, .inr ⟨_, rfl, hl, hm, by simpa using hz, hcell, hwz⟩⟩
  clear hA0 hval0
  refine (walk a0 len0 cap0 z0 W w0).mono fun e W' ⟨he, bel⟩ => ?_
  subst he
  exact ⟨_, rfl, _, _, _, [], _, [], hW', trodAll_mk1 (shut_bool Try.underlying4 _), (trodAll_cons_mk (Below.trod laidOut (by kernel_rfl) (of_decide_eq_true (by kernel_rfl)) k0 bel lt0) trodAll_mk0), rfl, bel.frame _, fun h => by cases h⟩

theorem over : Rows.fnNatTimesRow.holds Try.pinned (OpenSpec.ofChange Rows.fnNatTimesSpec) :=
  OpenClaim.holds_of_wide 4 Try.f4 rfl rfl rfl rfl rfl rfl rfl ⟨rfl, rfl, rfl, rfl, rfl⟩ rfl rfl rfl rfl rfl (by kernel_rfl) Try.func4 (by kernel_rfl)
    (of_decide_eq_true (by kernel_rfl)) (by unfold Func.isWrapper; first | (rw [if_pos (by decide +kernel)]; kernel_rfl) | (rw [if_neg (by decide +kernel)]; exact ⟨rfl, rfl⟩))
    (fun os started H enc _ => lifted os started H enc)

/-- ████ THE STATEMENT ████ -/
theorem proved : Rows.FnNatTimesSaid := over
#print axioms proved
end Go.Proofs.Ytnbeofnafdljhaa.fnNatTimes
