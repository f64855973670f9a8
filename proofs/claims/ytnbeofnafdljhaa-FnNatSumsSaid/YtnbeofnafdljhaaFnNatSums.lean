/- For every code, of two drawn great numbers: the sum less one is the other one; sums go either way round; comparisons agree. Conditions: none beyond the given row. (The frame round the walk is the guide's own shell, by program.) -/
import Derived.Test.YtnbeofnafdljhaaRows
import Derived.Test.YtnbeofnafdljhaaSumsMath
import Derived.WalkKit
import Derived.ProofKit
import Derived.OpenShut
import Derived.ShutString
import Derived.ChangeOld
import Derived.Below
namespace Go.Proofs.Ytnbeofnafdljhaa.fnNatSums
open Go.ChangeShapes Go.WideShapes Go.ChangeAt Go.RowKit
open Go.ChangeMaps (open_string shut_string)
set_option linter.unusedVariables false

theorem own : ownKnob Try.prog.godebug = none := by kernel_rfl
theorem laidOut : laidOutB Try.prog = true := by kernel_rfl

/-- WHAT THE WALK IS TOLD OF A SLICE OF INTEGERS THAT CAME IN: it is nil; or it leads to a row of 'cap' cells, the numbers 'zs' (the first 'len' are its elements, the rest its spare room), each fitting its kind. -/
def IsRow (k : IntKind) (w : World) (a : Option Addr) (len cap : Nat) (zs : List Int) : Prop :=
  (a = none ∧ len = 0 ∧ cap = 0 ∧ zs = []) ∨
  ∃ x, a = some x ∧ len ≤ cap ∧ cap ≤ maxLen ∧ zs.length = cap ∧ (∀ i, i < zs.length → w.cell? (x.add i) = some (.int k (zs.getD i 0))) ∧ ∀ n ∈ zs, (Lit.int k n).wf = true

/-! ### STEP 1: THE WALK: the Go text returns true, AND WRITES NOTHING THAT WAS THERE: 'Below w.heap.size w w'' (Derived/Below.lean: '.refl', '.alloc', '.drew', '.setCell' at a new block, '.trans'). Open each 'IsRow' by 'rcases' AHEAD of 'go_enter'; part every test ahead of the walk. -/
theorem walk (a0 : Option Addr) (len0 cap0 : Nat) (z0 : List Int) (w : World) (w0 : IsRow .u8 w a0 len0 cap0 z0) :
    Calls Try.prog 3 #[.slice a0 len0 cap0] w fun e w' => e = .returned (.bool true) ∧ Below w.heap.size w w' := by
  by_cases hbig : 4096 < len0
  · go_enter Try.func3, Try.ntmps3
    go_wp2_with (go_at_call 14; refine (big_any _ _ _ _).mono ?_; rintro e w1 ⟨rfl, rfl⟩; rw [decide_eq_true hbig])
    go_ret
    exact ⟨rfl, Below.refl _ _⟩
  have hcode := code_of_row w0 (by omega)
  clear w0
  go_enter Try.func3, Try.ntmps3
  go_wp2_with fail
  refine (big_any _ _ _ _).mono ?_
  rintro e w1 ⟨rfl, rfl⟩
  rw [decide_eq_false hbig]
  go_wp2_with fail
  refine (drawAddNat_any _ _ _ _ hcode).mono ?_
  rintro e w1 ⟨a, n, c, xs, b, m, d, ys, rfl, hn, hm, hx, hy, ht1⟩
  have HL := Lib.hid hx.1
  go_wp2_with fail
  refine (addNat_any _ _ _ _ _ _ xs ys _ hx hy).mono ?_
  rintro e w2 ⟨a2, n2, c2, rfl, ho2, hb2⟩
  have ht2 := ht1.trans (hb2.mono ht1.size)
  have hx2 := hx.below hb2
  have hy2 := hy.below hb2
  clear hb2 hx hy
  go_wp2_with fail
  refine (addNat_any _ _ _ _ _ _ ys xs _ hy2 hx2).mono ?_
  rintro e w3 ⟨a3, n3, c3, rfl, ho3, hb3⟩
  have ht3 := ht2.trans (hb3.mono ht2.size)
  have hx3 := hx2.below hb3
  have hy3 := hy2.below hb3
  have ho23 := ho2.below hb3
  clear hb3 hx2 hy2 ho2
  rw [Nat.add_comm (val ys), fitB_comm]
  rw [Nat.add_comm (val ys), fitL_comm] at ho3
  go_wp2_with fail
  refine (specAddNat_any _ _ _ _ _ _ xs ys _ hx3 hy3).mono ?_
  rintro e w4 ⟨a4, n4, c4, rfl, ho4, hb4⟩
  have ht4 := ht3.trans (hb4.mono ht3.size)
  have hx4 := hx3.below hb4
  have hy4 := hy3.below hb4
  have ho24 := ho23.below hb4
  have ho34 := ho3.below hb4
  clear hb4 hx3 hy3 ho23 ho3 ho4
  obtain ⟨ok, HOK⟩ : ∃ ok, Hid (fitB xs ys (val xs + val ys) = ok) := ⟨_, rfl⟩
  rw [HOK.out]
  go_wp2_with fail
  refine (likeInts_any _ _ _ _ _ _ _ _ _ ho24.ints ho34.ints).mono ?_
  rintro e w5 ⟨rfl, st5⟩
  rw [decide_eq_true rfl]
  have ht5 := ht4.trans (st5.below _)
  have hx5 := hx4.still st5
  have hy5 := hy4.still st5
  have ho25 := ho24.still st5
  clear ho24 ho34 hx4 hy4 st5
  cases ok with
  | false =>
    have hl0 : fitL xs ys (val xs + val ys) = [] := by unfold fitL; rw [HOK.out]; rfl
    rw [hl0] at ho25
    have hn2 : n2 = 0 := ho25.len.symm
    subst hn2
    go_wp2_with fail
    go_ret
    exact ⟨rfl, ht5⟩
  | true =>
    have hl0 : fitL xs ys (val xs + val ys) = toL (val xs + val ys) := by unfold fitL; rw [HOK.out]; rfl
    rw [hl0] at ho25
    have SB := Lib.hid (sub_back HOK.out)
    have hlen : decide (xs.length = 0) = ((n : Int) == 0) := by
      rw [HL.out]
      by_cases h0 : n = 0
      · subst h0; rfl
      · rw [decide_eq_false h0]; symm; simp; omega
    have SO := Lib.hid ((sub_over HOK.out).trans hlen)
    clear hlen
    have CS := Lib.hid (cmp_sum HOK.out)
    have PT := Lib.hid (fit_parts HOK.out)
    go_wp2_with fail
    refine (subNat_any _ _ _ _ _ _ _ ys _ ho25.ints hy5).mono ?_
    rintro e w6 ⟨a6, n6, c6, rfl, ho6, hb6⟩
    rw [SB.out.1]
    rw [SB.out.2] at ho6
    have ht6 := ht5.trans (hb6.mono ht5.size)
    have hx6 := hx5.below hb6
    have hy6 := hy5.below hb6
    have ho26 := ho25.below hb6
    clear hx5 hy5 ho25 hb6
    go_wp2_with fail
    refine (subNat_any _ _ _ _ _ _ ys _ _ hy6 ho26.ints).mono ?_
    rintro e w7 ⟨a7, n7, c7, rfl, ho7, hb7⟩
    rw [SO.out]
    have ht7 := ht6.trans (hb7.mono ht6.size)
    have hx7 := hx6.below hb7
    have hy7 := hy6.below hb7
    have ho27 := ho26.below hb7
    have ho67 := ho6.below hb7
    clear hx6 hy6 ho26 ho6 hb7
    go_wp2_with fail
    refine (likeInts_any _ _ _ _ _ _ _ _ _ ho67.ints hx7).mono ?_
    rintro e w8 ⟨rfl, st8⟩
    rw [decide_eq_true rfl]
    have ht8 := ht7.trans (st8.below _)
    have hx8 := hx7.still st8
    have hy8 := hy7.still st8
    have ho28 := ho27.still st8
    clear hx7 hy7 ho27 ho67 st8
    go_wp2_with fail
    refine (natOk_any _ _ _ _ _ ho28.ints).mono ?_
    rintro e w9 ⟨rfl, rfl⟩
    rw [PT.out.2.2]
    go_wp2_with fail
    refine (cmpNat_any _ _ _ _ _ _ _ xs _ ho28.ints hx8).mono ?_
    rintro e w9 ⟨rfl, st9⟩
    obtain ⟨q, HQ⟩ : ∃ q, Hid (cmpB (toL (val xs + val ys)) xs = q) := ⟨_, rfl⟩
    have hq0 := CS.out.1
    rw [HQ.out] at hq0
    rw [HQ.out]
    have ht9 := ht8.trans (st9.below _)
    have hx9 := hx8.still st9
    have hy9 := hy8.still st9
    clear hx8 hy8 ho28 st9
    obtain ⟨r, hr0, hr1, hr2, hr3⟩ := cmp_turn PT.out.1 PT.out.2.1
    have HR2 := Lib.hid hr2
    have HR3 := Lib.hid hr3
    clear hr2 hr3
    go_wp2_with fail
    refine (cmpNat_any _ _ _ _ _ _ xs ys _ hx9 hy9).mono ?_
    rintro e w10 ⟨rfl, st10⟩
    rw [HR3.out]
    have ht10 := ht9.trans (st10.below _)
    have hx10 := hx9.still st10
    have hy10 := hy9.still st10
    clear hx9 hy9 st10
    go_wp2_with fail
    refine (cmpNat_any _ _ _ _ _ _ ys xs _ hy10 hx10).mono ?_
    rintro e w11 ⟨rfl, st11⟩
    rw [HR2.out]
    go_wp2_with fail
    go_ret
    exact ⟨rfl, ht10.trans (st11.below _)⟩

/-! ### THE ROW's STEP: WRITTEN OUT: LEAVE IT -/
set_option maxRecDepth 100000 in
theorem lifted (os : Os) (started : os.Started) (H : Type) (enc : TypeId × Value → H) :
    ReturnsInHanded {} Try.checked os 3 .any (Rows.fnNatSumsSpec.pre6 enc Try.prog Try.f3 Rows.fnNatSumsRow.domain false) (Rows.fnNatSumsSpec.post enc Try.prog Try.f3 false true false false) := by
  refine returnsInHanded_of_change (C := Try.checked) own started (by kernel_rfl) Try.func3
    (ChangeSpec.witness6 (enc := enc) (C := Try.checked) false ⟨#[], #[.slice none 0 0], []⟩ 8 (by kernel_rfl) (by kernel_rfl) (by kernel_rfl) (by kernel_rfl)) ?_
  intro W base args ds gs before hval0 hW hcnd _
  have hval : ∀ (j : Nat) t v, Try.f3.params[j]? = some t → args[j]? = some v → Value.okWide Try.prog W .any base t v := hval0
  have hW' := hW
  obtain ⟨p, q, hA0, hV, rfl, hfz, hnd⟩ := hW
  have hA : DataW.TrodAll enc Try.prog W 0 (fun _ => true) true Try.f3.params.toList args.toList ds p := hA0
  rw [Try.params3] at hA hval
  obtain ⟨v0, vs0, d0, ds0, p0, q0, hargs, rfl, rfl, h0, r0⟩ := trodAll_cons hA
  obtain ⟨rfl, rfl, rfl⟩ := trodAll_nil r0
  obtain rfl : args = #[v0] := by cases args; simp_all
  obtain ⟨rfl, rfl⟩ := trodVars_none hV
  obtain ⟨a0, len0, cap0, rfl⟩ := okWide_slice Try.underlying22 (hval 0 22 v0 rfl rfl)
  have k0 := h0
  have lt0 : ∀ x ∈ p0, x.block < W.heap.size := by obtain ⟨m, hm⟩ := k0; exact DataW.trod_lt m _ _ _ hm
  obtain ⟨z0, w0⟩ : ∃ zs, IsRow .u8 W a0 len0 cap0 zs := by
    obtain ⟨fuel, hf⟩ := h0
    rcases open_ints Try.underlying22 Try.underlying5 (by kernel_rfl) hf with ⟨hcs, _⟩ | ⟨x, l, c, zs, hcs, _, hl, hm, hz, _, hcell, hwz⟩
    · simp [Value.cells] at hcs
      obtain ⟨rfl, rfl, rfl⟩ := hcs
      exact ⟨[], .inl ⟨rfl, rfl, rfl, rfl⟩⟩
    · simp [Value.cells] at hcs
      obtain ⟨rfl, rfl, rfl⟩ := hcs
      exact ⟨zs, .inr ⟨_, rfl, hl, hm, by simpa using hz, hcell, hwz⟩⟩
  clear hA0 hval0
  refine (walk a0 len0 cap0 z0 W w0).mono fun e W' ⟨he, bel⟩ => ?_
  subst he
  exact ⟨_, rfl, _, _, _, [], _, [], hW', trodAll_mk1 (shut_bool Try.underlying4 _), (trodAll_cons_mk (Below.trod laidOut (by kernel_rfl) (of_decide_eq_true (by kernel_rfl)) k0 bel lt0) trodAll_mk0), rfl, bel.frame _, fun h => by cases h⟩

theorem over : Rows.fnNatSumsRow.holds Try.pinned (OpenSpec.ofChange Rows.fnNatSumsSpec) :=
  OpenClaim.holds_of_wide 3 Try.f3 rfl rfl rfl rfl rfl rfl rfl ⟨rfl, rfl, rfl, rfl, rfl⟩ rfl rfl rfl rfl rfl (by kernel_rfl) Try.func3 (by kernel_rfl)
    (of_decide_eq_true (by kernel_rfl)) (by unfold Func.isWrapper; first | (rw [if_pos (by decide +kernel)]; kernel_rfl) | (rw [if_neg (by decide +kernel)]; exact ⟨rfl, rfl⟩))
    (fun os started H enc _ => lifted os started H enc)

/-- ████ THE STATEMENT ████ -/
theorem proved : Rows.FnNatSumsSaid := over
#print axioms proved
end Go.Proofs.Ytnbeofnafdljhaa.fnNatSums
