/- For every code, of a drawn great number: BitsFor is the least power of 2 that is enough. Conditions: none beyond the given row. (The frame round the walk is the guide's own shell, by program.) -/
import Derived.Test.YtnbeofnafdljhaaRows
import Derived.Test.YtnbeofnafdljhaaSumsMath
import Derived.WalkKit
import Derived.ProofKit
import Derived.OpenShut
import Derived.ShutString
import Derived.ChangeOld
import Derived.Below
namespace Go.Proofs.Ytnbeofnafdljhaa.fnBitsFor
open Go.ChangeShapes Go.WideShapes Go.ChangeAt Go.RowKit
open Go.ChangeMaps (open_string shut_string)
set_option linter.unusedVariables false

theorem own : ownKnob Try.prog.godebug = none := by kernel_rfl
theorem laidOut : laidOutB Try.prog = true := by kernel_rfl

/-- WHAT THE WALK IS TOLD OF A SLICE OF INTEGERS THAT CAME IN: it is nil; or it leads to a row of 'cap' cells, the numbers 'zs' (the first 'len' are its elements, the rest its spare room), each fitting its kind. -/
def IsRow (k : IntKind) (w : World) (a : Option Addr) (len cap : Nat) (zs : List Int) : Prop :=
  (a = none ∧ len = 0 ∧ cap = 0 ∧ zs = []) ∨
  ∃ x, a = some x ∧ len ≤ cap ∧ cap ≤ maxLen ∧ zs.length = cap ∧ (∀ i, i < zs.length → w.cell? (x.add i) = some (.int k (zs.getD i 0))) ∧ ∀ n ∈ zs, (Lit.int k n).wf = true

/-! ### STEP 1: THE WALK: the Go text returns true, AND WRITES NOTHING THAT WAS THERE: 'Below w.heap.size w w'' (Derived/Below.lean: '.refl', '.alloc', '.drew', '.setCell' at a new block, '.trans'). Open each 'IsRow' by 'rcases' AHEAD of 'go_enter'; part every test ahead of the walk. -/
theorem walk (a0 : Option Addr) (len0 cap0 : Nat) (z0 : List Int) (w : World) (w0 : IsRow .u8 w a0 len0 cap0 z0) :
    Calls Try.prog 5 #[.slice a0 len0 cap0] w fun e w' => e = .returned (.bool true) ∧ Below w.heap.size w w' := by
  by_cases hbig : 4096 < len0
  · go_enter Try.func5, Try.ntmps5
    go_wp2_with (go_at_call 14; refine (big_any _ _ _ _).mono ?_; rintro e w1 ⟨rfl, rfl⟩; rw [decide_eq_true hbig])
    go_ret
    exact ⟨rfl, Below.refl _ _⟩
  have hcode := code_of_row w0 (by omega)
  clear w0
  go_enter Try.func5, Try.ntmps5
  go_wp2_with fail
  refine (big_any _ _ _ _).mono ?_
  rintro e w1 ⟨rfl, rfl⟩
  rw [decide_eq_false hbig]
  go_wp2_with fail
  refine (drawBitsFor_any _ _ _ _ hcode).mono ?_
  rintro e w1 ⟨a, n, c, xs, rfl, hx, ht1⟩
  obtain ⟨r, hr⟩ := isBits_ex xs
  have HR := Lib.hid hr
  clear hcode
  go_wp2_with fail
  refine (bitsFor_any _ _ _ xs _ hx r HR.out).mono ?_
  rintro e w2 ⟨rfl, hb2⟩
  have ht2 := ht1.trans (hb2.mono ht1.size)
  have hx2 := hx.below hb2
  clear hb2 hx
  go_wp2_with fail
  refine (specBitsFor_any _ _ _ xs _ hx2 r HR.out).mono ?_
  rintro e w3 ⟨rfl, hb3⟩
  have ht3 := ht2.trans (hb3.mono ht2.size)
  have hx3 := hx2.below hb3
  clear hb3 hx2
  rcases hr with ⟨hok, rfl⟩ | ⟨hok, k, hk, hlog, rfl⟩
  · have HOK := Lib.hid hok
    clear hok
    go_wp2_with fail
    refine (specBitsFor_any _ _ _ xs _ hx3 _ HR.out).mono ?_
    rintro e w4 ⟨rfl, hb4⟩
    have ht4 := ht3.trans (hb4.mono ht3.size)
    have hx4 := hx3.below hb4
    go_wp2_with fail
    refine (natOk_any _ _ _ xs _ hx4).mono ?_
    rintro e w5 ⟨rfl, rfl⟩
    rw [HOK.out]
    go_wp2_with fail
    go_ret
    exact ⟨rfl, ht4⟩
  · have HOK := Lib.hid hok
    have HLOG := Lib.hid hlog
    clear hok hlog
    by_cases hk1 : 1000 < k
    · have P := Lib.hid (powB_no (k := (k : Int)) (.inr (by omega)))
      go_wp2_with fail
      refine (powerNat_any _ _).mono ?_
      rintro e w4 ⟨a4, n4, c4, rfl, ho4, hb4⟩
      rw [P.out]
      go_wp2_with fail
      go_ret
      exact ⟨ret_bool (decide_eq_true (by omega)), ht3.trans (hb4.mono ht3.size)⟩
    · have P := Lib.hid (powB_yes (k := (k : Int)) (by omega) (by omega))
      have BP := Lib.hid (bits_powers HOK.out (by omega) HLOG.out)
      go_wp2_with fail
      refine (powerNat_any _ _).mono ?_
      rintro e w4 ⟨a4, n4, c4, rfl, ho4, hb4⟩
      rw [P.out]
      have hpl : powL (k : Int) = toL (2 ^ k) := by unfold powL; rw [P.out]; rfl
      rw [hpl] at ho4
      have ht4 := ht3.trans (hb4.mono ht3.size)
      have hx4 := hx3.below hb4
      clear hb4 hx3 hpl
      go_wp2_with fail
      refine (powerNat_any _ _).mono ?_
      rintro e w5 ⟨a5, n5, c5, rfl, ho5, hb5⟩
      have ht5 := ht4.trans (hb5.mono ht4.size)
      have hx5 := hx4.below hb5
      have ho45 := ho4.below hb5
      clear hb5 hx4 ho4
      obtain ⟨q, HQ⟩ : ∃ q, Hid (cmpB xs (toL (2 ^ k)) = q) := ⟨_, rfl⟩
      have hq0 := BP.out.1
      rw [HQ.out] at hq0
      by_cases h0 : k = 0
      · subst h0
        rw [powB_no (k := ((0 : Nat) : Int) - 1) (.inl (by omega))]
        go_wp2_with fail
        refine (cmpNat_any _ _ _ _ _ _ xs _ _ hx5 ho45.ints).mono ?_
        rintro e w6 ⟨rfl, st6⟩
        rw [HQ.out]
        go_wp2_with fail
        go_ret
        exact ⟨rfl, ht5.trans (st6.below _)⟩
      · have P2 := Lib.hid (powB_yes (k := (k : Int) - 1) (by omega) (by omega))
        rw [P2.out]
        have hpl : powL ((k : Int) - 1) = toL (2 ^ (k - 1)) := by
          unfold powL
          rw [P2.out, if_pos rfl]
          congr 2; omega
        rw [hpl] at ho5
        clear hpl
        have B3 := Lib.hid (BP.out.2.2 (by omega))
        go_wp2_with fail
        refine (cmpNat_any _ _ _ _ _ _ xs _ _ hx5 ho45.ints).mono ?_
        rintro e w6 ⟨rfl, st6⟩
        rw [HQ.out]
        have ht6 := ht5.trans (st6.below _)
        have hx6 := hx5.still st6
        have ho56 := ho5.still st6
        clear hx5 ho5 ho45 st6
        go_wp2_with fail
        refine (cmpNat_any _ _ _ _ _ _ xs _ _ hx6 ho56.ints).mono ?_
        rintro e w7 ⟨rfl, st7⟩
        rw [B3.out]
        go_wp2_with fail
        go_ret
        exact ⟨rfl, ht6.trans (st7.below _)⟩

/-! ### THE ROW's STEP: WRITTEN OUT: LEAVE IT -/
set_option maxRecDepth 100000 in
theorem lifted (os : Os) (started : os.Started) (H : Type) (enc : TypeId × Value → H) :
    ReturnsInHanded {} Try.checked os 5 .any (Rows.fnBitsForSpec.pre6 enc Try.prog Try.f5 Rows.fnBitsForRow.domain false) (Rows.fnBitsForSpec.post enc Try.prog Try.f5 false true false false) := by
  refine returnsInHanded_of_change (C := Try.checked) own started (by kernel_rfl) Try.func5
    (ChangeSpec.witness6 (enc := enc) (C := Try.checked) false ⟨#[], #[.slice none 0 0], []⟩ 8 (by kernel_rfl) (by kernel_rfl) (by kernel_rfl) (by kernel_rfl)) ?_
  intro W base args ds gs before hval0 hW hcnd _
  have hval : ∀ (j : Nat) t v, Try.f5.params[j]? = some t → args[j]? = some v → Value.okWide Try.prog W .any base t v := hval0
  have hW' := hW
  obtain ⟨p, q, hA0, hV, rfl, hfz, hnd⟩ := hW
  have hA : DataW.TrodAll enc Try.prog W 0 (fun _ => true) true Try.f5.params.toList args.toList ds p := hA0
  rw [Try.params5] at hA hval
  obtain ⟨v0, vs0, d0, ds0, p0, q0, hargs, rfl, rfl, h0, r0⟩ := trodAll_cons hA
  obtain ⟨rfl, rfl, rfl⟩ := trodAll_nil r0
  obtain rfl : args = #[v0] := by cases args; simp_all
  obtain ⟨rfl, rfl⟩ := trodVars_none hV
  obtain ⟨a0, len0, cap0, rfl⟩ := okWide_slice Try.underlying22 (hval 0 22 v0 rfl rfl)
  have k0 := h0
  have lt0 : ∀ x ∈ p0, x.block < W.heap.size := by obtain ⟨m, hm⟩ := k0; exact DataW.trod_lt m _ _ _ hm
  obtain ⟨z0, w0⟩ : ∃ zs, IsRow .u8 W a0 len0 cap0 zs := by
    obtain ⟨fuel, hf⟩ := h0
    rcases open_ints Try.underlying22 Try.underlying5 (by kernel_rfl) hf with ⟨hcs, _⟩ | ⟨x, l, c, zs, hcs, _, hl, hm, hz, _, hcell, hwz⟩
    · simp [Value.cells] at hcs
      obtain ⟨rfl, rfl, rfl⟩ := hcs
      exact ⟨[], .inl ⟨rfl, rfl, rfl, rfl⟩⟩
    · simp [Value.cells] at hcs
      obtain ⟨rfl, rfl, rfl⟩ := hcs
      exact ⟨zs, .inr ⟨_, rfl, hl, hm, by simpa using hz, hcell, hwz⟩⟩
  clear hA0 hval0
  refine (walk a0 len0 cap0 z0 W w0).mono fun e W' ⟨he, bel⟩ => ?_
  subst he
  exact ⟨_, rfl, _, _, _, [], _, [], hW', trodAll_mk1 (shut_bool Try.underlying4 _), (trodAll_cons_mk (Below.trod laidOut (by kernel_rfl) (of_decide_eq_true (by kernel_rfl)) k0 bel lt0) trodAll_mk0), rfl, bel.frame _, fun h => by cases h⟩

theorem over : Rows.fnBitsForRow.holds Try.pinned (OpenSpec.ofChange Rows.fnBitsForSpec) :=
  OpenClaim.holds_of_wide 5 Try.f5 rfl rfl rfl rfl rfl rfl rfl ⟨rfl, rfl, rfl, rfl, rfl⟩ rfl rfl rfl rfl rfl (by kernel_rfl) Try.func5 (by kernel_rfl)
    (of_decide_eq_true (by kernel_rfl)) (by unfold Func.isWrapper; first | (rw [if_pos (by decide +kernel)]; kernel_rfl) | (rw [if_neg (by decide +kernel)]; exact ⟨rfl, rfl⟩))
    (fun os started H enc _ => lifted os started H enc)

/-- ████ THE STATEMENT ████ -/
theorem proved : Rows.FnBitsForSaid := over
#print axioms proved
end Go.Proofs.Ytnbeofnafdljhaa.fnBitsFor
