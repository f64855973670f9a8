/- For every code: what is shown of a number is its decimal digits, ten times it has a nought more; a drawn great number is shown as the model shows it (the library's tables as the program's text lays them). Conditions: none beyond the given row. (The frame round the walk is the guide's own shell, by program.) -/
import Derived.Test.YtnbeofnafdljhaaDoorRows
import Derived.Test.YtnbeofnafdljhaaDoorShown
import Derived.Test.YtnbeofnafdljhaaDoorCards
import Derived.Test.YtnbeofnafdljhaaDoorTie
import Derived.Stop.Joined
import Derived.SevenTiedAt
import Derived.WalkKit
import Derived.ProofKit
import Derived.OpenShut
import Derived.ShutString
import Derived.ChangeOld
import Derived.Below
namespace Go.Proofs.YtnbeofnafdljhaaDoor.fnNatShown
open Go.ChangeShapes Go.WideShapes Go.ChangeAt Go.RowKit
open Go.ChangeMaps (open_string shut_string)
set_option linter.unusedVariables false

theorem own : ownKnob Tryd.prog.godebug = none := by kernel_rfl
theorem laidOut : laidOutB Tryd.prog = true := by kernel_rfl

/-- WHAT THE WALK IS TOLD OF A SLICE OF INTEGERS THAT CAME IN: it is nil; or it leads to a row of 'cap' cells, the numbers 'zs' (the first 'len' are its elements, the rest its spare room), each fitting its kind. -/
def IsRow (k : IntKind) (w : World) (a : Option Addr) (len cap : Nat) (zs : List Int) : Prop :=
  (a = none ∧ len = 0 ∧ cap = 0 ∧ zs = []) ∨
  ∃ x, a = some x ∧ len ≤ cap ∧ cap ≤ maxLen ∧ zs.length = cap ∧ (∀ i, i < zs.length → w.cell? (x.add i) = some (.int k (zs.getD i 0))) ∧ ∀ n ∈ zs, (Lit.int k n).wf = true

/-! ### STEP 1: THE WALK: the Go text returns true, AND WRITES NOTHING THAT WAS THERE: 'Below w.heap.size w w'' (Derived/Below.lean: '.refl', '.alloc', '.drew', '.setCell' at a new block, '.trans'). Open each 'IsRow' by 'rcases' AHEAD of 'go_enter'; part every test ahead of the walk. -/
theorem walk (a0 : Option Addr) (len0 cap0 : Nat) (z0 : List Int) (w : World) (w0 : IsRow .u8 w a0 len0 cap0 z0) (hL : laidMetH Tryd.prog Rows.fnNatShownRow.laid w) :
    Calls Tryd.prog 3 #[.slice a0 len0 cap0] w fun e w' => e = .returned (.bool true) ∧ Below w.heap.size w w' := by
  have HT := Lib.hid (tab_of_laid hL)
  clear hL
  by_cases hbig : 4096 < len0
  · go_enter Tryd.func3, Tryd.ntmps3
    go_wp2_with (go_at_call 5; refine (big_any _ _ _ _).mono ?_; rintro e w1 ⟨rfl, rfl⟩; rw [decide_eq_true hbig])
    go_ret
    exact ⟨rfl, Below.refl _ _⟩
  have hcode := code_of_row w0 (by omega)
  clear w0
  go_enter Tryd.func3, Tryd.ntmps3
  go_wp2_with fail
  refine (big_any _ _ _ _).mono ?_
  rintro e w1 ⟨rfl, rfl⟩
  rw [decide_eq_false hbig]
  go_wp2_with fail
  refine (roll_any _ _ _ _ _ hcode).mono ?_
  rintro e w1 ⟨p, rfl, hp, hd1, ht1⟩
  go_wp2_with fail
  refine (diceBelow_any p _ 1048576 hd1 (by omega) (by omega)).mono ?_
  rintro e w2 ⟨x, hx0, hx1, rfl, hd2, hg2⟩
  have ht2 := ht1.grown hg2 ht1.size (fun k e => by cases e; exact hp)
  clear hg2 hd1
  go_wp2_with fail
  refine (diceBelow_any p _ 1048576 hd2 (by omega) (by omega)).mono ?_
  rintro e w3 ⟨y, hy0, hy1, rfl, hd3, hg3⟩
  have ht3 := ht2.grown hg3 ht2.size (fun k e => by cases e; exact hp)
  clear hg3 hd2 hd3
  have hxy0 : 0 ≤ x * y := Int.mul_nonneg hx0 hy0
  have hxy1 : x * y ≤ 1099509530625 := by
    have := Int.mul_le_mul hx1 hy1 hy0 (by omega)
    omega
  go_wp2_with fail
  obtain ⟨n, HN⟩ : ∃ n : Nat, Hid (x * y = (n : Int)) := ⟨(x * y).toNat, by show _ = _; omega⟩
  rw [HN.out]
  have hn : n ≤ 1099509530625 := by have := HN.out; omega
  clear hxy0 hxy1
  have hbound : (10000 : Nat) ^ 100 > 10995095306250 := by decide
  have o1 := ok_small (n := n) (by omega)
  have o2 := ok_small (n := 10) (by omega)
  have o3 := ok_small (n := n * 10) (by omega)
  clear hbound
  have S1 := Lib.hid (showL_digits o1)
  have S3 := Lib.hid (showL_digits o3)
  have V1 := Lib.hid (val_toL n)
  have F3 : Hid (fitB (toL n) (toL 10) (val (toL n) * val (toL 10)) = true) := by show _ = _; rw [val_toL, val_toL]; exact fit_yes o1 o2 o3
  have L3 : Hid (fitL (toL n) (toL 10) (val (toL n) * val (toL 10)) = toL (n * 10)) := by show _ = _; rw [val_toL, val_toL]; exact fitL_yes o1 o2 o3
  clear o1 o2 o3
  refine (natOf_any _ _ ⟨by omega, by omega⟩).mono ?_
  rintro e w4 ⟨a4, n4, c4, rfl, ho4, hb4⟩
  rw [Int.toNat_natCast] at ho4
  have ht4 := ht3.trans (hb4.mono ht3.size)
  clear hb4
  go_wp2_with fail
  refine (natOf_any 10 _ ⟨by omega, by omega⟩).mono ?_
  rintro e w5 ⟨a5, n5, c5, rfl, ho5, hb5⟩
  have ht5 := ht4.trans (hb5.mono ht4.size)
  have ho45 := ho4.below hb5
  clear hb5 ho4
  go_wp2_with fail
  refine (mulNat_any _ _ _ _ _ _ (toL n) (toL 10) _ ho45.ints ho5.ints).mono ?_
  rintro e w6 ⟨a6, n6, c6, rfl, ho6, hb6⟩
  rw [F3.out]
  rw [L3.out] at ho6
  have ht6 := ht5.trans (hb6.mono ht5.size)
  have ho46 := ho45.below hb6
  clear hb6 ho45 ho5
  have hcode6 : CodeAt w6 w6.heap.size a0 len0 := (hcode.below ht6).up ht6.size
  go_wp2_with fail
  refine (drawShowNat_any _ _ _ _ hcode6).mono ?_
  rintro e w7 ⟨a7, n7, c7, us, rfl, hu7, hb7⟩
  have ht7 := ht6.trans (hb7.mono ht6.size)
  have ho47 := ho46.below hb7
  have ho67 := ho6.below hb7
  clear hb7 ho46 ho6 hcode6
  go_wp2_with fail
  refine (showNat_any _ _ _ _ _ ho47.ints (tab_later HT.out ht7)).mono ?_
  rintro e w8 ⟨rfl, hb8⟩
  rw [S1.out, V1.out]
  have ht8 := ht7.trans (hb8.mono ht7.size)
  have ho68 := ho67.below hb8
  have hu8 := hu7.below hb8
  clear hb8 ho47 ho67 hu7
  obtain ⟨s, HS⟩ : ∃ s : ByteArray, Hid ((⟨(Lib.decDigits n).toArray⟩ : ByteArray) = s) := ⟨_, rfl⟩
  rw [HS.out]
  go_wp2_with fail
  refine (digits_any _ _ (by omega) (by omega)).mono ?_
  rintro e w9 ⟨rfl, hb9⟩
  rw [Int.toNat_natCast, HS.out]
  have ht9 := ht8.trans (hb9.mono ht8.size)
  have ho69 := ho68.below hb9
  have hu9 := hu8.below hb9
  clear hb9 ho68 hu8
  go_wp2_with fail
  refine (showNat_any _ _ _ us _ hu9 (tab_later HT.out ht9)).mono ?_
  rintro e w10 ⟨rfl, hb10⟩
  have ht10 := ht9.trans (hb10.mono ht9.size)
  have ho610 := ho69.below hb10
  have hu10 := hu9.below hb10
  clear hb10 ho69 hu9
  obtain ⟨s2, HS2⟩ : ∃ s : ByteArray, Hid ((⟨(showL us).toArray⟩ : ByteArray) = s) := ⟨_, rfl⟩
  rw [HS2.out]
  go_wp2_with fail
  refine (specShowNat_any _ _ _ us _ hu10).mono ?_
  rintro e w11 ⟨rfl, hb11⟩
  rw [HS2.out]
  have ht11 := ht10.trans (hb11.mono ht10.size)
  have ho611 := ho610.below hb11
  clear hb11 ho610 hu10
  by_cases h0 : n = 0
  · subst h0
    go_wp2_with fail
    go_ret
    exact ⟨rfl, ht11⟩
  · have hne : ((n : Int) == 0) = false := by simp; omega
    go_wp2_with fail
    refine (showNat_any _ _ _ _ _ ho611.ints (tab_later HT.out ht11)).mono ?_
    rintro e w12 ⟨rfl, hb12⟩
    rw [S3.out, val_toL, show_ten (by omega)]
    have ht12 := ht11.trans (hb12.mono ht11.size)
    clear hb12 ho611
    obtain ⟨s3, HS3⟩ : ∃ s : ByteArray, Hid ((⟨(Lib.decDigits n ++ [(48 : UInt8)]).toArray⟩ : ByteArray) = s) := ⟨_, rfl⟩
    rw [HS3.out]
    go_wp2_with fail
    refine (digits_any _ _ (by omega) (by omega)).mono ?_
    rintro e w13 ⟨rfl, hb13⟩
    rw [Int.toNat_natCast, HS.out]
    have ht13 := ht12.trans (hb13.mono ht12.size)
    have hlen : s.size ≤ n + 1 := by rw [← HS.out]; show (Lib.decDigits n).toArray.size ≤ n + 1; simpa using digs_len n
    have hss : s ++ (⟨#[48]⟩ : ByteArray) = s3 := by rw [← HS3.out, ← HS.out]; exact app_str (Lib.decDigits n) [48]
    go_wp2_with fail
    go_ret
    exact ⟨rfl, ht13⟩

/-- The door's own heap meets the condition. -/
theorem door_met (os : Os) (args : Array Value) : laidMetH Tryd.prog Rows.fnNatShownRow.laid ((World.doorLaid Tryd.prog 400 os).forCall (fun _ _ => 0) ⟨#[], args, []⟩).memory :=
  laidMetH_of_parts3 (fuel := 8) (laidMet_of_run' 8 (by kernel_rfl) (by kernel_rfl)) (by kernel_rfl) (by kernel_rfl)

/-! ### THE ROW's STEP: WRITTEN OUT: LEAVE IT -/
set_option maxRecDepth 100000 in
theorem lifted (os : Os) (started : os.Started) (H : Type) (enc : TypeId × Value → H) :
    ReturnsInHanded {} Tryd.checked os 3 .any (fun w args => (Rows.fnNatShownSpec.pre enc Tryd.prog Tryd.f3 [] false w args ∧ laidMetH Tryd.prog Rows.fnNatShownRow.laid w) ∧ sizedMet enc Tryd.prog Tryd.f3 (OpenSpec.ofChange Rows.fnNatShownSpec) false w args) (Rows.fnNatShownSpec.post enc Tryd.prog Tryd.f3 false true false false) := by
  refine returnsInHanded_of_change_and (C := Tryd.checked) (X := fun w _ => laidMetH Tryd.prog Rows.fnNatShownRow.laid w) (fun _ _ _ hh h => h.of_heap hh) own started (by kernel_rfl) Tryd.func3
    (ChangeSpec.witness_shaped (enc := enc) (C := Tryd.checked) (os := os) (X := fun w _ => laidMetH Tryd.prog Rows.fnNatShownRow.laid w) false (World.doorLaid Tryd.prog 400 os) #[.slice none 0 0] 8 rfl (World.shaped_of_RefB (by kernel_rfl) (by kernel_rfl)) (by kernel_rfl) (by kernel_rfl) (by kernel_rfl) (door_met os _)) ?_
  intro W base args ds gs before hval0 hW _ _ hL _
  have hval : ∀ (j : Nat) t v, Tryd.f3.params[j]? = some t → args[j]? = some v → Value.okWide Tryd.prog W .any base t v := hval0
  have hW' := hW
  obtain ⟨p, q, hA0, hV, rfl, hfz, hnd⟩ := hW
  have hA : DataW.TrodAll enc Tryd.prog W 0 (fun _ => true) true Tryd.f3.params.toList args.toList ds p := hA0
  rw [Tryd.params3] at hA hval
  obtain ⟨v0, vs0, d0, ds0, p0, q0, hargs, rfl, rfl, h0, r0⟩ := trodAll_cons hA
  obtain ⟨rfl, rfl, rfl⟩ := trodAll_nil r0
  obtain rfl : args = #[v0] := by cases args; simp_all
  obtain ⟨rfl, rfl⟩ := trodVars_none hV
  obtain ⟨a0, len0, cap0, rfl⟩ := okWide_slice Tryd.underlying22 (hval 0 22 v0 rfl rfl)
  have k0 := h0
  have lt0 : ∀ x ∈ p0, x.block < W.heap.size := by obtain ⟨m, hm⟩ := k0; exact DataW.trod_lt m _ _ _ hm
  obtain ⟨z0, w0⟩ : ∃ zs, IsRow .u8 W a0 len0 cap0 zs := by
    obtain ⟨fuel, hf⟩ := h0
    rcases open_ints Tryd.underlying22 Tryd.underlying5 (by kernel_rfl) hf with ⟨hcs, _⟩ | ⟨x, l, c, zs, hcs, _, hl, hm, hz, _, hcell, hwz⟩
    · simp [Value.cells] at hcs
      obtain ⟨rfl, rfl, rfl⟩ := hcs
      exact ⟨[], .inl ⟨rfl, rfl, rfl, rfl⟩⟩
    · simp [Value.cells] at hcs
      obtain ⟨rfl, rfl, rfl⟩ := hcs
      exact ⟨zs, .inr ⟨_, rfl, hl, hm, by simpa using hz, hcell, hwz⟩⟩
  clear hA0 hval0
  refine (walk a0 len0 cap0 z0 W w0 hL).mono fun e W' ⟨he, bel⟩ => ?_
  subst he
  exact ⟨_, rfl, _, _, _, [], _, [], hW', trodAll_mk1 (shut_bool Tryd.underlying4 _), (trodAll_cons_mk (Below.trod laidOut (by kernel_rfl) (of_decide_eq_true (by kernel_rfl)) k0 bel lt0) trodAll_mk0), rfl, bel.frame _, fun h => by cases h⟩

set_option maxRecDepth 100000 in
theorem over : Rows.fnNatShownRow.holds Tryd.pinned (OpenSpec.ofChange Rows.fnNatShownSpec) :=
  OpenClaim.holds_of_wide 3 Tryd.f3 rfl rfl rfl rfl rfl rfl rfl ⟨rfl, rfl, rfl, rfl, rfl⟩ rfl rfl rfl rfl rfl (by kernel_rfl) Tryd.func3 (by kernel_rfl)
    (of_decide_eq_true (by kernel_rfl)) (by unfold Func.isWrapper; first | (rw [if_pos (by decide +kernel)]; kernel_rfl) | (rw [if_neg (by decide +kernel)]; exact ⟨rfl, rfl⟩))
    (fun os started H enc _ => lifted os started H enc)

/-- ████ THE STATEMENT: THE TIED CARD ████ -/
theorem proved : Rows.FnNatShownCardSaid :=
  Claim7.holds_tied_plain_at .later [] [.data, .data, .data] true (true, "cbf8db308bbc7a3f7370c21a7bde4a3833a9c8aae6e4e5915bee4d63e16f1853") false
    over (fun _ h => by cases h) (by kernel_rfl) (fun _ h => by cases h) fnNatShown_row_tie rfl ⟨rfl, rfl⟩ (by kernel_rfl) rfl
    (fun f fn hf hfn => by
      obtain rfl : f = 3 := Option.some.inj ((show Tryd.prog.funcNamed Rows.fnNatShownRow.func = some 3 by kernel_rfl).symm.trans hf) |>.symm
      obtain rfl : fn = Tryd.f3 := (Option.some.inj (Tryd.func3.symm.trans hfn)).symm
      exact ⟨by kernel_rfl, fun j t ht => by
        rw [Tryd.params3] at ht
        have hm : t ∈ [22] := by simpa using Array.mem_of_getElem? ht
        have hall : ([22].all fun u => !Tryd.prog.wantsStandIn u) = true := by kernel_rfl
        exact (show Tryd.prog.wantsStandIn t = false by simpa using List.all_eq_true.1 hall t hm)⟩)
    (by kernel_rfl)
#print axioms proved
end Go.Proofs.YtnbeofnafdljhaaDoor.fnNatShown
