/- For every code, of a drawn program, environment and expression: ValueIn and PlainIn of the program answer as the model's; what PlainIn answers is a value, and is what ValueIn answers where there is no trap; the environment is EnvOk. Conditions: none beyond the given row. (The frame round the walk is the guide's own shell, by program.) -/
import Derived.Test.YtmppiefkeeanpaaRows
import Derived.Test.YtmppiefkeeanpaaJ1
import Derived.Test.YtmppiefkeeanpaaJ17
import Derived.Test.YtmppiefkeeanpaaJ26
import Derived.Test.YtmppiefkeeanpaaJ14
import Derived.WalkKit
import Derived.ProofKit
import Derived.OpenShut
import Derived.ShutString
import Derived.ChangeOld
import Derived.Below
namespace Go.Proofs.Ytmppiefkeeanpaa.fnPlain
open Go.ChangeShapes Go.WideShapes Go.ChangeAt Go.RowKit
open Go.ChangeMaps (open_string shut_string)
set_option linter.unusedVariables false

theorem own : ownKnob Try.prog.godebug = none := by kernel_rfl
theorem laidOut : laidOutB Try.prog = true := by kernel_rfl

/-- WHAT THE WALK IS TOLD OF A SLICE OF INTEGERS THAT CAME IN: it is nil; or it leads to a row of 'cap' cells, the numbers 'zs' (the first 'len' are its elements, the rest its spare room), each fitting its kind. -/
def IsRow (k : IntKind) (w : World) (a : Option Addr) (len cap : Nat) (zs : List Int) : Prop :=
  (a = none ∧ len = 0 ∧ cap = 0 ∧ zs = []) ∨
  ∃ x, a = some x ∧ len ≤ cap ∧ cap ≤ maxLen ∧ zs.length = cap ∧ (∀ i, i < zs.length → w.cell? (x.add i) = some (.int k (zs.getD i 0))) ∧ ∀ n ∈ zs, (Lit.int k n).wf = true

/-! ### STEP 1: THE WALK: the Go text returns true, AND WRITES NOTHING THAT WAS THERE: 'Below w.heap.size w w'' (Derived/Below.lean: '.refl', '.alloc', '.drew', '.setCell' at a new block, '.trans'). Open each 'IsRow' by 'rcases' AHEAD of 'go_enter'; part every test ahead of the walk. -/
set_option maxRecDepth 20000 in
set_option maxHeartbeats 6400000 in
theorem walk (a0 : Option Addr) (len0 cap0 : Nat) (z0 : List Int) (w : World) (w0 : IsRow .u8 w a0 len0 cap0 z0) :
    Calls Try.prog 3 #[.slice a0 len0 cap0] w fun e w' => e = .returned (.bool true) ∧ Below w.heap.size w w' := by
  by_cases hbig : 4096 < len0
  · go_enter Try.func3, Try.ntmps3
    go_wp2_with (go_at_call 8; refine (big_any _ _ _ _).mono ?_; rintro e w1 ⟨rfl, rfl⟩; rw [decide_eq_true hbig])
    go_ret
    exact ⟨rfl, Below.refl _ _⟩
  have hcode := code_of_row w0 (by omega)
  clear w0
  go_enter Try.func3, Try.ntmps3
  go_wp2_with fail
  refine (big_any _ _ _ _).mono ?_
  rintro e w1 ⟨rfl, rfl⟩
  rw [decide_eq_false hbig]
  go_wp2_with fail
  refine (roll_any _ _ _ _ _ hcode).mono ?_
  rintro e w1 ⟨p, rfl, hp, D1, ht1⟩
  clear hcode
  have hpl := D1.lt
  go_wp2_with fail
  refine (program_any p _ D1).mono ?_
  rintro e w2 ⟨⟨wd, ⟨q1, m1, d1⟩, ⟨q2, m2, d2⟩, tp, ⟨q3, m3, d3⟩, ⟨q4, m4, d4⟩, rs⟩, P, A, l, s, b, s', b', rfl, hP, hcap, hH, hok, hDr, ⟨hpn, hkey⟩, D2, g2⟩
  simp only [progV, slV]
  have ht2 : Below w.heap.size w w2 := ht1.grown g2 ht1.size (fun g e => by injection e with e; omega)
  have hp2 : p < w2.heap.size := D2.lt
  have HKEY := Lib.hid hkey
  have HPN : Hid (∀ ba oa, q3 = some ⟨ba, oa, none⟩ → ba ≠ p) := Lib.hid (fun ba oa e => by have := hpn ba oa e; omega)
  have HH := Lib.hid hH
  have HOK := Lib.hid hok
  have HDR := Lib.hid hDr
  have HCAP := Lib.hid hcap
  have HPW := Lib.hid hp
  clear hkey hpn hH hok hDr hcap g2 D1 ht1 hP hpl hp
  obtain ⟨va, HVA⟩ : ∃ va, Hid (va = w2.alloc (.cells #[.int .i64 wd, .slice q1 m1 d1, .slice q2 m2 d2, .int .i64 tp, .slice q3 m3 d3, .slice q4 m4 d4] 31)) := ⟨_, rfl⟩
  have X : Blk va w2.heap.size 31 [.int .i64 wd, .slice q1 m1 d1, .slice q2 m2 d2, .int .i64 tp, .slice q3 m3 d3, .slice q4 m4 d4] := by rw [HVA.out]; exact Blk.new w2 _ _
  have gA : w2.grownBy va (some p) := by rw [HVA.out]; exact only_alloc (World.grownBy.refl _ _) _
  have DA : Dice va p := by rw [HVA.out]; exact D2.alloc _
  have htA : Below w.heap.size w va := by rw [HVA.out]; exact ht2.alloc ht2.size _
  obtain ⟨X0, HX0⟩ : ∃ X0, Hid (w2.heap.size = X0) := ⟨_, rfl⟩
  have hX0 : X0 ≠ p := by rw [← HX0.out]; omega
  rw [HX0.out] at X
  have x0 := X.cell (j := 0) rfl
  have x1 := X.cell (j := 1) rfl
  have x2 := X.cell (j := 2) rfl
  have x3 := X.cell (j := 3) rfl
  have x4 := X.cell (j := 4) rfl
  have x5 := X.cell (j := 5) rfl
  rw [HVA.out, ← HX0.out] at x0 x1 x2 x3 x4 x5
  go_wp2_with fail
  rw [← HVA.out, HX0.out]
  clear x0 x1 x2 x3 x4 x5 HVA HX0 D2 ht2 hp2
  refine (surroundings_any ⟨wd, (q1, m1, d1), (q2, m2, d2), tp, (q3, m3, d3), (q4, m4, d4), rs⟩ P l s b s' b' A p _ (HKEY.out _ gA) HH.out HOK.out HDR.out DA HPN.out).mono ?_
  rintro e w3 ⟨⟨⟨f1, h1, k1⟩, ⟨f2, h2, k2⟩, ers⟩, v, rfl, hkeyE, henv, D3, g3⟩
  simp only [envV, slV]
  have HKE := Lib.hid hkeyE
  have HEB := Lib.hid henv
  have X := X.gen g3 hX0
  have gB := only_trans gA g3
  have ht3 : Below w.heap.size w w3 := htA.grown g3 htA.size (fun g e => by injection e with e; have := HPW.out; omega)
  clear hkeyE henv g3 gA DA htA
  obtain ⟨vb, HVB⟩ : ∃ vb, Hid (vb = w3.alloc (.cells #[.slice f1 h1 k1, .slice f2 h2 k2] 35)) := ⟨_, rfl⟩
  have Y : Blk vb w3.heap.size 35 [.slice f1 h1 k1, .slice f2 h2 k2] := by rw [HVB.out]; exact Blk.new w3 _ _
  have X : Blk vb X0 31 [.int .i64 wd, .slice q1 m1 d1, .slice q2 m2 d2, .int .i64 tp, .slice q3 m3 d3, .slice q4 m4 d4] := by rw [HVB.out]; exact X.alloc _
  have gE : w3.grownBy vb (some p) := by rw [HVB.out]; exact only_alloc (World.grownBy.refl _ _) _
  have gC := only_trans gB gE
  have DB : Dice vb p := by rw [HVB.out]; exact D3.alloc _
  have htB : Below w.heap.size w vb := by rw [HVB.out]; exact ht3.alloc ht3.size _
  obtain ⟨Y0, HY0⟩ : ∃ Y0, Hid (w3.heap.size = Y0) := ⟨_, rfl⟩
  have hY0 : Y0 ≠ p := by rw [← HY0.out]; have := D3.lt; omega
  rw [HY0.out] at Y
  clear D3 ht3 gB
  have x0 := X.cell (j := 0) rfl
  have x1 := X.cell (j := 1) rfl
  have x2 := X.cell (j := 2) rfl
  have x3 := X.cell (j := 3) rfl
  have x4 := X.cell (j := 4) rfl
  have x5 := X.cell (j := 5) rfl
  rw [HVB.out] at x0 x1 x2 x3 x4 x5
  go_wp2_with fail
  rw [← HVB.out, HY0.out]
  clear x0 x1 x2 x3 x4 x5 HVB HY0
  refine (formula_any ⟨wd, (q1, m1, d1), (q2, m2, d2), tp, (q3, m3, d3), (q4, m4, d4), rs⟩ A p 3 _ (by omega) DB HH.out).mono ?_
  rintro e w4 ⟨gf, nf, cf, ts, rfl, hnf1, hnf2, hform, hof, D4, g4⟩
  have X := X.gen g4 hX0
  have Y := Y.gen g4 hY0
  have HP := Lib.hid (HKEY.out _ (only_trans gC g4))
  have HE := Lib.hid (HKE.out _ (only_trans gE g4))
  have ht4 : Below w.heap.size w w4 := htB.grown g4 htB.size (fun g e => by injection e with e; have := HPW.out; omega)
  have HT := Lib.hid hof.terms
  clear hform hof D4 g4 gC gE DB htB HKEY HKE HPN
  obtain ⟨Z, HZ⟩ : ∃ Z : Nat, Hid (valueB P v ts = Z) := ⟨_, rfl⟩
  obtain ⟨Z2, HZ2⟩ : ∃ Z2 : Int, Hid (trapB P v ts = Z2) := ⟨_, rfl⟩
  obtain ⟨Z3, HZ3⟩ : ∃ Z3 : Nat, Hid (plainB P v ts = Z3) := ⟨_, rfl⟩
  have hne : ((Z : Int) != (Z : Int)) = false := by simp
  have hne2 : (Z2 != Z2) = false := by simp
  have hne3 : ((Z3 : Int) != (Z3 : Int)) = false := by simp
  have hwd : wd = ((P.width.toNat : Nat) : Int) := by have h0 := (code_head HOK.out).1; have := HP.out.width; simp only [] at this; omega
  have hlt : Z3 < 2 ^ P.width.toNat := by rw [← HZ3.out]; exact plainB_lt HOK.out
  have hW3 : P.width.toNat = 2 ∨ P.width.toNat = 3 := by have := HDR.out.width; omega
  obtain ⟨W, HWd⟩ : ∃ W : Nat, Hid (P.width.toNat = W) := ⟨_, Lib.hid rfl⟩
  rw [HWd.out] at hwd hlt hW3
  subst hwd
  obtain ⟨S, HS⟩ : ∃ S : Nat, Hid (2 ^ W = S) := ⟨_, Lib.hid rfl⟩
  rw [HS.out] at hlt
  have hsh : Op.shift .shl .i64 1 .i64 (W : Int) = pure (.int .i64 (S : Int)) := by
    rw [← HS.out]
    rcases hW3 with rfl | rfl <;> rfl
  have hdg : decide ((Z3 : Int) ≥ (S : Int)) = false := by simp; omega
  have hdg2 : decide (S ≤ Z3) = false := by simp; omega
  have hd0 : decide ((Z3 : Int) < 0) = false := by simp
  have HVZ : Hid (Z2 ≠ 0 ∧ Z = 0 ∨ Z2 = 0 ∧ Z = Z3) := Lib.hid (by
    rw [← HZ.out, ← HZ2.out, ← HZ3.out]
    by_cases h0 : trapB P v ts = 0
    · exact .inr ⟨h0, by rw [valueB, if_pos h0]⟩
    · exact .inl ⟨h0, by rw [valueB, if_neg h0]⟩)
  clear HWd HS HDR hW3
  have x0 := X.cell (j := 0) rfl
  have x1 := X.cell (j := 1) rfl
  have x2 := X.cell (j := 2) rfl
  have x3 := X.cell (j := 3) rfl
  have x4 := X.cell (j := 4) rfl
  have x5 := X.cell (j := 5) rfl
  have y0 := Y.cell (j := 0) rfl
  have y1 := Y.cell (j := 1) rfl
  go_wp2_with fail
  refine (implValueIn_any ⟨(W : Int), (q1, m1, d1), (q2, m2, d2), tp, (q3, m3, d3), (q4, m4, d4), rs⟩ P ⟨(f1, h1, k1), (f2, h2, k2), ers⟩ v _ _ _ ts _ HP.out HCAP.out HE.out HT.out).mono ?_
  rintro e w5 ⟨rfl, hb5⟩
  rw [HZ.out, HZ2.out]
  have X := X.below hb5 X.lt
  have Y := Y.below hb5 Y.lt
  have HP := Lib.hid (HP.out.below hb5)
  have HE := Lib.hid (HE.out.below hb5)
  have HT := Lib.hid (HT.out.below (Nat.le_refl _) hb5)
  have ht5 := ht4.trans (hb5.mono ht4.size)
  clear x0 x1 x2 x3 x4 x5 y0 y1 hb5 ht4
  have x0 := X.cell (j := 0) rfl
  have x1 := X.cell (j := 1) rfl
  have x2 := X.cell (j := 2) rfl
  have x3 := X.cell (j := 3) rfl
  have x4 := X.cell (j := 4) rfl
  have x5 := X.cell (j := 5) rfl
  have y0 := Y.cell (j := 0) rfl
  have y1 := Y.cell (j := 1) rfl
  go_wp2_with fail
  refine (implPlainIn_any ⟨(W : Int), (q1, m1, d1), (q2, m2, d2), tp, (q3, m3, d3), (q4, m4, d4), rs⟩ P ⟨(f1, h1, k1), (f2, h2, k2), ers⟩ v _ _ _ ts _ HP.out HCAP.out HE.out HT.out).mono ?_
  rintro e w6 ⟨rfl, hb5⟩
  rw [HZ3.out]
  have X := X.below hb5 X.lt
  have Y := Y.below hb5 Y.lt
  have HP := Lib.hid (HP.out.below hb5)
  have HE := Lib.hid (HE.out.below hb5)
  have HT := Lib.hid (HT.out.below (Nat.le_refl _) hb5)
  have ht5 := ht5.trans (hb5.mono ht5.size)
  clear x0 x1 x2 x3 x4 x5 y0 y1 hb5
  have x0 := X.cell (j := 0) rfl
  have x1 := X.cell (j := 1) rfl
  have x2 := X.cell (j := 2) rfl
  have x3 := X.cell (j := 3) rfl
  have x4 := X.cell (j := 4) rfl
  have x5 := X.cell (j := 5) rfl
  have y0 := Y.cell (j := 0) rfl
  have y1 := Y.cell (j := 1) rfl
  go_wp2_with fail
  refine (specValueIn_any ⟨(W : Int), (q1, m1, d1), (q2, m2, d2), tp, (q3, m3, d3), (q4, m4, d4), rs⟩ P ⟨(f1, h1, k1), (f2, h2, k2), ers⟩ v _ _ _ ts _ HP.out HE.out HT.out).mono ?_
  rintro e w7 ⟨rfl, hb5⟩
  rw [HZ.out, HZ2.out]
  have X := X.below hb5 X.lt
  have Y := Y.below hb5 Y.lt
  have HP := Lib.hid (HP.out.below hb5)
  have HE := Lib.hid (HE.out.below hb5)
  have HT := Lib.hid (HT.out.below (Nat.le_refl _) hb5)
  have ht5 := ht5.trans (hb5.mono ht5.size)
  clear x0 x1 x2 x3 x4 x5 y0 y1 hb5
  have x0 := X.cell (j := 0) rfl
  have x1 := X.cell (j := 1) rfl
  have x2 := X.cell (j := 2) rfl
  have x3 := X.cell (j := 3) rfl
  have x4 := X.cell (j := 4) rfl
  have x5 := X.cell (j := 5) rfl
  have y0 := Y.cell (j := 0) rfl
  have y1 := Y.cell (j := 1) rfl
  go_wp2_with fail
  refine (specPlainIn_any ⟨(W : Int), (q1, m1, d1), (q2, m2, d2), tp, (q3, m3, d3), (q4, m4, d4), rs⟩ P ⟨(f1, h1, k1), (f2, h2, k2), ers⟩ v _ _ _ ts _ HP.out HE.out HT.out).mono ?_
  rintro e w8 ⟨rfl, hb5⟩
  rw [HZ3.out]
  have X := X.below hb5 X.lt
  have Y := Y.below hb5 Y.lt
  have HP := Lib.hid (HP.out.below hb5)
  have HE := Lib.hid (HE.out.below hb5)
  have ht5 := ht5.trans (hb5.mono ht5.size)
  clear x0 x1 x2 x3 x4 x5 y0 y1 hb5
  have x0 := X.cell (j := 0) rfl
  have x1 := X.cell (j := 1) rfl
  have x2 := X.cell (j := 2) rfl
  have x3 := X.cell (j := 3) rfl
  have x4 := X.cell (j := 4) rfl
  have x5 := X.cell (j := 5) rfl
  have y0 := Y.cell (j := 0) rfl
  have y1 := Y.cell (j := 1) rfl
  go_wp2_with fail
  refine (implEnvOk_any ⟨(W : Int), (q1, m1, d1), (q2, m2, d2), tp, (q3, m3, d3), (q4, m4, d4), rs⟩ P ⟨(f1, h1, k1), (f2, h2, k2), ers⟩ v _ HP.out HCAP.out HE.out).mono ?_
  rintro e w9 ⟨rfl, hb5⟩
  rw [HEB.out]
  have ht5 := ht5.trans (hb5.mono ht5.size)
  clear x0 x1 x2 x3 x4 x5 y0 y1 hb5 X Y HP HE HT HZ HZ2 HZ3
  rcases HVZ.out with ⟨h0, h1⟩ | ⟨h0, h1⟩
  · subst h1
    have hz : (Z2 != 0) = true := by simpa using h0
    clear h0
    go_wp2_with fail
    go_ret
    exact ⟨rfl, ht5⟩
  · subst h0 h1
    have he : ((Z : Int) == (Z : Int)) = true := by simp
    go_wp2_with fail
    go_ret
    exact ⟨rfl, ht5⟩

/-! ### THE ROW's STEP: WRITTEN OUT: LEAVE IT -/
set_option maxRecDepth 100000 in
theorem lifted (os : Os) (started : os.Started) (H : Type) (enc : TypeId × Value → H) :
    ReturnsInHanded {} Try.checked os 3 .any (Rows.fnPlainSpec.pre6 enc Try.prog Try.f3 Rows.fnPlainRow.domain false) (Rows.fnPlainSpec.post enc Try.prog Try.f3 false true false false) := by
  refine returnsInHanded_of_change (C := Try.checked) own started (by kernel_rfl) Try.func3
    (ChangeSpec.witness6 (enc := enc) (C := Try.checked) false ⟨#[], #[.slice none 0 0], []⟩ 8 (by kernel_rfl) (by kernel_rfl) (by kernel_rfl) (by kernel_rfl)) ?_
  intro W base args ds gs before hval0 hW hcnd _
  have hval : ∀ (j : Nat) t v, Try.f3.params[j]? = some t → args[j]? = some v → Value.okWide Try.prog W .any base t v := hval0
  have hW' := hW
  obtain ⟨p, q, hA0, hV, rfl, hfz, hnd⟩ := hW
  have hA : DataW.TrodAll enc Try.prog W 0 (fun _ => true) true Try.f3.params.toList args.toList ds p := hA0
  rw [Try.params3] at hA hval
  obtain ⟨v0, vs0, d0, ds0, p0, q0, hargs, rfl, rfl, h0, r0⟩ := trodAll_cons hA
  obtain ⟨rfl, rfl, rfl⟩ := trodAll_nil r0
  obtain rfl : args = #[v0] := by cases args; simp_all
  obtain ⟨rfl, rfl⟩ := trodVars_none hV
  obtain ⟨a0, len0, cap0, rfl⟩ := okWide_slice Try.underlying22 (hval 0 22 v0 rfl rfl)
  have k0 := h0
  have lt0 : ∀ x ∈ p0, x.block < W.heap.size := by obtain ⟨m, hm⟩ := k0; exact DataW.trod_lt m _ _ _ hm
  obtain ⟨z0, w0⟩ : ∃ zs, IsRow .u8 W a0 len0 cap0 zs := by
    obtain ⟨fuel, hf⟩ := h0
    rcases open_ints Try.underlying22 Try.underlying5 (by kernel_rfl) hf with ⟨hcs, _⟩ | ⟨x, l, c, zs, hcs, _, hl, hm, hz, _, hcell, hwz⟩
    · simp [Value.cells] at hcs
      obtain ⟨rfl, rfl, rfl⟩ := hcs
      exact ⟨[], .inl ⟨rfl, rfl, rfl, rfl⟩⟩
    · simp [Value.cells] at hcs
      obtain ⟨rfl, rfl, rfl⟩ := hcs
      exact ⟨zs, .inr ⟨_, rfl, hl, hm, by simpa using hz, hcell, hwz⟩⟩
  clear hA0 hval0
  refine (walk a0 len0 cap0 z0 W w0).mono fun e W' ⟨he, bel⟩ => ?_
  subst he
  exact ⟨_, rfl, _, _, _, [], _, [], hW', trodAll_mk1 (shut_bool Try.underlying4 _), (trodAll_cons_mk (Below.trod laidOut (by kernel_rfl) (of_decide_eq_true (by kernel_rfl)) k0 bel lt0) trodAll_mk0), rfl, bel.frame _, fun h => by cases h⟩

theorem over : Rows.fnPlainRow.holds Try.pinned (OpenSpec.ofChange Rows.fnPlainSpec) :=
  OpenClaim.holds_of_wide 3 Try.f3 rfl rfl rfl rfl rfl rfl rfl ⟨rfl, rfl, rfl, rfl, rfl⟩ rfl rfl rfl rfl rfl (by kernel_rfl) Try.func3 (by kernel_rfl)
    (of_decide_eq_true (by kernel_rfl)) (by unfold Func.isWrapper; first | (rw [if_pos (by decide +kernel)]; kernel_rfl) | (rw [if_neg (by decide +kernel)]; exact ⟨rfl, rfl⟩))
    (fun os started H enc _ => lifted os started H enc)

/-- ████ THE STATEMENT ████ -/
theorem proved : Rows.FnPlainSaid := over
#print axioms proved
end Go.Proofs.Ytmppiefkeeanpaa.fnPlain
