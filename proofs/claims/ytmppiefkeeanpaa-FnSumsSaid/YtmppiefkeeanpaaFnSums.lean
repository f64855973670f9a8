/- For every code, of a drawn program and environment and two of its variables: what is added is taken away again, what is turned twice is as it was, and a rest and a quotient make up the whole. Conditions: none beyond the given row. (The frame round the walk is the guide's own shell, by program.) -/
import Derived.Test.YtmppiefkeeanpaaRows
import Derived.Test.YtmppiefkeeanpaaJ1
import Derived.Test.YtmppiefkeeanpaaJ26
import Derived.Test.YtmppiefkeeanpaaJ17
import Derived.Test.YtmppiefkeeanpaaJ14
import Derived.WalkKit
import Derived.ProofKit
import Derived.OpenShut
import Derived.ShutString
import Derived.ChangeOld
import Derived.Below
namespace Go.Proofs.Ytmppiefkeeanpaa.fnSums
open Go.ChangeShapes Go.WideShapes Go.ChangeAt Go.RowKit
open Go.ChangeMaps (open_string shut_string)
set_option linter.unusedVariables false

theorem own : ownKnob Try.prog.godebug = none := by kernel_rfl
theorem laidOut : laidOutB Try.prog = true := by kernel_rfl

/-- WHAT THE WALK IS TOLD OF A SLICE OF INTEGERS THAT CAME IN: it is nil; or it leads to a row of 'cap' cells, the numbers 'zs' (the first 'len' are its elements, the rest its spare room), each fitting its kind. -/
def IsRow (k : IntKind) (w : World) (a : Option Addr) (len cap : Nat) (zs : List Int) : Prop :=
  (a = none ∧ len = 0 ∧ cap = 0 ∧ zs = []) ∨
  ∃ x, a = some x ∧ len ≤ cap ∧ cap ≤ maxLen ∧ zs.length = cap ∧ (∀ i, i < zs.length → w.cell? (x.add i) = some (.int k (zs.getD i 0))) ∧ ∀ n ∈ zs, (Lit.int k n).wf = true

/-! ### STEP 1: THE WALK: the Go text returns true, AND WRITES NOTHING THAT WAS THERE: 'Below w.heap.size w w'' (Derived/Below.lean: '.refl', '.alloc', '.drew', '.setCell' at a new block, '.trans'). Open each 'IsRow' by 'rcases' AHEAD of 'go_enter'; part every test ahead of the walk. -/
set_option maxRecDepth 20000 in
set_option maxHeartbeats 6400000 in
theorem walk (a0 : Option Addr) (len0 cap0 : Nat) (z0 : List Int) (w : World) (w0 : IsRow .u8 w a0 len0 cap0 z0) :
    Calls Try.prog 4 #[.slice a0 len0 cap0] w fun e w' => e = .returned (.bool true) ∧ Below w.heap.size w w' := by
  by_cases hbig : 4096 < len0
  · go_enter Try.func4, Try.ntmps4
    go_wp2_with (go_at_call 8; refine (big_any _ _ _ _).mono ?_; rintro e w1 ⟨rfl, rfl⟩; rw [decide_eq_true hbig])
    go_ret
    exact ⟨rfl, Below.refl _ _⟩
  have hcode := code_of_row w0 (by omega)
  clear w0
  go_enter Try.func4, Try.ntmps4
  go_wp2_with fail
  refine (big_any _ _ _ _).mono ?_
  rintro e w1 ⟨rfl, rfl⟩
  rw [decide_eq_false hbig]
  go_wp2_with fail
  refine (roll_any _ _ _ _ _ hcode).mono ?_
  rintro e w1 ⟨p, rfl, hp, D1, ht1⟩
  clear hcode
  have hpl := D1.lt
  go_wp2_with fail
  refine (program_any p _ D1).mono ?_
  rintro e w2 ⟨⟨wd, ⟨q1, m1, d1⟩, ⟨q2, m2, d2⟩, tp, ⟨q3, m3, d3⟩, ⟨q4, m4, d4⟩, rs⟩, P, A, l, s, b, s', b', rfl, hP, hcap, hH, hok, hDr, ⟨hpn, hkey⟩, D2, g2⟩
  simp only [progV, slV]
  have ht2 : Below w.heap.size w w2 := ht1.grown g2 ht1.size (fun g e => by injection e with e; omega)
  have hp2 : p < w2.heap.size := D2.lt
  have HKEY := Lib.hid hkey
  have HPN : Hid (∀ ba oa, q3 = some ⟨ba, oa, none⟩ → ba ≠ p) := Lib.hid (fun ba oa e => by have := hpn ba oa e; omega)
  have HH := Lib.hid hH
  have HOK := Lib.hid hok
  have HDR := Lib.hid hDr
  have HCAP := Lib.hid hcap
  have HPW := Lib.hid hp
  clear hkey hpn hH hok hDr hcap g2 D1 ht1 hP hpl hp
  obtain ⟨va, HVA⟩ : ∃ va, Hid (va = w2.alloc (.cells #[.int .i64 wd, .slice q1 m1 d1, .slice q2 m2 d2, .int .i64 tp, .slice q3 m3 d3, .slice q4 m4 d4] 31)) := ⟨_, rfl⟩
  have X : Blk va w2.heap.size 31 [.int .i64 wd, .slice q1 m1 d1, .slice q2 m2 d2, .int .i64 tp, .slice q3 m3 d3, .slice q4 m4 d4] := by rw [HVA.out]; exact Blk.new w2 _ _
  have gA : w2.grownBy va (some p) := by rw [HVA.out]; exact only_alloc (World.grownBy.refl _ _) _
  have DA : Dice va p := by rw [HVA.out]; exact D2.alloc _
  have htA : Below w.heap.size w va := by rw [HVA.out]; exact ht2.alloc ht2.size _
  obtain ⟨X0, HX0⟩ : ∃ X0, Hid (w2.heap.size = X0) := ⟨_, rfl⟩
  have hX0 : X0 ≠ p := by rw [← HX0.out]; omega
  rw [HX0.out] at X
  have x0 := X.cell (j := 0) rfl
  have x1 := X.cell (j := 1) rfl
  have x2 := X.cell (j := 2) rfl
  have x3 := X.cell (j := 3) rfl
  have x4 := X.cell (j := 4) rfl
  have x5 := X.cell (j := 5) rfl
  rw [HVA.out, ← HX0.out] at x0 x1 x2 x3 x4 x5
  go_wp2_with fail
  rw [← HVA.out, HX0.out]
  clear x0 x1 x2 x3 x4 x5 HVA HX0 D2 ht2 hp2
  refine (surroundings_any ⟨wd, (q1, m1, d1), (q2, m2, d2), tp, (q3, m3, d3), (q4, m4, d4), rs⟩ P l s b s' b' A p _ (HKEY.out _ gA) HH.out HOK.out HDR.out DA HPN.out).mono ?_
  rintro e w3 ⟨⟨⟨f1, h1, k1⟩, ⟨f2, h2, k2⟩, ers⟩, v, rfl, hkeyE, henv, D3, g3⟩
  simp only [envV, slV]
  have HKE := Lib.hid hkeyE
  have HEB := Lib.hid henv
  have X := X.gen g3 hX0
  have gB := only_trans gA g3
  have ht3 : Below w.heap.size w w3 := htA.grown g3 htA.size (fun g e => by injection e with e; have := HPW.out; omega)
  clear hkeyE henv g3 gA DA htA
  obtain ⟨vb, HVB⟩ : ∃ vb, Hid (vb = w3.alloc (.cells #[.slice f1 h1 k1, .slice f2 h2 k2] 35)) := ⟨_, rfl⟩
  have Y : Blk vb w3.heap.size 35 [.slice f1 h1 k1, .slice f2 h2 k2] := by rw [HVB.out]; exact Blk.new w3 _ _
  have X : Blk vb X0 31 [.int .i64 wd, .slice q1 m1 d1, .slice q2 m2 d2, .int .i64 tp, .slice q3 m3 d3, .slice q4 m4 d4] := by rw [HVB.out]; exact X.alloc _
  have gE : w3.grownBy vb (some p) := by rw [HVB.out]; exact only_alloc (World.grownBy.refl _ _) _
  have gC := only_trans gB gE
  have DB : Dice vb p := by rw [HVB.out]; exact D3.alloc _
  have htB : Below w.heap.size w vb := by rw [HVB.out]; exact ht3.alloc ht3.size _
  obtain ⟨Y0, HY0⟩ : ∃ Y0, Hid (w3.heap.size = Y0) := ⟨_, rfl⟩
  have hY0 : Y0 ≠ p := by rw [← HY0.out]; have := D3.lt; omega
  rw [HY0.out] at Y
  clear D3 ht3 gB
  go_wp2_with fail
  rw [← HVB.out, HY0.out]
  clear HVB HY0
  refine (diceBelow_any p _ 5 DB (by omega) (by omega)).mono ?_
  rintro e w4 ⟨i, hi0, hi1, rfl, D4, g4⟩
  have X := X.gen g4 hX0
  have Y := Y.gen g4 hY0
  have gC := only_trans gC g4
  have gE := only_trans gE g4
  have ht4 : Below w.heap.size w w4 := htB.grown g4 htB.size (fun g e => by injection e with e; have := HPW.out; omega)
  clear g4 htB DB
  have hi4 : i ≤ 4 := by omega
  obtain ⟨i, rfl⟩ := Int.eq_ofNat_of_zero_le hi0
  go_wp2_with fail
  refine (variable_any (i : Int) _ (inTm1 (by omega) (by omega))).mono ?_
  rintro e w5 ⟨rfl, hoa, hb5⟩
  have X := X.below hb5 X.lt
  have Y := Y.below hb5 Y.lt
  have D5 := D4.below hb5
  have gC := only_more gC (only_below hb5 none) (fun g e => by cases e)
  have gE := only_more gE (only_below hb5 none) (fun g e => by cases e)
  have ht5 := ht4.trans (hb5.mono ht4.size)
  have hpa : p < w4.heap.size := D4.lt
  obtain ⟨A0, HA0⟩ : ∃ A0, Hid (w4.heap.size = A0) := ⟨_, rfl⟩
  rw [HA0.out] at hoa hpa ⊢
  clear hb5 ht4 D4 HA0
  go_wp2_with fail
  refine (diceBelow_any p _ 5 D5 (by omega) (by omega)).mono ?_
  rintro e w6 ⟨j, hj0, hj1, rfl, D6, g6⟩
  have X := X.gen g6 hX0
  have Y := Y.gen g6 hY0
  have gC := only_trans gC g6
  have gE := only_trans gE g6
  have hoa := hoa.old hpa g6
  have ht6 : Below w.heap.size w w6 := ht5.grown g6 ht5.size (fun g e => by injection e with e; have := HPW.out; omega)
  have hj4 : j ≤ 4 := by omega
  obtain ⟨j, rfl⟩ := Int.eq_ofNat_of_zero_le hj0
  clear g6 ht5 D5
  go_wp2_with fail
  refine (variable_any (j : Int) _ (inTm1 (by omega) (by omega))).mono ?_
  rintro e wz ⟨rfl, hob, hb7⟩
  have X := X.below hb7 X.lt
  have Y := Y.below hb7 Y.lt
  have HP := Lib.hid (HKEY.out _ (only_more gC (only_below hb7 none) (fun g e => by cases e)))
  have HE := Lib.hid (HKE.out _ (only_more gE (only_below hb7 none) (fun g e => by cases e)))
  have HTA := Lib.hid (hoa.below hb7).terms
  have HTB0 := Lib.hid hob.terms
  have ht7 := ht6.trans (hb7.mono ht6.size)
  obtain ⟨B0, HB0⟩ : ∃ B0, Hid (w6.heap.size = B0) := ⟨_, rfl⟩
  rw [HB0.out] at HTB0 ⊢
  clear hb7 ht6 D6 HB0 gC gE hoa hob hpa HKEY HKE HPN
  obtain ⟨x, y, HSU0⟩ := sums_of HEB.out HDR.out hi0 hi4 hj0 hj4
  have HSU := Lib.hid HSU0
  have HVL : Hid (∀ (a : Option Addr) (n c : Nat) (ts : List Tm) (w' : World), Below wz.heap.size wz w' → Terms w' a n ts → Calls Try.prog 13 #[.agg #[.int .i64 wd, .slice q1 m1 d1, .slice q2 m2 d2, .int .i64 tp, .slice q3 m3 d3, .slice q4 m4 d4], .agg #[.slice f1 h1 k1, .slice f2 h2 k2], .slice a n c] w' fun e w'' => e = .returned (.tuple #[.int .i64 (valueB P v ts : Int), .int .i64 (trapB P v ts)]) ∧ Below w'.heap.size w' w'') := Lib.hid (fun a n c ts w' hb ht => implValueIn_any ⟨wd, (q1, m1, d1), (q2, m2, d2), tp, (q3, m3, d3), (q4, m4, d4), rs⟩ P ⟨(f1, h1, k1), (f2, h2, k2), ers⟩ v a n c ts w' (HP.out.below hb) HCAP.out (HE.out.below hb) ht)
  have HXB := Lib.hid X
  have HYB := Lib.hid Y
  have hwz : Below wz.heap.size wz wz := Below.refl _ _
  have HEVI := Lib.hid HE.out.vars
  have hv5 : v.vars.length = 5 := by rw [env_vars HEB.out, HDR.out.lows, HDR.out.secrets, HDR.out.temps]; rfl
  have hh1 : h1 = 5 := by have := HEVI.out.1; simp only [] at this; omega
  have HH1 := Lib.hid hh1
  clear hv5 hh1
  clear HSU0 HP HCAP HH HEB HDR HOK X Y
  have X := HXB.out.below hwz HXB.out.lt
  have Y := HYB.out.below hwz HYB.out.lt
  have x0 := X.cell (j := 0) rfl
  have x1 := X.cell (j := 1) rfl
  have x2 := X.cell (j := 2) rfl
  have x3 := X.cell (j := 3) rfl
  have x4 := X.cell (j := 4) rfl
  have x5 := X.cell (j := 5) rfl
  have y0 := Y.cell (j := 0) rfl
  have y1 := Y.cell (j := 1) rfl
  go_wp2_with fail
  refine (HVL.out _ _ _ [(1, (i : Int))] _ hwz (HTA.out.below (Nat.le_refl _) hwz)).mono ?_
  rintro e v0 ⟨rfl, hb⟩
  rw [HSU.out.one.1, HSU.out.one.2]
  have hwz := hwz.trans (hb.mono hwz.size)
  clear x0 x1 x2 x3 x4 x5 y0 y1 X Y hb
  have X := HXB.out.below hwz HXB.out.lt
  have Y := HYB.out.below hwz HYB.out.lt
  have x0 := X.cell (j := 0) rfl
  have x1 := X.cell (j := 1) rfl
  have x2 := X.cell (j := 2) rfl
  have x3 := X.cell (j := 3) rfl
  have x4 := X.cell (j := 4) rfl
  have x5 := X.cell (j := 5) rfl
  have y0 := Y.cell (j := 0) rfl
  have y1 := Y.cell (j := 1) rfl
  go_wp2_with fail
  refine (HVL.out _ _ _ [(1, (j : Int))] _ hwz (HTB0.out.below (Nat.le_refl _) hwz)).mono ?_
  rintro e v1 ⟨rfl, hb⟩
  rw [HSU.out.two.1, HSU.out.two.2]
  have hwz := hwz.trans (hb.mono hwz.size)
  clear x0 x1 x2 x3 x4 x5 y0 y1 X Y hb
  have X := HXB.out.below hwz HXB.out.lt
  have Y := HYB.out.below hwz HYB.out.lt
  have x0 := X.cell (j := 0) rfl
  have x1 := X.cell (j := 1) rfl
  have x2 := X.cell (j := 2) rfl
  have x3 := X.cell (j := 3) rfl
  have x4 := X.cell (j := 4) rfl
  have x5 := X.cell (j := 5) rfl
  have y0 := Y.cell (j := 0) rfl
  have y1 := Y.cell (j := 1) rfl
  go_wp2_with fail
  have hd : Below v1.heap.size v1 v1.drew := ⟨rfl, rfl, rfl, Nat.le_refl _, fun _ _ => rfl⟩
  have HZ0 := Lib.hid (hwz.trans (hd.mono hwz.size))
  go_region_held3 (fun w' => w'.cell? ⟨X0, 0, none⟩ = some (.int .i64 wd) ∧ w'.cell? ⟨X0, 1, none⟩ = some (.slice q1 m1 d1) ∧ w'.cell? ⟨X0, 2, none⟩ = some (.slice q2 m2 d2) ∧ w'.cell? ⟨X0, 3, none⟩ = some (.int .i64 tp) ∧ w'.cell? ⟨X0, 4, none⟩ = some (.slice q3 m3 d3) ∧ w'.cell? ⟨X0, 5, none⟩ = some (.slice q4 m4 d4) ∧ w'.cell? ⟨Y0, 0, none⟩ = some (.slice f1 h1 k1) ∧ w'.cell? ⟨Y0, 1, none⟩ = some (.slice f2 h2 k2)) (first | (refine ⟨?_, ?_, ?_, ?_, ?_, ?_, ?_, ?_⟩ <;> assumption) | go_keep | (refine ⟨?_, ?_, ?_, ?_, ?_, ?_, ?_, ?_⟩ <;> go_keep)) (first
    | (go_at_call 20; with_reducible refine (two_lit (op := 5) (by omega) (by omega) 3 (by omega) (by omega) ([(1, (i : Int))]) ([(1, (j : Int))]) _ (HTA.out.below (Nat.le_refl _) HZ0.out) (HTB0.out.below (Nat.le_refl _) HZ0.out)).mono ?_; rintro e u1 ⟨gk1, c1, rfl, hok1, hbk1⟩; have HZ1 := Lib.hid (HZ0.out.trans (hbk1.mono HZ0.out.size)); have HT1 := Lib.hid hok1; have Xk1 := HXB.out.below HZ1.out HXB.out.lt; have Yk1 := HYB.out.below HZ1.out HYB.out.lt; have xk1_0 := Xk1.cell (j := 0) rfl; have xk1_1 := Xk1.cell (j := 1) rfl; have xk1_2 := Xk1.cell (j := 2) rfl; have xk1_3 := Xk1.cell (j := 3) rfl; have xk1_4 := Xk1.cell (j := 4) rfl; have xk1_5 := Xk1.cell (j := 5) rfl; have yk1_0 := Yk1.cell (j := 0) rfl; have yk1_1 := Yk1.cell (j := 1) rfl; clear hok1 hbk1)
    | (go_at_call 20; with_reducible refine (two_lit (op := 6) (by omega) (by omega) 5 (by omega) (by omega) (([(1, (i : Int))]) ++ ([(1, (j : Int))]) ++ [(5, 0)]) ([(1, (j : Int))]) _ HT1.out (HTB0.out.below (Nat.le_refl _) HZ1.out)).mono ?_; rintro e u2 ⟨gk2, c2, rfl, hok2, hbk2⟩; have HZ2 := Lib.hid (HZ1.out.trans (hbk2.mono HZ1.out.size)); have HT2 := Lib.hid hok2; have HT1 := Lib.hid (HT1.out.below (Nat.le_refl _) hbk2); have Xk2 := HXB.out.below HZ2.out HXB.out.lt; have Yk2 := HYB.out.below HZ2.out HYB.out.lt; have xk2_0 := Xk2.cell (j := 0) rfl; have xk2_1 := Xk2.cell (j := 1) rfl; have xk2_2 := Xk2.cell (j := 2) rfl; have xk2_3 := Xk2.cell (j := 3) rfl; have xk2_4 := Xk2.cell (j := 4) rfl; have xk2_5 := Xk2.cell (j := 5) rfl; have yk2_0 := Yk2.cell (j := 0) rfl; have yk2_1 := Yk2.cell (j := 1) rfl; clear hok2 hbk2)
    | (go_at_call 13; with_reducible refine (HVL.out _ _ _ ((([(1, (i : Int))]) ++ ([(1, (j : Int))]) ++ [(5, 0)]) ++ ([(1, (j : Int))]) ++ [(6, 0)]) _ HZ2.out HT2.out).mono ?_; rintro e v2 ⟨rfl, hbv⟩; rw [HSU.out.back]; have HZE := Lib.hid (HZ2.out.trans (hbv.mono HZ2.out.size)); have Xe := HXB.out.below HZE.out HXB.out.lt; have Ye := HYB.out.below HZE.out HYB.out.lt; have xe_0 := Xe.cell (j := 0) rfl; have xe_1 := Xe.cell (j := 1) rfl; have xe_2 := Xe.cell (j := 2) rfl; have xe_3 := Xe.cell (j := 3) rfl; have xe_4 := Xe.cell (j := 4) rfl; have xe_5 := Xe.cell (j := 5) rfl; have ye_0 := Ye.cell (j := 0) rfl; have ye_1 := Ye.cell (j := 1) rfl; clear hbv))
  have hwz := HZE.out
  clear xe_0 xe_1 xe_2 xe_3 xe_4 xe_5 ye_0 ye_1 xk1_0 xk1_1 xk1_2 xk1_3 xk1_4 xk1_5 yk1_0 yk1_1 xk2_0 xk2_1 xk2_2 xk2_3 xk2_4 xk2_5 yk2_0 yk2_1 Xk1 Yk1 HT1 HZ1 Xk2 Yk2 HT2 HZ2 Xe Ye HZE HZ0 hd X Y x0 x1 x2 x3 x4 x5 y0 y1
  have X := HXB.out.below hwz HXB.out.lt
  have Y := HYB.out.below hwz HYB.out.lt
  have x0 := X.cell (j := 0) rfl
  have x1 := X.cell (j := 1) rfl
  have x2 := X.cell (j := 2) rfl
  have x3 := X.cell (j := 3) rfl
  have x4 := X.cell (j := 4) rfl
  have x5 := X.cell (j := 5) rfl
  have y0 := Y.cell (j := 0) rfl
  have y1 := Y.cell (j := 1) rfl
  go_upto_region 11 with fail
  go_cut [14, 15] (fun av bv wx => av = .int .i64 ((x : Int)) ∧ (∃ t : Int, bv = .int .i64 t) ∧ Below wz.heap.size wz wx)
  case first =>
    have hd : Below v2.heap.size v2 v2.drew := ⟨rfl, rfl, rfl, Nat.le_refl _, fun _ _ => rfl⟩
    have HZ0 := Lib.hid (hwz.trans (hd.mono hwz.size))
    have HTD := Lib.hid (HTA.out.below (Nat.le_refl _) HZ0.out)
    go_region_held3 (fun w' => w'.cell? ⟨X0, 0, none⟩ = some (.int .i64 wd) ∧ w'.cell? ⟨X0, 1, none⟩ = some (.slice q1 m1 d1) ∧ w'.cell? ⟨X0, 2, none⟩ = some (.slice q2 m2 d2) ∧ w'.cell? ⟨X0, 3, none⟩ = some (.int .i64 tp) ∧ w'.cell? ⟨X0, 4, none⟩ = some (.slice q3 m3 d3) ∧ w'.cell? ⟨X0, 5, none⟩ = some (.slice q4 m4 d4) ∧ w'.cell? ⟨Y0, 0, none⟩ = some (.slice f1 h1 k1) ∧ w'.cell? ⟨Y0, 1, none⟩ = some (.slice f2 h2 k2)) (first | (refine ⟨?_, ?_, ?_, ?_, ?_, ?_, ?_, ?_⟩ <;> assumption) | go_keep | (refine ⟨?_, ?_, ?_, ?_, ?_, ?_, ?_, ?_⟩ <;> go_keep)) (first
      | (refine step_pushG _ (by rfl) _ _ 37 47 (.agg #[.int .i64 0, .int .i64 0]) 2 16 (by rfl) Try.underlying37 info_term rfl (by omega) v2.heap.size _ 0 0 [] (by rfl) (own_emptyT v2.drew _ (Nat.le_refl _)) ⟨A0, 0, none⟩ 1 1 (flatV [(1, (i : Int))]) (by rfl) (by rfl) (terms_news (terms_alloc HTD.out _)) (flatV_one _) (by omega) (by unfold maxLen; omega) (by omega) (by first | (simp; done) | (simp; omega)) ?_; intro g6 c6 w6 ho6 hg6; have hb6 : Below v2.drew.heap.size v2.drew w6 := ((Below.refl _ _).alloc (Nat.le_refl _) _).grown hg6.1 (by first | (simp; done) | (simp; omega)) (fun k hk => by simp [Value.ownBlock] at hk; subst hk; simp); have HB6 := Lib.hid hb6; have HZ1 := Lib.hid (HZ0.out.trans (hb6.mono HZ0.out.size)); have Xk1 := HXB.out.below HZ1.out HXB.out.lt; have Yk1 := HYB.out.below HZ1.out HYB.out.lt; have xk1_0 := Xk1.cell (j := 0) rfl; have xk1_1 := Xk1.cell (j := 1) rfl; have xk1_2 := Xk1.cell (j := 2) rfl; have xk1_3 := Xk1.cell (j := 3) rfl; have xk1_4 := Xk1.cell (j := 4) rfl; have xk1_5 := Xk1.cell (j := 5) rfl; have yk1_0 := Yk1.cell (j := 0) rfl; have yk1_1 := Yk1.cell (j := 1) rfl; have X1a := Xk1.alloc (.cells #[.int .i64 3, .int .i64 0, .int .i64 3, .int .i64 0] 47); have Y1a := Yk1.alloc (.cells #[.int .i64 3, .int .i64 0, .int .i64 3, .int .i64 0] 47); have xa_0 := X1a.cell (j := 0) rfl; have xa_1 := X1a.cell (j := 1) rfl; have xa_2 := X1a.cell (j := 2) rfl; have xa_3 := X1a.cell (j := 3) rfl; have xa_4 := X1a.cell (j := 4) rfl; have xa_5 := X1a.cell (j := 5) rfl; have ya_0 := Y1a.cell (j := 0) rfl; have ya_1 := Y1a.cell (j := 1) rfl; have hrow := (ho6.lt g6 rfl).1; clear hb6)
      | (refine step_pushG _ (by rfl) _ _ 37 47 (.agg #[.int .i64 0, .int .i64 0]) 2 16 (by rfl) Try.underlying37 info_term rfl (by omega) v2.heap.size _ 0 0 [] (by rfl) ((own_emptyT v2.drew _ (Nat.le_refl _)).alloc _) ⟨A0, 0, none⟩ 1 1 (flatV [(1, (i : Int))]) (by rfl) (by rfl) (terms_news (terms_alloc (terms_alloc HTD.out _) _)) (flatV_one _) (by omega) (by unfold maxLen; omega) (by omega) (by first | (simp; done) | (simp; omega)) ?_; intro g6 c6 w6 ho6 hg6; have hb6 : Below v2.drew.heap.size v2.drew w6 := (((Below.refl _ _).alloc (Nat.le_refl _) _).alloc (by simp) _).grown hg6.1 (by first | (simp; done) | (simp; omega)) (fun k hk => by simp [Value.ownBlock] at hk; subst hk; simp); have HB6 := Lib.hid hb6; have HZ1 := Lib.hid (HZ0.out.trans (hb6.mono HZ0.out.size)); have hLB : Blk ((v2.drew.alloc (.cells #[] 47)).alloc (.cells #[.int .i64 3, .int .i64 0, .int .i64 3, .int .i64 0] 47)) (v2.heap.size + 1) 47 [.int .i64 3, .int .i64 0, .int .i64 3, .int .i64 0] := (by simpa using Blk.new (v2.drew.alloc (.cells #[] 47)) 47 [.int .i64 3, .int .i64 0, .int .i64 3, .int .i64 0]); have hL : w6.heap[v2.heap.size + 1]? = some (.cells #[.int .i64 3, .int .i64 0, .int .i64 3, .int .i64 0] 47 (0, 0)) := (hg6.1.block (v2.heap.size + 1) hLB.lt (fun e => by injection e with e; exact absurd e (Nat.succ_ne_self _))).trans hLB; have Xk1 := HXB.out.below HZ1.out HXB.out.lt; have Yk1 := HYB.out.below HZ1.out HYB.out.lt; have xk1_0 := Xk1.cell (j := 0) rfl; have xk1_1 := Xk1.cell (j := 1) rfl; have xk1_2 := Xk1.cell (j := 2) rfl; have xk1_3 := Xk1.cell (j := 3) rfl; have xk1_4 := Xk1.cell (j := 4) rfl; have xk1_5 := Xk1.cell (j := 5) rfl; have yk1_0 := Yk1.cell (j := 0) rfl; have yk1_1 := Yk1.cell (j := 1) rfl; have X1a := Xk1.alloc (.cells #[.int .i64 3, .int .i64 0, .int .i64 3, .int .i64 0] 47); have Y1a := Yk1.alloc (.cells #[.int .i64 3, .int .i64 0, .int .i64 3, .int .i64 0] 47); have xa_0 := X1a.cell (j := 0) rfl; have xa_1 := X1a.cell (j := 1) rfl; have xa_2 := X1a.cell (j := 2) rfl; have xa_3 := X1a.cell (j := 3) rfl; have xa_4 := X1a.cell (j := 4) rfl; have xa_5 := X1a.cell (j := 5) rfl; have ya_0 := Y1a.cell (j := 0) rfl; have ya_1 := Y1a.cell (j := 1) rfl; have hrow := (ho6.lt g6 rfl).1; clear hb6)
      | (refine step_pushG _ (by rfl) _ _ 37 47 (.agg #[.int .i64 0, .int .i64 0]) 2 16 (by rfl) Try.underlying37 info_term rfl (by omega) v2.heap.size (some ⟨v2.heap.size + 1, 0, none⟩) 0 0 [] (by rfl) (by have ho := own_emptyT (v2.drew.alloc (.cells #[.int .i64 3, .int .i64 0, .int .i64 3, .int .i64 0] 47)) v2.heap.size (by simp); rw [show (v2.drew.alloc (.cells #[.int .i64 3, .int .i64 0, .int .i64 3, .int .i64 0] 47)).heap.size = v2.heap.size + 1 by simp] at ho; exact ho) ⟨A0, 0, none⟩ 1 1 (flatV [(1, (i : Int))]) (by rfl) (by rfl) (terms_news (terms_alloc (terms_alloc HTD.out _) _)) (flatV_one _) (by omega) (by unfold maxLen; omega) (by omega) (by first | (simp; done) | (simp; omega)) ?_; intro g6 c6 w6 ho6 hg6; have hb6 : Below v2.drew.heap.size v2.drew w6 := (((Below.refl _ _).alloc (Nat.le_refl _) _).alloc (by simp) _).grown hg6.1 (by first | (simp; done) | (simp; omega)) (fun k hk => by simp [Value.ownBlock] at hk; subst hk; simp); have HB6 := Lib.hid hb6; have HZ1 := Lib.hid (HZ0.out.trans (hb6.mono HZ0.out.size)); have hLB : Blk ((v2.drew.alloc (.cells #[.int .i64 3, .int .i64 0, .int .i64 3, .int .i64 0] 47)).alloc (.cells #[] 47)) v2.heap.size 47 [.int .i64 3, .int .i64 0, .int .i64 3, .int .i64 0] := (Blk.new v2.drew 47 [.int .i64 3, .int .i64 0, .int .i64 3, .int .i64 0]).alloc _; have hL : w6.heap[v2.heap.size]? = some (.cells #[.int .i64 3, .int .i64 0, .int .i64 3, .int .i64 0] 47 (0, 0)) := (hg6.1.block v2.heap.size hLB.lt (fun e => by injection e with e; exact absurd e (Nat.ne_of_lt (Nat.lt_succ_self _)))).trans hLB; have Xk1 := HXB.out.below HZ1.out HXB.out.lt; have Yk1 := HYB.out.below HZ1.out HYB.out.lt; have xk1_0 := Xk1.cell (j := 0) rfl; have xk1_1 := Xk1.cell (j := 1) rfl; have xk1_2 := Xk1.cell (j := 2) rfl; have xk1_3 := Xk1.cell (j := 3) rfl; have xk1_4 := Xk1.cell (j := 4) rfl; have xk1_5 := Xk1.cell (j := 5) rfl; have yk1_0 := Yk1.cell (j := 0) rfl; have yk1_1 := Yk1.cell (j := 1) rfl; have X1a := Xk1.alloc (.cells #[.int .i64 3, .int .i64 0, .int .i64 3, .int .i64 0] 47); have Y1a := Yk1.alloc (.cells #[.int .i64 3, .int .i64 0, .int .i64 3, .int .i64 0] 47); have xa_0 := X1a.cell (j := 0) rfl; have xa_1 := X1a.cell (j := 1) rfl; have xa_2 := X1a.cell (j := 2) rfl; have xa_3 := X1a.cell (j := 3) rfl; have xa_4 := X1a.cell (j := 4) rfl; have xa_5 := X1a.cell (j := 5) rfl; have ya_0 := Y1a.cell (j := 0) rfl; have ya_1 := Y1a.cell (j := 1) rfl; have hrow := (ho6.lt g6 rfl).1; clear hb6)
      | (refine step_pushG _ (by rfl) _ _ 37 47 (.agg #[.int .i64 0, .int .i64 0]) 2 16 (by rfl) Try.underlying37 info_term rfl (by omega) v2.heap.size _ _ _ _ (by rfl) (ho6) ⟨_, 0, none⟩ 2 2 [.int .i64 3, .int .i64 0, .int .i64 3, .int .i64 0] (by rfl) (by rfl) (World.news_of_block (cs := #[.int .i64 3, .int .i64 0, .int .i64 3, .int .i64 0]) (t := 47) (fr := (0, 0)) hL) (by simp [Value.oneCell']) (by omega) (by unfold maxLen; omega) (by omega) (by have := HB6.out.size; simp at this ⊢; omega) ?_; intro g7 c7 w7 ho7 hg7; have hb7 : Below v2.drew.heap.size v2.drew w7 := (HB6.out).grown hg7.1 (by have := HB6.out.size; simp at this ⊢; omega) (fun k hk => by simp [Value.ownBlock] at hk; subst hk; exact hrow); have HZ2 := Lib.hid (HZ0.out.trans (hb7.mono HZ0.out.size)); have HT2 : Hid (Terms w7 (some ⟨g7, 0, none⟩) (0 + 1 + 2) ([(1, (i : Int))] ++ [(3, 0)] ++ [(3, 0)])) := Lib.hid (OwnT.terms (B := v2.heap.size) (c := c7) ⟨by simpa [flatV] using ho7, by omega, fun t ht => by simp at ht; rcases ht with rfl | rfl <;> exact inTm_small (by omega) (by omega) (by omega) (by omega)⟩); have Xk2 := HXB.out.below HZ2.out HXB.out.lt; have Yk2 := HYB.out.below HZ2.out HYB.out.lt; have xk2_0 := Xk2.cell (j := 0) rfl; have xk2_1 := Xk2.cell (j := 1) rfl; have xk2_2 := Xk2.cell (j := 2) rfl; have xk2_3 := Xk2.cell (j := 3) rfl; have xk2_4 := Xk2.cell (j := 4) rfl; have xk2_5 := Xk2.cell (j := 5) rfl; have yk2_0 := Yk2.cell (j := 0) rfl; have yk2_1 := Yk2.cell (j := 1) rfl; clear hb7)
      | (refine step_pushG _ (by rfl) _ _ 37 47 (.agg #[.int .i64 0, .int .i64 0]) 2 16 (by rfl) Try.underlying37 info_term rfl (by omega) v2.heap.size _ _ _ _ (by rfl) (ho6.alloc _) ⟨_, 0, none⟩ 2 2 [.int .i64 3, .int .i64 0, .int .i64 3, .int .i64 0] (by rfl) (by rfl) (World.news_of_block (cs := #[.int .i64 3, .int .i64 0, .int .i64 3, .int .i64 0]) (t := 47) (fr := (0, 0)) (heap_alloc_new w6 _)) (by simp [Value.oneCell']) (by omega) (by unfold maxLen; omega) (by omega) (by have := HB6.out.size; simp at this ⊢; omega) ?_; intro g7 c7 w7 ho7 hg7; have hb7 : Below v2.drew.heap.size v2.drew w7 := (HB6.out.alloc HB6.out.size _).grown hg7.1 (by have := HB6.out.size; simp at this ⊢; omega) (fun k hk => by simp [Value.ownBlock] at hk; subst hk; exact hrow); have HZ2 := Lib.hid (HZ0.out.trans (hb7.mono HZ0.out.size)); have HT2 : Hid (Terms w7 (some ⟨g7, 0, none⟩) (0 + 1 + 2) ([(1, (i : Int))] ++ [(3, 0)] ++ [(3, 0)])) := Lib.hid (OwnT.terms (B := v2.heap.size) (c := c7) ⟨by simpa [flatV] using ho7, by omega, fun t ht => by simp at ht; rcases ht with rfl | rfl <;> exact inTm_small (by omega) (by omega) (by omega) (by omega)⟩); have Xk2 := HXB.out.below HZ2.out HXB.out.lt; have Yk2 := HYB.out.below HZ2.out HYB.out.lt; have xk2_0 := Xk2.cell (j := 0) rfl; have xk2_1 := Xk2.cell (j := 1) rfl; have xk2_2 := Xk2.cell (j := 2) rfl; have xk2_3 := Xk2.cell (j := 3) rfl; have xk2_4 := Xk2.cell (j := 4) rfl; have xk2_5 := Xk2.cell (j := 5) rfl; have yk2_0 := Yk2.cell (j := 0) rfl; have yk2_1 := Yk2.cell (j := 1) rfl; clear hb7)
      | (go_at_call 13; with_reducible refine (HVL.out _ _ _ ([(1, (i : Int))] ++ [(3, 0)] ++ [(3, 0)]) _ HZ2.out HT2.out).mono ?_; rintro e v3 ⟨rfl, hbv⟩; rw [HSU.out.turned]; have HZE := Lib.hid (HZ2.out.trans (hbv.mono HZ2.out.size)); have Xe := HXB.out.below HZE.out HXB.out.lt; have Ye := HYB.out.below HZE.out HYB.out.lt; have xe_0 := Xe.cell (j := 0) rfl; have xe_1 := Xe.cell (j := 1) rfl; have xe_2 := Xe.cell (j := 2) rfl; have xe_3 := Xe.cell (j := 3) rfl; have xe_4 := Xe.cell (j := 4) rfl; have xe_5 := Xe.cell (j := 5) rfl; have ye_0 := Ye.cell (j := 0) rfl; have ye_1 := Ye.cell (j := 1) rfl; clear hbv))
    all_goals
      go_wp2_with fail
      go_meet
      exact ⟨rfl, ⟨_, rfl⟩, HZE.out⟩
  clear x0 x1 x2 x3 x4 x5 y0 y1 X Y hwz
  obtain ⟨rfl, ⟨_, rfl⟩, hwz⟩ := hcut
  generalize wc = v3 at hwz ⊢
  have X := HXB.out.below hwz HXB.out.lt
  have Y := HYB.out.below hwz HYB.out.lt
  have x0 := X.cell (j := 0) rfl
  have x1 := X.cell (j := 1) rfl
  have x2 := X.cell (j := 2) rfl
  have x3 := X.cell (j := 3) rfl
  have x4 := X.cell (j := 4) rfl
  have x5 := X.cell (j := 5) rfl
  have y0 := Y.cell (j := 0) rfl
  have y1 := Y.cell (j := 1) rfl
  go_wp2_with fail
  have hd : Below v3.heap.size v3 v3.drew := ⟨rfl, rfl, rfl, Nat.le_refl _, fun _ _ => rfl⟩
  have HZ0 := Lib.hid (hwz.trans (hd.mono hwz.size))
  go_region_held3 (fun w' => w'.cell? ⟨X0, 0, none⟩ = some (.int .i64 wd) ∧ w'.cell? ⟨X0, 1, none⟩ = some (.slice q1 m1 d1) ∧ w'.cell? ⟨X0, 2, none⟩ = some (.slice q2 m2 d2) ∧ w'.cell? ⟨X0, 3, none⟩ = some (.int .i64 tp) ∧ w'.cell? ⟨X0, 4, none⟩ = some (.slice q3 m3 d3) ∧ w'.cell? ⟨X0, 5, none⟩ = some (.slice q4 m4 d4) ∧ w'.cell? ⟨Y0, 0, none⟩ = some (.slice f1 h1 k1) ∧ w'.cell? ⟨Y0, 1, none⟩ = some (.slice f2 h2 k2)) (first | (refine ⟨?_, ?_, ?_, ?_, ?_, ?_, ?_, ?_⟩ <;> assumption) | go_keep | (refine ⟨?_, ?_, ?_, ?_, ?_, ?_, ?_, ?_⟩ <;> go_keep)) (first
    | (go_at_call 20; with_reducible refine (two_lit (op := 12) (by omega) (by omega) 3 (by omega) (by omega) ([(1, (i : Int))]) ([(1, (j : Int))]) _ (HTA.out.below (Nat.le_refl _) HZ0.out) (HTB0.out.below (Nat.le_refl _) HZ0.out)).mono ?_; rintro e u1 ⟨gk1, c1, rfl, hok1, hbk1⟩; have HZ1 := Lib.hid (HZ0.out.trans (hbk1.mono HZ0.out.size)); have HT1 := Lib.hid hok1; have Xk1 := HXB.out.below HZ1.out HXB.out.lt; have Yk1 := HYB.out.below HZ1.out HYB.out.lt; have xk1_0 := Xk1.cell (j := 0) rfl; have xk1_1 := Xk1.cell (j := 1) rfl; have xk1_2 := Xk1.cell (j := 2) rfl; have xk1_3 := Xk1.cell (j := 3) rfl; have xk1_4 := Xk1.cell (j := 4) rfl; have xk1_5 := Xk1.cell (j := 5) rfl; have yk1_0 := Yk1.cell (j := 0) rfl; have yk1_1 := Yk1.cell (j := 1) rfl; clear hok1 hbk1)
    | (go_at_call 20; with_reducible refine (two_lit (op := 12) (by omega) (by omega) 5 (by omega) (by omega) (([(1, (i : Int))]) ++ ([(1, (j : Int))]) ++ [(12, 0)]) ([(1, (j : Int))]) _ HT1.out (HTB0.out.below (Nat.le_refl _) HZ1.out)).mono ?_; rintro e u2 ⟨gk2, c2, rfl, hok2, hbk2⟩; have HZ2 := Lib.hid (HZ1.out.trans (hbk2.mono HZ1.out.size)); have HT2 := Lib.hid hok2; have HT1 := Lib.hid (HT1.out.below (Nat.le_refl _) hbk2); have Xk2 := HXB.out.below HZ2.out HXB.out.lt; have Yk2 := HYB.out.below HZ2.out HYB.out.lt; have xk2_0 := Xk2.cell (j := 0) rfl; have xk2_1 := Xk2.cell (j := 1) rfl; have xk2_2 := Xk2.cell (j := 2) rfl; have xk2_3 := Xk2.cell (j := 3) rfl; have xk2_4 := Xk2.cell (j := 4) rfl; have xk2_5 := Xk2.cell (j := 5) rfl; have yk2_0 := Yk2.cell (j := 0) rfl; have yk2_1 := Yk2.cell (j := 1) rfl; clear hok2 hbk2)
    | (go_at_call 13; with_reducible refine (HVL.out _ _ _ ((([(1, (i : Int))]) ++ ([(1, (j : Int))]) ++ [(12, 0)]) ++ ([(1, (j : Int))]) ++ [(12, 0)]) _ HZ2.out HT2.out).mono ?_; rintro e v4 ⟨rfl, hbv⟩; rw [HSU.out.crossed]; have HZE := Lib.hid (HZ2.out.trans (hbv.mono HZ2.out.size)); have Xe := HXB.out.below HZE.out HXB.out.lt; have Ye := HYB.out.below HZE.out HYB.out.lt; have xe_0 := Xe.cell (j := 0) rfl; have xe_1 := Xe.cell (j := 1) rfl; have xe_2 := Xe.cell (j := 2) rfl; have xe_3 := Xe.cell (j := 3) rfl; have xe_4 := Xe.cell (j := 4) rfl; have xe_5 := Xe.cell (j := 5) rfl; have ye_0 := Ye.cell (j := 0) rfl; have ye_1 := Ye.cell (j := 1) rfl; clear hbv))
  have hwz := HZE.out
  clear xe_0 xe_1 xe_2 xe_3 xe_4 xe_5 ye_0 ye_1 xk1_0 xk1_1 xk1_2 xk1_3 xk1_4 xk1_5 yk1_0 yk1_1 xk2_0 xk2_1 xk2_2 xk2_3 xk2_4 xk2_5 yk2_0 yk2_1 Xk1 Yk1 HT1 HZ1 Xk2 Yk2 HT2 HZ2 Xe Ye HZE HZ0 hd X Y x0 x1 x2 x3 x4 x5 y0 y1
  have X := HXB.out.below hwz HXB.out.lt
  have Y := HYB.out.below hwz HYB.out.lt
  have x0 := X.cell (j := 0) rfl
  have x1 := X.cell (j := 1) rfl
  have x2 := X.cell (j := 2) rfl
  have x3 := X.cell (j := 3) rfl
  have x4 := X.cell (j := 4) rfl
  have x5 := X.cell (j := 5) rfl
  have y0 := Y.cell (j := 0) rfl
  have y1 := Y.cell (j := 1) rfl
  go_upto_region 13 with fail
  go_cut [18, 19] (fun av bv wx => av = .int .i64 (0) ∧ (∃ t : Int, bv = .int .i64 t) ∧ Below wz.heap.size wz wx)
  case first =>
    have hd : Below v4.heap.size v4 v4.drew := ⟨rfl, rfl, rfl, Nat.le_refl _, fun _ _ => rfl⟩
    have HZ0 := Lib.hid (hwz.trans (hd.mono hwz.size))
    have HTD := Lib.hid (HTA.out.below (Nat.le_refl _) HZ0.out)
    go_region_held3 (fun w' => w'.cell? ⟨X0, 0, none⟩ = some (.int .i64 wd) ∧ w'.cell? ⟨X0, 1, none⟩ = some (.slice q1 m1 d1) ∧ w'.cell? ⟨X0, 2, none⟩ = some (.slice q2 m2 d2) ∧ w'.cell? ⟨X0, 3, none⟩ = some (.int .i64 tp) ∧ w'.cell? ⟨X0, 4, none⟩ = some (.slice q3 m3 d3) ∧ w'.cell? ⟨X0, 5, none⟩ = some (.slice q4 m4 d4) ∧ w'.cell? ⟨Y0, 0, none⟩ = some (.slice f1 h1 k1) ∧ w'.cell? ⟨Y0, 1, none⟩ = some (.slice f2 h2 k2)) (first | (refine ⟨?_, ?_, ?_, ?_, ?_, ?_, ?_, ?_⟩ <;> assumption) | go_keep | (refine ⟨?_, ?_, ?_, ?_, ?_, ?_, ?_, ?_⟩ <;> go_keep)) (first
      | (refine step_pushG _ (by rfl) _ _ 37 47 (.agg #[.int .i64 0, .int .i64 0]) 2 16 (by rfl) Try.underlying37 info_term rfl (by omega) v4.heap.size _ 0 0 [] (by rfl) (own_emptyT v4.drew _ (Nat.le_refl _)) ⟨A0, 0, none⟩ 1 1 (flatV [(1, (i : Int))]) (by rfl) (by rfl) (terms_news (terms_alloc HTD.out _)) (flatV_one _) (by omega) (by unfold maxLen; omega) (by omega) (by first | (simp; done) | (simp; omega)) ?_; intro g6 c6 w6 ho6 hg6; have hb6 : Below v4.drew.heap.size v4.drew w6 := ((Below.refl _ _).alloc (Nat.le_refl _) _).grown hg6.1 (by first | (simp; done) | (simp; omega)) (fun k hk => by simp [Value.ownBlock] at hk; subst hk; simp); have HB6 := Lib.hid hb6; have HZ1 := Lib.hid (HZ0.out.trans (hb6.mono HZ0.out.size)); have Xk1 := HXB.out.below HZ1.out HXB.out.lt; have Yk1 := HYB.out.below HZ1.out HYB.out.lt; have xk1_0 := Xk1.cell (j := 0) rfl; have xk1_1 := Xk1.cell (j := 1) rfl; have xk1_2 := Xk1.cell (j := 2) rfl; have xk1_3 := Xk1.cell (j := 3) rfl; have xk1_4 := Xk1.cell (j := 4) rfl; have xk1_5 := Xk1.cell (j := 5) rfl; have yk1_0 := Yk1.cell (j := 0) rfl; have yk1_1 := Yk1.cell (j := 1) rfl; have X1a := Xk1.alloc (.cells #[.int .i64 4, .int .i64 0] 47); have Y1a := Yk1.alloc (.cells #[.int .i64 4, .int .i64 0] 47); have xa_0 := X1a.cell (j := 0) rfl; have xa_1 := X1a.cell (j := 1) rfl; have xa_2 := X1a.cell (j := 2) rfl; have xa_3 := X1a.cell (j := 3) rfl; have xa_4 := X1a.cell (j := 4) rfl; have xa_5 := X1a.cell (j := 5) rfl; have ya_0 := Y1a.cell (j := 0) rfl; have ya_1 := Y1a.cell (j := 1) rfl; have hrow := (ho6.lt g6 rfl).1; clear hb6)
      | (refine step_pushG _ (by rfl) _ _ 37 47 (.agg #[.int .i64 0, .int .i64 0]) 2 16 (by rfl) Try.underlying37 info_term rfl (by omega) v4.heap.size _ 0 0 [] (by rfl) ((own_emptyT v4.drew _ (Nat.le_refl _)).alloc _) ⟨A0, 0, none⟩ 1 1 (flatV [(1, (i : Int))]) (by rfl) (by rfl) (terms_news (terms_alloc (terms_alloc HTD.out _) _)) (flatV_one _) (by omega) (by unfold maxLen; omega) (by omega) (by first | (simp; done) | (simp; omega)) ?_; intro g6 c6 w6 ho6 hg6; have hb6 : Below v4.drew.heap.size v4.drew w6 := (((Below.refl _ _).alloc (Nat.le_refl _) _).alloc (by simp) _).grown hg6.1 (by first | (simp; done) | (simp; omega)) (fun k hk => by simp [Value.ownBlock] at hk; subst hk; simp); have HB6 := Lib.hid hb6; have HZ1 := Lib.hid (HZ0.out.trans (hb6.mono HZ0.out.size)); have hLB : Blk ((v4.drew.alloc (.cells #[] 47)).alloc (.cells #[.int .i64 4, .int .i64 0] 47)) (v4.heap.size + 1) 47 [.int .i64 4, .int .i64 0] := (by simpa using Blk.new (v4.drew.alloc (.cells #[] 47)) 47 [.int .i64 4, .int .i64 0]); have hL : w6.heap[v4.heap.size + 1]? = some (.cells #[.int .i64 4, .int .i64 0] 47 (0, 0)) := (hg6.1.block (v4.heap.size + 1) hLB.lt (fun e => by injection e with e; exact absurd e (Nat.succ_ne_self _))).trans hLB; have Xk1 := HXB.out.below HZ1.out HXB.out.lt; have Yk1 := HYB.out.below HZ1.out HYB.out.lt; have xk1_0 := Xk1.cell (j := 0) rfl; have xk1_1 := Xk1.cell (j := 1) rfl; have xk1_2 := Xk1.cell (j := 2) rfl; have xk1_3 := Xk1.cell (j := 3) rfl; have xk1_4 := Xk1.cell (j := 4) rfl; have xk1_5 := Xk1.cell (j := 5) rfl; have yk1_0 := Yk1.cell (j := 0) rfl; have yk1_1 := Yk1.cell (j := 1) rfl; have X1a := Xk1.alloc (.cells #[.int .i64 4, .int .i64 0] 47); have Y1a := Yk1.alloc (.cells #[.int .i64 4, .int .i64 0] 47); have xa_0 := X1a.cell (j := 0) rfl; have xa_1 := X1a.cell (j := 1) rfl; have xa_2 := X1a.cell (j := 2) rfl; have xa_3 := X1a.cell (j := 3) rfl; have xa_4 := X1a.cell (j := 4) rfl; have xa_5 := X1a.cell (j := 5) rfl; have ya_0 := Y1a.cell (j := 0) rfl; have ya_1 := Y1a.cell (j := 1) rfl; have hrow := (ho6.lt g6 rfl).1; clear hb6)
      | (refine step_pushG _ (by rfl) _ _ 37 47 (.agg #[.int .i64 0, .int .i64 0]) 2 16 (by rfl) Try.underlying37 info_term rfl (by omega) v4.heap.size (some ⟨v4.heap.size + 1, 0, none⟩) 0 0 [] (by rfl) (by have ho := own_emptyT (v4.drew.alloc (.cells #[.int .i64 4, .int .i64 0] 47)) v4.heap.size (by simp); rw [show (v4.drew.alloc (.cells #[.int .i64 4, .int .i64 0] 47)).heap.size = v4.heap.size + 1 by simp] at ho; exact ho) ⟨A0, 0, none⟩ 1 1 (flatV [(1, (i : Int))]) (by rfl) (by rfl) (terms_news (terms_alloc (terms_alloc HTD.out _) _)) (flatV_one _) (by omega) (by unfold maxLen; omega) (by omega) (by first | (simp; done) | (simp; omega)) ?_; intro g6 c6 w6 ho6 hg6; have hb6 : Below v4.drew.heap.size v4.drew w6 := (((Below.refl _ _).alloc (Nat.le_refl _) _).alloc (by simp) _).grown hg6.1 (by first | (simp; done) | (simp; omega)) (fun k hk => by simp [Value.ownBlock] at hk; subst hk; simp); have HB6 := Lib.hid hb6; have HZ1 := Lib.hid (HZ0.out.trans (hb6.mono HZ0.out.size)); have hLB : Blk ((v4.drew.alloc (.cells #[.int .i64 4, .int .i64 0] 47)).alloc (.cells #[] 47)) v4.heap.size 47 [.int .i64 4, .int .i64 0] := (Blk.new v4.drew 47 [.int .i64 4, .int .i64 0]).alloc _; have hL : w6.heap[v4.heap.size]? = some (.cells #[.int .i64 4, .int .i64 0] 47 (0, 0)) := (hg6.1.block v4.heap.size hLB.lt (fun e => by injection e with e; exact absurd e (Nat.ne_of_lt (Nat.lt_succ_self _)))).trans hLB; have Xk1 := HXB.out.below HZ1.out HXB.out.lt; have Yk1 := HYB.out.below HZ1.out HYB.out.lt; have xk1_0 := Xk1.cell (j := 0) rfl; have xk1_1 := Xk1.cell (j := 1) rfl; have xk1_2 := Xk1.cell (j := 2) rfl; have xk1_3 := Xk1.cell (j := 3) rfl; have xk1_4 := Xk1.cell (j := 4) rfl; have xk1_5 := Xk1.cell (j := 5) rfl; have yk1_0 := Yk1.cell (j := 0) rfl; have yk1_1 := Yk1.cell (j := 1) rfl; have X1a := Xk1.alloc (.cells #[.int .i64 4, .int .i64 0] 47); have Y1a := Yk1.alloc (.cells #[.int .i64 4, .int .i64 0] 47); have xa_0 := X1a.cell (j := 0) rfl; have xa_1 := X1a.cell (j := 1) rfl; have xa_2 := X1a.cell (j := 2) rfl; have xa_3 := X1a.cell (j := 3) rfl; have xa_4 := X1a.cell (j := 4) rfl; have xa_5 := X1a.cell (j := 5) rfl; have ya_0 := Y1a.cell (j := 0) rfl; have ya_1 := Y1a.cell (j := 1) rfl; have hrow := (ho6.lt g6 rfl).1; clear hb6)
      | (refine step_pushG _ (by rfl) _ _ 37 47 (.agg #[.int .i64 0, .int .i64 0]) 2 16 (by rfl) Try.underlying37 info_term rfl (by omega) v4.heap.size _ _ _ _ (by rfl) (ho6) ⟨_, 0, none⟩ 1 1 [.int .i64 4, .int .i64 0] (by rfl) (by rfl) (World.news_of_block (cs := #[.int .i64 4, .int .i64 0]) (t := 47) (fr := (0, 0)) hL) (by simp [Value.oneCell']) (by omega) (by unfold maxLen; omega) (by omega) (by have := HB6.out.size; simp at this ⊢; omega) ?_; intro g7 c7 w7 ho7 hg7; have hb7 : Below v4.drew.heap.size v4.drew w7 := (HB6.out).grown hg7.1 (by have := HB6.out.size; simp at this ⊢; omega) (fun k hk => by simp [Value.ownBlock] at hk; subst hk; exact hrow); have HZ2 := Lib.hid (HZ0.out.trans (hb7.mono HZ0.out.size)); have HT2 : Hid (Terms w7 (some ⟨g7, 0, none⟩) (0 + 1 + 1) ([(1, (i : Int))] ++ [(4, 0)])) := Lib.hid (OwnT.terms (B := v4.heap.size) (c := c7) ⟨by simpa [flatV] using ho7, by omega, fun t ht => by simp at ht; rcases ht with rfl | rfl <;> exact inTm_small (by omega) (by omega) (by omega) (by omega)⟩); have Xk2 := HXB.out.below HZ2.out HXB.out.lt; have Yk2 := HYB.out.below HZ2.out HYB.out.lt; have xk2_0 := Xk2.cell (j := 0) rfl; have xk2_1 := Xk2.cell (j := 1) rfl; have xk2_2 := Xk2.cell (j := 2) rfl; have xk2_3 := Xk2.cell (j := 3) rfl; have xk2_4 := Xk2.cell (j := 4) rfl; have xk2_5 := Xk2.cell (j := 5) rfl; have yk2_0 := Yk2.cell (j := 0) rfl; have yk2_1 := Yk2.cell (j := 1) rfl; clear hb7)
      | (refine step_pushG _ (by rfl) _ _ 37 47 (.agg #[.int .i64 0, .int .i64 0]) 2 16 (by rfl) Try.underlying37 info_term rfl (by omega) v4.heap.size _ _ _ _ (by rfl) (ho6.alloc _) ⟨_, 0, none⟩ 1 1 [.int .i64 4, .int .i64 0] (by rfl) (by rfl) (World.news_of_block (cs := #[.int .i64 4, .int .i64 0]) (t := 47) (fr := (0, 0)) (heap_alloc_new w6 _)) (by simp [Value.oneCell']) (by omega) (by unfold maxLen; omega) (by omega) (by have := HB6.out.size; simp at this ⊢; omega) ?_; intro g7 c7 w7 ho7 hg7; have hb7 : Below v4.drew.heap.size v4.drew w7 := (HB6.out.alloc HB6.out.size _).grown hg7.1 (by have := HB6.out.size; simp at this ⊢; omega) (fun k hk => by simp [Value.ownBlock] at hk; subst hk; exact hrow); have HZ2 := Lib.hid (HZ0.out.trans (hb7.mono HZ0.out.size)); have HT2 : Hid (Terms w7 (some ⟨g7, 0, none⟩) (0 + 1 + 1) ([(1, (i : Int))] ++ [(4, 0)])) := Lib.hid (OwnT.terms (B := v4.heap.size) (c := c7) ⟨by simpa [flatV] using ho7, by omega, fun t ht => by simp at ht; rcases ht with rfl | rfl <;> exact inTm_small (by omega) (by omega) (by omega) (by omega)⟩); have Xk2 := HXB.out.below HZ2.out HXB.out.lt; have Yk2 := HYB.out.below HZ2.out HYB.out.lt; have xk2_0 := Xk2.cell (j := 0) rfl; have xk2_1 := Xk2.cell (j := 1) rfl; have xk2_2 := Xk2.cell (j := 2) rfl; have xk2_3 := Xk2.cell (j := 3) rfl; have xk2_4 := Xk2.cell (j := 4) rfl; have xk2_5 := Xk2.cell (j := 5) rfl; have yk2_0 := Yk2.cell (j := 0) rfl; have yk2_1 := Yk2.cell (j := 1) rfl; clear hb7)
      | (go_at_call 20; with_reducible refine (two_lit (op := 5) (by omega) (by omega) 4 (by omega) (by omega) ([(1, (i : Int))]) ([(1, (i : Int))] ++ [(4, 0)]) _ (HTA.out.below (Nat.le_refl _) HZ2.out) HT2.out).mono ?_; rintro e u3 ⟨gk3, c3, rfl, hok3, hbk3⟩; have HZ3 := Lib.hid (HZ2.out.trans (hbk3.mono HZ2.out.size)); have HT3 := Lib.hid hok3; have HT2 := Lib.hid (HT2.out.below (Nat.le_refl _) hbk3); have Xk3 := HXB.out.below HZ3.out HXB.out.lt; have Yk3 := HYB.out.below HZ3.out HYB.out.lt; have xk3_0 := Xk3.cell (j := 0) rfl; have xk3_1 := Xk3.cell (j := 1) rfl; have xk3_2 := Xk3.cell (j := 2) rfl; have xk3_3 := Xk3.cell (j := 3) rfl; have xk3_4 := Xk3.cell (j := 4) rfl; have xk3_5 := Xk3.cell (j := 5) rfl; have yk3_0 := Yk3.cell (j := 0) rfl; have yk3_1 := Yk3.cell (j := 1) rfl; clear hok3 hbk3)
      | (go_at_call 13; with_reducible refine (HVL.out _ _ _ (([(1, (i : Int))]) ++ ([(1, (i : Int))] ++ [(4, 0)]) ++ [(5, 0)]) _ HZ3.out HT3.out).mono ?_; rintro e v5 ⟨rfl, hbv⟩; rw [HSU.out.less]; have HZE := Lib.hid (HZ3.out.trans (hbv.mono HZ3.out.size)); have Xe := HXB.out.below HZE.out HXB.out.lt; have Ye := HYB.out.below HZE.out HYB.out.lt; have xe_0 := Xe.cell (j := 0) rfl; have xe_1 := Xe.cell (j := 1) rfl; have xe_2 := Xe.cell (j := 2) rfl; have xe_3 := Xe.cell (j := 3) rfl; have xe_4 := Xe.cell (j := 4) rfl; have xe_5 := Xe.cell (j := 5) rfl; have ye_0 := Ye.cell (j := 0) rfl; have ye_1 := Ye.cell (j := 1) rfl; clear hbv))
    all_goals
      go_wp2_with fail
      go_meet
      exact ⟨rfl, ⟨_, rfl⟩, HZE.out⟩
  clear x0 x1 x2 x3 x4 x5 y0 y1 X Y hwz
  obtain ⟨rfl, ⟨_, rfl⟩, hwz⟩ := hcut
  generalize wc = v5 at hwz ⊢
  have X := HXB.out.below hwz HXB.out.lt
  have Y := HYB.out.below hwz HYB.out.lt
  have x0 := X.cell (j := 0) rfl
  have x1 := X.cell (j := 1) rfl
  have x2 := X.cell (j := 2) rfl
  have x3 := X.cell (j := 3) rfl
  have x4 := X.cell (j := 4) rfl
  have x5 := X.cell (j := 5) rfl
  have y0 := Y.cell (j := 0) rfl
  have y1 := Y.cell (j := 1) rfl
  go_wp2_with fail
  have hd : Below v5.heap.size v5 v5.drew := ⟨rfl, rfl, rfl, Nat.le_refl _, fun _ _ => rfl⟩
  have HZ0 := Lib.hid (hwz.trans (hd.mono hwz.size))
  go_region_held3 (fun w' => w'.cell? ⟨X0, 0, none⟩ = some (.int .i64 wd) ∧ w'.cell? ⟨X0, 1, none⟩ = some (.slice q1 m1 d1) ∧ w'.cell? ⟨X0, 2, none⟩ = some (.slice q2 m2 d2) ∧ w'.cell? ⟨X0, 3, none⟩ = some (.int .i64 tp) ∧ w'.cell? ⟨X0, 4, none⟩ = some (.slice q3 m3 d3) ∧ w'.cell? ⟨X0, 5, none⟩ = some (.slice q4 m4 d4) ∧ w'.cell? ⟨Y0, 0, none⟩ = some (.slice f1 h1 k1) ∧ w'.cell? ⟨Y0, 1, none⟩ = some (.slice f2 h2 k2)) (first | (refine ⟨?_, ?_, ?_, ?_, ?_, ?_, ?_, ?_⟩ <;> assumption) | go_keep | (refine ⟨?_, ?_, ?_, ?_, ?_, ?_, ?_, ?_⟩ <;> go_keep)) (first
    | (go_at_call 20; with_reducible refine (two_lit (op := 8) (by omega) (by omega) 3 (by omega) (by omega) ([(1, (i : Int))]) ([(1, (j : Int))]) _ (HTA.out.below (Nat.le_refl _) HZ0.out) (HTB0.out.below (Nat.le_refl _) HZ0.out)).mono ?_; rintro e u1 ⟨gk1, c1, rfl, hok1, hbk1⟩; have HZ1 := Lib.hid (HZ0.out.trans (hbk1.mono HZ0.out.size)); have HT1 := Lib.hid hok1; have Xk1 := HXB.out.below HZ1.out HXB.out.lt; have Yk1 := HYB.out.below HZ1.out HYB.out.lt; have xk1_0 := Xk1.cell (j := 0) rfl; have xk1_1 := Xk1.cell (j := 1) rfl; have xk1_2 := Xk1.cell (j := 2) rfl; have xk1_3 := Xk1.cell (j := 3) rfl; have xk1_4 := Xk1.cell (j := 4) rfl; have xk1_5 := Xk1.cell (j := 5) rfl; have yk1_0 := Yk1.cell (j := 0) rfl; have yk1_1 := Yk1.cell (j := 1) rfl; clear hok1 hbk1)
    | (go_at_call 20; with_reducible refine (two_lit (op := 7) (by omega) (by omega) 5 (by omega) (by omega) (([(1, (i : Int))]) ++ ([(1, (j : Int))]) ++ [(8, 0)]) ([(1, (j : Int))]) _ HT1.out (HTB0.out.below (Nat.le_refl _) HZ1.out)).mono ?_; rintro e u2 ⟨gk2, c2, rfl, hok2, hbk2⟩; have HZ2 := Lib.hid (HZ1.out.trans (hbk2.mono HZ1.out.size)); have HT2 := Lib.hid hok2; have HT1 := Lib.hid (HT1.out.below (Nat.le_refl _) hbk2); have Xk2 := HXB.out.below HZ2.out HXB.out.lt; have Yk2 := HYB.out.below HZ2.out HYB.out.lt; have xk2_0 := Xk2.cell (j := 0) rfl; have xk2_1 := Xk2.cell (j := 1) rfl; have xk2_2 := Xk2.cell (j := 2) rfl; have xk2_3 := Xk2.cell (j := 3) rfl; have xk2_4 := Xk2.cell (j := 4) rfl; have xk2_5 := Xk2.cell (j := 5) rfl; have yk2_0 := Yk2.cell (j := 0) rfl; have yk2_1 := Yk2.cell (j := 1) rfl; clear hok2 hbk2)
    | (go_at_call 20; with_reducible refine (two_lit (op := 9) (by omega) (by omega) 3 (by omega) (by omega) ([(1, (i : Int))]) ([(1, (j : Int))]) _ (HTA.out.below (Nat.le_refl _) HZ2.out) (HTB0.out.below (Nat.le_refl _) HZ2.out)).mono ?_; rintro e u3 ⟨gk3, c3, rfl, hok3, hbk3⟩; have HZ3 := Lib.hid (HZ2.out.trans (hbk3.mono HZ2.out.size)); have HT3 := Lib.hid hok3; have HT1 := Lib.hid (HT1.out.below (Nat.le_refl _) hbk3); have HT2 := Lib.hid (HT2.out.below (Nat.le_refl _) hbk3); have Xk3 := HXB.out.below HZ3.out HXB.out.lt; have Yk3 := HYB.out.below HZ3.out HYB.out.lt; have xk3_0 := Xk3.cell (j := 0) rfl; have xk3_1 := Xk3.cell (j := 1) rfl; have xk3_2 := Xk3.cell (j := 2) rfl; have xk3_3 := Xk3.cell (j := 3) rfl; have xk3_4 := Xk3.cell (j := 4) rfl; have xk3_5 := Xk3.cell (j := 5) rfl; have yk3_0 := Yk3.cell (j := 0) rfl; have yk3_1 := Yk3.cell (j := 1) rfl; clear hok3 hbk3)
    | (go_at_call 20; with_reducible refine (two_lit (op := 5) (by omega) (by omega) 9 (by omega) (by omega) ((([(1, (i : Int))]) ++ ([(1, (j : Int))]) ++ [(8, 0)]) ++ ([(1, (j : Int))]) ++ [(7, 0)]) (([(1, (i : Int))]) ++ ([(1, (j : Int))]) ++ [(9, 0)]) _ HT2.out HT3.out).mono ?_; rintro e u4 ⟨gk4, c4, rfl, hok4, hbk4⟩; have HZ4 := Lib.hid (HZ3.out.trans (hbk4.mono HZ3.out.size)); have HT4 := Lib.hid hok4; have HT1 := Lib.hid (HT1.out.below (Nat.le_refl _) hbk4); have HT2 := Lib.hid (HT2.out.below (Nat.le_refl _) hbk4); have HT3 := Lib.hid (HT3.out.below (Nat.le_refl _) hbk4); have Xk4 := HXB.out.below HZ4.out HXB.out.lt; have Yk4 := HYB.out.below HZ4.out HYB.out.lt; have xk4_0 := Xk4.cell (j := 0) rfl; have xk4_1 := Xk4.cell (j := 1) rfl; have xk4_2 := Xk4.cell (j := 2) rfl; have xk4_3 := Xk4.cell (j := 3) rfl; have xk4_4 := Xk4.cell (j := 4) rfl; have xk4_5 := Xk4.cell (j := 5) rfl; have yk4_0 := Yk4.cell (j := 0) rfl; have yk4_1 := Yk4.cell (j := 1) rfl; clear hok4 hbk4)
    | (go_at_call 13; with_reducible refine (HVL.out _ _ _ (((([(1, (i : Int))]) ++ ([(1, (j : Int))]) ++ [(8, 0)]) ++ ([(1, (j : Int))]) ++ [(7, 0)]) ++ (([(1, (i : Int))]) ++ ([(1, (j : Int))]) ++ [(9, 0)]) ++ [(5, 0)]) _ HZ4.out HT4.out).mono ?_; rintro e v6 ⟨rfl, hbv⟩; have HZE := Lib.hid (HZ4.out.trans (hbv.mono HZ4.out.size)); have Xe := HXB.out.below HZE.out HXB.out.lt; have Ye := HYB.out.below HZE.out HYB.out.lt; have xe_0 := Xe.cell (j := 0) rfl; have xe_1 := Xe.cell (j := 1) rfl; have xe_2 := Xe.cell (j := 2) rfl; have xe_3 := Xe.cell (j := 3) rfl; have xe_4 := Xe.cell (j := 4) rfl; have xe_5 := Xe.cell (j := 5) rfl; have ye_0 := Ye.cell (j := 0) rfl; have ye_1 := Ye.cell (j := 1) rfl; clear hbv))
  have hwz := HZE.out
  clear xe_0 xe_1 xe_2 xe_3 xe_4 xe_5 ye_0 ye_1 xk1_0 xk1_1 xk1_2 xk1_3 xk1_4 xk1_5 yk1_0 yk1_1 xk2_0 xk2_1 xk2_2 xk2_3 xk2_4 xk2_5 yk2_0 yk2_1 xk3_0 xk3_1 xk3_2 xk3_3 xk3_4 xk3_5 yk3_0 yk3_1 xk4_0 xk4_1 xk4_2 xk4_3 xk4_4 xk4_5 yk4_0 yk4_1 Xk1 Yk1 HT1 HZ1 Xk2 Yk2 HT2 HZ2 Xk3 Yk3 HT3 HZ3 Xk4 Yk4 HT4 HZ4 Xe Ye HZE HZ0 hd X Y x0 x1 x2 x3 x4 x5 y0 y1
  have X := HXB.out.below hwz HXB.out.lt
  have Y := HYB.out.below hwz HYB.out.lt
  have x0 := X.cell (j := 0) rfl
  have x1 := X.cell (j := 1) rfl
  have x2 := X.cell (j := 2) rfl
  have x3 := X.cell (j := 3) rfl
  have x4 := X.cell (j := 4) rfl
  have x5 := X.cell (j := 5) rfl
  have y0 := Y.cell (j := 0) rfl
  have y1 := Y.cell (j := 1) rfl
  go_wp2_with fail
  have hd : Below v6.heap.size v6 v6.drew := ⟨rfl, rfl, rfl, Nat.le_refl _, fun _ _ => rfl⟩
  have HZ0 := Lib.hid (hwz.trans (hd.mono hwz.size))
  go_region_held3 (fun w' => w'.cell? ⟨X0, 0, none⟩ = some (.int .i64 wd) ∧ w'.cell? ⟨X0, 1, none⟩ = some (.slice q1 m1 d1) ∧ w'.cell? ⟨X0, 2, none⟩ = some (.slice q2 m2 d2) ∧ w'.cell? ⟨X0, 3, none⟩ = some (.int .i64 tp) ∧ w'.cell? ⟨X0, 4, none⟩ = some (.slice q3 m3 d3) ∧ w'.cell? ⟨X0, 5, none⟩ = some (.slice q4 m4 d4) ∧ w'.cell? ⟨Y0, 0, none⟩ = some (.slice f1 h1 k1) ∧ w'.cell? ⟨Y0, 1, none⟩ = some (.slice f2 h2 k2)) (first | (refine ⟨?_, ?_, ?_, ?_, ?_, ?_, ?_, ?_⟩ <;> assumption) | go_keep | (refine ⟨?_, ?_, ?_, ?_, ?_, ?_, ?_, ?_⟩ <;> go_keep)) (first
    | (go_at_call 20; with_reducible refine (two_lit (op := 10) (by omega) (by omega) 3 (by omega) (by omega) ([(1, (i : Int))]) ([(1, (j : Int))]) _ (HTA.out.below (Nat.le_refl _) HZ0.out) (HTB0.out.below (Nat.le_refl _) HZ0.out)).mono ?_; rintro e u1 ⟨gk1, c1, rfl, hok1, hbk1⟩; have HZ1 := Lib.hid (HZ0.out.trans (hbk1.mono HZ0.out.size)); have HT1 := Lib.hid hok1; have Xk1 := HXB.out.below HZ1.out HXB.out.lt; have Yk1 := HYB.out.below HZ1.out HYB.out.lt; have xk1_0 := Xk1.cell (j := 0) rfl; have xk1_1 := Xk1.cell (j := 1) rfl; have xk1_2 := Xk1.cell (j := 2) rfl; have xk1_3 := Xk1.cell (j := 3) rfl; have xk1_4 := Xk1.cell (j := 4) rfl; have xk1_5 := Xk1.cell (j := 5) rfl; have yk1_0 := Yk1.cell (j := 0) rfl; have yk1_1 := Yk1.cell (j := 1) rfl; clear hok1 hbk1)
    | (go_at_call 20; with_reducible refine (two_lit (op := 11) (by omega) (by omega) 3 (by omega) (by omega) ([(1, (i : Int))]) ([(1, (j : Int))]) _ (HTA.out.below (Nat.le_refl _) HZ1.out) (HTB0.out.below (Nat.le_refl _) HZ1.out)).mono ?_; rintro e u2 ⟨gk2, c2, rfl, hok2, hbk2⟩; have HZ2 := Lib.hid (HZ1.out.trans (hbk2.mono HZ1.out.size)); have HT2 := Lib.hid hok2; have HT1 := Lib.hid (HT1.out.below (Nat.le_refl _) hbk2); have Xk2 := HXB.out.below HZ2.out HXB.out.lt; have Yk2 := HYB.out.below HZ2.out HYB.out.lt; have xk2_0 := Xk2.cell (j := 0) rfl; have xk2_1 := Xk2.cell (j := 1) rfl; have xk2_2 := Xk2.cell (j := 2) rfl; have xk2_3 := Xk2.cell (j := 3) rfl; have xk2_4 := Xk2.cell (j := 4) rfl; have xk2_5 := Xk2.cell (j := 5) rfl; have yk2_0 := Yk2.cell (j := 0) rfl; have yk2_1 := Yk2.cell (j := 1) rfl; clear hok2 hbk2)
    | (go_at_call 20; with_reducible refine (two_lit (op := 5) (by omega) (by omega) 7 (by omega) (by omega) (([(1, (i : Int))]) ++ ([(1, (j : Int))]) ++ [(10, 0)]) (([(1, (i : Int))]) ++ ([(1, (j : Int))]) ++ [(11, 0)]) _ HT1.out HT2.out).mono ?_; rintro e u3 ⟨gk3, c3, rfl, hok3, hbk3⟩; have HZ3 := Lib.hid (HZ2.out.trans (hbk3.mono HZ2.out.size)); have HT3 := Lib.hid hok3; have HT1 := Lib.hid (HT1.out.below (Nat.le_refl _) hbk3); have HT2 := Lib.hid (HT2.out.below (Nat.le_refl _) hbk3); have Xk3 := HXB.out.below HZ3.out HXB.out.lt; have Yk3 := HYB.out.below HZ3.out HYB.out.lt; have xk3_0 := Xk3.cell (j := 0) rfl; have xk3_1 := Xk3.cell (j := 1) rfl; have xk3_2 := Xk3.cell (j := 2) rfl; have xk3_3 := Xk3.cell (j := 3) rfl; have xk3_4 := Xk3.cell (j := 4) rfl; have xk3_5 := Xk3.cell (j := 5) rfl; have yk3_0 := Yk3.cell (j := 0) rfl; have yk3_1 := Yk3.cell (j := 1) rfl; clear hok3 hbk3)
    | (go_at_call 13; with_reducible refine (HVL.out _ _ _ ((([(1, (i : Int))]) ++ ([(1, (j : Int))]) ++ [(10, 0)]) ++ (([(1, (i : Int))]) ++ ([(1, (j : Int))]) ++ [(11, 0)]) ++ [(5, 0)]) _ HZ3.out HT3.out).mono ?_; rintro e v7 ⟨rfl, hbv⟩; rw [HSU.out.mixed]; have HZE := Lib.hid (HZ3.out.trans (hbv.mono HZ3.out.size)); have Xe := HXB.out.below HZE.out HXB.out.lt; have Ye := HYB.out.below HZE.out HYB.out.lt; have xe_0 := Xe.cell (j := 0) rfl; have xe_1 := Xe.cell (j := 1) rfl; have xe_2 := Xe.cell (j := 2) rfl; have xe_3 := Xe.cell (j := 3) rfl; have xe_4 := Xe.cell (j := 4) rfl; have xe_5 := Xe.cell (j := 5) rfl; have ye_0 := Ye.cell (j := 0) rfl; have ye_1 := Ye.cell (j := 1) rfl; clear hbv))
  have hwz := HZE.out
  clear xe_0 xe_1 xe_2 xe_3 xe_4 xe_5 ye_0 ye_1 xk1_0 xk1_1 xk1_2 xk1_3 xk1_4 xk1_5 yk1_0 yk1_1 xk2_0 xk2_1 xk2_2 xk2_3 xk2_4 xk2_5 yk2_0 yk2_1 xk3_0 xk3_1 xk3_2 xk3_3 xk3_4 xk3_5 yk3_0 yk3_1 Xk1 Yk1 HT1 HZ1 Xk2 Yk2 HT2 HZ2 Xk3 Yk3 HT3 HZ3 Xe Ye HZE HZ0 hd X Y x0 x1 x2 x3 x4 x5 y0 y1
  have X := HXB.out.below hwz HXB.out.lt
  have Y := HYB.out.below hwz HYB.out.lt
  have x0 := X.cell (j := 0) rfl
  have x1 := X.cell (j := 1) rfl
  have x2 := X.cell (j := 2) rfl
  have x3 := X.cell (j := 3) rfl
  have x4 := X.cell (j := 4) rfl
  have x5 := X.cell (j := 5) rfl
  have y0 := Y.cell (j := 0) rfl
  have y1 := Y.cell (j := 1) rfl
  go_wp2_with fail
  have hd : Below v7.heap.size v7 v7.drew := ⟨rfl, rfl, rfl, Nat.le_refl _, fun _ _ => rfl⟩
  have HZ0 := Lib.hid (hwz.trans (hd.mono hwz.size))
  go_region_held3 (fun w' => w'.cell? ⟨X0, 0, none⟩ = some (.int .i64 wd) ∧ w'.cell? ⟨X0, 1, none⟩ = some (.slice q1 m1 d1) ∧ w'.cell? ⟨X0, 2, none⟩ = some (.slice q2 m2 d2) ∧ w'.cell? ⟨X0, 3, none⟩ = some (.int .i64 tp) ∧ w'.cell? ⟨X0, 4, none⟩ = some (.slice q3 m3 d3) ∧ w'.cell? ⟨X0, 5, none⟩ = some (.slice q4 m4 d4) ∧ w'.cell? ⟨Y0, 0, none⟩ = some (.slice f1 h1 k1) ∧ w'.cell? ⟨Y0, 1, none⟩ = some (.slice f2 h2 k2)) (first | (refine ⟨?_, ?_, ?_, ?_, ?_, ?_, ?_, ?_⟩ <;> assumption) | go_keep | (refine ⟨?_, ?_, ?_, ?_, ?_, ?_, ?_, ?_⟩ <;> go_keep)) (first
    | (go_at_call 20; with_reducible refine (two_lit (op := 5) (by omega) (by omega) 3 (by omega) (by omega) ([(1, (i : Int))]) ([(1, (j : Int))]) _ (HTA.out.below (Nat.le_refl _) HZ0.out) (HTB0.out.below (Nat.le_refl _) HZ0.out)).mono ?_; rintro e u1 ⟨gk1, c1, rfl, hok1, hbk1⟩; have HZ1 := Lib.hid (HZ0.out.trans (hbk1.mono HZ0.out.size)); have HT1 := Lib.hid hok1; have Xk1 := HXB.out.below HZ1.out HXB.out.lt; have Yk1 := HYB.out.below HZ1.out HYB.out.lt; have xk1_0 := Xk1.cell (j := 0) rfl; have xk1_1 := Xk1.cell (j := 1) rfl; have xk1_2 := Xk1.cell (j := 2) rfl; have xk1_3 := Xk1.cell (j := 3) rfl; have xk1_4 := Xk1.cell (j := 4) rfl; have xk1_5 := Xk1.cell (j := 5) rfl; have yk1_0 := Yk1.cell (j := 0) rfl; have yk1_1 := Yk1.cell (j := 1) rfl; clear hok1 hbk1)
    | (go_at_call 13; with_reducible refine (HVL.out _ _ _ (([(1, (i : Int))]) ++ ([(1, (j : Int))]) ++ [(5, 0)]) _ HZ1.out HT1.out).mono ?_; rintro e v8 ⟨rfl, hbv⟩; have HZE := Lib.hid (HZ1.out.trans (hbv.mono HZ1.out.size)); have Xe := HXB.out.below HZE.out HXB.out.lt; have Ye := HYB.out.below HZE.out HYB.out.lt; have xe_0 := Xe.cell (j := 0) rfl; have xe_1 := Xe.cell (j := 1) rfl; have xe_2 := Xe.cell (j := 2) rfl; have xe_3 := Xe.cell (j := 3) rfl; have xe_4 := Xe.cell (j := 4) rfl; have xe_5 := Xe.cell (j := 5) rfl; have ye_0 := Ye.cell (j := 0) rfl; have ye_1 := Ye.cell (j := 1) rfl; clear hbv))
  have hwz := HZE.out
  clear xe_0 xe_1 xe_2 xe_3 xe_4 xe_5 ye_0 ye_1 xk1_0 xk1_1 xk1_2 xk1_3 xk1_4 xk1_5 yk1_0 yk1_1 Xk1 Yk1 HT1 HZ1 Xe Ye HZE HZ0 hd X Y x0 x1 x2 x3 x4 x5 y0 y1
  have HWH : Hid ((y = 0 ∧ valueB P v [(1, (i : Int)), (1, (j : Int)), (8, 0), (1, (j : Int)), (7, 0), (1, (i : Int)), (1, (j : Int)), (9, 0), (5, 0)] = 0 ∧ trapB P v [(1, (i : Int)), (1, (j : Int)), (8, 0), (1, (j : Int)), (7, 0), (1, (i : Int)), (1, (j : Int)), (9, 0), (5, 0)] = 1) ∨ (y ≠ 0 ∧ valueB P v [(1, (i : Int)), (1, (j : Int)), (8, 0), (1, (j : Int)), (7, 0), (1, (i : Int)), (1, (j : Int)), (9, 0), (5, 0)] = x ∧ trapB P v [(1, (i : Int)), (1, (j : Int)), (8, 0), (1, (j : Int)), (7, 0), (1, (i : Int)), (1, (j : Int)), (9, 0), (5, 0)] = 0)) := Lib.hid HSU.out.whole
  obtain ⟨M, HM⟩ : ∃ M : Nat, Hid (valueB P v [(1, (i : Int)), (1, (j : Int)), (5, 0)] = M) := ⟨_, rfl⟩
  obtain ⟨Wv, HWv⟩ : ∃ Wv : Nat, Hid (valueB P v [(1, (i : Int)), (1, (j : Int)), (8, 0), (1, (j : Int)), (7, 0), (1, (i : Int)), (1, (j : Int)), (9, 0), (5, 0)] = Wv) := ⟨_, rfl⟩
  obtain ⟨Wt, HWt⟩ : ∃ Wt : Int, Hid (trapB P v [(1, (i : Int)), (1, (j : Int)), (8, 0), (1, (j : Int)), (7, 0), (1, (i : Int)), (1, (j : Int)), (9, 0), (5, 0)] = Wt) := ⟨_, rfl⟩
  rw [HWv.out, HWt.out] at HWH
  rw [HM.out, HWv.out, HWt.out]
  have hh1 := HH1.out
  obtain ⟨bv, ov, zi, rfl, hbv, hzi, _, hci⟩ := (HEVI.out.below hwz).at_ (k := i) (by omega)
  obtain ⟨bv2, ov2, zj, e2, _, hzj, _, hcj⟩ := (HEVI.out.below hwz).at_ (k := j) (by omega)
  injection e2 with e2
  injection e2 with e21 e22
  subst e21 e22
  have exi : zi = (x : Int) := by rw [hzi.out]; have := HSU.out.ex; rwa [Int.toNat_natCast] at this
  have eyj : zj = (y : Int) := by rw [hzj.out]; have := HSU.out.ey; rwa [Int.toNat_natCast] at this
  subst exi eyj
  obtain ⟨b3, o3, x3, y3, e3, hb3, hz3, _, _, _, hc3⟩ := (HTA.out.below (Nat.le_refl _) hwz).at_ (k := 0) (by omega)
  injection e3 with e3
  injection e3 with e31 e32
  subst e31 e32
  obtain ⟨b4, o4, x4, y4, e4, hb4, hz4, _, _, _, hc4⟩ := (HTB0.out.below (Nat.le_refl _) hwz).at_ (k := 0) (by omega)
  injection e4 with e4
  injection e4 with e41 e42
  subst e41 e42
  have ey3 : (i : Int) = y3 := by have := hz3.out; simp [tmAt] at this; exact this.2
  have ey4 : (j : Int) = y4 := by have := hz4.out; simp [tmAt] at this; exact this.2
  subst ey3 ey4
  have Y := HYB.out.below hwz HYB.out.lt
  have k0 := lat_cell Y.lt (Y.cell (j := 0) rfl)
  have k1 := lat_cell hbv hci
  have k2 := lat_cell hbv hcj
  have k3 := lat_cell hb3 hc3
  have k4 := lat_cell hb4 hc4
  simp only [Nat.zero_mul, Nat.zero_add, Nat.add_zero] at k3 k4
  have hil : i < h1 := by omega
  have hjl : j < h1 := by omega
  have HFIN := Lib.hid (ht7.trans (hwz.mono ht7.size))
  clear hci hcj hc3 hc4 hz3 hz4 hzi hzj HM HWv HWt HSU HTA HTB0 HVL HEVI HXB
  go_wp2
  refine wp_region_lat (by kernel_rfl) (by kernel_rfl) ?_
  repeat (go_big_quiet_step (fail))
  refine wpQuiet_nil ?_
  intro _ hw'
  obtain ⟨⟨wq, hwq⟩, hw''⟩ := hw'
  subst hw''
  have HF2 := Lib.hid (HFIN.out.trans (hwq.mono HFIN.out.size))
  clear k0 k1 k2 k3 k4 Y
  rcases HWH.out with ⟨q1, q2, q3⟩ | ⟨q1, q2, q3⟩
  · subst q1 q2 q3
    go_wp2
    go_ret
    exact ⟨rfl, HF2.out⟩
  · have hy0 : ((y : Int) == 0) = false := by simp; omega
    subst q2 q3
    clear q1
    go_wp2
    go_ret
    exact ⟨rfl, HF2.out⟩

/-! ### THE ROW's STEP: WRITTEN OUT: LEAVE IT -/
set_option maxRecDepth 100000 in
theorem lifted (os : Os) (started : os.Started) (H : Type) (enc : TypeId × Value → H) :
    ReturnsInHanded {} Try.checked os 4 .any (Rows.fnSumsSpec.pre6 enc Try.prog Try.f4 Rows.fnSumsRow.domain false) (Rows.fnSumsSpec.post enc Try.prog Try.f4 false true false false) := by
  refine returnsInHanded_of_change (C := Try.checked) own started (by kernel_rfl) Try.func4
    (ChangeSpec.witness6 (enc := enc) (C := Try.checked) false ⟨#[], #[.slice none 0 0], []⟩ 8 (by kernel_rfl) (by kernel_rfl) (by kernel_rfl) (by kernel_rfl)) ?_
  intro W base args ds gs before hval0 hW hcnd _
  have hval : ∀ (j : Nat) t v, Try.f4.params[j]? = some t → args[j]? = some v → Value.okWide Try.prog W .any base t v := hval0
  have hW' := hW
  obtain ⟨p, q, hA0, hV, rfl, hfz, hnd⟩ := hW
  have hA : DataW.TrodAll enc Try.prog W 0 (fun _ => true) true Try.f4.params.toList args.toList ds p := hA0
  rw [Try.params4] at hA hval
  obtain ⟨v0, vs0, d0, ds0, p0, q0, hargs, rfl, rfl, h0, r0⟩ := trodAll_cons hA
  obtain ⟨rfl, rfl, rfl⟩ := trodAll_nil r0
  obtain rfl : args = #[v0] := by cases args; simp_all
  obtain ⟨rfl, rfl⟩ := trodVars_none hV
  obtain ⟨a0, len0, cap0, rfl⟩ := okWide_slice Try.underlying22 (hval 0 22 v0 rfl rfl)
  have k0 := h0
  have lt0 : ∀ x ∈ p0, x.block < W.heap.size := by obtain ⟨m, hm⟩ := k0; exact DataW.trod_lt m _ _ _ hm
  obtain ⟨z0, w0⟩ : ∃ zs, IsRow .u8 W a0 len0 cap0 zs := by
    obtain ⟨fuel, hf⟩ := h0
    rcases open_ints Try.underlying22 Try.underlying5 (by kernel_rfl) hf with ⟨hcs, _⟩ | ⟨x, l, c, zs, hcs, _, hl, hm, hz, _, hcell, hwz⟩
    · simp [Value.cells] at hcs
      obtain ⟨rfl, rfl, rfl⟩ := hcs
      exact ⟨[], .inl ⟨rfl, rfl, rfl, rfl⟩⟩
    · simp [Value.cells] at hcs
      obtain ⟨rfl, rfl, rfl⟩ := hcs
      exact ⟨zs, .inr ⟨_, rfl, hl, hm, by simpa using hz, hcell, hwz⟩⟩
  clear hA0 hval0
  refine (walk a0 len0 cap0 z0 W w0).mono fun e W' ⟨he, bel⟩ => ?_
  subst he
  exact ⟨_, rfl, _, _, _, [], _, [], hW', trodAll_mk1 (shut_bool Try.underlying4 _), (trodAll_cons_mk (Below.trod laidOut (by kernel_rfl) (of_decide_eq_true (by kernel_rfl)) k0 bel lt0) trodAll_mk0), rfl, bel.frame _, fun h => by cases h⟩

theorem over : Rows.fnSumsRow.holds Try.pinned (OpenSpec.ofChange Rows.fnSumsSpec) :=
  OpenClaim.holds_of_wide 4 Try.f4 rfl rfl rfl rfl rfl rfl rfl ⟨rfl, rfl, rfl, rfl, rfl⟩ rfl rfl rfl rfl rfl (by kernel_rfl) Try.func4 (by kernel_rfl)
    (of_decide_eq_true (by kernel_rfl)) (by unfold Func.isWrapper; first | (rw [if_pos (by decide +kernel)]; kernel_rfl) | (rw [if_neg (by decide +kernel)]; exact ⟨rfl, rfl⟩))
    (fun os started H enc _ => lifted os started H enc)

/-- ████ THE STATEMENT ████ -/
theorem proved : Rows.FnSumsSaid := over
#print axioms proved
end Go.Proofs.Ytmppiefkeeanpaa.fnSums
