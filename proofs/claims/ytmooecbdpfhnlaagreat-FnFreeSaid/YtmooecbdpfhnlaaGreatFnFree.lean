/- For every code, of a drawn program and one of its inputs: with nothing free there is one outcome, that of the run; with a secret free there are no more than its values; with all free no fewer; each one is once there, and is among those of all. Conditions: none beyond the given row. (The frame round the walk is the guide's own shell, by program.) -/
import Derived.Test.YtmooecbdpfhnlaaGreatRows
import Derived.Test.YtmooecbdpfhnlaaGreatK1
import Derived.Test.YtmooecbdpfhnlaaGreatK13
import Derived.Test.YtmooecbdpfhnlaaGreatK44
import Derived.Test.YtmooecbdpfhnlaaGreatK24
import Derived.Test.YtmooecbdpfhnlaaGreatK29
import Derived.Test.YtmooecbdpfhnlaaGreatK15
import Derived.WalkKit
import Derived.ProofKit
import Derived.OpenShut
import Derived.ShutString
import Derived.ChangeOld
import Derived.Below
namespace Go.Proofs.YtmooecbdpfhnlaaGreat.fnFree
open Go.ChangeShapes Go.WideShapes Go.ChangeAt Go.RowKit
open Go.ChangeMaps (open_string shut_string)
set_option linter.unusedVariables false

theorem own : ownKnob Tryz.prog.godebug = none := by kernel_rfl
theorem laidOut : laidOutB Tryz.prog = true := by kernel_rfl

/-- WHAT THE WALK IS TOLD OF A SLICE OF INTEGERS THAT CAME IN: it is nil; or it leads to a row of 'cap' cells, the numbers 'zs' (the first 'len' are its elements, the rest its spare room), each fitting its kind. -/
def IsRow (k : IntKind) (w : World) (a : Option Addr) (len cap : Nat) (zs : List Int) : Prop :=
  (a = none ∧ len = 0 ∧ cap = 0 ∧ zs = []) ∨
  ∃ x, a = some x ∧ len ≤ cap ∧ cap ≤ maxLen ∧ zs.length = cap ∧ (∀ i, i < zs.length → w.cell? (x.add i) = some (.int k (zs.getD i 0))) ∧ ∀ n ∈ zs, (Lit.int k n).wf = true

/-! ### STEP 1: THE WALK: the Go text returns true, AND WRITES NOTHING THAT WAS THERE: 'Below w.heap.size w w'' (Derived/Below.lean: '.refl', '.alloc', '.drew', '.setCell' at a new block, '.trans'). Open each 'IsRow' by 'rcases' AHEAD of 'go_enter'; part every test ahead of the walk. -/
set_option maxRecDepth 20000 in
set_option maxHeartbeats 6400000 in
theorem walk (a0 : Option Addr) (len0 cap0 : Nat) (z0 : List Int) (w : World) (w0 : IsRow .u8 w a0 len0 cap0 z0) :
    Calls Tryz.prog 3 #[.slice a0 len0 cap0] w fun e w' => e = .returned (.bool true) ∧ Below w.heap.size w w' := by
  by_cases hbig : 4096 < len0
  · go_enter Tryz.func3, Tryz.ntmps3
    go_wp2_with (go_at_call 12; refine (big_any _ _ _ _).mono ?_; rintro e w1 ⟨rfl, rfl⟩; rw [decide_eq_true hbig])
    go_ret
    exact ⟨rfl, Below.refl _ _⟩
  have hcode := code_of_row w0 (by omega)
  clear w0
  go_enter Tryz.func3, Tryz.ntmps3
  go_wp2_with fail
  refine (big_any _ _ _ _).mono ?_
  rintro e w1 ⟨rfl, rfl⟩
  rw [decide_eq_false hbig]
  go_wp2_with fail
  refine (roll_any _ _ _ _ _ hcode).mono ?_
  rintro e w1 ⟨p, rfl, hp, D1, ht1⟩
  clear hcode
  go_wp2_with fail
  refine (program_any p _ D1).mono ?_
  rintro e w2 ⟨⟨wd, ⟨q1, m1, d1⟩, ⟨q2, m2, d2⟩, tp, ⟨q3, m3, d3⟩, ⟨q4, m4, d4⟩, rs⟩, P, A, l, s, b, s', b', rfl, hP, hcap, hH, hok, hDr, ⟨_, hkey⟩, D2, g2⟩
  simp only [progV, slV]
  have ht2 : Below w.heap.size w w2 := ht1.grown g2 ht1.size (fun g e => by injection e with e; omega)
  have hp2 : p < w2.heap.size := D2.lt
  have HKEY := Lib.hid hkey
  have HOK := Lib.hid hok
  have HCAP := Lib.hid hcap
  have hpb := prod_bits hok
  have hpp := prodL_pos (fun m hm => (wide_of_max hok m hm).1)
  have hcb : countB P = prodL (maxesP P) := by rw [countB, if_pos hok, countTo_prod]
  obtain ⟨C, HC⟩ : ∃ C : Nat, Hid (prodL (maxesP P) = (C : Int)) := ⟨(prodL (maxesP P)).toNat, Lib.hid (by omega)⟩
  rw [HC.out] at hcb hpb hpp
  have HLOW : Hid (P.lows.length = 1) := Lib.hid (by rw [hDr.lows]; rfl)
  have HSEC : Hid (P.secrets.length = 2) := Lib.hid (by rw [hDr.secrets]; rfl)
  have HSE : Hid (P.secrets = [(s, b), (s', b')]) := Lib.hid hDr.secrets
  have HMX : Hid ((maxesP P).getD (P.lows.length + 0) 0 = s) := Lib.hid (by rw [maxesP, hDr.lows, hDr.secrets]; rfl)
  have hs3 : 1 ≤ s ∧ s ≤ 3 := ⟨hDr.s0, hDr.s1⟩
  have HCB := Lib.hid hcb
  have HPW := Lib.hid hp
  clear hkey hok hcap hcb hDr hH ht1 D1 hp
  obtain ⟨wa, HW⟩ : ∃ wa, Hid (wa = w2.alloc (.cells #[.int .i64 wd, .slice q1 m1 d1, .slice q2 m2 d2, .int .i64 tp, .slice q3 m3 d3, .slice q4 m4 d4] 31)) := ⟨_, rfl⟩
  have X : Blk wa w2.heap.size 31 [.int .i64 wd, .slice q1 m1 d1, .slice q2 m2 d2, .int .i64 tp, .slice q3 m3 d3, .slice q4 m4 d4] := by rw [HW.out]; exact Blk.new w2 _ _
  have gA : w2.grownBy wa (some p) := by rw [HW.out]; exact only_alloc (World.grownBy.refl _ _) _
  have hba : Below w2.heap.size w2 wa := by rw [HW.out]; exact (Below.refl _ _).alloc (Nat.le_refl _) _
  have DA : Dice wa p := by rw [HW.out]; exact D2.alloc _
  have htA : Below w.heap.size w wa := by rw [HW.out]; exact ht2.alloc ht2.size _
  have HPA := Lib.hid (hP.below hba)
  obtain ⟨X0, HX0⟩ : ∃ X0, Hid (w2.heap.size = X0) := ⟨_, rfl⟩
  rw [HX0.out] at X hp2
  have HX := Lib.hid X
  have t0 := X.cell (j := 0) rfl
  have t1 := X.cell (j := 1) rfl
  have t2 := X.cell (j := 2) rfl
  have t3 := X.cell (j := 3) rfl
  have t4 := X.cell (j := 4) rfl
  have t5 := X.cell (j := 5) rfl
  rw [HW.out] at t0 t1 t2 t3 t4 t5
  have hd : Below wa.heap.size wa wa.drew := ⟨rfl, rfl, rfl, Nat.le_refl _, fun _ _ => rfl⟩
  have HD := Lib.hid hd
  have HGA := Lib.hid gA
  have HDA := Lib.hid DA
  have HTA := Lib.hid htA
  have hnp : X0 ≠ p := by omega
  clear hP ht2 hba X gA DA htA D2 g2 hd
  rw [← HX0.out] at t0 t1 t2 t3 t4 t5
  go_wp2_with fail
  rw [HX0.out] at t0 t1 t2 t3 t4 t5 ⊢
  rw [← HW.out] at t0 t1 t2 t3 t4 t5 ⊢
  go_region_held3 (fun w' => w'.cell? ⟨X0, 0, none⟩ = some (.int .i64 wd) ∧ w'.cell? ⟨X0, 1, none⟩ = some (.slice q1 m1 d1) ∧ w'.cell? ⟨X0, 2, none⟩ = some (.slice q2 m2 d2) ∧ w'.cell? ⟨X0, 3, none⟩ = some (.int .i64 tp) ∧ w'.cell? ⟨X0, 4, none⟩ = some (.slice q3 m3 d3) ∧ w'.cell? ⟨X0, 5, none⟩ = some (.slice q4 m4 d4)) (first | (refine ⟨?_, ?_, ?_, ?_, ?_, ?_⟩ <;> assumption) | go_keep | (refine ⟨?_, ?_, ?_, ?_, ?_, ?_⟩ <;> go_keep)) (first
    | (go_at_call 17; refine (specInputsIn_any ⟨wd, (q1, m1, d1), (q2, m2, d2), tp, (q3, m3, d3), (q4, m4, d4), rs⟩ P _ (HPA.out.below HD.out)).mono ?_; rintro e z1 ⟨rfl, hz1⟩; rw [HCB.out]; have hz := HD.out.trans (hz1.mono HD.out.size); have Y := HX.out.below hz HX.out.lt; have x0 := Y.cell (j := 0) rfl; have x1 := Y.cell (j := 1) rfl; have x2 := Y.cell (j := 2) rfl; have x3 := Y.cell (j := 3) rfl; have x4 := Y.cell (j := 4) rfl; have x5 := Y.cell (j := 5) rfl; have HZ1 := Lib.hid hz; clear Y hz hz1)
    | (go_at_call 16; refine (diceBelow_any p _ (C : Int) (HDA.out.below HZ1.out) (by omega) (by omega)).mono ?_; rintro e z2 ⟨x, hx0, hx1, rfl, D3, g3⟩; have Y := (HX.out.below HZ1.out HX.out.lt).gen g3 hnp; have y0 := Y.cell (j := 0) rfl; have y1 := Y.cell (j := 1) rfl; have y2 := Y.cell (j := 2) rfl; have y3 := Y.cell (j := 3) rfl; have y4 := Y.cell (j := 4) rfl; have y5 := Y.cell (j := 5) rfl; have HG3 := Lib.hid g3; have HYY := Lib.hid Y; clear Y g3 D3)
    | (go_at_call 15; refine (lawInputs_any ⟨wd, (q1, m1, d1), (q2, m2, d2), tp, (q3, m3, d3), (q4, m4, d4), rs⟩ P x _ (HKEY.out _ (only_trans (only_more HGA.out (only_below HZ1.out none) (fun g e => by cases e)) HG3.out)) ⟨by omega, by omega⟩).mono ?_; rintro e z3 ⟨hz3, ⟨e0a, e0n, e0c⟩, ⟨e1a, e1n, e1c⟩, rfl, hm0, hm1⟩; simp only [slV]; have Y := HYY.out.below hz3 HYY.out.lt; have v0 := Y.cell (j := 0) rfl; have v1 := Y.cell (j := 1) rfl; have v2 := Y.cell (j := 2) rfl; have v3 := Y.cell (j := 3) rfl; have v4 := Y.cell (j := 4) rfl; have v5 := Y.cell (j := 5) rfl; have HZ3 := Lib.hid hz3; have HM0 := Lib.hid hm0; have HM1 := Lib.hid hm1; have HX3 := Lib.hid Y; clear Y hz3 hm0 hm1))
  obtain ⟨k, HKX⟩ : ∃ k : Nat, Hid (x = (k : Int)) := ⟨x.toNat, Lib.hid (by omega)⟩
  obtain rfl := HKX.out
  have hkC : (k : Int) < prodL (maxesP P) := by rw [HC.out]; omega
  have hat : atOk P (k : Int) = true := by simp only [atOk, HOK.out, decide_true, Bool.true_and, Bool.and_eq_true, decide_eq_true_eq]; omega
  have hst := at_start hat
  obtain ⟨LS, HLS⟩ : ∃ LS, Hid (atL P (k : Int) = LS) := ⟨_, Lib.hid rfl⟩
  obtain ⟨SS, HSS⟩ : ∃ SS, Hid (atS P (k : Int) = SS) := ⟨_, Lib.hid rfl⟩
  have hoc : ocAt P k = (outR P LS SS, endR P LS SS) := by rw [ocAt, HLS.out, HSS.out]
  obtain ⟨OK, HOC⟩ : ∃ OK, Hid (ocAt P k = OK) := ⟨_, Lib.hid rfl⟩
  rw [HOC.out] at hoc
  have hof : ∀ fr : List Bool, fr.length = 2 → ofO P LS SS fr = freeO P fr k := fun fr hl => by rw [← HLS.out, ← HSS.out]; exact ofO_free hat (by rw [hl, HSEC.out])
  have hf0 : freeO P [false, false] k = [OK] := by rw [← HOC.out]; exact free_none HOK.out hkC (fun i => by match i with | 0 => rfl | 1 => rfl | i + 2 => rfl)
  have hmore : ∀ i, [true, false].getD i false = true → [true, true].getD i false = true := fun i => by match i with | 0 => exact fun _ => rfl | 1 => exact fun h => by cases h | i + 2 => exact fun h => by cases h
  have hl12 := free_len (p := P) (k := k) hmore
  have hsub : ∀ o' ∈ freeO P [true, false] k, o' ∈ freeO P [true, true] k := fun o' ho => free_more hmore ho
  have hl1 : 1 ≤ (freeO P [true, false] k).length := List.length_pos_of_mem (free_self [true, false] hkC)
  have hls := free_one (p := P) HOK.out (fr := [true, false]) (k := k) (i := 0) (by rw [maxesP_len, HSEC.out]; omega) (fun j hj => by match j, hj with | 0, _ => rfl | 1, h => cases h | j + 2, h => cases h)
  rw [HMX.out] at hls
  have hnd := free_nodup P [true, false] k
  obtain ⟨ONE, H1E⟩ : ∃ ONE, Hid (freeO P [true, false] k = ONE) := ⟨_, Lib.hid rfl⟩
  obtain ⟨ALL, H2E⟩ : ∃ ALL, Hid (freeO P [true, true] k = ALL) := ⟨_, Lib.hid rfl⟩
  have HO0 : Hid (ofO P LS SS [false, false] = [OK]) := Lib.hid (by rw [hof _ rfl, hf0])
  have HO1 : Hid (ofO P LS SS [true, false] = ONE) := Lib.hid (by rw [hof _ rfl, H1E.out])
  have HO2 : Hid (ofO P LS SS [true, true] = ALL) := Lib.hid (by rw [hof _ rfl, H2E.out])
  rw [H1E.out] at hl12 hsub hl1 hls hnd
  rw [H2E.out] at hl12 hsub
  rw [HLS.out] at HM0 hst
  rw [HSS.out] at HM1 hst
  have HST := Lib.hid hst
  have HOCC := Lib.hid hoc
  have HL12 := Lib.hid hl12
  have HSUB := Lib.hid hsub
  have HL1 := Lib.hid hl1
  have HLS3 := Lib.hid hls
  have HND := Lib.hid hnd
  have hne12 : 1 ≤ ONE.length ∧ ONE.length ≤ ALL.length ∧ (ONE.length : Int) ≤ s + 1 := ⟨hl1, hl12, hls⟩
  have HP3 : Hid (ProgAt z3 ⟨wd, (q1, m1, d1), (q2, m2, d2), tp, (q3, m3, d3), (q4, m4, d4), rs⟩ P) := Lib.hid ((HKEY.out _ (only_trans (only_more HGA.out (only_below HZ1.out none) (fun g e => by cases e)) HG3.out)).below HZ3.out)
  have HB3 : Hid (Below w.heap.size w z3) := Lib.hid (by
    have h1 := HTA.out.trans (HZ1.out.mono HTA.out.size)
    have h2 := h1.grown HG3.out h1.size (fun g e => by injection e with e; have := HPW.out; omega)
    exact h2.trans (HZ3.out.mono h2.size))
  clear hkC hat hoc hof hf0 hmore hl12 hsub hl1 hls hnd hst H1E H2E HLS HSS HOC HMX HCB HGA HDA HTA HPA HKEY HG3 HZ1 HYY HZ3 HD HX HC hpb hpp hx0 hx1
  clear x0 x1 x2 x3 x4 x5 y0 y1 y2 y3 y4 y5 v0 v1 v2 v3 v4 v5 t0 t1 t2 t3 t4 t5
  have HVz3 := Lib.hid (Below.refl z3.heap.size z3)
  obtain ⟨b4w, HBW4⟩ : ∃ v, Hid (v = z3.alloc (.cells #[.bool false, .bool false] 4)) := ⟨_, rfl⟩
  have hb : Below z3.heap.size z3 b4w := by rw [HBW4.out]; exact (Below.refl _ _).alloc (Nat.le_refl _) _
  have XB : Blk b4w z3.heap.size 4 [.bool false, .bool false] := by rw [HBW4.out]; exact Blk.new z3 _ _
  have hbn := HVz3.out.trans (hb.mono HVz3.out.size)
  have X := HX3.out.below HVz3.out HX3.out.lt
  have t0 := X.cell (j := 0) rfl
  have t1 := X.cell (j := 1) rfl
  have t2 := X.cell (j := 2) rfl
  have t3 := X.cell (j := 3) rfl
  have t4 := X.cell (j := 4) rfl
  have t5 := X.cell (j := 5) rfl
  have HCL := Lib.hid (implOutcomesOf_ans ⟨wd, (q1, m1, d1), (q2, m2, d2), tp, (q3, m3, d3), (q4, m4, d4), rs⟩ P e0a e1a _ e0n e0c e1n e1c 2 2 LS SS [false, false] b4w (HP3.out.below hbn) HCAP.out (HM0.out.below hbn) (HM1.out.below hbn) (bools_two XB))
  rw [HO0.out] at HCL
  simp only [progV, slV] at HCL
  have HBN := Lib.hid hbn

  clear hb XB X hbn
  go_wp2_with fail
  rw [← HBW4.out]
  refine HCL.out.mono ?_
  rintro e z4 ⟨hb, ⟨⟨a4, n4, c4⟩, rs4⟩, rfl, ho4⟩
  simp only [oslV, slV]
  have HVz4 := Lib.hid (HBN.out.trans (hb.mono HBN.out.size))
  have ho4 := ho4.1

  clear hb HCL HBN HBW4 t0 t1 t2 t3 t4 t5
  obtain ⟨b5w, HBW5⟩ : ∃ v, Hid (v = z4.alloc (.cells #[.bool true, .bool false] 4)) := ⟨_, rfl⟩
  have hb : Below z4.heap.size z4 b5w := by rw [HBW5.out]; exact (Below.refl _ _).alloc (Nat.le_refl _) _
  have XB : Blk b5w z4.heap.size 4 [.bool true, .bool false] := by rw [HBW5.out]; exact Blk.new z4 _ _
  have hbn := HVz4.out.trans (hb.mono HVz4.out.size)
  have X := HX3.out.below HVz4.out HX3.out.lt
  have t0 := X.cell (j := 0) rfl
  have t1 := X.cell (j := 1) rfl
  have t2 := X.cell (j := 2) rfl
  have t3 := X.cell (j := 3) rfl
  have t4 := X.cell (j := 4) rfl
  have t5 := X.cell (j := 5) rfl
  have HCL := Lib.hid (implOutcomesOf_ans ⟨wd, (q1, m1, d1), (q2, m2, d2), tp, (q3, m3, d3), (q4, m4, d4), rs⟩ P e0a e1a _ e0n e0c e1n e1c 2 2 LS SS [true, false] b5w (HP3.out.below hbn) HCAP.out (HM0.out.below hbn) (HM1.out.below hbn) (bools_two XB))
  rw [HO1.out] at HCL
  simp only [progV, slV] at HCL
  have HBN := Lib.hid hbn
  have ho4 := ho4.below hb
  clear hb XB X hbn
  go_wp2_with fail
  rw [← HBW5.out]
  refine HCL.out.mono ?_
  rintro e z5 ⟨hb, ⟨⟨a5, n5, c5⟩, rs5⟩, rfl, ho5⟩
  simp only [oslV, slV]
  have HVz5 := Lib.hid (HBN.out.trans (hb.mono HBN.out.size))
  have ho5 := ho5.1
  have ho4 := ho4.below hb
  clear hb HCL HBN HBW5 t0 t1 t2 t3 t4 t5
  obtain ⟨b6w, HBW6⟩ : ∃ v, Hid (v = z5.alloc (.cells #[.bool true, .bool true] 4)) := ⟨_, rfl⟩
  have hb : Below z5.heap.size z5 b6w := by rw [HBW6.out]; exact (Below.refl _ _).alloc (Nat.le_refl _) _
  have XB : Blk b6w z5.heap.size 4 [.bool true, .bool true] := by rw [HBW6.out]; exact Blk.new z5 _ _
  have hbn := HVz5.out.trans (hb.mono HVz5.out.size)
  have X := HX3.out.below HVz5.out HX3.out.lt
  have t0 := X.cell (j := 0) rfl
  have t1 := X.cell (j := 1) rfl
  have t2 := X.cell (j := 2) rfl
  have t3 := X.cell (j := 3) rfl
  have t4 := X.cell (j := 4) rfl
  have t5 := X.cell (j := 5) rfl
  have HCL := Lib.hid (implOutcomesOf_ans ⟨wd, (q1, m1, d1), (q2, m2, d2), tp, (q3, m3, d3), (q4, m4, d4), rs⟩ P e0a e1a _ e0n e0c e1n e1c 2 2 LS SS [true, true] b6w (HP3.out.below hbn) HCAP.out (HM0.out.below hbn) (HM1.out.below hbn) (bools_two XB))
  rw [HO2.out] at HCL
  simp only [progV, slV] at HCL
  have HBN := Lib.hid hbn
  have ho4 := ho4.below hb
  have ho5 := ho5.below hb
  clear hb XB X hbn
  go_wp2_with fail
  rw [← HBW6.out]
  refine HCL.out.mono ?_
  rintro e z6 ⟨hb, ⟨⟨a6, n6, c6⟩, rs6⟩, rfl, ho6⟩
  simp only [oslV, slV]
  have HVz6 := Lib.hid (HBN.out.trans (hb.mono HBN.out.size))
  have ho6 := ho6.1
  have ho4 := ho4.below hb
  have ho5 := ho5.below hb
  clear hb HCL HBN HBW6 t0 t1 t2 t3 t4 t5
  obtain rfl : m2 = 2 := by have := HP3.out.secrets.1; simp only [] at this; rw [← this, HSEC.out]
  simp only [] at ho4 ho5 ho6
  obtain rfl : n4 = 1 := by have := ho4.2.2.1; simpa using this.symm
  obtain rfl : n5 = ONE.length := ho5.2.2.1.symm
  obtain rfl : n6 = ALL.length := ho6.2.2.1.symm
  obtain ⟨N1, HN1⟩ : ∃ n, Hid (ONE.length = n) := ⟨_, rfl⟩
  obtain ⟨N2, HN2⟩ : ∃ n, Hid (ALL.length = n) := ⟨_, rfl⟩
  rw [HN1.out] at ho5 hne12 ⊢
  rw [HN2.out] at ho6 hne12 ⊢
  have HO4 := Lib.hid ho4
  have HO5 := Lib.hid ho5
  have HO6 := Lib.hid ho6
  have hN1b : N1 ≤ 1048576 := ho5.2.1
  have hN2b : N2 ≤ 1048576 := ho6.2.1
  have X := HX3.out.below HVz6.out HX3.out.lt
  have t0 := X.cell (j := 0) rfl
  have t1 := X.cell (j := 1) rfl
  have t2 := X.cell (j := 2) rfl
  have t3 := X.cell (j := 3) rfl
  have t4 := X.cell (j := 4) rfl
  have t5 := X.cell (j := 5) rfl
  obtain ⟨gs, os, sx, sy, hq2, hgs, htm, hi1, hi2, hcs, _⟩ := (HP3.out.below HVz6.out).secrets.at_ (k := 0) (by simp only []; omega)
  simp only [] at hq2
  obtain rfl : sx = s := by
    have := htm.out
    rw [HSE.out] at this
    have := congrArg (fun q => q.1) this
    simpa [tmAt] using this.symm
  subst hq2
  rw [Nat.zero_mul, Nat.add_zero] at hcs
  have hd1 : ((1 : Int) != 1) = false := by simp
  have hd2 : decide ((N1 : Int) < 1) = false := by simp; omega
  have hd3 : decide ((N2 : Int) < (N1 : Int)) = false := by simp; omega
  have hwr : IntKind.i64.wrap (sx + 1) = sx + 1 := by rw [IntKind.wrap_i64]; omega
  have hwr2 : IntKind.i64.wrap (N1 : Int) = (N1 : Int) := by rw [IntKind.wrap_i64]; omega
  have hd4 : decide (sx + 1 < (N1 : Int)) = false := by simp; omega
  have hd5 : decide ((N1 : Int) > sx + 1) = false := by simp; omega
  have HR := Lib.hid (specRunOf_ans ⟨wd, (q1, m1, d1), (some ⟨gs, os, none⟩, 2, d2), tp, (q3, m3, d3), (q4, m4, d4), rs⟩ P e0a e1a e0n e0c e1n e1c LS SS z6 (HP3.out.below HVz6.out) (HM0.out.below HVz6.out) (HM1.out.below HVz6.out))
  rw [HST.out] at HR
  simp only [progV, slV] at HR
  clear ho4 ho5 ho6 X htm hi1 hi2 hgs
  go_wp2_with fail
  refine HR.out.mono ?_
  rintro e z7 ⟨hb, ⟨xa, xn, xc⟩, rfl, ho7⟩
  simp only [slV]
  obtain ⟨zr, zc, HZR⟩ : ∃ zr zc, Hid (endR P LS SS = (zr, zc)) := ⟨_, _, Lib.hid rfl⟩
  obtain ⟨OS, HOS⟩ : ∃ OS, Hid (outR P LS SS = OS) := ⟨_, Lib.hid rfl⟩
  have hoc := HOCC.out
  rw [HOS.out, HZR.out] at hoc
  rw [HOS.out] at ho7
  simp only [HZR.out]
  obtain ⟨z7b, HZB⟩ : ∃ v, Hid (v = z7.alloc (.cells #[.slice xa xn xc, .int .i64 zr, .int .i64 zc] 43)) := ⟨_, rfl⟩
  have hb7 : Below z7.heap.size z7 z7b := by rw [HZB.out]; exact (Below.refl _ _).alloc (Nat.le_refl _) _
  have K7 : Blk z7b z7.heap.size 43 [.slice xa xn xc, .int .i64 zr, .int .i64 zc] := by rw [HZB.out]; exact Blk.new z7 _ _
  have h67 : Below z6.heap.size z6 z7b := hb.trans (hb7.mono hb.size)
  have hv7 : Below z3.heap.size z3 z7b := HVz6.out.trans (h67.mono HVz6.out.size)
  have HBW7 : Hid (Below w.heap.size w z7b) := Lib.hid (HB3.out.trans (hv7.mono HB3.out.size))
  have HO5 := Lib.hid (HO5.out.below h67)
  have HO6 := Lib.hid (HO6.out.below h67)
  have ho7 := ho7.below hb7
  obtain ⟨g4, y4v, y4m, y4d, en4, co4, ha4, hg4, hR4, k40, k41, k42, hoc4⟩ := (HO4.out.below h67).at_ (k := 0) (by omega)
  subst ha4
  have hoc4 := hoc4.out
  rw [show oAt [OK] 0 = OK from rfl, hoc] at hoc4
  obtain ⟨r1, r2, _, _, r5⟩ := hoc4
  simp only [] at r1 r2 r5
  subst r1 r2
  rw [Nat.zero_mul] at k40 k41 k42
  rw [Nat.zero_add] at k41 k42
  have HLK : Hid (∀ p : Lat z7b, Calls Tryz.prog 20 #[.agg #[.slice y4v y4m y4d, .int .i64 en4, .int .i64 co4], .agg #[.slice xa xn xc, .int .i64 en4, .int .i64 co4]] p.wd fun e w'' => e = .returned (.bool true) ∧ Below p.wd.heap.size p.wd w'') := Lib.hid (fun p => (implLike_any (y4v, y4m, y4d) (xa, xn, xc) en4 co4 en4 co4 OS OS p.wd (r5.ints.below p.ok) (ho7.ints.below p.ok)).mono (fun e w'' h => ⟨by rw [h.1]; simp [likeB], h.2⟩))
  have x0 := lat_cell hg4 k40
  have x1 := lat_cell hg4 k41
  have x2 := lat_cell hg4 k42
  have y0 := lat_cell K7.lt (K7.cell (j := 0) rfl)
  have y1 := lat_cell K7.lt (K7.cell (j := 1) rfl)
  have y2 := lat_cell K7.lt (K7.cell (j := 2) rfl)
  clear hb hb7 K7 h67 hv7 ho7 r5 k40 k41 k42 hR4 hg4 HR hd1 hd2 hd3 hd4 hd5 hwr hwr2 hcs t0 t1 t2 t3 t4 t5 HOCC hoc HZR HOS HO4
  go_wp2
  rw [← HZB.out]
  refine wp_region_lat (by kernel_rfl) (by kernel_rfl) ?_
  repeat (go_big_quiet_step ((go_at_call 20; exact lat_calls (HLK.out _))))
  refine wpQuiet_nil ?_
  intro _ hw'
  obtain ⟨⟨wq, hwq⟩, hw''⟩ := hw'
  subst hw''
  clear x0 x1 x2 y0 y1 y2 HLK HZB
  go_wp2
  go_loopw [12] (fun iv wr => ∃ i : Nat, i ≤ N1 ∧ iv = .int .i64 (i : Int) ∧ Below z7b.heap.size z7b wr) (fun iv _ => N1 - (intOf iv).toNat)
  case atStart => exact ⟨0, Nat.zero_le _, rfl, hwq⟩
  case round =>
    clear hwq
    obtain ⟨i, hi, rfl, hbi⟩ := hrel
    by_cases hlt : i < N1
    case neg =>
      obtain rfl : i = N1 := by omega
      have HF := Lib.hid (HBW7.out.trans (hbi.mono HBW7.out.size))
      clear hbi
      go_wp2
      go_ret
      exact ⟨rfl, HF.out⟩
    have HBI := Lib.hid hbi
    clear hbi
    obtain ⟨oi, HOI⟩ : ∃ oi, Hid (oAt ONE i = oi) := ⟨_, rfl⟩
    have HIN : Hid (oi ∈ ALL) := Lib.hid (HSUB.out oi (by rw [← HOI.out]; exact oAt_mem (by rw [HN1.out]; exact hlt)))
    go_wp2_with fail
    go_loopw [13, 14] (fun q kv wr => ∃ k2 : Nat, k2 ≤ N2 ∧ kv = .int .i64 (k2 : Int) ∧ q = .bool (seenB ALL oi k2) ∧ Below z7b.heap.size z7b wr) (fun _ kv _ => N2 - (intOf kv).toNat)
    case atStart => exact ⟨0, Nat.zero_le _, rfl, rfl, HBI.out⟩
    case round =>
      clear HBI
      obtain ⟨k2, hk2, rfl, rfl, hbk⟩ := hrel
      obtain ⟨sb, HSB⟩ : ∃ sb, Hid (seenB ALL oi k2 = sb) := ⟨_, rfl⟩
      rw [HSB.out]
      by_cases hlk : k2 < N2
      case neg =>
        obtain rfl : k2 = N2 := by omega
        have hsb : sb = true := by rw [← HSB.out, ← HN2.out]; exact seenB_all HIN.out
        subst hsb
        go_wp2
        go_roundw
        case rel => exact ⟨i + 1, by omega, by go_num, hbk⟩
        case measure => simp [intOf]; omega
      obtain ⟨g5, v5, l5, d5, en5, co5, ha5, hg5, hR5, k50, k51, k52, hoc5⟩ := (HO5.out.below hbk).at_ hlt
      subst ha5
      have HO5R := Lib.hid hoc5.out
      rw [HOI.out] at HO5R
      have HBK := Lib.hid hbk
      clear hR5 hbk hoc5
      by_cases hki : k2 < i
      case pos =>
        obtain ⟨g7, v7, l7, d7, en7, co7, ha7, hg7, hR7, k70, k71, k72, hoc7⟩ := (HO5.out.below HBK.out).at_ (k := k2) (by omega)
        injection ha7 with ha7
        injection ha7 with ha7
        subst ha7
        have hne : decide (oAt ONE k2 = oi) = false := decide_eq_false (by rw [← HOI.out]; exact oAt_ne HND.out (by rw [HN1.out]; omega) (by rw [HN1.out]; omega) (by omega))
        have HLK1 : Hid (∀ p : Lat wr, Calls Tryz.prog 20 #[.agg #[.slice v7 l7 d7, .int .i64 en7, .int .i64 co7], .agg #[.slice v5 l5 d5, .int .i64 en5, .int .i64 co5]] p.wd fun e w'' => e = .returned (.bool false) ∧ Below p.wd.heap.size p.wd w'') := Lib.hid (fun p => by rw [← hne]; exact like_rows p.wd (hoc7.out.below p.ok) (HO5R.out.below p.ok))
        have x0 := lat_cell hg5 k70
        have x1 := lat_cell hg5 k71
        have x2 := lat_cell hg5 k72
        have y0 := lat_cell hg5 k50
        have y1 := lat_cell hg5 k51
        have y2 := lat_cell hg5 k52
        have hdk : decide ((k2 : Int) < (i : Int)) = true := by simp; omega
        clear hne hoc7 hR7 k70 k71 k72 hg7 k50 k51 k52 hg5
        go_wp2
        refine wp_region_lat (by kernel_rfl) (by kernel_rfl) ?_
        repeat (go_big_quiet_step ((go_at_call 20; exact lat_calls (HLK1.out _))))
        refine wpQuiet_nil ?_
        intro wz hw'
        obtain ⟨⟨wzz, hwz⟩, hw''⟩ := hw'
        subst hw''
        have hbz := HBK.out.trans (hwz.mono HBK.out.size)
        clear x0 x1 x2 y0 y1 y2 HLK1 hwz
        cases sb with
        | true =>
          have HE : Hid (seenB ALL oi (k2 + 1) = true) := Lib.hid (by rw [seenB_succ, HSB.out]; rfl)
          clear hdk
          go_wp2
          refine wp_region_lat (by kernel_rfl) (by kernel_rfl) ?_
          repeat (go_big_quiet_step (fail))
          refine wpQuiet_nil ?_
          intro _ hw'
          obtain ⟨⟨wy, hwy⟩, hw''⟩ := hw'
          subst hw''
          have hby := hbz.trans (hwy.mono hbz.size)
          clear hwy
          go_wp2
          go_roundw
          case rel => exact ⟨k2 + 1, by omega, by go_num, by rw [HE.out], hby⟩
          case measure => simp [intOf]; omega
        | false =>
          obtain ⟨g5', v6, l6, d6, en6, co6, ha6, hg6, hR6, k60, k61, k62, hoc6⟩ := (HO6.out.below hbz).at_ hlk
          subst ha6
          obtain ⟨g8, v8, l8, d8, en8, co8, ha8, hg8, hR8, k80, k81, k82, hoc8⟩ := (HO5.out.below hbz).at_ hlt
          injection ha8 with ha8
          injection ha8 with ha8
          subst ha8
          have hoc8 := hoc8.out
          rw [HOI.out] at hoc8
          obtain ⟨dd, HDD⟩ : ∃ dd, Hid (decide (oAt ALL k2 = oi) = dd) := ⟨_, rfl⟩
          have HE : Hid (seenB ALL oi (k2 + 1) = dd) := Lib.hid (by rw [seenB_succ, HSB.out, HDD.out]; rfl)
          have HLK2 : Hid (∀ p : Lat wz, Calls Tryz.prog 20 #[.agg #[.slice v6 l6 d6, .int .i64 en6, .int .i64 co6], .agg #[.slice v8 l8 d8, .int .i64 en8, .int .i64 co8]] p.wd fun e w'' => e = .returned (.bool dd) ∧ Below p.wd.heap.size p.wd w'') := Lib.hid (fun p => by rw [← HDD.out]; exact like_rows p.wd (hoc6.out.below p.ok) (hoc8.below p.ok))
          have x0 := lat_cell hg6 k60
          have x1 := lat_cell hg6 k61
          have x2 := lat_cell hg6 k62
          have y0 := lat_cell hg8 k80
          have y1 := lat_cell hg8 k81
          have y2 := lat_cell hg8 k82
          clear hoc6 hoc8 hR6 hR8 hg6 hg8 k60 k61 k62 k80 k81 k82 hdk
          go_wp2
          refine wp_region_lat (by kernel_rfl) (by kernel_rfl) ?_
          repeat (go_big_quiet_step ((go_at_call 20; exact lat_calls (HLK2.out _))))
          refine wpQuiet_nil ?_
          intro _ hw'
          obtain ⟨⟨wy, hwy⟩, hw''⟩ := hw'
          subst hw''
          have hby := hbz.trans (hwy.mono hbz.size)
          clear x0 x1 x2 y0 y1 y2 HLK2 hwy
          go_wp2
          go_roundw
          case rel => exact ⟨k2 + 1, by omega, by go_num, by rw [HE.out], hby⟩
          case measure => simp [intOf]; omega
      case neg =>
        have hdk : decide ((k2 : Int) < (i : Int)) = false := by simp; omega
        clear k50 k51 k52 hg5
        go_wp2
        refine wp_region_lat (by kernel_rfl) (by kernel_rfl) ?_
        repeat (go_big_quiet_step (fail))
        refine wpQuiet_nil ?_
        intro wz hw'
        obtain ⟨⟨wzz, hwz⟩, hw''⟩ := hw'
        subst hw''
        have hbz := HBK.out.trans (hwz.mono HBK.out.size)
        clear hwz
        cases sb with
        | true =>
          have HE : Hid (seenB ALL oi (k2 + 1) = true) := Lib.hid (by rw [seenB_succ, HSB.out]; rfl)
          clear hdk
          go_wp2
          refine wp_region_lat (by kernel_rfl) (by kernel_rfl) ?_
          repeat (go_big_quiet_step (fail))
          refine wpQuiet_nil ?_
          intro _ hw'
          obtain ⟨⟨wy, hwy⟩, hw''⟩ := hw'
          subst hw''
          have hby := hbz.trans (hwy.mono hbz.size)
          clear hwy
          go_wp2
          go_roundw
          case rel => exact ⟨k2 + 1, by omega, by go_num, by rw [HE.out], hby⟩
          case measure => simp [intOf]; omega
        | false =>
          obtain ⟨g5', v6, l6, d6, en6, co6, ha6, hg6, hR6, k60, k61, k62, hoc6⟩ := (HO6.out.below hbz).at_ hlk
          subst ha6
          obtain ⟨g8, v8, l8, d8, en8, co8, ha8, hg8, hR8, k80, k81, k82, hoc8⟩ := (HO5.out.below hbz).at_ hlt
          injection ha8 with ha8
          injection ha8 with ha8
          subst ha8
          have hoc8 := hoc8.out
          rw [HOI.out] at hoc8
          obtain ⟨dd, HDD⟩ : ∃ dd, Hid (decide (oAt ALL k2 = oi) = dd) := ⟨_, rfl⟩
          have HE : Hid (seenB ALL oi (k2 + 1) = dd) := Lib.hid (by rw [seenB_succ, HSB.out, HDD.out]; rfl)
          have HLK2 : Hid (∀ p : Lat wz, Calls Tryz.prog 20 #[.agg #[.slice v6 l6 d6, .int .i64 en6, .int .i64 co6], .agg #[.slice v8 l8 d8, .int .i64 en8, .int .i64 co8]] p.wd fun e w'' => e = .returned (.bool dd) ∧ Below p.wd.heap.size p.wd w'') := Lib.hid (fun p => by rw [← HDD.out]; exact like_rows p.wd (hoc6.out.below p.ok) (hoc8.below p.ok))
          have x0 := lat_cell hg6 k60
          have x1 := lat_cell hg6 k61
          have x2 := lat_cell hg6 k62
          have y0 := lat_cell hg8 k80
          have y1 := lat_cell hg8 k81
          have y2 := lat_cell hg8 k82
          clear hoc6 hoc8 hR6 hR8 hg6 hg8 k60 k61 k62 k80 k81 k82 hdk
          go_wp2
          refine wp_region_lat (by kernel_rfl) (by kernel_rfl) ?_
          repeat (go_big_quiet_step ((go_at_call 20; exact lat_calls (HLK2.out _))))
          refine wpQuiet_nil ?_
          intro _ hw'
          obtain ⟨⟨wy, hwy⟩, hw''⟩ := hw'
          subst hw''
          have hby := hbz.trans (hwy.mono hbz.size)
          clear x0 x1 x2 y0 y1 y2 HLK2 hwy
          go_wp2
          go_roundw
          case rel => exact ⟨k2 + 1, by omega, by go_num, by rw [HE.out], hby⟩
          case measure => simp [intOf]; omega

/-! ### THE ROW's STEP: WRITTEN OUT: LEAVE IT -/
set_option maxRecDepth 100000 in
theorem lifted (os : Os) (started : os.Started) (H : Type) (enc : TypeId × Value → H) :
    ReturnsInHanded {} Tryz.checked os 3 .any (Rows.fnFreeSpec.pre6 enc Tryz.prog Tryz.f3 Rows.fnFreeRow.domain false) (Rows.fnFreeSpec.post enc Tryz.prog Tryz.f3 false true false false) := by
  refine returnsInHanded_of_change (C := Tryz.checked) own started (by kernel_rfl) Tryz.func3
    (ChangeSpec.witness6 (enc := enc) (C := Tryz.checked) false ⟨#[], #[.slice none 0 0], []⟩ 8 (by kernel_rfl) (by kernel_rfl) (by kernel_rfl) (by kernel_rfl)) ?_
  intro W base args ds gs before hval0 hW hcnd _
  have hval : ∀ (j : Nat) t v, Tryz.f3.params[j]? = some t → args[j]? = some v → Value.okWide Tryz.prog W .any base t v := hval0
  have hW' := hW
  obtain ⟨p, q, hA0, hV, rfl, hfz, hnd⟩ := hW
  have hA : DataW.TrodAll enc Tryz.prog W 0 (fun _ => true) true Tryz.f3.params.toList args.toList ds p := hA0
  rw [Tryz.params3] at hA hval
  obtain ⟨v0, vs0, d0, ds0, p0, q0, hargs, rfl, rfl, h0, r0⟩ := trodAll_cons hA
  obtain ⟨rfl, rfl, rfl⟩ := trodAll_nil r0
  obtain rfl : args = #[v0] := by cases args; simp_all
  obtain ⟨rfl, rfl⟩ := trodVars_none hV
  obtain ⟨a0, len0, cap0, rfl⟩ := okWide_slice Tryz.underlying22 (hval 0 22 v0 rfl rfl)
  have k0 := h0
  have lt0 : ∀ x ∈ p0, x.block < W.heap.size := by obtain ⟨m, hm⟩ := k0; exact DataW.trod_lt m _ _ _ hm
  obtain ⟨z0, w0⟩ : ∃ zs, IsRow .u8 W a0 len0 cap0 zs := by
    obtain ⟨fuel, hf⟩ := h0
    rcases open_ints Tryz.underlying22 Tryz.underlying5 (by kernel_rfl) hf with ⟨hcs, _⟩ | ⟨x, l, c, zs, hcs, _, hl, hm, hz, _, hcell, hwz⟩
    · simp [Value.cells] at hcs
      obtain ⟨rfl, rfl, rfl⟩ := hcs
      exact ⟨[], .inl ⟨rfl, rfl, rfl, rfl⟩⟩
    · simp [Value.cells] at hcs
      obtain ⟨rfl, rfl, rfl⟩ := hcs
      exact ⟨zs, .inr ⟨_, rfl, hl, hm, by simpa using hz, hcell, hwz⟩⟩
  clear hA0 hval0
  refine (walk a0 len0 cap0 z0 W w0).mono fun e W' ⟨he, bel⟩ => ?_
  subst he
  exact ⟨_, rfl, _, _, _, [], _, [], hW', trodAll_mk1 (shut_bool Tryz.underlying4 _), (trodAll_cons_mk (Below.trod laidOut (by kernel_rfl) (of_decide_eq_true (by kernel_rfl)) k0 bel lt0) trodAll_mk0), rfl, bel.frame _, fun h => by cases h⟩

theorem over : Rows.fnFreeRow.holds Tryz.pinned (OpenSpec.ofChange Rows.fnFreeSpec) :=
  OpenClaim.holds_of_wide 3 Tryz.f3 rfl rfl rfl rfl rfl rfl rfl ⟨rfl, rfl, rfl, rfl, rfl⟩ rfl rfl rfl rfl rfl (by kernel_rfl) Tryz.func3 (by kernel_rfl)
    (of_decide_eq_true (by kernel_rfl)) (by unfold Func.isWrapper; first | (rw [if_pos (by decide +kernel)]; kernel_rfl) | (rw [if_neg (by decide +kernel)]; exact ⟨rfl, rfl⟩))
    (fun os started H enc _ => lifted os started H enc)

/-- ████ THE STATEMENT ████ -/
theorem proved : Rows.FnFreeSaid := over
#print axioms proved
end Go.Proofs.YtmooecbdpfhnlaaGreat.fnFree
