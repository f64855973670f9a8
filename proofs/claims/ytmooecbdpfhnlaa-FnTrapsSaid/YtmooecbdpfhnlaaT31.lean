/- Joined texts of this proof (ImplVal0, ImplVal1), in build order. -/
import Derived.Test.YtmooecbdpfhnlaaT29
import Derived.Test.YtmooecbdpfhnlaaT10
import Derived.WalkLawsBesides
import Derived.Test.YtmooecbdpfhnlaaT14
/- The contracts of the program's truth, trap, cell, divided, ofTwo (methods of its reckoner). -/
namespace Go.Proofs.Ytmooecbdpfhnlaa
open Go.RowKit

/-- The reckoner: the greatest value, the environment, whether it is plain. -/
def reckV (g : Int) (er : ERow) (plain : Bool) : Value := .agg #[.int .i64 g, slV er.vars, slV er.cells, .bool plain]
/-- The panic of a trap. -/
def trapC (code : Int) : List PanicEntry := [{ v := .iface 101 (.agg #[.int .i64 code]), recovered := false }]
/-- What two values make, ahead of the mask. -/
def zTwo (op : Int) (a b : Nat) : Int :=
  if op = 5 then (a : Int) + b else if op = 6 then (a : Int) - b else if op = 7 then (a : Int) * b
  else if op = 8 then ((a / b : Nat) : Int) else if op = 9 then ((if b = 0 then 0 else a % b : Nat) : Int) else if op = 10 then (bitF 0 a b : Int) else if op = 11 then (bitF 1 a b : Int) else if op = 12 then (bitF 2 a b : Int)
  else if op = 13 then wrap64 ((a : Int) * 2 ^ min b 64) else if op = 14 then (a : Int) / 2 ^ min b 64 else if op = 15 then (bi (decide (a = b)) : Int) else (bi (decide (a < b)) : Int)
theorem zTwo_5 (a b : Nat) : zTwo 5 a b = (a : Int) + b := by
  unfold zTwo
  rw [if_pos rfl]
theorem zTwo_6 (a b : Nat) : zTwo 6 a b = (a : Int) - b := by
  unfold zTwo
  rw [if_neg (by decide)]
  rw [if_pos rfl]
theorem zTwo_7 (a b : Nat) : zTwo 7 a b = (a : Int) * b := by
  unfold zTwo
  rw [if_neg (by decide)]
  rw [if_neg (by decide)]
  rw [if_pos rfl]
theorem zTwo_8 (a b : Nat) : zTwo 8 a b = ((a / b : Nat) : Int) := by
  unfold zTwo
  rw [if_neg (by decide)]
  rw [if_neg (by decide)]
  rw [if_neg (by decide)]
  rw [if_pos rfl]
theorem zTwo_9 (a b : Nat) : zTwo 9 a b = ((if b = 0 then 0 else a % b : Nat) : Int) := by
  unfold zTwo
  rw [if_neg (by decide)]
  rw [if_neg (by decide)]
  rw [if_neg (by decide)]
  rw [if_neg (by decide)]
  rw [if_pos rfl]
theorem zTwo_10 (a b : Nat) : zTwo 10 a b = (bitF 0 a b : Int) := by
  unfold zTwo
  rw [if_neg (by decide)]
  rw [if_neg (by decide)]
  rw [if_neg (by decide)]
  rw [if_neg (by decide)]
  rw [if_neg (by decide)]
  rw [if_pos rfl]
theorem zTwo_11 (a b : Nat) : zTwo 11 a b = (bitF 1 a b : Int) := by
  unfold zTwo
  rw [if_neg (by decide)]
  rw [if_neg (by decide)]
  rw [if_neg (by decide)]
  rw [if_neg (by decide)]
  rw [if_neg (by decide)]
  rw [if_neg (by decide)]
  rw [if_pos rfl]
theorem zTwo_12 (a b : Nat) : zTwo 12 a b = (bitF 2 a b : Int) := by
  unfold zTwo
  rw [if_neg (by decide)]
  rw [if_neg (by decide)]
  rw [if_neg (by decide)]
  rw [if_neg (by decide)]
  rw [if_neg (by decide)]
  rw [if_neg (by decide)]
  rw [if_neg (by decide)]
  rw [if_pos rfl]
theorem zTwo_13 (a b : Nat) : zTwo 13 a b = wrap64 ((a : Int) * 2 ^ min b 64) := by
  unfold zTwo
  rw [if_neg (by decide)]
  rw [if_neg (by decide)]
  rw [if_neg (by decide)]
  rw [if_neg (by decide)]
  rw [if_neg (by decide)]
  rw [if_neg (by decide)]
  rw [if_neg (by decide)]
  rw [if_neg (by decide)]
  rw [if_pos rfl]
theorem zTwo_14 (a b : Nat) : zTwo 14 a b = (a : Int) / 2 ^ min b 64 := by
  unfold zTwo
  rw [if_neg (by decide)]
  rw [if_neg (by decide)]
  rw [if_neg (by decide)]
  rw [if_neg (by decide)]
  rw [if_neg (by decide)]
  rw [if_neg (by decide)]
  rw [if_neg (by decide)]
  rw [if_neg (by decide)]
  rw [if_neg (by decide)]
  rw [if_pos rfl]
theorem zTwo_15 (a b : Nat) : zTwo 15 a b = (bi (decide (a = b)) : Int) := by
  unfold zTwo
  rw [if_neg (by decide)]
  rw [if_neg (by decide)]
  rw [if_neg (by decide)]
  rw [if_neg (by decide)]
  rw [if_neg (by decide)]
  rw [if_neg (by decide)]
  rw [if_neg (by decide)]
  rw [if_neg (by decide)]
  rw [if_neg (by decide)]
  rw [if_neg (by decide)]
  rw [if_pos rfl]
theorem zTwo_16 (a b : Nat) : zTwo 16 a b = (bi (decide (a < b)) : Int) := by
  unfold zTwo
  rw [if_neg (by decide)]
  rw [if_neg (by decide)]
  rw [if_neg (by decide)]
  rw [if_neg (by decide)]
  rw [if_neg (by decide)]
  rw [if_neg (by decide)]
  rw [if_neg (by decide)]
  rw [if_neg (by decide)]
  rw [if_neg (by decide)]
  rw [if_neg (by decide)]
  rw [if_neg (by decide)]
theorem shl_run (x y : Int) (h : 0 ≤ y) : Op.shift .shl .i64 x .i64 y = pure (.int .i64 (wrap64 (x * 2 ^ min y.toNat 64))) := by
  rw [show Op.shift .shl .i64 x .i64 y = pure (.int .i64 (IntKind.i64.wrap (x * 2 ^ min y.toNat 64))) by simp [Op.shift, Int.not_lt.mpr h, IntKind.bits], IntKind.wrap_i64, wrap64]
theorem shr_run (x y : Int) (h : 0 ≤ y) : Op.shift .shr .i64 x .i64 y = pure (.int .i64 (x / 2 ^ min y.toNat 64)) := by
  have hp : (0 : Int) ≤ 2 ^ min y.toNat 64 := Int.pow_nonneg (by decide)
  simp [Op.shift, Int.not_lt.mpr h, Int.fdiv_eq_ediv_of_nonneg _ hp, IntKind.bits]
theorem wrap_mod (x : Int) {W : Nat} (hW : W ≤ 8) : wrap64 x % ((2 ^ W : Nat) : Int) = x % ((2 ^ W : Nat) : Int) := by
  have h64 : (18446744073709551616 : Int) = ((2 ^ W : Nat) : Int) * ((2 ^ (64 - W) : Nat) : Int) := by
    rw [← Int.natCast_mul, ← Nat.pow_add, show W + (64 - W) = 64 by omega]; rfl
  unfold wrap64
  have e := Int.emod_add_mul_ediv (x + 9223372036854775808) 18446744073709551616
  have e2 : (x + 9223372036854775808) % 18446744073709551616 - 9223372036854775808 = x - ((2 ^ W : Nat) : Int) * (((2 ^ (64 - W) : Nat) : Int) * ((x + 9223372036854775808) / 18446744073709551616)) := by
    rw [← Int.mul_assoc, ← h64]; omega
  rw [e2, Int.sub_emod, Int.mul_emod_right, Int.sub_zero, Int.emod_emod]
theorem natmod (a S : Nat) : ((a % S : Nat) : Int) = (a : Int) % (S : Int) := rfl
theorem shl_mod (a b W : Nat) (hW : W ≤ 8) : a * 2 ^ min b 64 % 2 ^ W = a * 2 ^ b % 2 ^ W := by
  rcases Nat.lt_or_ge 64 b with h | h
  · rw [Nat.min_eq_right (by omega)]
    have d1 : 2 ^ W ∣ a * 2 ^ 64 := Nat.dvd_trans (Nat.pow_dvd_pow 2 (by omega)) (Nat.dvd_mul_left _ _)
    have d2 : 2 ^ W ∣ a * 2 ^ b := Nat.dvd_trans (Nat.pow_dvd_pow 2 (by omega)) (Nat.dvd_mul_left _ _)
    rw [Nat.mod_eq_zero_of_dvd d1, Nat.mod_eq_zero_of_dvd d2]
  · rw [Nat.min_eq_left h]
theorem shr_min (a b : Nat) (ha : a < 256) : a / 2 ^ min b 64 = a / 2 ^ b := by
  rcases Nat.lt_or_ge 64 b with h | h
  · rw [Nat.min_eq_right (by omega), Nat.div_eq_of_lt (by omega), Nat.div_eq_of_lt]
    have : 2 ^ 64 ≤ 2 ^ b := Nat.pow_le_pow_right (by omega) (by omega)
    omega
  · rw [Nat.min_eq_left h]
theorem zTwo_mod {W a b : Nat} (op : Int) (hW1 : 1 ≤ W) (hW : W ≤ 8) (ha : a < 2 ^ W) (hb : b < 2 ^ W) (h5 : 5 ≤ op) (h16 : op ≤ 16) : zTwo op a b % ((2 ^ W : Nat) : Int) = (opN (2 ^ W) op a b : Int) := by
  have ha8 := lt256 ha hW
  have hlt := opN_lt op hW1 ha hb
  have small : ∀ x : Nat, x < 2 ^ W → ((x : Nat) : Int) % ((2 ^ W : Nat) : Int) = (x : Int) := fun x hx => by rw [← natmod, Nat.mod_eq_of_lt hx]
  have hc : op = 5 ∨ op = 6 ∨ op = 7 ∨ op = 8 ∨ op = 9 ∨ op = 10 ∨ op = 11 ∨ op = 12 ∨ op = 13 ∨ op = 14 ∨ op = 15 ∨ op = 16 := by omega
  rcases hc with rfl | rfl | rfl | rfl | rfl | rfl | rfl | rfl | rfl | rfl | rfl | rfl
  · rw [zTwo_5, show opN (2 ^ W) 5 a b = (a + b) % 2 ^ W from rfl, natmod, Int.natCast_add]
  · rw [zTwo_6, show opN (2 ^ W) 6 a b = (a + 2 ^ W - b) % 2 ^ W from rfl, natmod, show ((a + 2 ^ W - b : Nat) : Int) = (a : Int) - b + ((2 ^ W : Nat) : Int) by omega, Int.add_emod_right]
  · rw [zTwo_7, show opN (2 ^ W) 7 a b = a * b % 2 ^ W from rfl, natmod, Int.natCast_mul]
  · rw [zTwo_8]; exact small _ hlt
  · rw [zTwo_9]; exact small _ hlt
  · rw [zTwo_10]; exact small _ hlt
  · rw [zTwo_11]; exact small _ hlt
  · rw [zTwo_12]; exact small _ hlt
  · have e : ((a * 2 ^ min b 64 : Nat) : Int) = (a : Int) * 2 ^ min b 64 := by simp
    rw [zTwo_13, show opN (2 ^ W) 13 a b = a * 2 ^ b % 2 ^ W from rfl, wrap_mod _ hW, ← shl_mod a b W hW, natmod, e]
  · have e : ((a / 2 ^ min b 64 : Nat) : Int) = (a : Int) / 2 ^ min b 64 := by simp
    rw [zTwo_14, ← e, shr_min a b ha8]
    exact small _ hlt
  · rw [zTwo_15, show bi (decide (a = b)) = (if a = b then 1 else 0) by unfold bi; simp]
    exact small _ hlt
  · rw [zTwo_16, show bi (decide (a < b)) = (if a < b then 1 else 0) by unfold bi; simp]
    exact small _ hlt

theorem truth_any (b : Bool) (w : World) : Calls Try.prog 161 #[.bool b] w fun e w' => e = .returned (.int .i64 (bi b : Int)) ∧ w = w' := by
  cases b
  all_goals
    go_enter Try.func161, Try.ntmps161
    go_wp2
    go_ret
    exact ⟨rfl, rfl⟩
theorem trap_plain (g : Int) (er : ERow) (code : Int) (w : World) : Calls Try.prog 159 #[reckV g er true, .int .i64 code] w fun e w' => e = .returned (.int .i64 0) ∧ Below w.heap.size w w' := by
  obtain ⟨⟨b1, m1, e1⟩, ⟨b2, m2, e2⟩, rws⟩ := er
  show Calls Try.prog 159 #[.agg #[.int .i64 g, .slice b1 m1 e1, .slice b2 m2 e2, .bool true], .int .i64 code] w _
  go_enter Try.func159, Try.ntmps159
  go_wp2
  go_ret
  exact ⟨rfl, (Below.refl _ _).alloc (Nat.le_refl _) _⟩
theorem trap_panic (g : Int) (er : ERow) (code : Int) (w : World) : Calls Try.prog 159 #[reckV g er false, .int .i64 code] w fun e w' => e = .panicked (trapC code) ∧ Below w.heap.size w w' := by
  obtain ⟨⟨b1, m1, e1⟩, ⟨b2, m2, e2⟩, rws⟩ := er
  show Calls Try.prog 159 #[.agg #[.int .i64 g, .slice b1 m1 e1, .slice b2 m2 e2, .bool false], .int .i64 code] w _
  go_enter Try.func159, Try.ntmps159
  go_wp2
  exact ⟨rfl, rfl, (Below.refl _ _).alloc (Nat.le_refl _) _⟩
set_option maxHeartbeats 800000 in
theorem cell_in (g : Int) (er : ERow) (plain : Bool) (css : List (List Int)) (y i : Nat) (w : World) (h : IntsSS w er.cells.1 er.cells.2.1 er.rows css) (hy : y < css.length) (hi : i < (css.getD y []).length) :
    Calls Try.prog 151 #[reckV g er plain, .int .i64 (y : Int), .int .i64 (i : Int)] w fun e w' => e = .returned (.int .i64 ((css.getD y []).getD i 0)) ∧ Below w.heap.size w w' := by
  obtain ⟨⟨b1, m1, e1⟩, ⟨b2, m2, e2⟩, rws⟩ := er
  simp only [] at h
  rw [h.2.1] at hy
  obtain ⟨wa, HW⟩ : ∃ wa, Hid (wa = w.alloc (.cells #[.int .i64 g, .slice b1 m1 e1, .slice b2 m2 e2, .bool plain] 104)) := ⟨_, rfl⟩
  have B : Blk wa w.heap.size 104 [.int .i64 g, .slice b1 m1 e1, .slice b2 m2 e2, .bool plain] := by rw [HW.out]; exact Blk.new w _ _
  have HB : Below w.heap.size w wa := by rw [HW.out]; exact (Below.refl _ _).alloc (Nat.le_refl _) _
  obtain ⟨b, o, a5, n5, c5, rfl, hb, hyy, hc, hI⟩ := (h.below HB).at_ hy
  have hl : n5 = (css.getD y []).length := hI.1.symm
  rw [← hl] at hi
  obtain ⟨b6, o6, z, rfl, hb6, hz, hin, hc6⟩ := hI.at_ hi
  have hn5 := hI.2.1
  have HZ : Hid (z = (css.getD y []).getD i 0) := hz
  rw [← HZ.out]
  show Calls Try.prog 151 #[.agg #[.int .i64 g, .slice b1 m1 e1, .slice (some ⟨b, o, none⟩) m2 e2, .bool plain], .int .i64 (y : Int), .int .i64 (i : Int)] w _
  have hm2 := h.2.2.1
  have t2 := B.cell (j := 2) rfl
  clear h hI hl hz
  go_enter Try.func151, Try.ntmps151
  go_upto_region 1 with fail
  rw [← HW.out]
  have hd : decide ((i : Int) ≥ (n5 : Int)) = false := by simp; omega
  clear HW
  go_wp2
  go_ret
  exact ⟨rfl, HB⟩
theorem cell_head {b2 : Option Addr} {m2 : Nat} {rws : List Sl} {css : List (List Int)} {y i : Nat} {w : World} (h : IntsSS w b2 m2 rws css) (hy : y < css.length) (hi : ¬ i < (css.getD y []).length) : ∃ b o a5 n5 c5, b2 = some ⟨b, o, none⟩ ∧ b < w.heap.size ∧ w.cell? ⟨b, o + y, none⟩ = some (.slice a5 n5 c5) ∧ n5 ≤ i ∧ n5 ≤ 1048576 ∧ y < m2 ∧ m2 ≤ 1048576 := by
  rw [h.2.1] at hy
  obtain ⟨b, o, a5, n5, c5, e, hb, hyy, hc, hI⟩ := h.at_ hy
  have hl : n5 = (css.getD y []).length := hI.1.symm
  exact ⟨b, o, a5, n5, c5, e, hb, hc, by omega, hI.2.1, hy, h.2.2.1⟩
set_option maxHeartbeats 800000 in
theorem cell_plain (g : Int) (er : ERow) (css : List (List Int)) (y i : Nat) (w : World) (h : IntsSS w er.cells.1 er.cells.2.1 er.rows css) (hy : y < css.length) (hi : ¬ i < (css.getD y []).length) :
    Calls Try.prog 151 #[reckV g er true, .int .i64 (y : Int), .int .i64 (i : Int)] w fun e w' => e = .returned (.int .i64 0) ∧ Below w.heap.size w w' := by
  have HT : Hid (∀ w' : World, Calls Try.prog 159 #[reckV g er true, .int .i64 2] w' fun e w'' => e = .returned (.int .i64 0) ∧ Below w'.heap.size w' w'') := Lib.hid (fun w' => trap_plain g er 2 w')
  obtain ⟨⟨b1, m1, e1⟩, ⟨b2, m2, e2⟩, rws⟩ := er
  simp only [] at h
  obtain ⟨wa, HW⟩ : ∃ wa, Hid (wa = w.alloc (.cells #[.int .i64 g, .slice b1 m1 e1, .slice b2 m2 e2, .bool true] 104)) := ⟨_, rfl⟩
  have B : Blk wa w.heap.size 104 [.int .i64 g, .slice b1 m1 e1, .slice b2 m2 e2, .bool true] := by rw [HW.out]; exact Blk.new w _ _
  have HB : Below w.heap.size w wa := by rw [HW.out]; exact (Below.refl _ _).alloc (Nat.le_refl _) _
  obtain ⟨b, o, a5, n5, c5, rfl, hb, hc, hn5, hn6, hym, hm2⟩ := cell_head (h.below HB) hy hi
  simp only [reckV, slV] at HT
  show Calls Try.prog 151 #[.agg #[.int .i64 g, .slice b1 m1 e1, .slice (some ⟨b, o, none⟩) m2 e2, .bool true], .int .i64 (y : Int), .int .i64 (i : Int)] w _
  have t0 := B.cell (j := 0) rfl
  have t1 := B.cell (j := 1) rfl
  have t2 := B.cell (j := 2) rfl
  have t3 := B.cell (j := 3) rfl
  clear h hy hi
  go_enter Try.func151, Try.ntmps151
  go_upto_region 1 with fail
  rw [← HW.out]
  have hd : decide ((i : Int) ≥ (n5 : Int)) = true := by simp; omega
  clear HW
  go_wp2_with fail
  refine (HT.out _).mono ?_
  rintro e w1 ⟨rfl, hb1⟩
  go_wp2
  go_ret
  exact ⟨rfl, HB.trans (hb1.mono HB.size)⟩
set_option maxHeartbeats 800000 in
theorem cell_panic (g : Int) (er : ERow) (css : List (List Int)) (y i : Nat) (w : World) (h : IntsSS w er.cells.1 er.cells.2.1 er.rows css) (hy : y < css.length) (hi : ¬ i < (css.getD y []).length) :
    Calls Try.prog 151 #[reckV g er false, .int .i64 (y : Int), .int .i64 (i : Int)] w fun e w' => e = .panicked (trapC 2) ∧ Below w.heap.size w w' := by
  have HT : Hid (∀ w' : World, Calls Try.prog 159 #[reckV g er false, .int .i64 2] w' fun e w'' => e = .panicked (trapC 2) ∧ Below w'.heap.size w' w'') := Lib.hid (fun w' => trap_panic g er 2 w')
  obtain ⟨⟨b1, m1, e1⟩, ⟨b2, m2, e2⟩, rws⟩ := er
  simp only [] at h
  obtain ⟨wa, HW⟩ : ∃ wa, Hid (wa = w.alloc (.cells #[.int .i64 g, .slice b1 m1 e1, .slice b2 m2 e2, .bool false] 104)) := ⟨_, rfl⟩
  have B : Blk wa w.heap.size 104 [.int .i64 g, .slice b1 m1 e1, .slice b2 m2 e2, .bool false] := by rw [HW.out]; exact Blk.new w _ _
  have HB : Below w.heap.size w wa := by rw [HW.out]; exact (Below.refl _ _).alloc (Nat.le_refl _) _
  obtain ⟨b, o, a5, n5, c5, rfl, hb, hc, hn5, hn6, hym, hm2⟩ := cell_head (h.below HB) hy hi
  simp only [reckV, slV] at HT
  show Calls Try.prog 151 #[.agg #[.int .i64 g, .slice b1 m1 e1, .slice (some ⟨b, o, none⟩) m2 e2, .bool false], .int .i64 (y : Int), .int .i64 (i : Int)] w _
  have t0 := B.cell (j := 0) rfl
  have t1 := B.cell (j := 1) rfl
  have t2 := B.cell (j := 2) rfl
  have t3 := B.cell (j := 3) rfl
  clear h hy hi
  go_enter Try.func151, Try.ntmps151
  go_upto_region 1 with fail
  rw [← HW.out]
  have hd : decide ((i : Int) ≥ (n5 : Int)) = true := by simp; omega
  clear HW
  go_wp2_with fail
  refine (HT.out _).mono ?_
  rintro e w1 ⟨rfl, hb1⟩
  go_wp2
  exact ⟨rfl, rfl, HB.trans (hb1.mono HB.size)⟩
theorem divided_8 (g : Int) (er : ERow) (plain : Bool) (a b : Nat) (w : World) (ha : a < 256) (h0 : b ≠ 0) :
    Calls Try.prog 160 #[reckV g er plain, .int .i64 8, .int .i64 (a : Int), .int .i64 (b : Int)] w fun e w' => e = .returned (.int .i64 ((a / b : Nat) : Int)) ∧ Below w.heap.size w w' := by
  obtain ⟨⟨b1, m1, e1⟩, ⟨b2, m2, e2⟩, rws⟩ := er
  show Calls Try.prog 160 #[.agg #[.int .i64 g, .slice b1 m1 e1, .slice b2 m2 e2, .bool plain], .int .i64 8, .int .i64 (a : Int), .int .i64 (b : Int)] w _
  obtain ⟨q, HQ⟩ : ∃ q, Hid (a / b = q) := ⟨_, rfl⟩
  have hbi : ¬ (b : Int) = 0 := by omega
  have hbe : ((b : Int) == 0) = false := by simpa using hbi
  have hm : Int.tdiv (a : Int) (b : Int) = (q : Int) := by rw [Int.tdiv_eq_ediv_of_nonneg (Int.natCast_nonneg _), ← HQ.out]; rfl
  have hle : q ≤ a := by rw [← HQ.out]; exact Nat.div_le_self _ _
  rw [HQ.out]
  clear h0
  go_enter Try.func160, Try.ntmps160
  go_wp2
  go_ret
  exact ⟨by first | rfl | go_num, (Below.refl _ _).alloc (Nat.le_refl _) _⟩
theorem divided_9 (g : Int) (er : ERow) (plain : Bool) (a b : Nat) (w : World) (h0 : b ≠ 0) :
    Calls Try.prog 160 #[reckV g er plain, .int .i64 9, .int .i64 (a : Int), .int .i64 (b : Int)] w fun e w' => e = .returned (.int .i64 ((a % b : Nat) : Int)) ∧ Below w.heap.size w w' := by
  obtain ⟨⟨b1, m1, e1⟩, ⟨b2, m2, e2⟩, rws⟩ := er
  show Calls Try.prog 160 #[.agg #[.int .i64 g, .slice b1 m1 e1, .slice b2 m2 e2, .bool plain], .int .i64 9, .int .i64 (a : Int), .int .i64 (b : Int)] w _
  obtain ⟨q, HQ⟩ : ∃ q, Hid (a % b = q) := ⟨_, rfl⟩
  have hbi : ¬ (b : Int) = 0 := by omega
  have hbe : ((b : Int) == 0) = false := by simpa using hbi
  have hm : Int.tmod (a : Int) (b : Int) = (q : Int) := by rw [Int.tmod_eq_emod_of_nonneg (Int.natCast_nonneg _), ← HQ.out]; rfl
  have hle : q ≤ a := by rw [← HQ.out]; exact Nat.mod_le _ _
  rw [HQ.out]
  clear h0
  go_enter Try.func160, Try.ntmps160
  go_wp2
  go_ret
  exact ⟨by first | rfl | go_num, (Below.refl _ _).alloc (Nat.le_refl _) _⟩
theorem divided_plain (g : Int) (er : ERow) (op : Int) (a : Nat) (w : World) :
    Calls Try.prog 160 #[reckV g er true, .int .i64 op, .int .i64 (a : Int), .int .i64 0] w fun e w' => e = .returned (.int .i64 0) ∧ Below w.heap.size w w' := by
  have HT : Hid (∀ w' : World, Calls Try.prog 159 #[reckV g er true, .int .i64 1] w' fun e w'' => e = .returned (.int .i64 0) ∧ Below w'.heap.size w' w'') := Lib.hid (fun w' => trap_plain g er 1 w')
  obtain ⟨⟨b1, m1, e1⟩, ⟨b2, m2, e2⟩, rws⟩ := er
  simp only [reckV, slV] at HT
  show Calls Try.prog 160 #[.agg #[.int .i64 g, .slice b1 m1 e1, .slice b2 m2 e2, .bool true], .int .i64 op, .int .i64 (a : Int), .int .i64 0] w _
  have HB : Below w.heap.size w (w.alloc (.cells #[.int .i64 g, .slice b1 m1 e1, .slice b2 m2 e2, .bool true] 104)) := (Below.refl _ _).alloc (Nat.le_refl _) _
  go_enter Try.func160, Try.ntmps160
  go_wp2_with fail
  refine (HT.out _).mono ?_
  rintro e w1 ⟨rfl, hb1⟩
  go_wp2
  go_ret
  exact ⟨rfl, HB.trans (hb1.mono HB.size)⟩
theorem divided_panic (g : Int) (er : ERow) (op : Int) (a : Nat) (w : World) :
    Calls Try.prog 160 #[reckV g er false, .int .i64 op, .int .i64 (a : Int), .int .i64 0] w fun e w' => e = .panicked (trapC 1) ∧ Below w.heap.size w w' := by
  have HT : Hid (∀ w' : World, Calls Try.prog 159 #[reckV g er false, .int .i64 1] w' fun e w'' => e = .panicked (trapC 1) ∧ Below w'.heap.size w' w'') := Lib.hid (fun w' => trap_panic g er 1 w')
  obtain ⟨⟨b1, m1, e1⟩, ⟨b2, m2, e2⟩, rws⟩ := er
  simp only [reckV, slV] at HT
  show Calls Try.prog 160 #[.agg #[.int .i64 g, .slice b1 m1 e1, .slice b2 m2 e2, .bool false], .int .i64 op, .int .i64 (a : Int), .int .i64 0] w _
  have HB : Below w.heap.size w (w.alloc (.cells #[.int .i64 g, .slice b1 m1 e1, .slice b2 m2 e2, .bool false] 104)) := (Below.refl _ _).alloc (Nat.le_refl _) _
  go_enter Try.func160, Try.ntmps160
  go_wp2_with fail
  refine (HT.out _).mono ?_
  rintro e w1 ⟨rfl, hb1⟩
  go_wp2
  exact ⟨rfl, rfl, HB.trans (hb1.mono HB.size)⟩
set_option maxRecDepth 20000 in
set_option maxHeartbeats 3200000 in
theorem ofTwo_val (g : Int) (er : ERow) (plain : Bool) (op : Int) (a b : Nat) (w : World) (ha : a < 256) (hb : b < 256) (h5 : 5 ≤ op) (h16 : op ≤ 16) (hp : plain = true ∨ ¬ (b = 0 ∧ (op = 8 ∨ op = 9))) :
    Calls Try.prog 152 #[reckV g er plain, .int .i64 op, .int .i64 (a : Int), .int .i64 (b : Int)] w fun e w' => e = .returned (.int .i64 (zTwo op a b)) ∧ Below w.heap.size w w' := by
  have HD : Hid (op = 8 ∨ op = 9 → ∀ w' : World, Calls Try.prog 160 #[reckV g er plain, .int .i64 op, .int .i64 (a : Int), .int .i64 (b : Int)] w' fun e w'' => e = .returned (.int .i64 (zTwo op a b)) ∧ Below w'.heap.size w' w'') := Lib.hid (fun h89 w' => by
    by_cases h0 : b = 0
    · have hpl : plain = true := by
        rcases hp with h | h
        · exact h
        · exact absurd ⟨h0, h89⟩ h
      subst h0 hpl
      have ez : zTwo op a 0 = 0 := by
        rcases h89 with rfl | rfl
        · rw [zTwo_8, Nat.div_zero]; rfl
        · rw [zTwo_9, if_pos rfl]; rfl
      rw [ez]
      exact divided_plain g er op a w'
    · rcases h89 with rfl | rfl
      · rw [zTwo_8]
        exact divided_8 g er plain a b w' ha h0
      · have ez : zTwo 9 a b = ((a % b : Nat) : Int) := by
          rw [zTwo_9, if_neg h0]
        rw [ez]
        exact divided_9 g er plain a b w' h0)
  obtain ⟨R, HR⟩ : ∃ R, Hid (zTwo op a b = R) := ⟨_, rfl⟩
  simp only [HR.out] at HD ⊢
  obtain ⟨⟨b1, m1, e1⟩, ⟨b2, m2, e2⟩, rws⟩ := er
  simp only [reckV, slV] at HD
  show Calls Try.prog 152 #[.agg #[.int .i64 g, .slice b1 m1 e1, .slice b2 m2 e2, .bool plain], .int .i64 op, .int .i64 (a : Int), .int .i64 (b : Int)] w _
  have HB : Below w.heap.size w (w.alloc (.cells #[.int .i64 g, .slice b1 m1 e1, .slice b2 m2 e2, .bool plain] 104)) := (Below.refl _ _).alloc (Nat.le_refl _) _
  clear hp
  have hml : 0 ≤ (a : Int) * (b : Int) := Int.mul_nonneg (by omega) (by omega)
  have hmu : (a : Int) * (b : Int) ≤ 65025 := Int.le_trans (Int.ofNat_le.2 (Nat.mul_le_mul (show a ≤ 255 by omega) (show b ≤ 255 by omega))) (by decide)
  by_cases k5 : op = 5
  · subst k5
    have hR : R = (a : Int) + b := by rw [← HR.out, zTwo_5]
    subst hR
    clear HD
    go_enter Try.func152, Try.ntmps152
    go_wp2
    go_ret
    exact ⟨by first | rfl | go_num, HB⟩
  by_cases k6 : op = 6
  · subst k6
    have hR : R = (a : Int) - b := by rw [← HR.out, zTwo_6]
    subst hR
    clear HD
    go_enter Try.func152, Try.ntmps152
    go_wp2
    go_ret
    exact ⟨by first | rfl | go_num, HB⟩
  by_cases k7 : op = 7
  · subst k7
    have hR : R = (a : Int) * b := by rw [← HR.out, zTwo_7]
    subst hR
    clear HD
    go_enter Try.func152, Try.ntmps152
    go_wp2
    go_ret
    exact ⟨by first | rfl | go_num, HB⟩
  by_cases k8 : op = 8
  · subst k8
    go_enter Try.func152, Try.ntmps152
    go_wp2_with fail
    refine (HD.out (by simp) _).mono ?_
    rintro e w1 ⟨rfl, hb1⟩
    go_wp2
    go_ret
    exact ⟨rfl, HB.trans (hb1.mono HB.size)⟩
  by_cases k9 : op = 9
  · subst k9
    go_enter Try.func152, Try.ntmps152
    go_wp2_with fail
    refine (HD.out (by simp) _).mono ?_
    rintro e w1 ⟨rfl, hb1⟩
    go_wp2
    go_ret
    exact ⟨rfl, HB.trans (hb1.mono HB.size)⟩
  by_cases k10 : op = 10
  · subst k10
    have hR : R = (bitF 0 a b : Int) := by rw [← HR.out, zTwo_10]
    subst hR
    clear HD
    have hbit : bits .and .i64 (a : Int) (b : Int) = (bitF 0 a b : Int) := and_small ha hb
    clear hml hmu
    go_enter Try.func152, Try.ntmps152
    go_wp2
    go_ret
    exact ⟨by first | rfl | go_num, HB⟩
  by_cases k11 : op = 11
  · subst k11
    have hR : R = (bitF 1 a b : Int) := by rw [← HR.out, zTwo_11]
    subst hR
    clear HD
    have hbit : bits .or .i64 (a : Int) (b : Int) = (bitF 1 a b : Int) := or_small ha hb
    clear hml hmu
    go_enter Try.func152, Try.ntmps152
    go_wp2
    go_ret
    exact ⟨by first | rfl | go_num, HB⟩
  by_cases k12 : op = 12
  · subst k12
    have hR : R = (bitF 2 a b : Int) := by rw [← HR.out, zTwo_12]
    subst hR
    clear HD
    have hbit : bits .xor .i64 (a : Int) (b : Int) = (bitF 2 a b : Int) := xor_small ha hb
    clear hml hmu
    go_enter Try.func152, Try.ntmps152
    go_wp2
    go_ret
    exact ⟨by first | rfl | go_num, HB⟩
  by_cases k13 : op = 13
  · subst k13
    have hsh : Op.shift .shl .i64 (a : Int) .i64 (b : Int) = pure (.int .i64 R) := by rw [shl_run _ _ (Int.natCast_nonneg _), ← HR.out, zTwo_13, Int.toNat_natCast]
    clear HD
    clear hml hmu
    go_enter Try.func152, Try.ntmps152
    go_wp2
    go_ret
    exact ⟨by first | rfl | go_num, HB⟩
  by_cases k14 : op = 14
  · subst k14
    have hsh : Op.shift .shr .i64 (a : Int) .i64 (b : Int) = pure (.int .i64 R) := by rw [shr_run _ _ (Int.natCast_nonneg _), ← HR.out, zTwo_14, Int.toNat_natCast]
    clear HD
    clear hml hmu
    go_enter Try.func152, Try.ntmps152
    go_wp2
    go_ret
    exact ⟨by first | rfl | go_num, HB⟩
  by_cases k15 : op = 15
  · subst k15
    have hR : R = (bi (decide (a = b)) : Int) := by rw [← HR.out, zTwo_15]
    subst hR
    clear HD
    have hbe : ((a : Int) == (b : Int)) = decide (a = b) := by rw [Bool.eq_iff_iff]; simp; omega
    go_enter Try.func152, Try.ntmps152
    go_wp2_with fail
    refine (truth_any _ _).mono ?_
    rintro e w1 ⟨rfl, rfl⟩
    go_wp2
    go_ret
    exact ⟨by first | rfl | (simp), HB⟩
  have k16 : op = 16 := by omega
  subst k16
  have hR : R = (bi (decide (a < b)) : Int) := by rw [← HR.out, zTwo_16]
  subst hR
  clear HD
  go_enter Try.func152, Try.ntmps152
  go_wp2_with fail
  refine (truth_any _ _).mono ?_
  rintro e w1 ⟨rfl, rfl⟩
  go_wp2
  go_ret
  exact ⟨by first | rfl | (simp), HB⟩
theorem ofTwo_panic (g : Int) (er : ERow) (op : Int) (a : Nat) (w : World) (h89 : op = 8 ∨ op = 9) :
    Calls Try.prog 152 #[reckV g er false, .int .i64 op, .int .i64 (a : Int), .int .i64 0] w fun e w' => e = .panicked (trapC 1) ∧ Below w.heap.size w w' := by
  have HD : Hid (∀ w' : World, Calls Try.prog 160 #[reckV g er false, .int .i64 op, .int .i64 (a : Int), .int .i64 0] w' fun e w'' => e = .panicked (trapC 1) ∧ Below w'.heap.size w' w'') := Lib.hid (fun w' => divided_panic g er op a w')
  obtain ⟨⟨b1, m1, e1⟩, ⟨b2, m2, e2⟩, rws⟩ := er
  simp only [reckV, slV] at HD
  show Calls Try.prog 152 #[.agg #[.int .i64 g, .slice b1 m1 e1, .slice b2 m2 e2, .bool false], .int .i64 op, .int .i64 (a : Int), .int .i64 0] w _
  have HB : Below w.heap.size w (w.alloc (.cells #[.int .i64 g, .slice b1 m1 e1, .slice b2 m2 e2, .bool false] 104)) := (Below.refl _ _).alloc (Nat.le_refl _) _
  rcases h89 with rfl | rfl
  all_goals
    go_enter Try.func152, Try.ntmps152
    go_wp2_with fail
    refine (HD.out _).mono ?_
    rintro e w1 ⟨rfl, hb1⟩
    go_wp2
    exact ⟨rfl, rfl, HB.trans (hb1.mono HB.size)⟩
end Go.Proofs.Ytmooecbdpfhnlaa
/- The contracts of the program's mayReckon, valuesOk, EnvOk. -/
namespace Go.Proofs.Ytmooecbdpfhnlaa
open Go.RowKit

def mayR (S V A : Nat) (t : Tm) : Bool := t.1 == 17 || fitB S V A t
theorem mayR_eq (S V A : Nat) (ts : List Tm) : (expB ts && ts.all (mayR S V A)) = namesB S V A ts := by
  unfold namesB
  cases he : expB ts with
  | false => rfl
  | true =>
    have : ts.all (mayR S V A) = ts.all (nameOk S V A) := by
      rw [Bool.eq_iff_iff]
      simp only [List.all_eq_true]
      constructor
      · intro h t ht
        have := h t ht
        unfold mayR at this
        rw [fit_eq (expB_each he ht)] at this
        by_cases h17 : t.1 = 17
        · unfold nameOk
          rw [if_neg (by omega), if_neg (by omega), if_neg (by omega)]
        · simpa [h17] using this
      · intro h t ht
        unfold mayR
        rw [fit_eq (expB_each he ht), h t ht, Bool.and_true]
        by_cases h17 : t.1 = 17
        · simp [h17]
        · simp [h17]
    rw [this]
set_option maxHeartbeats 1600000 in
theorem mayReckon_any (r : PRow) (W I T A : Nat) (a : Option Addr) (n c : Nat) (ts : List Tm) (w : World) (hr : Lim r W I T A) (h : Terms w a n ts) : Calls Try.prog 63 #[progV r, .slice a n c] w fun e w' => e = .returned (.bool (namesB (2 ^ W) (I + T) A ts)) ∧ Below w.heap.size w w' := by
  rw [← mayR_eq]
  have HF : Hid (∀ (x y : Int) (w' : World), Calls Try.prog 114 #[progV r, .agg #[.int .i64 x, .int .i64 y]] w' fun e w'' => e = .returned (.bool (fitB (2 ^ W) (I + T) A (x, y))) ∧ Below w'.heap.size w' w'') := Lib.hid (fun x y w' => termFits_any r W I T A x y w' hr)
  have HL := Lib.hid h.1
  have hbd := h.2.1
  obtain ⟨f, HFF⟩ : ∃ f, Hid (fitB (2 ^ W) (I + T) A = f) := ⟨_, rfl⟩
  obtain ⟨f2, HF2⟩ : ∃ f2, Hid (mayR (2 ^ W) (I + T) A = f2) := ⟨_, rfl⟩
  have HM : Hid (∀ t, f2 t = (t.1 == 17 || f t)) := Lib.hid (fun t => by rw [← HF2.out, ← HFF.out]; rfl)
  rw [HF2.out]
  simp only [HFF.out] at HF
  clear HFF HF2 hr
  obtain ⟨wd, ⟨a1, n1, d1⟩, ⟨a2, n2, d2⟩, tp, ⟨a3, n3, d3⟩, ⟨a4, n4, d4⟩, rows⟩ := r
  simp only [progV, slV] at HF
  show Calls Try.prog 63 #[.agg #[.int .i64 wd, .slice a1 n1 d1, .slice a2 n2 d2, .int .i64 tp, .slice a3 n3 d3, .slice a4 n4 d4], .slice a n c] w _
  obtain ⟨wa, HW⟩ : ∃ wa, Hid (wa = w.alloc (.cells #[.int .i64 wd, .slice a1 n1 d1, .slice a2 n2 d2, .int .i64 tp, .slice a3 n3 d3, .slice a4 n4 d4] 28)) := ⟨_, rfl⟩
  have B0 : Blk wa w.heap.size 28 [.int .i64 wd, .slice a1 n1 d1, .slice a2 n2 d2, .int .i64 tp, .slice a3 n3 d3, .slice a4 n4 d4] := by rw [HW.out]; exact Blk.new w _ _
  have HB : Below w.heap.size w wa := by rw [HW.out]; exact (Below.refl _ _).alloc (Nat.le_refl _) _
  obtain ⟨X, HX⟩ : ∃ X, Hid (expB ts = X) := ⟨_, rfl⟩
  rw [HX.out]
  go_enter Try.func63, Try.ntmps63
  go_wp2_with fail
  rw [← HW.out]
  refine (expOk_any _ _ _ _ _ (h.below (Nat.le_refl _) HB)).mono ?_
  rintro e w1 ⟨rfl, hb1⟩
  rw [HX.out]
  have B0 := B0.below hb1 B0.lt
  have HB := HB.trans (hb1.mono HB.size)
  clear hb1 HW
  cases X with
  | false =>
    go_wp2
    go_ret
    exact ⟨ret_bool rfl, HB⟩
  | true =>
  go_wp2
  go_loopw [12] (fun i wr => ∃ k : Nat, k ≤ n ∧ i = .int .i64 (k : Int) ∧ AllTo f2 ts k ∧ Below w1.heap.size w1 wr) (fun i _ => n - (intOf i).toNat)
  case atStart => exact ⟨0, Nat.zero_le _, rfl, AllTo.zero _ _, Below.refl _ _⟩
  case round =>
    obtain ⟨k, hk, rfl, hg, hbl⟩ := hrel
    have hbel := HB.trans (hbl.mono HB.size)
    by_cases hlt : k < n
    · obtain ⟨b, o, x, y, rfl, hb, hz, hin1, hin2, hc1, hc2⟩ := (h.below (Nat.le_refl _) hbel).at_ hlt
      obtain ⟨wb, HWb⟩ : ∃ wb, Hid (wb = wr.alloc (.cells #[.int .i64 x, .int .i64 y] 94)) := ⟨_, rfl⟩
      have hblb : Below w1.heap.size w1 wb := by rw [HWb.out]; exact hbl.alloc hbl.size _
      have B1 := (B0.below hbl B0.lt).alloc (.cells #[.int .i64 x, .int .i64 y] 94)
      have t0 := B1.cell (j := 0) rfl
      have t1 := B1.cell (j := 1) rfl
      have t2 := B1.cell (j := 2) rfl
      have t3 := B1.cell (j := 3) rfl
      have t4 := B1.cell (j := 4) rfl
      have t5 := B1.cell (j := 5) rfl
      by_cases h17 : x = 17
      · have hne : (x != 17) = false := by simpa using h17
        have HQ : Hid (f2 (x, y) = true) := Lib.hid (by rw [HM.out]; simp [h17])
        clear t0 t1 t2 t3 t4 t5 h17
        go_wp2
        rw [← HWb.out]
        go_roundw
        case rel => exact ⟨k + 1, by omega, by go_num, hg.succ hz HQ.out, hblb⟩
        case measure => simp [intOf]; omega
      have hne : (x != 17) = true := by simpa using h17
      have HQ0 : Hid (f2 (x, y) = f (x, y)) := Lib.hid (by rw [HM.out]; simp [h17])
      clear h17
      obtain ⟨q, HQ⟩ : ∃ q, Hid (f (x, y) = q) := ⟨_, rfl⟩
      rw [HQ.out] at HQ0
      cases q with
      | true =>
        go_wp2_with fail
        rw [← HWb.out]
        refine (HF.out _ _ _).mono ?_
        rintro e w2 ⟨rfl, hb2⟩
        rw [HQ.out]
        have ht := hblb.trans (hb2.mono hblb.size)
        clear t0 t1 t2 t3 t4 t5 hc1 hc2
        go_wp2
        go_roundw
        case rel => exact ⟨k + 1, by omega, by go_num, hg.succ hz HQ0.out, ht⟩
        case measure => simp [intOf]; omega
      | false =>
        go_wp2_with fail
        rw [← HWb.out]
        refine (HF.out _ _ _).mono ?_
        rintro e w2 ⟨rfl, hb2⟩
        rw [HQ.out]
        have ht := hblb.trans (hb2.mono hblb.size)
        have ht2 := HB.trans (ht.mono HB.size)
        clear t0 t1 t2 t3 t4 t5 hc1 hc2
        go_wp2
        go_ret
        exact ⟨ret_bool (by rw [all_bad (by rw [HL.out]; exact hlt) hz HQ0.out]; rfl), ht2⟩
    · obtain rfl : n = k := by omega
      go_wp2
      go_ret
      exact ⟨ret_bool (by rw [allTo_all (by rw [HL.out]; exact hg)]; rfl), hbel⟩
set_option maxHeartbeats 1600000 in
theorem valuesOk_any (r : PRow) (W : Nat) (a : Option Addr) (n c : Nat) (zs : List Int) (m : Int) (w : World) (hW : r.width = (W : Int)) (hW8 : W ≤ 8) (h : Ints w a n zs) :
    Calls Try.prog 111 #[progV r, .slice a n c, .int .i64 m] w fun e w' => e = .returned (.bool (valB (2 ^ W) m zs)) ∧ Below w.heap.size w w' := by
  have HG : Hid (∀ w' : World, Calls Try.prog 115 #[progV r] w' fun e w'' => e = .returned (.int .i64 (((2 ^ W : Nat) : Int) - 1)) ∧ Below w'.heap.size w' w'') := Lib.hid (fun w' => greatestValue_any r W w' hW hW8)
  have hS : 2 ^ W ≤ 2 ^ 8 := Nat.pow_le_pow_right (by omega) hW8
  obtain ⟨S, HS⟩ : ∃ S : Nat, Hid (2 ^ W = S) := ⟨_, Lib.hid rfl⟩
  simp only [HS.out] at hS HG ⊢
  clear HS hW hW8
  have HL := Lib.hid h.1
  have hbd := h.2.1
  obtain ⟨R, HR⟩ : ∃ R, Hid (valB S m zs = R) := ⟨_, rfl⟩
  rw [HR.out]
  obtain ⟨wd, ⟨a1, n1, d1⟩, ⟨a2, n2, d2⟩, tp, ⟨a3, n3, d3⟩, ⟨a4, n4, d4⟩, rows⟩ := r
  simp only [progV, slV] at HG
  show Calls Try.prog 111 #[.agg #[.int .i64 wd, .slice a1 n1 d1, .slice a2 n2 d2, .int .i64 tp, .slice a3 n3 d3, .slice a4 n4 d4], .slice a n c, .int .i64 m] w _
  obtain ⟨wa, HW⟩ : ∃ wa, Hid (wa = w.alloc (.cells #[.int .i64 wd, .slice a1 n1 d1, .slice a2 n2 d2, .int .i64 tp, .slice a3 n3 d3, .slice a4 n4 d4] 28)) := ⟨_, rfl⟩
  have B0 : Blk wa w.heap.size 28 [.int .i64 wd, .slice a1 n1 d1, .slice a2 n2 d2, .int .i64 tp, .slice a3 n3 d3, .slice a4 n4 d4] := by rw [HW.out]; exact Blk.new w _ _
  have HB : Below w.heap.size w wa := by rw [HW.out]; exact (Below.refl _ _).alloc (Nat.le_refl _) _
  by_cases hm : (n : Int) = m
  · have hne : ((n : Int) != m) = false := by simpa using hm
    have HR2 : Hid (R = valsB S zs) := Lib.hid (by rw [← HR.out, valB, HL.out, decide_eq_true hm, Bool.true_and])
    clear HR hm
    go_enter Try.func111, Try.ntmps111
    go_wp2
    rw [← HW.out]
    clear HW
    go_loopw [15] (fun i wr => ∃ k : Nat, k ≤ n ∧ i = .int .i64 (k : Int) ∧ AllI (okZ S) zs k ∧ Below wa.heap.size wa wr) (fun i _ => n - (intOf i).toNat)
    case atStart => exact ⟨0, Nat.zero_le _, rfl, AllI.zero _ _, Below.refl _ _⟩
    case round =>
      obtain ⟨k, hk, rfl, hg, hbl⟩ := hrel
      have hbel := HB.trans (hbl.mono HB.size)
      have B1 := B0.below hbl B0.lt
      by_cases hlt : k < n
      · obtain ⟨b, o, z, rfl, hb, hz, hin, hc⟩ := (h.below hbel).at_ hlt
        have t0 := B1.cell (j := 0) rfl
        have t1 := B1.cell (j := 1) rfl
        have t2 := B1.cell (j := 2) rfl
        have t3 := B1.cell (j := 3) rfl
        have t4 := B1.cell (j := 4) rfl
        have t5 := B1.cell (j := 5) rfl
        go_wp2_with fail
        refine (HG.out _).mono ?_
        rintro e w1 ⟨rfl, hb1⟩
        have ht := hbl.trans (hb1.mono hbl.size)
        have ht2 := HB.trans (ht.mono HB.size)
        clear t0 t1 t2 t3 t4 t5 hc
        by_cases hok : 0 ≤ z ∧ z < (S : Int)
        · have hv : (decide ((0 : Int) ≤ z) && decide (z ≤ (S : Int) - 1)) = true := by simp; omega
          have HQ := Lib.hid (show okZ S z = true by unfold okZ; simp; omega)
          clear hok
          go_wp2_with fail
          refine (isWithin_any _ _ _ _).mono ?_
          rintro e w2 ⟨rfl, rfl⟩
          rw [hv]
          go_wp2
          go_roundw
          case rel => exact ⟨k + 1, by omega, by go_num, hg.succ hz HQ.out, ht⟩
          case measure => simp [intOf]; omega
        · have hv : (decide ((0 : Int) ≤ z) && decide (z ≤ (S : Int) - 1)) = false := by
            rw [← Bool.not_eq_true]; simp; omega
          have HQ := Lib.hid (show okZ S z = false by rw [← Bool.not_eq_true]; unfold okZ; simp; omega)
          clear hok
          go_wp2_with fail
          refine (isWithin_any _ _ _ _).mono ?_
          rintro e w2 ⟨rfl, rfl⟩
          rw [hv]
          go_wp2
          go_ret
          exact ⟨ret_bool (by rw [HR2.out, allI_bad (by rw [HL.out]; exact hlt) hz HQ.out]), ht2⟩
      · obtain rfl : n = k := by omega
        go_wp2
        go_ret
        exact ⟨ret_bool (by rw [HR2.out, allI_all (by rw [HL.out]; exact hg)]), hbel⟩
  · have hne : ((n : Int) != m) = true := by simpa using hm
    have hR : R = false := by rw [← HR.out, valB, HL.out, decide_eq_false hm, Bool.false_and]
    subst hR
    clear hm
    go_enter Try.func111, Try.ntmps111
    go_wp2
    rw [← HW.out]
    go_ret
    exact ⟨rfl, HB⟩
set_option maxRecDepth 20000 in
set_option maxHeartbeats 3200000 in
theorem implEnvOk_any (r : PRow) (p : Prg) (er : ERow) (v : Envr) (w : World) (h : ProgAt w r p) (hcap : r.body.2.1 ≤ r.body.2.2) (he : EnvAt w er v) :
    Calls Try.prog 62 #[progV r, envV er] w fun e w' => e = .returned (.bool (envB p v)) ∧ Below w.heap.size w w' := by
  obtain ⟨R, HR⟩ : ∃ R, Hid (envB p v = R) := ⟨_, rfl⟩
  rw [HR.out]
  have HP0 : Hid (∀ w', Below w.heap.size w w' → Calls Try.prog 12 #[progV r] w' fun e w'' => e = .returned (.bool (codeB p == 0)) ∧ Below w'.heap.size w' w'') := Lib.hid (fun w' hw => implProgOk_any r p w' (h.below hw) hcap)
  have HVO : Hid (codeB p = 0 → ∀ (a : Option Addr) (n c : Nat) (zs : List Int) (m : Int) (w' : World), Ints w' a n zs → Calls Try.prog 111 #[progV r, .slice a n c, .int .i64 m] w' fun e w'' => e = .returned (.bool (valB (2 ^ p.width.toNat) m zs)) ∧ Below w'.heap.size w' w'') := Lib.hid (fun hz a n c zs m w' hi => valuesOk_any r _ a n c zs m w' (code_lim h hz).width (code_lim h hz).small hi)
  have HCV : Hid (codeB p = 0 → ∀ (w' : World), Calls Try.prog 112 #[progV r] w' fun e w'' => e = .returned (.int .i64 ((p.lows.length : Int) + (p.secrets.length : Int) + p.temps)) ∧ Below w'.heap.size w' w'') := Lib.hid (fun hz w' => by
    have q := countVariables_any r _ _ _ _ w' (code_lim h hz)
    have h0 := (code_head hz).2.2.2.2.1
    rwa [show ((p.lows.length + p.secrets.length + p.temps.toNat : Nat) : Int) = (p.lows.length : Int) + (p.secrets.length : Int) + p.temps by omega] at q)
  have HE := Lib.hid he
  have HA := Lib.hid h.arrays
  clear h he hcap
  obtain ⟨wd, ⟨a1, n1, d1⟩, ⟨a2, n2, d2⟩, tp, ⟨a3, n3, d3⟩, ⟨a4, n4, d4⟩, rows⟩ := r
  obtain ⟨⟨b1, m1, e1⟩, ⟨b2, m2, e2⟩, rws⟩ := er
  have HEV := Lib.hid HE.out.vars
  have HEC := Lib.hid HE.out.cells
  simp only [progV, slV] at HP0 HVO HCV
  simp only [] at HA HEV HEC
  clear HE
  have HL3 := Lib.hid HA.out.1
  have HL2 := Lib.hid HEC.out.2.1
  have hb2 := HEC.out.2.2.1
  have hb3 := HA.out.2.1
  show Calls Try.prog 62 #[.agg #[.int .i64 wd, .slice a1 n1 d1, .slice a2 n2 d2, .int .i64 tp, .slice a3 n3 d3, .slice a4 n4 d4], .agg #[.slice b1 m1 e1, .slice b2 m2 e2]] w _
  obtain ⟨wa, HW⟩ : ∃ wa, Hid (wa = ((w.alloc (.cells #[.int .i64 wd, .slice a1 n1 d1, .slice a2 n2 d2, .int .i64 tp, .slice a3 n3 d3, .slice a4 n4 d4] 28)).alloc (.cells #[.slice b1 m1 e1, .slice b2 m2 e2] 53))) := ⟨_, rfl⟩
  have BX : VBox w wa [.int .i64 wd, .slice a1 n1 d1, .slice a2 n2 d2, .int .i64 tp, .slice a3 n3 d3, .slice a4 n4 d4] [.slice b1 m1 e1, .slice b2 m2 e2] := by rw [HW.out]; exact vbox_new w _ _
  go_enter Try.func62, Try.ntmps62
  go_wp2_with fail
  rw [← HW.out]
  refine (HP0.out _ BX.bel).mono ?_
  rintro e w1 ⟨rfl, hb1⟩
  have B1 := BX.below hb1
  clear hb1 BX HW HP0
  by_cases hz : codeB p = 0
  case neg =>
    have hzz : (codeB p == 0) = false := by simpa using hz
    have HR0 : Hid (R = false) := Lib.hid (by rw [← HR.out, envB, hzz, Bool.false_and, Bool.false_and])
    rw [hzz]
    clear hz hzz HR
    go_wp2
    go_ret
    exact ⟨ret_bool (by rw [HR0.out]), B1.bel⟩
  have hzz : (codeB p == 0) = true := by simpa using hz
  have HVO := Lib.hid (HVO.out hz)
  have HCV := Lib.hid (HCV.out hz)
  rw [hzz]
  have HR1 : Hid (R = (valB (2 ^ p.width.toNat) ((p.lows.length : Int) + (p.secrets.length : Int) + p.temps) v.vars && (decide (v.cells.length = p.arrays.length) && cellsB (2 ^ p.width.toNat) p.arrays v.cells))) := Lib.hid (by rw [← HR.out, envB, hzz, Bool.true_and])
  obtain ⟨S, HS⟩ : ∃ S : Nat, Hid (2 ^ p.width.toNat = S) := ⟨_, Lib.hid rfl⟩
  obtain ⟨M, HM⟩ : ∃ M : Int, Hid ((p.lows.length : Int) + (p.secrets.length : Int) + p.temps = M) := ⟨_, Lib.hid rfl⟩
  simp only [HS.out, HM.out] at HVO HCV HR1
  clear HR hz hzz HS HM
  have k1 := B1.env.cell (j := 1) rfl
  have k4 := B1.prg.cell (j := 4) rfl
  by_cases hnn : m2 = n3
  case neg =>
    have hne : ((m2 : Int) != (n3 : Int)) = true := by simp; omega
    have HR0 : Hid (R = false) := Lib.hid (by rw [HR1.out, decide_eq_false (by rw [HL2.out, HL3.out]; exact hnn), Bool.false_and, Bool.and_false])
    go_wp2
    go_ret
    exact ⟨ret_bool (by rw [HR0.out]), B1.bel⟩
  subst hnn
  have hne : ((m2 : Int) != (m2 : Int)) = false := by simp
  have HR2 : Hid (R = (valB S M v.vars && cellsB S p.arrays v.cells)) := Lib.hid (by rw [HR1.out, decide_eq_true (by rw [HL2.out, HL3.out]), Bool.true_and])
  clear HR1
  go_wp2
  clear k1 k4 hne
  go_loopw [22] (fun i wr => ∃ k : Nat, k ≤ m2 ∧ i = .int .i64 (k : Int) ∧ AllC S p.arrays v.cells k ∧ Below w1.heap.size w1 wr) (fun i _ => m2 - (intOf i).toNat)
  case atStart => exact ⟨0, Nat.zero_le _, rfl, fun i hi => absurd hi (by omega), Below.refl _ _⟩
  case round =>
    obtain ⟨k, hk, rfl, hg, hbl⟩ := hrel
    have B2 := B1.below hbl
    have g0 := lat_cell B2.prg.lt (B2.prg.cell (j := 0) rfl)
    have g1 := lat_cell B2.prg.lt (B2.prg.cell (j := 1) rfl)
    have g2 := lat_cell B2.prg.lt (B2.prg.cell (j := 2) rfl)
    have g3 := lat_cell B2.prg.lt (B2.prg.cell (j := 3) rfl)
    have g4 := lat_cell B2.prg.lt (B2.prg.cell (j := 4) rfl)
    have g5 := lat_cell B2.prg.lt (B2.prg.cell (j := 5) rfl)
    by_cases hlt : k < m2
    · have HVX : Hid (∀ (a : Option Addr) (n c : Nat) (zs : List Int) (m : Int) (p' : Lat wr), Ints p'.wd a n zs → Calls Try.prog 111 #[.agg #[.int .i64 wd, .slice a1 n1 d1, .slice a2 n2 d2, .int .i64 tp, .slice a3 m2 d3, .slice a4 n4 d4], .slice a n c, .int .i64 m] p'.wd fun e w'' => e = .returned (.bool (valB S m zs)) ∧ Below p'.wd.heap.size p'.wd w'') := Lib.hid (fun a n c zs m p' hi => HVO.out a n c zs m p'.wd hi)
      obtain ⟨b, o, a5, n5, c5, rfl, hb, hy, hc, hI⟩ := (HEC.out.below B2.bel).at_ hlt
      obtain ⟨b', o', z, rfl, hb', hz, hin, hc'⟩ := (HA.out.below B2.bel).at_ hlt
      have f2 := lat_cell hb' hc'
      obtain ⟨Q, HQ2⟩ : ∃ Q, Hid (valB S z (intsAt v.cells k) = Q) := ⟨_, rfl⟩
      have HQ1 := Lib.hid (fun p' : Lat wr => HVX.out a5 n5 c5 (intsAt v.cells k) z p' (hI.below p'.ok))
      rw [HQ2.out] at HQ1
      clear hI hc' HVX
      cases Q with
      | true =>
        go_wp2
        refine wp_region_lat (by kernel_rfl) (by kernel_rfl) ?_
        repeat (go_big_quiet_step ((go_at_call 111; exact lat_calls (HQ1.out _))))
        refine wpQuiet_nil ?_
        intro _ hw'
        obtain ⟨⟨ws, hws⟩, hw''⟩ := hw'
        subst hw''
        have ht := hbl.trans (hws.mono hbl.size)
        clear f2 g0 g1 g2 g3 g4 g5 HQ1 hc
        go_wp2
        go_roundw
        case rel => exact ⟨k + 1, by omega, by go_num, hg.succ hz HQ2.out, ht⟩
        case measure => simp [intOf]; omega
      | false =>
        go_wp2
        refine wp_region_lat (by kernel_rfl) (by kernel_rfl) ?_
        repeat (go_big_quiet_step ((go_at_call 111; exact lat_calls (HQ1.out _))))
        refine wpQuiet_nil ?_
        intro _ hw'
        obtain ⟨⟨ws, hws⟩, hw''⟩ := hw'
        subst hw''
        have ht := B2.below hws
        clear f2 g0 g1 g2 g3 g4 g5 HQ1 hc
        go_wp2
        go_ret
        exact ⟨ret_bool (by rw [HR2.out, allC_bad (by rw [HL2.out]; exact hlt) hz HQ2.out, Bool.and_false]), ht.bel⟩
    · obtain rfl : m2 = k := by omega
      have HR3 : Hid (R = valB S M v.vars) := Lib.hid (by rw [HR2.out, allC_all (by rw [HL2.out]; exact hg), Bool.and_true])
      obtain ⟨Q, HQ2⟩ : ∃ Q, Hid (valB S M v.vars = Q) := ⟨_, rfl⟩
      have k0 := lat_cell B2.env.lt (B2.env.cell (j := 0) rfl)
      have HQ1 : Hid (∀ p' : Lat wr, Calls Try.prog 111 #[.agg #[.int .i64 wd, .slice a1 n1 d1, .slice a2 n2 d2, .int .i64 tp, .slice a3 m2 d3, .slice a4 n4 d4], .slice b1 m1 e1, .int .i64 M] p'.wd fun e w'' => e = .returned (.bool Q) ∧ Below p'.wd.heap.size p'.wd w'') := Lib.hid (fun p' => by rw [← HQ2.out]; exact HVO.out _ _ _ _ _ p'.wd (HEV.out.below (B2.bel.trans (p'.ok.mono B2.bel.size))))
      have HC1 : Hid (∀ p' : Lat wr, Calls Try.prog 112 #[.agg #[.int .i64 wd, .slice a1 n1 d1, .slice a2 n2 d2, .int .i64 tp, .slice a3 m2 d3, .slice a4 n4 d4]] p'.wd fun e w'' => e = .returned (.int .i64 M) ∧ Below p'.wd.heap.size p'.wd w'') := Lib.hid (fun p' => HCV.out p'.wd)
      go_wp2
      refine wp_region_lat (by kernel_rfl) (by kernel_rfl) ?_
      repeat (go_big_quiet_step (first | (go_at_call 112; exact lat_calls (HC1.out _)) | (go_at_call 111; exact lat_calls (HQ1.out _))))
      refine wpQuiet_nil ?_
      intro _ hw'
      obtain ⟨⟨ws, hws⟩, hw''⟩ := hw'
      subst hw''
      have ht := B2.below hws
      clear g0 g1 g2 g3 g4 g5 HQ1 HC1 k0
      go_wp2
      go_ret
      exact ⟨ret_bool (by rw [HR3.out, HQ2.out]), ht.bel⟩
end Go.Proofs.Ytmooecbdpfhnlaa
