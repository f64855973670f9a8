/- Joined texts of this proof (ImplVal0, ImplVal1), in build order. -/
import Derived.Test.YtmooecbdpfhnlaaGreatK16
import Derived.Test.YtmooecbdpfhnlaaGreatK17
import Derived.WalkLawsBesides
import Derived.Test.YtmooecbdpfhnlaaGreatK22
/- The contracts of the program's truth, trap, cell, divided, ofTwo (methods of its reckoner). -/
namespace Go.Proofs.YtmooecbdpfhnlaaGreat
open Go.RowKit

/-- The reckoner: the greatest value, the environment, whether it is plain. -/
def reckV (g : Int) (er : ERow) (plain : Bool) : Value := .agg #[.int .i64 g, slV er.vars, slV er.cells, .bool plain]
/-- The panic of a trap. -/
def trapC (code : Int) : List PanicEntry := [{ v := .iface 232 (.agg #[.int .i64 code]), recovered := false }]
/-- What two values make, ahead of the mask. -/
def zTwo (op : Int) (a b : Nat) : Int :=
  if op = 5 then (a : Int) + b else if op = 6 then (a : Int) - b else if op = 7 then (a : Int) * b
  else if op = 8 then ((a / b : Nat) : Int) else if op = 9 then ((if b = 0 then 0 else a % b : Nat) : Int) else if op = 10 then (bitF 0 a b : Int) else if op = 11 then (bitF 1 a b : Int) else if op = 12 then (bitF 2 a b : Int)
  else if op = 13 then wrap64 ((a : Int) * 2 ^ min b 64) else if op = 14 then (a : Int) / 2 ^ min b 64 else if op = 15 then (bi (decide (a = b)) : Int) else (bi (decide (a < b)) : Int)
theorem zTwo_5 (a b : Nat) : zTwo 5 a b = (a : Int) + b := by
  unfold zTwo
  rw [if_pos rfl]
theorem zTwo_6 (a b : Nat) : zTwo 6 a b = (a : Int) - b := by
  unfold zTwo
  rw [if_neg (by decide)]
  rw [if_pos rfl]
theorem zTwo_7 (a b : Nat) : zTwo 7 a b = (a : Int) * b := by
  unfold zTwo
  rw [if_neg (by decide)]
  rw [if_neg (by decide)]
  rw [if_pos rfl]
theorem zTwo_8 (a b : Nat) : zTwo 8 a b = ((a / b : Nat) : Int) := by
  unfold zTwo
  rw [if_neg (by decide)]
  rw [if_neg (by decide)]
  rw [if_neg (by decide)]
  rw [if_pos rfl]
theorem zTwo_9 (a b : Nat) : zTwo 9 a b = ((if b = 0 then 0 else a % b : Nat) : Int) := by
  unfold zTwo
  rw [if_neg (by decide)]
  rw [if_neg (by decide)]
  rw [if_neg (by decide)]
  rw [if_neg (by decide)]
  rw [if_pos rfl]
theorem zTwo_10 (a b : Nat) : zTwo 10 a b = (bitF 0 a b : Int) := by
  unfold zTwo
  rw [if_neg (by decide)]
  rw [if_neg (by decide)]
  rw [if_neg (by decide)]
  rw [if_neg (by decide)]
  rw [if_neg (by decide)]
  rw [if_pos rfl]
theorem zTwo_11 (a b : Nat) : zTwo 11 a b = (bitF 1 a b : Int) := by
  unfold zTwo
  rw [if_neg (by decide)]
  rw [if_neg (by decide)]
  rw [if_neg (by decide)]
  rw [if_neg (by decide)]
  rw [if_neg (by decide)]
  rw [if_neg (by decide)]
  rw [if_pos rfl]
theorem zTwo_12 (a b : Nat) : zTwo 12 a b = (bitF 2 a b : Int) := by
  unfold zTwo
  rw [if_neg (by decide)]
  rw [if_neg (by decide)]
  rw [if_neg (by decide)]
  rw [if_neg (by decide)]
  rw [if_neg (by decide)]
  rw [if_neg (by decide)]
  rw [if_neg (by decide)]
  rw [if_pos rfl]
theorem zTwo_13 (a b : Nat) : zTwo 13 a b = wrap64 ((a : Int) * 2 ^ min b 64) := by
  unfold zTwo
  rw [if_neg (by decide)]
  rw [if_neg (by decide)]
  rw [if_neg (by decide)]
  rw [if_neg (by decide)]
  rw [if_neg (by decide)]
  rw [if_neg (by decide)]
  rw [if_neg (by decide)]
  rw [if_neg (by decide)]
  rw [if_pos rfl]
theorem zTwo_14 (a b : Nat) : zTwo 14 a b = (a : Int) / 2 ^ min b 64 := by
  unfold zTwo
  rw [if_neg (by decide)]
  rw [if_neg (by decide)]
  rw [if_neg (by decide)]
  rw [if_neg (by decide)]
  rw [if_neg (by decide)]
  rw [if_neg (by decide)]
  rw [if_neg (by decide)]
  rw [if_neg (by decide)]
  rw [if_neg (by decide)]
  rw [if_pos rfl]
theorem zTwo_15 (a b : Nat) : zTwo 15 a b = (bi (decide (a = b)) : Int) := by
  unfold zTwo
  rw [if_neg (by decide)]
  rw [if_neg (by decide)]
  rw [if_neg (by decide)]
  rw [if_neg (by decide)]
  rw [if_neg (by decide)]
  rw [if_neg (by decide)]
  rw [if_neg (by decide)]
  rw [if_neg (by decide)]
  rw [if_neg (by decide)]
  rw [if_neg (by decide)]
  rw [if_pos rfl]
theorem zTwo_16 (a b : Nat) : zTwo 16 a b = (bi (decide (a < b)) : Int) := by
  unfold zTwo
  rw [if_neg (by decide)]
  rw [if_neg (by decide)]
  rw [if_neg (by decide)]
  rw [if_neg (by decide)]
  rw [if_neg (by decide)]
  rw [if_neg (by decide)]
  rw [if_neg (by decide)]
  rw [if_neg (by decide)]
  rw [if_neg (by decide)]
  rw [if_neg (by decide)]
  rw [if_neg (by decide)]
theorem shl_run (x y : Int) (h : 0 ≤ y) : Op.shift .shl .i64 x .i64 y = pure (.int .i64 (wrap64 (x * 2 ^ min y.toNat 64))) := by
  rw [show Op.shift .shl .i64 x .i64 y = pure (.int .i64 (IntKind.i64.wrap (x * 2 ^ min y.toNat 64))) by simp [Op.shift, Int.not_lt.mpr h, IntKind.bits], IntKind.wrap_i64, wrap64]
theorem shr_run (x y : Int) (h : 0 ≤ y) : Op.shift .shr .i64 x .i64 y = pure (.int .i64 (x / 2 ^ min y.toNat 64)) := by
  have hp : (0 : Int) ≤ 2 ^ min y.toNat 64 := Int.pow_nonneg (by decide)
  simp [Op.shift, Int.not_lt.mpr h, Int.fdiv_eq_ediv_of_nonneg _ hp, IntKind.bits]
theorem wrap_mod (x : Int) {W : Nat} (hW : W ≤ 8) : wrap64 x % ((2 ^ W : Nat) : Int) = x % ((2 ^ W : Nat) : Int) := by
  have h64 : (18446744073709551616 : Int) = ((2 ^ W : Nat) : Int) * ((2 ^ (64 - W) : Nat) : Int) := by
    rw [← Int.natCast_mul, ← Nat.pow_add, show W + (64 - W) = 64 by omega]; rfl
  unfold wrap64
  have e := Int.emod_add_mul_ediv (x + 9223372036854775808) 18446744073709551616
  have e2 : (x + 9223372036854775808) % 18446744073709551616 - 9223372036854775808 = x - ((2 ^ W : Nat) : Int) * (((2 ^ (64 - W) : Nat) : Int) * ((x + 9223372036854775808) / 18446744073709551616)) := by
    rw [← Int.mul_assoc, ← h64]; omega
  rw [e2, Int.sub_emod, Int.mul_emod_right, Int.sub_zero, Int.emod_emod]
theorem natmod (a S : Nat) : ((a % S : Nat) : Int) = (a : Int) % (S : Int) := rfl
theorem shl_mod (a b W : Nat) (hW : W ≤ 8) : a * 2 ^ min b 64 % 2 ^ W = a * 2 ^ b % 2 ^ W := by
  rcases Nat.lt_or_ge 64 b with h | h
  · rw [Nat.min_eq_right (by omega)]
    have d1 : 2 ^ W ∣ a * 2 ^ 64 := Nat.dvd_trans (Nat.pow_dvd_pow 2 (by omega)) (Nat.dvd_mul_left _ _)
    have d2 : 2 ^ W ∣ a * 2 ^ b := Nat.dvd_trans (Nat.pow_dvd_pow 2 (by omega)) (Nat.dvd_mul_left _ _)
    rw [Nat.mod_eq_zero_of_dvd d1, Nat.mod_eq_zero_of_dvd d2]
  · rw [Nat.min_eq_left h]
theorem shr_min (a b : Nat) (ha : a < 256) : a / 2 ^ min b 64 = a / 2 ^ b := by
  rcases Nat.lt_or_ge 64 b with h | h
  · rw [Nat.min_eq_right (by omega), Nat.div_eq_of_lt (by omega), Nat.div_eq_of_lt]
    have : 2 ^ 64 ≤ 2 ^ b := Nat.pow_le_pow_right (by omega) (by omega)
    omega
  · rw [Nat.min_eq_left h]
theorem zTwo_mod {W a b : Nat} (op : Int) (hW1 : 1 ≤ W) (hW : W ≤ 8) (ha : a < 2 ^ W) (hb : b < 2 ^ W) (h5 : 5 ≤ op) (h16 : op ≤ 16) : zTwo op a b % ((2 ^ W : Nat) : Int) = (opN (2 ^ W) op a b : Int) := by
  have ha8 := lt256 ha hW
  have hlt := opN_lt op hW1 ha hb
  have small : ∀ x : Nat, x < 2 ^ W → ((x : Nat) : Int) % ((2 ^ W : Nat) : Int) = (x : Int) := fun x hx => by rw [← natmod, Nat.mod_eq_of_lt hx]
  have hc : op = 5 ∨ op = 6 ∨ op = 7 ∨ op = 8 ∨ op = 9 ∨ op = 10 ∨ op = 11 ∨ op = 12 ∨ op = 13 ∨ op = 14 ∨ op = 15 ∨ op = 16 := by omega
  rcases hc with rfl | rfl | rfl | rfl | rfl | rfl | rfl | rfl | rfl | rfl | rfl | rfl
  · rw [zTwo_5, show opN (2 ^ W) 5 a b = (a + b) % 2 ^ W from rfl, natmod, Int.natCast_add]
  · rw [zTwo_6, show opN (2 ^ W) 6 a b = (a + 2 ^ W - b) % 2 ^ W from rfl, natmod, show ((a + 2 ^ W - b : Nat) : Int) = (a : Int) - b + ((2 ^ W : Nat) : Int) by omega, Int.add_emod_right]
  · rw [zTwo_7, show opN (2 ^ W) 7 a b = a * b % 2 ^ W from rfl, natmod, Int.natCast_mul]
  · rw [zTwo_8]; exact small _ hlt
  · rw [zTwo_9]; exact small _ hlt
  · rw [zTwo_10]; exact small _ hlt
  · rw [zTwo_11]; exact small _ hlt
  · rw [zTwo_12]; exact small _ hlt
  · have e : ((a * 2 ^ min b 64 : Nat) : Int) = (a : Int) * 2 ^ min b 64 := by simp
    rw [zTwo_13, show opN (2 ^ W) 13 a b = a * 2 ^ b % 2 ^ W from rfl, wrap_mod _ hW, ← shl_mod a b W hW, natmod, e]
  · have e : ((a / 2 ^ min b 64 : Nat) : Int) = (a : Int) / 2 ^ min b 64 := by simp
    rw [zTwo_14, ← e, shr_min a b ha8]
    exact small _ hlt
  · rw [zTwo_15, show bi (decide (a = b)) = (if a = b then 1 else 0) by unfold bi; simp]
    exact small _ hlt
  · rw [zTwo_16, show bi (decide (a < b)) = (if a < b then 1 else 0) by unfold bi; simp]
    exact small _ hlt

theorem truth_any (b : Bool) (w : World) : Calls Tryz.prog 246 #[.bool b] w fun e w' => e = .returned (.int .i64 (bi b : Int)) ∧ w = w' := by
  cases b
  all_goals
    go_enter Tryz.func246, Tryz.ntmps246
    go_wp2
    go_ret
    exact ⟨rfl, rfl⟩
theorem trap_plain (g : Int) (er : ERow) (code : Int) (w : World) : Calls Tryz.prog 244 #[reckV g er true, .int .i64 code] w fun e w' => e = .returned (.int .i64 0) ∧ Below w.heap.size w w' := by
  obtain ⟨⟨b1, m1, e1⟩, ⟨b2, m2, e2⟩, rws⟩ := er
  show Calls Tryz.prog 244 #[.agg #[.int .i64 g, .slice b1 m1 e1, .slice b2 m2 e2, .bool true], .int .i64 code] w _
  go_enter Tryz.func244, Tryz.ntmps244
  go_wp2
  go_ret
  exact ⟨rfl, (Below.refl _ _).alloc (Nat.le_refl _) _⟩
theorem trap_panic (g : Int) (er : ERow) (code : Int) (w : World) : Calls Tryz.prog 244 #[reckV g er false, .int .i64 code] w fun e w' => e = .panicked (trapC code) ∧ Below w.heap.size w w' := by
  obtain ⟨⟨b1, m1, e1⟩, ⟨b2, m2, e2⟩, rws⟩ := er
  show Calls Tryz.prog 244 #[.agg #[.int .i64 g, .slice b1 m1 e1, .slice b2 m2 e2, .bool false], .int .i64 code] w _
  go_enter Tryz.func244, Tryz.ntmps244
  go_wp2
  exact ⟨rfl, rfl, (Below.refl _ _).alloc (Nat.le_refl _) _⟩
set_option maxHeartbeats 800000 in
theorem cell_in (g : Int) (er : ERow) (plain : Bool) (css : List (List Int)) (y i : Nat) (w : World) (h : IntsSS w er.cells.1 er.cells.2.1 er.rows css) (hy : y < css.length) (hi : i < (css.getD y []).length) :
    Calls Tryz.prog 232 #[reckV g er plain, .int .i64 (y : Int), .int .i64 (i : Int)] w fun e w' => e = .returned (.int .i64 ((css.getD y []).getD i 0)) ∧ Below w.heap.size w w' := by
  obtain ⟨⟨b1, m1, e1⟩, ⟨b2, m2, e2⟩, rws⟩ := er
  simp only [] at h
  rw [h.2.1] at hy
  obtain ⟨wa, HW⟩ : ∃ wa, Hid (wa = w.alloc (.cells #[.int .i64 g, .slice b1 m1 e1, .slice b2 m2 e2, .bool plain] 202)) := ⟨_, rfl⟩
  have B : Blk wa w.heap.size 202 [.int .i64 g, .slice b1 m1 e1, .slice b2 m2 e2, .bool plain] := by rw [HW.out]; exact Blk.new w _ _
  have HB : Below w.heap.size w wa := by rw [HW.out]; exact (Below.refl _ _).alloc (Nat.le_refl _) _
  obtain ⟨b, o, a5, n5, c5, rfl, hb, hyy, hc, hI⟩ := (h.below HB).at_ hy
  have hl : n5 = (css.getD y []).length := hI.1.symm
  rw [← hl] at hi
  obtain ⟨b6, o6, z, rfl, hb6, hz, hin, hc6⟩ := hI.at_ hi
  have hn5 := hI.2.1
  have HZ : Hid (z = (css.getD y []).getD i 0) := hz
  rw [← HZ.out]
  show Calls Tryz.prog 232 #[.agg #[.int .i64 g, .slice b1 m1 e1, .slice (some ⟨b, o, none⟩) m2 e2, .bool plain], .int .i64 (y : Int), .int .i64 (i : Int)] w _
  have hm2 := h.2.2.1
  have t2 := B.cell (j := 2) rfl
  clear h hI hl hz
  go_enter Tryz.func232, Tryz.ntmps232
  go_upto_region 1 with fail
  rw [← HW.out]
  have hd : decide ((i : Int) ≥ (n5 : Int)) = false := by simp; omega
  clear HW
  go_wp2
  go_ret
  exact ⟨rfl, HB⟩
theorem cell_head {b2 : Option Addr} {m2 : Nat} {rws : List Sl} {css : List (List Int)} {y i : Nat} {w : World} (h : IntsSS w b2 m2 rws css) (hy : y < css.length) (hi : ¬ i < (css.getD y []).length) : ∃ b o a5 n5 c5, b2 = some ⟨b, o, none⟩ ∧ b < w.heap.size ∧ w.cell? ⟨b, o + y, none⟩ = some (.slice a5 n5 c5) ∧ n5 ≤ i ∧ n5 ≤ 1048576 ∧ y < m2 ∧ m2 ≤ 1048576 := by
  rw [h.2.1] at hy
  obtain ⟨b, o, a5, n5, c5, e, hb, hyy, hc, hI⟩ := h.at_ hy
  have hl : n5 = (css.getD y []).length := hI.1.symm
  exact ⟨b, o, a5, n5, c5, e, hb, hc, by omega, hI.2.1, hy, h.2.2.1⟩
set_option maxHeartbeats 800000 in
theorem cell_plain (g : Int) (er : ERow) (css : List (List Int)) (y i : Nat) (w : World) (h : IntsSS w er.cells.1 er.cells.2.1 er.rows css) (hy : y < css.length) (hi : ¬ i < (css.getD y []).length) :
    Calls Tryz.prog 232 #[reckV g er true, .int .i64 (y : Int), .int .i64 (i : Int)] w fun e w' => e = .returned (.int .i64 0) ∧ Below w.heap.size w w' := by
  have HT : Hid (∀ w' : World, Calls Tryz.prog 244 #[reckV g er true, .int .i64 2] w' fun e w'' => e = .returned (.int .i64 0) ∧ Below w'.heap.size w' w'') := Lib.hid (fun w' => trap_plain g er 2 w')
  obtain ⟨⟨b1, m1, e1⟩, ⟨b2, m2, e2⟩, rws⟩ := er
  simp only [] at h
  obtain ⟨wa, HW⟩ : ∃ wa, Hid (wa = w.alloc (.cells #[.int .i64 g, .slice b1 m1 e1, .slice b2 m2 e2, .bool true] 202)) := ⟨_, rfl⟩
  have B : Blk wa w.heap.size 202 [.int .i64 g, .slice b1 m1 e1, .slice b2 m2 e2, .bool true] := by rw [HW.out]; exact Blk.new w _ _
  have HB : Below w.heap.size w wa := by rw [HW.out]; exact (Below.refl _ _).alloc (Nat.le_refl _) _
  obtain ⟨b, o, a5, n5, c5, rfl, hb, hc, hn5, hn6, hym, hm2⟩ := cell_head (h.below HB) hy hi
  simp only [reckV, slV] at HT
  show Calls Tryz.prog 232 #[.agg #[.int .i64 g, .slice b1 m1 e1, .slice (some ⟨b, o, none⟩) m2 e2, .bool true], .int .i64 (y : Int), .int .i64 (i : Int)] w _
  have t0 := B.cell (j := 0) rfl
  have t1 := B.cell (j := 1) rfl
  have t2 := B.cell (j := 2) rfl
  have t3 := B.cell (j := 3) rfl
  clear h hy hi
  go_enter Tryz.func232, Tryz.ntmps232
  go_upto_region 1 with fail
  rw [← HW.out]
  have hd : decide ((i : Int) ≥ (n5 : Int)) = true := by simp; omega
  clear HW
  go_wp2_with fail
  refine (HT.out _).mono ?_
  rintro e w1 ⟨rfl, hb1⟩
  go_wp2
  go_ret
  exact ⟨rfl, HB.trans (hb1.mono HB.size)⟩
set_option maxHeartbeats 800000 in
theorem cell_panic (g : Int) (er : ERow) (css : List (List Int)) (y i : Nat) (w : World) (h : IntsSS w er.cells.1 er.cells.2.1 er.rows css) (hy : y < css.length) (hi : ¬ i < (css.getD y []).length) :
    Calls Tryz.prog 232 #[reckV g er false, .int .i64 (y : Int), .int .i64 (i : Int)] w fun e w' => e = .panicked (trapC 2) ∧ Below w.heap.size w w' := by
  have HT : Hid (∀ w' : World, Calls Tryz.prog 244 #[reckV g er false, .int .i64 2] w' fun e w'' => e = .panicked (trapC 2) ∧ Below w'.heap.size w' w'') := Lib.hid (fun w' => trap_panic g er 2 w')
  obtain ⟨⟨b1, m1, e1⟩, ⟨b2, m2, e2⟩, rws⟩ := er
  simp only [] at h
  obtain ⟨wa, HW⟩ : ∃ wa, Hid (wa = w.alloc (.cells #[.int .i64 g, .slice b1 m1 e1, .slice b2 m2 e2, .bool false] 202)) := ⟨_, rfl⟩
  have B : Blk wa w.heap.size 202 [.int .i64 g, .slice b1 m1 e1, .slice b2 m2 e2, .bool false] := by rw [HW.out]; exact Blk.new w _ _
  have HB : Below w.heap.size w wa := by rw [HW.out]; exact (Below.refl _ _).alloc (Nat.le_refl _) _
  obtain ⟨b, o, a5, n5, c5, rfl, hb, hc, hn5, hn6, hym, hm2⟩ := cell_head (h.below HB) hy hi
  simp only [reckV, slV] at HT
  show Calls Tryz.prog 232 #[.agg #[.int .i64 g, .slice b1 m1 e1, .slice (some ⟨b, o, none⟩) m2 e2, .bool false], .int .i64 (y : Int), .int .i64 (i : Int)] w _
  have t0 := B.cell (j := 0) rfl
  have t1 := B.cell (j := 1) rfl
  have t2 := B.cell (j := 2) rfl
  have t3 := B.cell (j := 3) rfl
  clear h hy hi
  go_enter Tryz.func232, Tryz.ntmps232
  go_upto_region 1 with fail
  rw [← HW.out]
  have hd : decide ((i : Int) ≥ (n5 : Int)) = true := by simp; omega
  clear HW
  go_wp2_with fail
  refine (HT.out _).mono ?_
  rintro e w1 ⟨rfl, hb1⟩
  go_wp2
  exact ⟨rfl, rfl, HB.trans (hb1.mono HB.size)⟩
theorem divided_8 (g : Int) (er : ERow) (plain : Bool) (a b : Nat) (w : World) (ha : a < 256) (h0 : b ≠ 0) :
    Calls Tryz.prog 245 #[reckV g er plain, .int .i64 8, .int .i64 (a : Int), .int .i64 (b : Int)] w fun e w' => e = .returned (.int .i64 ((a / b : Nat) : Int)) ∧ Below w.heap.size w w' := by
  obtain ⟨⟨b1, m1, e1⟩, ⟨b2, m2, e2⟩, rws⟩ := er
  show Calls Tryz.prog 245 #[.agg #[.int .i64 g, .slice b1 m1 e1, .slice b2 m2 e2, .bool plain], .int .i64 8, .int .i64 (a : Int), .int .i64 (b : Int)] w _
  obtain ⟨q, HQ⟩ : ∃ q, Hid (a / b = q) := ⟨_, rfl⟩
  have hbi : ¬ (b : Int) = 0 := by omega
  have hbe : ((b : Int) == 0) = false := by simpa using hbi
  have hm : Int.tdiv (a : Int) (b : Int) = (q : Int) := by rw [Int.tdiv_eq_ediv_of_nonneg (Int.natCast_nonneg _), ← HQ.out]; rfl
  have hle : q ≤ a := by rw [← HQ.out]; exact Nat.div_le_self _ _
  rw [HQ.out]
  clear h0
  go_enter Tryz.func245, Tryz.ntmps245
  go_wp2
  go_ret
  exact ⟨by first | rfl | go_num, (Below.refl _ _).alloc (Nat.le_refl _) _⟩
theorem divided_9 (g : Int) (er : ERow) (plain : Bool) (a b : Nat) (w : World) (h0 : b ≠ 0) :
    Calls Tryz.prog 245 #[reckV g er plain, .int .i64 9, .int .i64 (a : Int), .int .i64 (b : Int)] w fun e w' => e = .returned (.int .i64 ((a % b : Nat) : Int)) ∧ Below w.heap.size w w' := by
  obtain ⟨⟨b1, m1, e1⟩, ⟨b2, m2, e2⟩, rws⟩ := er
  show Calls Tryz.prog 245 #[.agg #[.int .i64 g, .slice b1 m1 e1, .slice b2 m2 e2, .bool plain], .int .i64 9, .int .i64 (a : Int), .int .i64 (b : Int)] w _
  obtain ⟨q, HQ⟩ : ∃ q, Hid (a % b = q) := ⟨_, rfl⟩
  have hbi : ¬ (b : Int) = 0 := by omega
  have hbe : ((b : Int) == 0) = false := by simpa using hbi
  have hm : Int.tmod (a : Int) (b : Int) = (q : Int) := by rw [Int.tmod_eq_emod_of_nonneg (Int.natCast_nonneg _), ← HQ.out]; rfl
  have hle : q ≤ a := by rw [← HQ.out]; exact Nat.mod_le _ _
  rw [HQ.out]
  clear h0
  go_enter Tryz.func245, Tryz.ntmps245
  go_wp2
  go_ret
  exact ⟨by first | rfl | go_num, (Below.refl _ _).alloc (Nat.le_refl _) _⟩
theorem divided_plain (g : Int) (er : ERow) (op : Int) (a : Nat) (w : World) :
    Calls Tryz.prog 245 #[reckV g er true, .int .i64 op, .int .i64 (a : Int), .int .i64 0] w fun e w' => e = .returned (.int .i64 0) ∧ Below w.heap.size w w' := by
  have HT : Hid (∀ w' : World, Calls Tryz.prog 244 #[reckV g er true, .int .i64 1] w' fun e w'' => e = .returned (.int .i64 0) ∧ Below w'.heap.size w' w'') := Lib.hid (fun w' => trap_plain g er 1 w')
  obtain ⟨⟨b1, m1, e1⟩, ⟨b2, m2, e2⟩, rws⟩ := er
  simp only [reckV, slV] at HT
  show Calls Tryz.prog 245 #[.agg #[.int .i64 g, .slice b1 m1 e1, .slice b2 m2 e2, .bool true], .int .i64 op, .int .i64 (a : Int), .int .i64 0] w _
  have HB : Below w.heap.size w (w.alloc (.cells #[.int .i64 g, .slice b1 m1 e1, .slice b2 m2 e2, .bool true] 202)) := (Below.refl _ _).alloc (Nat.le_refl _) _
  go_enter Tryz.func245, Tryz.ntmps245
  go_wp2_with fail
  refine (HT.out _).mono ?_
  rintro e w1 ⟨rfl, hb1⟩
  go_wp2
  go_ret
  exact ⟨rfl, HB.trans (hb1.mono HB.size)⟩
theorem divided_panic (g : Int) (er : ERow) (op : Int) (a : Nat) (w : World) :
    Calls Tryz.prog 245 #[reckV g er false, .int .i64 op, .int .i64 (a : Int), .int .i64 0] w fun e w' => e = .panicked (trapC 1) ∧ Below w.heap.size w w' := by
  have HT : Hid (∀ w' : World, Calls Tryz.prog 244 #[reckV g er false, .int .i64 1] w' fun e w'' => e = .panicked (trapC 1) ∧ Below w'.heap.size w' w'') := Lib.hid (fun w' => trap_panic g er 1 w')
  obtain ⟨⟨b1, m1, e1⟩, ⟨b2, m2, e2⟩, rws⟩ := er
  simp only [reckV, slV] at HT
  show Calls Tryz.prog 245 #[.agg #[.int .i64 g, .slice b1 m1 e1, .slice b2 m2 e2, .bool false], .int .i64 op, .int .i64 (a : Int), .int .i64 0] w _
  have HB : Below w.heap.size w (w.alloc (.cells #[.int .i64 g, .slice b1 m1 e1, .slice b2 m2 e2, .bool false] 202)) := (Below.refl _ _).alloc (Nat.le_refl _) _
  go_enter Tryz.func245, Tryz.ntmps245
  go_wp2_with fail
  refine (HT.out _).mono ?_
  rintro e w1 ⟨rfl, hb1⟩
  go_wp2
  exact ⟨rfl, rfl, HB.trans (hb1.mono HB.size)⟩
set_option maxRecDepth 20000 in
set_option maxHeartbeats 3200000 in
theorem ofTwo_val (g : Int) (er : ERow) (plain : Bool) (op : Int) (a b : Nat) (w : World) (ha : a < 256) (hb : b < 256) (h5 : 5 ≤ op) (h16 : op ≤ 16) (hp : plain = true ∨ ¬ (b = 0 ∧ (op = 8 ∨ op = 9))) :
    Calls Tryz.prog 233 #[reckV g er plain, .int .i64 op, .int .i64 (a : Int), .int .i64 (b : Int)] w fun e w' => e = .returned (.int .i64 (zTwo op a b)) ∧ Below w.heap.size w w' := by
  have HD : Hid (op = 8 ∨ op = 9 → ∀ w' : World, Calls Tryz.prog 245 #[reckV g er plain, .int .i64 op, .int .i64 (a : Int), .int .i64 (b : Int)] w' fun e w'' => e = .returned (.int .i64 (zTwo op a b)) ∧ Below w'.heap.size w' w'') := Lib.hid (fun h89 w' => by
    by_cases h0 : b = 0
    · have hpl : plain = true := by
        rcases hp with h | h
        · exact h
        · exact absurd ⟨h0, h89⟩ h
      subst h0 hpl
      have ez : zTwo op a 0 = 0 := by
        rcases h89 with rfl | rfl
        · rw [zTwo_8, Nat.div_zero]; rfl
        · rw [zTwo_9, if_pos rfl]; rfl
      rw [ez]
      exact divided_plain g er op a w'
    · rcases h89 with rfl | rfl
      · rw [zTwo_8]
        exact divided_8 g er plain a b w' ha h0
      · have ez : zTwo 9 a b = ((a % b : Nat) : Int) := by
          rw [zTwo_9, if_neg h0]
        rw [ez]
        exact divided_9 g er plain a b w' h0)
  obtain ⟨R, HR⟩ : ∃ R, Hid (zTwo op a b = R) := ⟨_, rfl⟩
  simp only [HR.out] at HD ⊢
  obtain ⟨⟨b1, m1, e1⟩, ⟨b2, m2, e2⟩, rws⟩ := er
  simp only [reckV, slV] at HD
  show Calls Tryz.prog 233 #[.agg #[.int .i64 g, .slice b1 m1 e1, .slice b2 m2 e2, .bool plain], .int .i64 op, .int .i64 (a : Int), .int .i64 (b : Int)] w _
  have HB : Below w.heap.size w (w.alloc (.cells #[.int .i64 g, .slice b1 m1 e1, .slice b2 m2 e2, .bool plain] 202)) := (Below.refl _ _).alloc (Nat.le_refl _) _
  clear hp
  have hml : 0 ≤ (a : Int) * (b : Int) := Int.mul_nonneg (by omega) (by omega)
  have hmu : (a : Int) * (b : Int) ≤ 65025 := Int.le_trans (Int.ofNat_le.2 (Nat.mul_le_mul (show a ≤ 255 by omega) (show b ≤ 255 by omega))) (by decide)
  by_cases k5 : op = 5
  · subst k5
    have hR : R = (a : Int) + b := by rw [← HR.out, zTwo_5]
    subst hR
    clear HD
    go_enter Tryz.func233, Tryz.ntmps233
    go_wp2
    go_ret
    exact ⟨by first | rfl | go_num, HB⟩
  by_cases k6 : op = 6
  · subst k6
    have hR : R = (a : Int) - b := by rw [← HR.out, zTwo_6]
    subst hR
    clear HD
    go_enter Tryz.func233, Tryz.ntmps233
    go_wp2
    go_ret
    exact ⟨by first | rfl | go_num, HB⟩
  by_cases k7 : op = 7
  · subst k7
    have hR : R = (a : Int) * b := by rw [← HR.out, zTwo_7]
    subst hR
    clear HD
    go_enter Tryz.func233, Tryz.ntmps233
    go_wp2
    go_ret
    exact ⟨by first | rfl | go_num, HB⟩
  by_cases k8 : op = 8
  · subst k8
    go_enter Tryz.func233, Tryz.ntmps233
    go_wp2_with fail
    refine (HD.out (by simp) _).mono ?_
    rintro e w1 ⟨rfl, hb1⟩
    go_wp2
    go_ret
    exact ⟨rfl, HB.trans (hb1.mono HB.size)⟩
  by_cases k9 : op = 9
  · subst k9
    go_enter Tryz.func233, Tryz.ntmps233
    go_wp2_with fail
    refine (HD.out (by simp) _).mono ?_
    rintro e w1 ⟨rfl, hb1⟩
    go_wp2
    go_ret
    exact ⟨rfl, HB.trans (hb1.mono HB.size)⟩
  by_cases k10 : op = 10
  · subst k10
    have hR : R = (bitF 0 a b : Int) := by rw [← HR.out, zTwo_10]
    subst hR
    clear HD
    have hbit : bits .and .i64 (a : Int) (b : Int) = (bitF 0 a b : Int) := and_small ha hb
    clear hml hmu
    go_enter Tryz.func233, Tryz.ntmps233
    go_wp2
    go_ret
    exact ⟨by first | rfl | go_num, HB⟩
  by_cases k11 : op = 11
  · subst k11
    have hR : R = (bitF 1 a b : Int) := by rw [← HR.out, zTwo_11]
    subst hR
    clear HD
    have hbit : bits .or .i64 (a : Int) (b : Int) = (bitF 1 a b : Int) := or_small ha hb
    clear hml hmu
    go_enter Tryz.func233, Tryz.ntmps233
    go_wp2
    go_ret
    exact ⟨by first | rfl | go_num, HB⟩
  by_cases k12 : op = 12
  · subst k12
    have hR : R = (bitF 2 a b : Int) := by rw [← HR.out, zTwo_12]
    subst hR
    clear HD
    have hbit : bits .xor .i64 (a : Int) (b : Int) = (bitF 2 a b : Int) := xor_small ha hb
    clear hml hmu
    go_enter Tryz.func233, Tryz.ntmps233
    go_wp2
    go_ret
    exact ⟨by first | rfl | go_num, HB⟩
  by_cases k13 : op = 13
  · subst k13
    have hsh : Op.shift .shl .i64 (a : Int) .i64 (b : Int) = pure (.int .i64 R) := by rw [shl_run _ _ (Int.natCast_nonneg _), ← HR.out, zTwo_13, Int.toNat_natCast]
    clear HD
    clear hml hmu
    go_enter Tryz.func233, Tryz.ntmps233
    go_wp2
    go_ret
    exact ⟨by first | rfl | go_num, HB⟩
  by_cases k14 : op = 14
  · subst k14
    have hsh : Op.shift .shr .i64 (a : Int) .i64 (b : Int) = pure (.int .i64 R) := by rw [shr_run _ _ (Int.natCast_nonneg _), ← HR.out, zTwo_14, Int.toNat_natCast]
    clear HD
    clear hml hmu
    go_enter Tryz.func233, Tryz.ntmps233
    go_wp2
    go_ret
    exact ⟨by first | rfl | go_num, HB⟩
  by_cases k15 : op = 15
  · subst k15
    have hR : R = (bi (decide (a = b)) : Int) := by rw [← HR.out, zTwo_15]
    subst hR
    clear HD
    have hbe : ((a : Int) == (b : Int)) = decide (a = b) := by rw [Bool.eq_iff_iff]; simp; omega
    go_enter Tryz.func233, Tryz.ntmps233
    go_wp2_with fail
    refine (truth_any _ _).mono ?_
    rintro e w1 ⟨rfl, rfl⟩
    go_wp2
    go_ret
    exact ⟨by first | rfl | (simp), HB⟩
  have k16 : op = 16 := by omega
  subst k16
  have hR : R = (bi (decide (a < b)) : Int) := by rw [← HR.out, zTwo_16]
  subst hR
  clear HD
  go_enter Tryz.func233, Tryz.ntmps233
  go_wp2_with fail
  refine (truth_any _ _).mono ?_
  rintro e w1 ⟨rfl, rfl⟩
  go_wp2
  go_ret
  exact ⟨by first | rfl | (simp), HB⟩
theorem ofTwo_panic (g : Int) (er : ERow) (op : Int) (a : Nat) (w : World) (h89 : op = 8 ∨ op = 9) :
    Calls Tryz.prog 233 #[reckV g er false, .int .i64 op, .int .i64 (a : Int), .int .i64 0] w fun e w' => e = .panicked (trapC 1) ∧ Below w.heap.size w w' := by
  have HD : Hid (∀ w' : World, Calls Tryz.prog 245 #[reckV g er false, .int .i64 op, .int .i64 (a : Int), .int .i64 0] w' fun e w'' => e = .panicked (trapC 1) ∧ Below w'.heap.size w' w'') := Lib.hid (fun w' => divided_panic g er op a w')
  obtain ⟨⟨b1, m1, e1⟩, ⟨b2, m2, e2⟩, rws⟩ := er
  simp only [reckV, slV] at HD
  show Calls Tryz.prog 233 #[.agg #[.int .i64 g, .slice b1 m1 e1, .slice b2 m2 e2, .bool false], .int .i64 op, .int .i64 (a : Int), .int .i64 0] w _
  have HB : Below w.heap.size w (w.alloc (.cells #[.int .i64 g, .slice b1 m1 e1, .slice b2 m2 e2, .bool false] 202)) := (Below.refl _ _).alloc (Nat.le_refl _) _
  rcases h89 with rfl | rfl
  all_goals
    go_enter Tryz.func233, Tryz.ntmps233
    go_wp2_with fail
    refine (HD.out _).mono ?_
    rintro e w1 ⟨rfl, hb1⟩
    go_wp2
    exact ⟨rfl, rfl, HB.trans (hb1.mono HB.size)⟩
end Go.Proofs.YtmooecbdpfhnlaaGreat
/- The contracts of the program's mayReckon, valuesOk, EnvOk. -/
namespace Go.Proofs.YtmooecbdpfhnlaaGreat
open Go.RowKit

def mayR (S V A : Nat) (t : Tm) : Bool := t.1 == 17 || fitB S V A t
end Go.Proofs.YtmooecbdpfhnlaaGreat
