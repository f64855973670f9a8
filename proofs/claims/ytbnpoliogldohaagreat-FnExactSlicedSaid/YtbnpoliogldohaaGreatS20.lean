/- Joined texts of this proof (ImplTrap, ImplTrap2, ImplTrap3, ImplTrap4), in build order. -/
import Derived.Test.YtbnpoliogldohaaGreatS16
import Derived.Deep.RegionHeld3
import Derived.Test.YtbnpoliogldohaaGreatS19
import Derived.Test.YtbnpoliogldohaaGreatS4
import Derived.Test.YtbnpoliogldohaaGreatS11
/- The contracts of the program's isNumWithin and treeMayTrap. (One walk for each kind of tree, written by program.) -/
namespace Go.Proofs.YtbnpoliogldohaaGreat
open Go.RowKit

/-- A number within bounds. -/
def isNumB (lo hi : Int) : Tr → Bool
  | .node op n _ => decide (op = 0) && (decide (lo ≤ n) && decide (n ≤ hi))
/-- May the last Term itself trap? -/
def headT (sz : List Int) (op n : Int) (kids : List Tr) : Bool := (decide (op = 2) && !isNumB 0 (sz.getD n.toNat 0 - 1) (kids.getD 0 default)) || ((decide (op = 8) || decide (op = 9)) && !isNumB 1 255 (kids.getD 1 default))
mutual
def Tr.trap (sz : List Int) : Tr → Bool
  | .node op n kids => headT sz op n kids || Tr.traps sz kids
def Tr.traps (sz : List Int) : List Tr → Bool
  | [] => false
  | t :: r => t.trap sz || Tr.traps sz r
end
theorem traps_append (sz : List Int) (a b : List Tr) : Tr.traps sz (a ++ b) = (Tr.traps sz a || Tr.traps sz b) := by
  induction a with
  | nil => simp [Tr.traps]
  | cons t r ih => simp [Tr.traps, ih, Bool.or_assoc]
theorem traps_take_succ (sz : List Int) (kids : List Tr) (i : Nat) (h : i < kids.length) : Tr.traps sz (kids.take (i + 1)) = (Tr.traps sz (kids.take i) || (kids.getD i default).trap sz) := by
  rw [List.take_succ_eq_append_getElem h, traps_append, List.getD_eq_getElem?_getD, List.getElem?_eq_getElem h]
  simp [Tr.traps]
theorem traps_of (sz : List Int) (kids : List Tr) (i : Nat) (h : i < kids.length) (ht : (kids.getD i default).trap sz = true) : Tr.traps sz kids = true := by
  have e : Tr.traps sz kids = (Tr.traps sz (kids.take (i + 1)) || Tr.traps sz (kids.drop (i + 1))) := by rw [← traps_append, List.take_append_drop]
  rw [e, traps_take_succ sz kids i h, ht]
  simp
theorem tm_num_num (x : Value) (w : World) : (Instr.typeAssert (.iface 242 x) 202 242 true).run Tryz.prog w = .ok (.tuple #[x, .bool true]) w := by kernel_rfl
theorem tm_num_cell (x : Value) (w : World) : (Instr.typeAssert (.iface 242 x) 202 271 true).run Tryz.prog w = .ok (.tuple #[.agg #[.int .i64 0, .nilIface], .bool false]) w := by kernel_rfl
theorem tm_num_op (x : Value) (w : World) : (Instr.typeAssert (.iface 242 x) 202 273 true).run Tryz.prog w = .ok (.tuple #[.agg #[.int .i64 0, .slice none 0 0], .bool false]) w := by kernel_rfl
theorem tm_var_num (x : Value) (w : World) : (Instr.typeAssert (.iface 269 x) 202 242 true).run Tryz.prog w = .ok (.tuple #[.agg #[.int .i64 0], .bool false]) w := by kernel_rfl
theorem tm_var_cell (x : Value) (w : World) : (Instr.typeAssert (.iface 269 x) 202 271 true).run Tryz.prog w = .ok (.tuple #[.agg #[.int .i64 0, .nilIface], .bool false]) w := by kernel_rfl
theorem tm_var_op (x : Value) (w : World) : (Instr.typeAssert (.iface 269 x) 202 273 true).run Tryz.prog w = .ok (.tuple #[.agg #[.int .i64 0, .slice none 0 0], .bool false]) w := by kernel_rfl
theorem tm_cell_num (x : Value) (w : World) : (Instr.typeAssert (.iface 271 x) 202 242 true).run Tryz.prog w = .ok (.tuple #[.agg #[.int .i64 0], .bool false]) w := by kernel_rfl
theorem tm_cell_cell (x : Value) (w : World) : (Instr.typeAssert (.iface 271 x) 202 271 true).run Tryz.prog w = .ok (.tuple #[x, .bool true]) w := by kernel_rfl
theorem tm_op_num (x : Value) (w : World) : (Instr.typeAssert (.iface 273 x) 202 242 true).run Tryz.prog w = .ok (.tuple #[.agg #[.int .i64 0], .bool false]) w := by kernel_rfl
theorem tm_op_cell (x : Value) (w : World) : (Instr.typeAssert (.iface 273 x) 202 271 true).run Tryz.prog w = .ok (.tuple #[.agg #[.int .i64 0, .nilIface], .bool false]) w := by kernel_rfl
theorem tm_op_op (x : Value) (w : World) : (Instr.typeAssert (.iface 273 x) 202 273 true).run Tryz.prog w = .ok (.tuple #[x, .bool true]) w := by kernel_rfl
set_option maxHeartbeats 1600000 in
theorem isNumWithin_any (F : Nat → Prop) (v : Value) (T : Tr) (lo hi : Int) (w : World) (h : IsTree w F v T) :
    Calls Tryz.prog 164 #[v, .int .i64 lo, .int .i64 hi] w fun e w' => e = .returned (.bool (isNumB lo hi T)) ∧ Below w.heap.size w w' := by
  cases h with
  | num n =>
    have q := tm_num_num (.agg #[.int .i64 n])
    have hb : Below w.heap.size w (w.alloc (.cells #[.int .i64 n] 242)) := (Below.refl _ _).alloc (Nat.le_refl _) _
    obtain ⟨R, HR⟩ : ∃ R, Hid ((decide (lo ≤ n) && decide (n ≤ hi)) = R) := ⟨_, rfl⟩
    have HE : Hid (isNumB lo hi (.node 0 n []) = R) := Lib.hid (by rw [← HR.out]; simp [isNumB])
    rw [HE.out]
    have HB := Lib.hid hb
    clear hb
    go_enter Tryz.func164, Tryz.ntmps164
    go_wp2_with (go_at_call 88; refine (isWithin_any _ _ _ _).mono ?_; rintro e w' ⟨rfl, rfl⟩; rw [HR.out])
    go_ret
    exact ⟨rfl, HB.out⟩
  | var n =>
    have q := tm_var_num (.agg #[.int .i64 n])
    have hb : Below w.heap.size w (w.alloc (.cells #[.int .i64 0] 242)) := (Below.refl _ _).alloc (Nat.le_refl _) _
    have HE : Hid (isNumB lo hi (.node 1 n []) = false) := Lib.hid (by simp [isNumB])
    rw [HE.out]
    have HB := Lib.hid hb
    clear hb
    go_enter Tryz.func164, Tryz.ntmps164
    go_wp2
    go_ret
    exact ⟨rfl, HB.out⟩
  | cell n v0 T0 h0 =>
    have q := tm_cell_num (.agg #[.int .i64 n, v0])
    have hb : Below w.heap.size w (w.alloc (.cells #[.int .i64 0] 242)) := (Below.refl _ _).alloc (Nat.le_refl _) _
    have HE : Hid (isNumB lo hi (.node 2 n [T0]) = false) := Lib.hid (by simp [isNumB])
    rw [HE.out]
    have HB := Lib.hid hb
    clear hb
    go_enter Tryz.func164, Tryz.ntmps164
    go_wp2
    go_ret
    exact ⟨rfl, HB.out⟩
  | op k a m c vs Ts h1 h2 h3 h4 h5 h6 =>
    have q := tm_op_num (.agg #[.int .i64 k, .slice a m c])
    have hb : Below w.heap.size w (w.alloc (.cells #[.int .i64 0] 242)) := (Below.refl _ _).alloc (Nat.le_refl _) _
    have HE : Hid (isNumB lo hi (.node k 0 Ts) = false) := Lib.hid (by simp [isNumB]; omega)
    rw [HE.out]
    have HB := Lib.hid hb
    clear hb
    go_enter Tryz.func164, Tryz.ntmps164
    go_wp2
    go_ret
    exact ⟨rfl, HB.out⟩
/-- What treeMayTrap answers of trees of so many Terms. -/
def TrapSaid (N : Nat) (sz : List Int) : Prop := ∀ (T : Tr) (v : Value) (wd tp : Int) (p1 p2 p3 p4 : Option Addr) (n1 n2 n3 n4 c1 c2 c3 c4 : Nat) (w : World), T.flat.length ≤ N → T.okT → (∀ t ∈ T.flat, t.1 = 2 → t.2 < (sz.length : Int)) → IsTree w (fun _ => True) v T → Ints w p3 n3 sz → Hid (∀ z ∈ sz, 0 ≤ z) →
  Calls Tryz.prog 208 #[.agg #[.int .i64 wd, .slice p1 n1 c1, .slice p2 n2 c2, .int .i64 tp, .slice p3 n3 c3, .slice p4 n4 c4], v] w fun e w' => e = .returned (.bool (T.trap sz)) ∧ Below w.heap.size w w'
theorem mem_flats_getD {t : Tm} {kids : List Tr} {i : Nat} (h : t ∈ (kids.getD i default).flat) (hi : i < kids.length) : t ∈ Tr.flats kids := by
  have e : Tr.flats kids = Tr.flats (kids.take (i + 1)) ++ Tr.flats (kids.drop (i + 1)) := by rw [← flats_append, List.take_append_drop]
  rw [e, flats_take_succ kids i hi]; exact List.mem_append_left _ (List.mem_append_right _ h)
set_option maxRecDepth 100000 in
set_option maxHeartbeats 2400000 in
theorem trap_num (N : Nat) (sz : List Int) (_ih : Hid (TrapSaid N sz)) (x : Int) (wd tp : Int) (p1 p2 p3 p4 : Option Addr) (n1 n2 n3 n4 c1 c2 c3 c4 : Nat) (w : World) (_hN : (Tr.node 0 x []).flat.length ≤ N + 1) (_hok : (Tr.node 0 x []).okT) (_hnm : ∀ t ∈ (Tr.node 0 x []).flat, t.1 = 2 → t.2 < (sz.length : Int))  (_ha : Ints w p3 n3 sz) (_hpos : Hid (∀ z ∈ sz, 0 ≤ z)) :
    Calls Tryz.prog 208 #[.agg #[.int .i64 wd, .slice p1 n1 c1, .slice p2 n2 c2, .int .i64 tp, .slice p3 n3 c3, .slice p4 n4 c4], .iface 242 (.agg #[.int .i64 x])] w fun e w' => e = .returned (.bool ((Tr.node 0 x []).trap sz)) ∧ Below w.heap.size w w' := by
  have m1 := m_num_under (.int .i64 x)
  have q1 := tm_num_cell (.agg #[.int .i64 x])
  have q2 := tm_num_op (.agg #[.int .i64 x])
  have HE : Hid ((Tr.node 0 x []).trap sz = false) := Lib.hid (by simp [Tr.trap, headT, Tr.traps])
  rw [HE.out]
  have HB0 : Hid (Below w.heap.size w (w.alloc (.cells #[.int .i64 wd, .slice p1 n1 c1, .slice p2 n2 c2, .int .i64 tp, .slice p3 n3 c3, .slice p4 n4 c4] 28))) := Lib.hid ((Below.refl _ _).alloc (Nat.le_refl _) _)
  go_enter Tryz.func208, Tryz.ntmps208
  go_wp2_with fail
  refine (num_under _ _).mono ?_
  rintro e w1 ⟨rfl, hb1⟩
  have HB1 := Lib.hid (HB0.out.trans (hb1.mono HB0.out.size))
  clear hb1
  go_wp2
  go_loopw [48] (fun i wr => i = .int .i64 0 ∧ Below w1.heap.size w1 wr) (fun _ _ => 0)
  case atStart => exact ⟨rfl, Below.refl _ _⟩
  case round =>
    obtain ⟨rfl, hbel⟩ := hrel
    have HF := Lib.hid (HB1.out.trans (hbel.mono HB1.out.size))
    clear hbel
    go_wp2
    go_ret
    exact ⟨rfl, HF.out⟩
set_option maxRecDepth 100000 in
set_option maxHeartbeats 2400000 in
theorem trap_var (N : Nat) (sz : List Int) (_ih : Hid (TrapSaid N sz)) (x : Int) (wd tp : Int) (p1 p2 p3 p4 : Option Addr) (n1 n2 n3 n4 c1 c2 c3 c4 : Nat) (w : World) (_hN : (Tr.node 1 x []).flat.length ≤ N + 1) (_hok : (Tr.node 1 x []).okT) (_hnm : ∀ t ∈ (Tr.node 1 x []).flat, t.1 = 2 → t.2 < (sz.length : Int))  (_ha : Ints w p3 n3 sz) (_hpos : Hid (∀ z ∈ sz, 0 ≤ z)) :
    Calls Tryz.prog 208 #[.agg #[.int .i64 wd, .slice p1 n1 c1, .slice p2 n2 c2, .int .i64 tp, .slice p3 n3 c3, .slice p4 n4 c4], .iface 269 (.agg #[.int .i64 x])] w fun e w' => e = .returned (.bool ((Tr.node 1 x []).trap sz)) ∧ Below w.heap.size w w' := by
  have m1 := m_var_under (.int .i64 x)
  have q1 := tm_var_cell (.agg #[.int .i64 x])
  have q2 := tm_var_op (.agg #[.int .i64 x])
  have HE : Hid ((Tr.node 1 x []).trap sz = false) := Lib.hid (by simp [Tr.trap, headT, Tr.traps])
  rw [HE.out]
  have HB0 : Hid (Below w.heap.size w (w.alloc (.cells #[.int .i64 wd, .slice p1 n1 c1, .slice p2 n2 c2, .int .i64 tp, .slice p3 n3 c3, .slice p4 n4 c4] 28))) := Lib.hid ((Below.refl _ _).alloc (Nat.le_refl _) _)
  go_enter Tryz.func208, Tryz.ntmps208
  go_wp2_with fail
  refine (var_under _ _).mono ?_
  rintro e w1 ⟨rfl, hb1⟩
  have HB1 := Lib.hid (HB0.out.trans (hb1.mono HB0.out.size))
  clear hb1
  go_wp2
  go_loopw [48] (fun i wr => i = .int .i64 0 ∧ Below w1.heap.size w1 wr) (fun _ _ => 0)
  case atStart => exact ⟨rfl, Below.refl _ _⟩
  case round =>
    obtain ⟨rfl, hbel⟩ := hrel
    have HF := Lib.hid (HB1.out.trans (hbel.mono HB1.out.size))
    clear hbel
    go_wp2
    go_ret
    exact ⟨rfl, HF.out⟩
end Go.Proofs.YtbnpoliogldohaaGreat
/- The contract of the program's treeMayTrap at a cell of an array. (Written by tools/gen_impltrap.py.) -/
namespace Go.Proofs.YtbnpoliogldohaaGreat
open Go.RowKit

set_option maxRecDepth 100000 in
set_option maxHeartbeats 2400000 in
theorem trap_cell (N : Nat) (sz : List Int) (ih : Hid (TrapSaid N sz)) (j : Nat) (u0 : TypeId) (x0 : Value) (T0 : Tr) (wd tp : Int) (p1 p2 p3 p4 : Option Addr) (n1 n2 n3 n4 c1 c2 c3 c4 : Nat) (w : World) (hN : (Tr.node 2 (j : Int) [T0]).flat.length ≤ N + 1) (hok : (Tr.node 2 (j : Int) [T0]).okT) (hnm : ∀ t ∈ (Tr.node 2 (j : Int) [T0]).flat, t.1 = 2 → t.2 < (sz.length : Int)) (hT0 : IsTree w (fun _ => True) (.iface u0 x0) T0) (ha : Ints w p3 n3 sz) (hpos : Hid (∀ z ∈ sz, 0 ≤ z)) :
    Calls Tryz.prog 208 #[.agg #[.int .i64 wd, .slice p1 n1 c1, .slice p2 n2 c2, .int .i64 tp, .slice p3 n3 c3, .slice p4 n4 c4], .iface 271 (.agg #[.int .i64 (j : Int), .iface u0 x0])] w fun e w' => e = .returned (.bool ((Tr.node 2 (j : Int) [T0]).trap sz)) ∧ Below w.heap.size w w' := by
  have m1 := m_cell_under (.int .i64 (j : Int)) (.iface u0 x0)
  have q1 := tm_cell_cell (.agg #[.int .i64 (j : Int), .iface u0 x0])
  have hjl : j < n3 := by
    have h1 := hnm (2, (j : Int)) (by simp [Tr.flat]) rfl
    have h2 := ha.1
    simp only [] at h1
    omega
  obtain ⟨bA, oA, z, hp3, hbA, HZ, hz64, hcA⟩ := ha.at_ hjl
  subst hp3
  have hz0 : 0 ≤ z := hpos.out z (by rw [HZ.out]; exact getD_mem (by have := ha.1; omega))
  have hz1 : z ≤ 9223372036854775807 := hz64.2
  clear hz64
  simp only [Tr.okT] at hok
  have hok3 := hok.2.2
  clear hok
  have hnm3 : Hid (∀ t ∈ Tr.flats [T0], t.1 = 2 → t.2 < (sz.length : Int)) := Lib.hid (fun t ht => hnm t (by simp only [Tr.flat]; exact List.mem_append_left _ ht))
  clear hnm
  simp only [Tr.flat, List.length_append, List.length_singleton] at hN
  obtain ⟨wb, HWB⟩ : ∃ wb, Hid (wb = (w.alloc (.cells #[.int .i64 wd, .slice p1 n1 c1, .slice p2 n2 c2, .int .i64 tp, .slice (some ⟨bA, oA, none⟩) n3 c3, .slice p4 n4 c4] 28)).alloc (.cells #[.int .i64 (j : Int), .iface u0 x0] 271)) := ⟨_, rfl⟩
  have BX : Blk wb w.heap.size 28 [.int .i64 wd, .slice p1 n1 c1, .slice p2 n2 c2, .int .i64 tp, .slice (some ⟨bA, oA, none⟩) n3 c3, .slice p4 n4 c4] := by rw [HWB.out]; exact (Blk.new w _ _).alloc _
  have BT : Blk wb (w.heap.size + 1) 271 [.int .i64 (j : Int), .iface u0 x0] := by rw [HWB.out]; simpa using Blk.new (w.alloc _) 271 [.int .i64 (j : Int), .iface u0 x0]
  have hbb : Below w.heap.size w wb := by rw [HWB.out]; exact ((Below.refl _ _).alloc (Nat.le_refl _) _).alloc (by simp) _
  obtain ⟨b, HBB⟩ : ∃ b, Hid (isNumB 0 (z - 1) T0 = b) := ⟨_, rfl⟩
  obtain ⟨R, HR⟩ : ∃ R, Hid ((headT sz 2 (j : Int) [T0] || Tr.traps sz [T0]) = R) := ⟨_, rfl⟩
  have HRR : Hid ((Tr.node 2 (j : Int) [T0]).trap sz = R) := Lib.hid (by rw [← HR.out]; simp only [Tr.trap])
  rw [HRR.out]
  have HHD : Hid (headT sz 2 (j : Int) [T0] = !b) := Lib.hid (by
    have e1 : sz.getD (j : Int).toNat 0 = z := by rw [HZ.out]; simp
    rw [headT, e1, ← HBB.out]
    simp)
  have HNW : Hid (∀ w', Below wb.heap.size wb w' → Calls Tryz.prog 164 #[.iface u0 x0, .int .i64 0, .int .i64 (z - 1)] w' fun e w'' => e = .returned (.bool b) ∧ Below w'.heap.size w' w'') := Lib.hid (fun w' hw => by
    rw [← HBB.out]; exact isNumWithin_any _ _ T0 0 (z - 1) w' ((hT0.keep (keeps_below hbb)).keep (keeps_below hw)))
  have HT0 := Lib.hid hT0
  have HA := Lib.hid ha
  have HBX := Lib.hid BX
  have HBT := Lib.hid BT
  have HBF := Lib.hid hbb
  have HD : Below wb.heap.size wb wb.drew := ⟨rfl, rfl, rfl, Nat.le_refl _, fun _ _ => rfl⟩
  have hcb : wb.cell? ⟨bA, oA + j, none⟩ = some (.int .i64 z) := (hbb.cell hbA).trans hcA
  have hbAb : bA < wb.heap.size := Nat.lt_of_lt_of_le hbA hbb.size
  have t0 := BX.cell (j := 0) rfl
  have t1 := BX.cell (j := 1) rfl
  have t2 := BX.cell (j := 2) rfl
  have t3 := BX.cell (j := 3) rfl
  have t4 := BX.cell (j := 4) rfl
  have t5 := BX.cell (j := 5) rfl
  have t6 := BT.cell (j := 0) rfl
  have t7 := BT.cell (j := 1) rfl
  clear BX BT hbb ha hcA hT0
  cases b
  · have HT : Hid (R = true) := Lib.hid (by rw [← HR.out, HHD.out]; rfl)
    go_enter Tryz.func208, Tryz.ntmps208
    go_wp2_with fail
    rw [← HWB.out]
    have hwz : IntKind.i64.wrap (z - 1) = z - 1 := by rw [IntKind.wrap_i64]; omega
    go_region_held3 (fun w' => w'.cell? ⟨w.heap.size, 4, none⟩ = some (.slice (some ⟨bA, oA, none⟩) n3 c3) ∧ w'.cell? ⟨w.heap.size + 1, 0, none⟩ = some (.int .i64 (j : Int)) ∧ w'.cell? ⟨w.heap.size + 1, 1, none⟩ = some (.iface u0 x0) ∧ w'.cell? ⟨bA, oA + j, none⟩ = some (.int .i64 z)) (first | (refine ⟨?_, ?_, ?_, ?_⟩ <;> assumption) | go_keep | (refine ⟨?_, ?_, ?_, ?_⟩ <;> go_keep)) (first
      | (go_at_call 164; refine (HNW.out _ HD).mono ?_; rintro e w3 ⟨rfl, hb3⟩; have HB3 : Below wb.heap.size wb w3 := HD.trans (hb3.mono HD.size); have B3 := HBX.out.below HB3 HBX.out.lt; have C3 := HBT.out.below HB3 HBT.out.lt; have v0 := B3.cell (j := 0) rfl; have v1 := B3.cell (j := 1) rfl; have v2 := B3.cell (j := 2) rfl; have v3 := B3.cell (j := 3) rfl; have v4 := B3.cell (j := 4) rfl; have v5 := B3.cell (j := 5) rfl; have v6 := C3.cell (j := 0) rfl; have v7 := C3.cell (j := 1) rfl; have v8 : w3.cell? ⟨bA, oA + j, none⟩ = some (.int .i64 z) := (HB3.cell hbAb).trans hcb; clear B3 C3 hb3))
    all_goals clear hwz
    all_goals
      have HF := Lib.hid (HBF.out.trans (HB3.mono HBF.out.size))
      go_wp2
      go_ret
      exact ⟨by rw [HT.out]; rfl, HF.out⟩
  · have HEAD : Hid (headT sz 2 (j : Int) [T0] = false) := Lib.hid (by rw [HHD.out]; rfl)
    go_enter Tryz.func208, Tryz.ntmps208
    go_wp2_with fail
    rw [← HWB.out]
    have hwz : IntKind.i64.wrap (z - 1) = z - 1 := by rw [IntKind.wrap_i64]; omega
    go_region_held3 (fun w' => w'.cell? ⟨w.heap.size, 4, none⟩ = some (.slice (some ⟨bA, oA, none⟩) n3 c3) ∧ w'.cell? ⟨w.heap.size + 1, 0, none⟩ = some (.int .i64 (j : Int)) ∧ w'.cell? ⟨w.heap.size + 1, 1, none⟩ = some (.iface u0 x0) ∧ w'.cell? ⟨bA, oA + j, none⟩ = some (.int .i64 z)) (first | (refine ⟨?_, ?_, ?_, ?_⟩ <;> assumption) | go_keep | (refine ⟨?_, ?_, ?_, ?_⟩ <;> go_keep)) (first
      | (go_at_call 164; refine (HNW.out _ HD).mono ?_; rintro e w3 ⟨rfl, hb3⟩; have HB3 : Below wb.heap.size wb w3 := HD.trans (hb3.mono HD.size); have B3 := HBX.out.below HB3 HBX.out.lt; have C3 := HBT.out.below HB3 HBT.out.lt; have v0 := B3.cell (j := 0) rfl; have v1 := B3.cell (j := 1) rfl; have v2 := B3.cell (j := 2) rfl; have v3 := B3.cell (j := 3) rfl; have v4 := B3.cell (j := 4) rfl; have v5 := B3.cell (j := 5) rfl; have v6 := C3.cell (j := 0) rfl; have v7 := C3.cell (j := 1) rfl; have v8 : w3.cell? ⟨bA, oA + j, none⟩ = some (.int .i64 z) := (HB3.cell hbAb).trans hcb; clear B3 C3 hb3))
    all_goals clear hwz
    go_wp2_with fail
    refine (cell_under _ _ _ _).mono ?_
    rintro e w1 ⟨g, rfl, hg1, hg2, hb1⟩
    have HB31 := HB3.trans (hb1.mono HB3.size)
    have HB1 := Lib.hid (HBF.out.trans (HB31.mono HBF.out.size))
    have HBOX := Lib.hid (HBX.out.below HB31 HBX.out.lt)
    have HARR := Lib.hid (HA.out.below HB1.out)
    have hrow : RowV w1 (fun _ => True) (some ⟨g, 0, none⟩) 1 [.iface u0 x0] := row_one hg2
    have HKIDS : Hid (∀ i, i < 1 → IsTree w1 (fun _ => True) (([.iface u0 x0] : List Value).getD i .nilIface) (([T0] : List Tr).getD i default)) := Lib.hid fun i hi => by
      obtain rfl : i = 0 := by omega
      exact HT0.out.keep (keeps_below HB1.out)
    clear hg2 hb1 HB31 HB3 HD hcb v0 v1 v2 v3 v4 v5 v6 v7 v8 t0 t1 t2 t3 t4 t5 t6 t7 q1
    go_wp2
    go_loopw [48] (fun i wr => ∃ k : Nat, k ≤ 1 ∧ i = .int .i64 (k : Int) ∧ Hid (Tr.traps sz (([T0]).take k) = false) ∧ Below w1.heap.size w1 wr) (fun i _ => 1 - (intOf i).toNat)
    case atStart => exact ⟨0, Nat.zero_le _, rfl, Lib.hid rfl, Below.refl _ _⟩
    case round =>
      obtain ⟨k, hk, rfl, hno, hbel⟩ := hrel
      by_cases hlt : k < 1
      · obtain ⟨kb, ko, hka, hbl, hcell⟩ := (hrow.keep (keeps_below hbel)).at_ hlt
        have hkid := (HKIDS.out k hlt).keep (keeps_below hbel)
        injection hka with hka; injection hka with e1 e2; subst e1 e2; simp only [Nat.zero_add] at hcell
        obtain ⟨u, y, hv⟩ := hkid.iface
        rw [hv] at hcell hkid
        clear hv
        have hkl := flats_take_le ([T0]) k (by simp; omega)
        have hko := oks_getD hok3 (i := k) (by simp; omega)
        have hkn : ∀ t ∈ (([T0]).getD k default).flat, t.1 = 2 → t.2 < (sz.length : Int) := fun t ht => hnm3.out t (mem_flats_getD ht (by simp; omega))
        have HS := Lib.hid (traps_take_succ sz ([T0]) k (by simp; omega))
        have HOF := Lib.hid (traps_of sz ([T0]) k (by simp; omega))
        have hq3 : (([T0]).getD k default).flat.length ≤ N := by omega
        have HX := HBOX.out.below hbel HBOX.out.lt
        have t0 := HX.cell (j := 0) rfl
        have t1 := HX.cell (j := 1) rfl
        have t2 := HX.cell (j := 2) rfl
        have t3 := HX.cell (j := 3) rfl
        have t4 := HX.cell (j := 4) rfl
        have t5 := HX.cell (j := 5) rfl
        generalize ([T0]).getD k default = T1 at *
        have HC := Lib.hid (ih.out T1 (.iface u y) wd tp p1 p2 (some ⟨bA, oA, none⟩) p4 n1 n2 n3 n4 c1 c2 c3 c4 wr hq3 hko hkn hkid (HARR.out.below hbel) hpos)
        obtain ⟨b, HBB⟩ : ∃ b, Hid (T1.trap sz = b) := ⟨_, rfl⟩
        rw [HBB.out] at HC HS HOF
        have HBEL := Lib.hid hbel
        clear HX hkid hkl hko hkn hq3 hbel hbl
        cases b with
        | true =>
          have HT : Hid (R = true) := Lib.hid (by rw [← HR.out, HOF.out rfl]; simp)
          go_wp2_with fail
          refine HC.out.mono ?_
          rintro e w4 ⟨rfl, hb4⟩
          have HF := Lib.hid (HB1.out.trans ((HBEL.out.trans (hb4.mono HBEL.out.size)).mono HB1.out.size))
          clear t0 t1 t2 t3 t4 t5 hcell hb4
          go_wp2
          go_ret
          exact ⟨by rw [HT.out]; rfl, HF.out⟩
        | false =>
          have HS2 : Hid (Tr.traps sz (([T0]).take (k + 1)) = false) := Lib.hid (by rw [HS.out, hno.out]; rfl)
          go_wp2_with fail
          refine HC.out.mono ?_
          rintro e w4 ⟨rfl, hb4⟩
          have hbf := HBEL.out.trans (hb4.mono HBEL.out.size)
          clear t0 t1 t2 t3 t4 t5 hcell hb4
          go_wp2
          go_roundw
          case rel => exact ⟨k + 1, by omega, by go_num, HS2, hbf⟩
          case measure => simp [intOf]; omega
      · obtain rfl : 1 = k := by omega
        have HT : Hid (R = false) := Lib.hid (by
          have e : ([T0]).take 1 = [T0] := List.take_of_length_le (by simp)
          have := hno.out
          rw [e] at this
          rw [← HR.out, HEAD.out, this]
          rfl)
        have HF := Lib.hid (HB1.out.trans (hbel.mono HB1.out.size))
        clear hbel
        go_wp2
        go_ret
        exact ⟨by rw [HT.out]; rfl, HF.out⟩
end Go.Proofs.YtbnpoliogldohaaGreat
/- The contract of the program's treeMayTrap at a Term of parts. (Written by tools/gen_impltrap.py.) -/
namespace Go.Proofs.YtbnpoliogldohaaGreat
open Go.RowKit

set_option maxRecDepth 100000 in
set_option maxHeartbeats 2400000 in
theorem trap_div (N : Nat) (sz : List Int) (ih : Hid (TrapSaid N sz)) (ka : Option Addr) (kc : Nat) (vs : List Value) (kids : List Tr) (wd tp : Int) (p1 p2 p3 p4 : Option Addr) (n1 n2 n3 n4 c1 c2 c3 c4 : Nat) (w : World) (hN : (Tr.node 8 0 kids).flat.length ≤ N + 1) (hok : (Tr.node 8 0 kids).okT) (hnm : ∀ t ∈ (Tr.node 8 0 kids).flat, t.1 = 2 → t.2 < (sz.length : Int)) (hkl0 : Hid (kids.length = 2)) (hrow0 : RowV w (fun _ => True) ka 2 vs) (hkids0 : Hid (∀ i, i < 2 → IsTree w (fun _ => True) (vs.getD i .nilIface) (kids.getD i default))) (ha : Ints w p3 n3 sz) (hpos : Hid (∀ z ∈ sz, 0 ≤ z)) :
    Calls Tryz.prog 208 #[.agg #[.int .i64 wd, .slice p1 n1 c1, .slice p2 n2 c2, .int .i64 tp, .slice p3 n3 c3, .slice p4 n4 c4], .iface 273 (.agg #[.int .i64 8, .slice ka 2 kc])] w fun e w' => e = .returned (.bool ((Tr.node 8 0 kids).trap sz)) ∧ Below w.heap.size w w' := by
  have m1 := m_op_under (.int .i64 8) (.slice ka 2 kc)
  have q1 := tm_op_cell (.agg #[.int .i64 8, .slice ka 2 kc])
  have q2 := tm_op_op (.agg #[.int .i64 8, .slice ka 2 kc])
  simp only [Tr.okT] at hok
  have hok3 := hok.2.2
  clear hok
  have hnm3 : Hid (∀ t ∈ Tr.flats kids, t.1 = 2 → t.2 < (sz.length : Int)) := Lib.hid (fun t ht => hnm t (by simp only [Tr.flat]; exact List.mem_append_left _ ht))
  clear hnm
  simp only [Tr.flat, List.length_append, List.length_singleton] at hN
  obtain ⟨kb, ko, hka, hbl, hc1⟩ := hrow0.at_ (k := 1) (by omega)
  subst hka
  have hk1 := hkids0.out 1 (by omega)
  obtain ⟨u1, y1, hv1⟩ := hk1.iface
  rw [hv1] at hc1 hk1
  clear hv1
  obtain ⟨wb, HWB⟩ : ∃ wb, Hid (wb = (w.alloc (.cells #[.int .i64 wd, .slice p1 n1 c1, .slice p2 n2 c2, .int .i64 tp, .slice p3 n3 c3, .slice p4 n4 c4] 28)).alloc (.cells #[.int .i64 8, .slice (some ⟨kb, ko, none⟩) 2 kc] 273)) := ⟨_, rfl⟩
  have BX : Blk wb w.heap.size 28 [.int .i64 wd, .slice p1 n1 c1, .slice p2 n2 c2, .int .i64 tp, .slice p3 n3 c3, .slice p4 n4 c4] := by rw [HWB.out]; exact (Blk.new w _ _).alloc _
  have BT : Blk wb (w.heap.size + 1) 273 [.int .i64 8, .slice (some ⟨kb, ko, none⟩) 2 kc] := by rw [HWB.out]; simpa using Blk.new (w.alloc _) 273 [.int .i64 8, .slice (some ⟨kb, ko, none⟩) 2 kc]
  have hbb : Below w.heap.size w wb := by rw [HWB.out]; exact ((Below.refl _ _).alloc (Nat.le_refl _) _).alloc (by simp) _
  obtain ⟨R, HR⟩ : ∃ R, Hid ((headT sz 8 0 kids || Tr.traps sz kids) = R) := ⟨_, rfl⟩
  have HRR : Hid ((Tr.node 8 0 kids).trap sz = R) := Lib.hid (by rw [← HR.out]; simp only [Tr.trap])
  rw [HRR.out]
  have HA := Lib.hid ha
  have HBX := Lib.hid BX
  have HBF := Lib.hid hbb
  obtain ⟨b, HBB⟩ : ∃ b, Hid (isNumB 1 255 (kids.getD 1 default) = b) := ⟨_, rfl⟩
  have HHD : Hid (headT sz 8 0 kids = !b) := Lib.hid (by
    rw [headT, HBB.out]
    simp)
  have HNW : Hid (Calls Tryz.prog 164 #[.iface u1 y1, .int .i64 1, .int .i64 255] wb fun e w'' => e = .returned (.bool b) ∧ Below wb.heap.size wb w'') := Lib.hid (by
    rw [← HBB.out]; exact isNumWithin_any _ _ _ 1 255 wb (hk1.keep (keeps_below hbb)))
  have hcb : wb.cell? ⟨kb, ko + 1, none⟩ = some (.iface u1 y1) := (hbb.cell hbl).trans hc1
  have hcr := hcb
  rw [HWB.out] at hcr
  have HRW : Hid (RowV wb (fun _ => True) (some ⟨kb, ko, none⟩) 2 vs) := Lib.hid (hrow0.keep (keeps_below hbb))
  have t0 := BX.cell (j := 0) rfl
  have t1 := BX.cell (j := 1) rfl
  have t2 := BX.cell (j := 2) rfl
  have t3 := BX.cell (j := 3) rfl
  have t4 := BX.cell (j := 4) rfl
  have t5 := BX.cell (j := 5) rfl
  have t6 := BT.cell (j := 0) rfl
  have t7 := BT.cell (j := 1) rfl
  clear BX BT hbb ha hrow0 hc1 hk1
  cases b
  · have HT : Hid (R = true) := Lib.hid (by rw [← HR.out, HHD.out]; rfl)
    go_enter Tryz.func208, Tryz.ntmps208
    go_wp2_with fail
    rw [← HWB.out]
    refine HNW.out.mono ?_
    rintro e w3 ⟨rfl, hb3⟩
    have HF := Lib.hid (HBF.out.trans (hb3.mono HBF.out.size))
    go_wp2
    go_ret
    exact ⟨by rw [HT.out]; rfl, HF.out⟩
  · have HEAD : Hid (headT sz 8 0 kids = false) := Lib.hid (by rw [HHD.out]; rfl)
    go_enter Tryz.func208, Tryz.ntmps208
    go_wp2_with fail
    rw [← HWB.out]
    refine HNW.out.mono ?_
    rintro e w3 ⟨rfl, hb3⟩
    go_wp2_with fail
    refine (op_under _ _ _ _ _).mono ?_
    rintro e w1 ⟨rfl, hb1⟩
    have hwb1 := hb3.trans (hb1.mono hb3.size)
    clear hb3 hcb hcr
    have hrow := HRW.out.keep (keeps_below hwb1)
    have HB1 := Lib.hid (HBF.out.trans (hwb1.mono HBF.out.size))
    have HBOX := Lib.hid (HBX.out.below hwb1 HBX.out.lt)
    have HARR := Lib.hid (HA.out.below HB1.out)
    have HKIDS := Lib.hid (show ∀ i, i < 2 → IsTree w1 (fun _ => True) (vs.getD i .nilIface) (kids.getD i default) from fun i hi => (hkids0.out i hi).keep (keeps_below HB1.out))
    clear hb1 hwb1 t0 t1 t2 t3 t4 t5 t6 t7 q1 q2
    go_wp2
    go_loopw [48] (fun i wr => ∃ k : Nat, k ≤ 2 ∧ i = .int .i64 (k : Int) ∧ Hid (Tr.traps sz ((kids).take k) = false) ∧ Below w1.heap.size w1 wr) (fun i _ => 2 - (intOf i).toNat)
    case atStart => exact ⟨0, Nat.zero_le _, rfl, Lib.hid rfl, Below.refl _ _⟩
    case round =>
      obtain ⟨k, hk, rfl, hno, hbel⟩ := hrel
      by_cases hlt : k < 2
      · obtain ⟨kb, ko, hka, hbl, hcell⟩ := (hrow.keep (keeps_below hbel)).at_ hlt
        have hkid := (HKIDS.out k hlt).keep (keeps_below hbel)
        injection hka with hka; injection hka with e1 e2; subst e1 e2
        obtain ⟨u, y, hv⟩ := hkid.iface
        rw [hv] at hcell hkid
        clear hv
        have hkl := flats_take_le (kids) k (by have := hkl0.out; omega)
        have hko := oks_getD hok3 (i := k) (by have := hkl0.out; omega)
        have hkn : ∀ t ∈ ((kids).getD k default).flat, t.1 = 2 → t.2 < (sz.length : Int) := fun t ht => hnm3.out t (mem_flats_getD ht (by have := hkl0.out; omega))
        have HS := Lib.hid (traps_take_succ sz (kids) k (by have := hkl0.out; omega))
        have HOF := Lib.hid (traps_of sz (kids) k (by have := hkl0.out; omega))
        have hq3 : ((kids).getD k default).flat.length ≤ N := by omega
        have HX := HBOX.out.below hbel HBOX.out.lt
        have t0 := HX.cell (j := 0) rfl
        have t1 := HX.cell (j := 1) rfl
        have t2 := HX.cell (j := 2) rfl
        have t3 := HX.cell (j := 3) rfl
        have t4 := HX.cell (j := 4) rfl
        have t5 := HX.cell (j := 5) rfl
        generalize (kids).getD k default = T1 at *
        have HC := Lib.hid (ih.out T1 (.iface u y) wd tp p1 p2 p3 p4 n1 n2 n3 n4 c1 c2 c3 c4 wr hq3 hko hkn hkid (HARR.out.below hbel) hpos)
        obtain ⟨b, HBB⟩ : ∃ b, Hid (T1.trap sz = b) := ⟨_, rfl⟩
        rw [HBB.out] at HC HS HOF
        have HBEL := Lib.hid hbel
        clear HX hkid hkl hko hkn hq3 hbel hbl
        cases b with
        | true =>
          have HT : Hid (R = true) := Lib.hid (by rw [← HR.out, HOF.out rfl]; simp)
          go_wp2_with fail
          refine HC.out.mono ?_
          rintro e w4 ⟨rfl, hb4⟩
          have HF := Lib.hid (HB1.out.trans ((HBEL.out.trans (hb4.mono HBEL.out.size)).mono HB1.out.size))
          clear t0 t1 t2 t3 t4 t5 hcell hb4
          go_wp2
          go_ret
          exact ⟨by rw [HT.out]; rfl, HF.out⟩
        | false =>
          have HS2 : Hid (Tr.traps sz ((kids).take (k + 1)) = false) := Lib.hid (by rw [HS.out, hno.out]; rfl)
          go_wp2_with fail
          refine HC.out.mono ?_
          rintro e w4 ⟨rfl, hb4⟩
          have hbf := HBEL.out.trans (hb4.mono HBEL.out.size)
          clear t0 t1 t2 t3 t4 t5 hcell hb4
          go_wp2
          go_roundw
          case rel => exact ⟨k + 1, by omega, by go_num, HS2, hbf⟩
          case measure => simp [intOf]; omega
      · obtain rfl : 2 = k := by omega
        have HT : Hid (R = false) := Lib.hid (by
          have e : (kids).take 2 = kids := List.take_of_length_le (by have := hkl0.out; omega)
          have := hno.out
          rw [e] at this
          rw [← HR.out, HEAD.out, this]
          rfl)
        have HF := Lib.hid (HB1.out.trans (hbel.mono HB1.out.size))
        clear hbel
        go_wp2
        go_ret
        exact ⟨by rw [HT.out]; rfl, HF.out⟩
set_option maxRecDepth 100000 in
set_option maxHeartbeats 2400000 in
theorem trap_mod (N : Nat) (sz : List Int) (ih : Hid (TrapSaid N sz)) (ka : Option Addr) (kc : Nat) (vs : List Value) (kids : List Tr) (wd tp : Int) (p1 p2 p3 p4 : Option Addr) (n1 n2 n3 n4 c1 c2 c3 c4 : Nat) (w : World) (hN : (Tr.node 9 0 kids).flat.length ≤ N + 1) (hok : (Tr.node 9 0 kids).okT) (hnm : ∀ t ∈ (Tr.node 9 0 kids).flat, t.1 = 2 → t.2 < (sz.length : Int)) (hkl0 : Hid (kids.length = 2)) (hrow0 : RowV w (fun _ => True) ka 2 vs) (hkids0 : Hid (∀ i, i < 2 → IsTree w (fun _ => True) (vs.getD i .nilIface) (kids.getD i default))) (ha : Ints w p3 n3 sz) (hpos : Hid (∀ z ∈ sz, 0 ≤ z)) :
    Calls Tryz.prog 208 #[.agg #[.int .i64 wd, .slice p1 n1 c1, .slice p2 n2 c2, .int .i64 tp, .slice p3 n3 c3, .slice p4 n4 c4], .iface 273 (.agg #[.int .i64 9, .slice ka 2 kc])] w fun e w' => e = .returned (.bool ((Tr.node 9 0 kids).trap sz)) ∧ Below w.heap.size w w' := by
  have m1 := m_op_under (.int .i64 9) (.slice ka 2 kc)
  have q1 := tm_op_cell (.agg #[.int .i64 9, .slice ka 2 kc])
  have q2 := tm_op_op (.agg #[.int .i64 9, .slice ka 2 kc])
  simp only [Tr.okT] at hok
  have hok3 := hok.2.2
  clear hok
  have hnm3 : Hid (∀ t ∈ Tr.flats kids, t.1 = 2 → t.2 < (sz.length : Int)) := Lib.hid (fun t ht => hnm t (by simp only [Tr.flat]; exact List.mem_append_left _ ht))
  clear hnm
  simp only [Tr.flat, List.length_append, List.length_singleton] at hN
  obtain ⟨kb, ko, hka, hbl, hc1⟩ := hrow0.at_ (k := 1) (by omega)
  subst hka
  have hk1 := hkids0.out 1 (by omega)
  obtain ⟨u1, y1, hv1⟩ := hk1.iface
  rw [hv1] at hc1 hk1
  clear hv1
  obtain ⟨wb, HWB⟩ : ∃ wb, Hid (wb = (w.alloc (.cells #[.int .i64 wd, .slice p1 n1 c1, .slice p2 n2 c2, .int .i64 tp, .slice p3 n3 c3, .slice p4 n4 c4] 28)).alloc (.cells #[.int .i64 9, .slice (some ⟨kb, ko, none⟩) 2 kc] 273)) := ⟨_, rfl⟩
  have BX : Blk wb w.heap.size 28 [.int .i64 wd, .slice p1 n1 c1, .slice p2 n2 c2, .int .i64 tp, .slice p3 n3 c3, .slice p4 n4 c4] := by rw [HWB.out]; exact (Blk.new w _ _).alloc _
  have BT : Blk wb (w.heap.size + 1) 273 [.int .i64 9, .slice (some ⟨kb, ko, none⟩) 2 kc] := by rw [HWB.out]; simpa using Blk.new (w.alloc _) 273 [.int .i64 9, .slice (some ⟨kb, ko, none⟩) 2 kc]
  have hbb : Below w.heap.size w wb := by rw [HWB.out]; exact ((Below.refl _ _).alloc (Nat.le_refl _) _).alloc (by simp) _
  obtain ⟨R, HR⟩ : ∃ R, Hid ((headT sz 9 0 kids || Tr.traps sz kids) = R) := ⟨_, rfl⟩
  have HRR : Hid ((Tr.node 9 0 kids).trap sz = R) := Lib.hid (by rw [← HR.out]; simp only [Tr.trap])
  rw [HRR.out]
  have HA := Lib.hid ha
  have HBX := Lib.hid BX
  have HBF := Lib.hid hbb
  obtain ⟨b, HBB⟩ : ∃ b, Hid (isNumB 1 255 (kids.getD 1 default) = b) := ⟨_, rfl⟩
  have HHD : Hid (headT sz 9 0 kids = !b) := Lib.hid (by
    rw [headT, HBB.out]
    simp)
  have HNW : Hid (Calls Tryz.prog 164 #[.iface u1 y1, .int .i64 1, .int .i64 255] wb fun e w'' => e = .returned (.bool b) ∧ Below wb.heap.size wb w'') := Lib.hid (by
    rw [← HBB.out]; exact isNumWithin_any _ _ _ 1 255 wb (hk1.keep (keeps_below hbb)))
  have hcb : wb.cell? ⟨kb, ko + 1, none⟩ = some (.iface u1 y1) := (hbb.cell hbl).trans hc1
  have hcr := hcb
  rw [HWB.out] at hcr
  have HRW : Hid (RowV wb (fun _ => True) (some ⟨kb, ko, none⟩) 2 vs) := Lib.hid (hrow0.keep (keeps_below hbb))
  have t0 := BX.cell (j := 0) rfl
  have t1 := BX.cell (j := 1) rfl
  have t2 := BX.cell (j := 2) rfl
  have t3 := BX.cell (j := 3) rfl
  have t4 := BX.cell (j := 4) rfl
  have t5 := BX.cell (j := 5) rfl
  have t6 := BT.cell (j := 0) rfl
  have t7 := BT.cell (j := 1) rfl
  clear BX BT hbb ha hrow0 hc1 hk1
  cases b
  · have HT : Hid (R = true) := Lib.hid (by rw [← HR.out, HHD.out]; rfl)
    go_enter Tryz.func208, Tryz.ntmps208
    go_wp2_with fail
    rw [← HWB.out]
    refine HNW.out.mono ?_
    rintro e w3 ⟨rfl, hb3⟩
    have HF := Lib.hid (HBF.out.trans (hb3.mono HBF.out.size))
    go_wp2
    go_ret
    exact ⟨by rw [HT.out]; rfl, HF.out⟩
  · have HEAD : Hid (headT sz 9 0 kids = false) := Lib.hid (by rw [HHD.out]; rfl)
    go_enter Tryz.func208, Tryz.ntmps208
    go_wp2_with fail
    rw [← HWB.out]
    refine HNW.out.mono ?_
    rintro e w3 ⟨rfl, hb3⟩
    go_wp2_with fail
    refine (op_under _ _ _ _ _).mono ?_
    rintro e w1 ⟨rfl, hb1⟩
    have hwb1 := hb3.trans (hb1.mono hb3.size)
    clear hb3 hcb hcr
    have hrow := HRW.out.keep (keeps_below hwb1)
    have HB1 := Lib.hid (HBF.out.trans (hwb1.mono HBF.out.size))
    have HBOX := Lib.hid (HBX.out.below hwb1 HBX.out.lt)
    have HARR := Lib.hid (HA.out.below HB1.out)
    have HKIDS := Lib.hid (show ∀ i, i < 2 → IsTree w1 (fun _ => True) (vs.getD i .nilIface) (kids.getD i default) from fun i hi => (hkids0.out i hi).keep (keeps_below HB1.out))
    clear hb1 hwb1 t0 t1 t2 t3 t4 t5 t6 t7 q1 q2
    go_wp2
    go_loopw [48] (fun i wr => ∃ k : Nat, k ≤ 2 ∧ i = .int .i64 (k : Int) ∧ Hid (Tr.traps sz ((kids).take k) = false) ∧ Below w1.heap.size w1 wr) (fun i _ => 2 - (intOf i).toNat)
    case atStart => exact ⟨0, Nat.zero_le _, rfl, Lib.hid rfl, Below.refl _ _⟩
    case round =>
      obtain ⟨k, hk, rfl, hno, hbel⟩ := hrel
      by_cases hlt : k < 2
      · obtain ⟨kb, ko, hka, hbl, hcell⟩ := (hrow.keep (keeps_below hbel)).at_ hlt
        have hkid := (HKIDS.out k hlt).keep (keeps_below hbel)
        injection hka with hka; injection hka with e1 e2; subst e1 e2
        obtain ⟨u, y, hv⟩ := hkid.iface
        rw [hv] at hcell hkid
        clear hv
        have hkl := flats_take_le (kids) k (by have := hkl0.out; omega)
        have hko := oks_getD hok3 (i := k) (by have := hkl0.out; omega)
        have hkn : ∀ t ∈ ((kids).getD k default).flat, t.1 = 2 → t.2 < (sz.length : Int) := fun t ht => hnm3.out t (mem_flats_getD ht (by have := hkl0.out; omega))
        have HS := Lib.hid (traps_take_succ sz (kids) k (by have := hkl0.out; omega))
        have HOF := Lib.hid (traps_of sz (kids) k (by have := hkl0.out; omega))
        have hq3 : ((kids).getD k default).flat.length ≤ N := by omega
        have HX := HBOX.out.below hbel HBOX.out.lt
        have t0 := HX.cell (j := 0) rfl
        have t1 := HX.cell (j := 1) rfl
        have t2 := HX.cell (j := 2) rfl
        have t3 := HX.cell (j := 3) rfl
        have t4 := HX.cell (j := 4) rfl
        have t5 := HX.cell (j := 5) rfl
        generalize (kids).getD k default = T1 at *
        have HC := Lib.hid (ih.out T1 (.iface u y) wd tp p1 p2 p3 p4 n1 n2 n3 n4 c1 c2 c3 c4 wr hq3 hko hkn hkid (HARR.out.below hbel) hpos)
        obtain ⟨b, HBB⟩ : ∃ b, Hid (T1.trap sz = b) := ⟨_, rfl⟩
        rw [HBB.out] at HC HS HOF
        have HBEL := Lib.hid hbel
        clear HX hkid hkl hko hkn hq3 hbel hbl
        cases b with
        | true =>
          have HT : Hid (R = true) := Lib.hid (by rw [← HR.out, HOF.out rfl]; simp)
          go_wp2_with fail
          refine HC.out.mono ?_
          rintro e w4 ⟨rfl, hb4⟩
          have HF := Lib.hid (HB1.out.trans ((HBEL.out.trans (hb4.mono HBEL.out.size)).mono HB1.out.size))
          clear t0 t1 t2 t3 t4 t5 hcell hb4
          go_wp2
          go_ret
          exact ⟨by rw [HT.out]; rfl, HF.out⟩
        | false =>
          have HS2 : Hid (Tr.traps sz ((kids).take (k + 1)) = false) := Lib.hid (by rw [HS.out, hno.out]; rfl)
          go_wp2_with fail
          refine HC.out.mono ?_
          rintro e w4 ⟨rfl, hb4⟩
          have hbf := HBEL.out.trans (hb4.mono HBEL.out.size)
          clear t0 t1 t2 t3 t4 t5 hcell hb4
          go_wp2
          go_roundw
          case rel => exact ⟨k + 1, by omega, by go_num, HS2, hbf⟩
          case measure => simp [intOf]; omega
      · obtain rfl : 2 = k := by omega
        have HT : Hid (R = false) := Lib.hid (by
          have e : (kids).take 2 = kids := List.take_of_length_le (by have := hkl0.out; omega)
          have := hno.out
          rw [e] at this
          rw [← HR.out, HEAD.out, this]
          rfl)
        have HF := Lib.hid (HB1.out.trans (hbel.mono HB1.out.size))
        clear hbel
        go_wp2
        go_ret
        exact ⟨by rw [HT.out]; rfl, HF.out⟩
set_option maxRecDepth 100000 in
set_option maxHeartbeats 2400000 in
theorem trap_oth (N : Nat) (sz : List Int) (ih : Hid (TrapSaid N sz)) (k0 : Int) (ka : Option Addr) (m kc : Nat) (vs : List Value) (kids : List Tr) (wd tp : Int) (p1 p2 p3 p4 : Option Addr) (n1 n2 n3 n4 c1 c2 c3 c4 : Nat) (w : World) (hN : (Tr.node k0 0 kids).flat.length ≤ N + 1) (hok : (Tr.node k0 0 kids).okT) (hnm : ∀ t ∈ (Tr.node k0 0 kids).flat, t.1 = 2 → t.2 < (sz.length : Int)) (h8 : ¬ k0 = 8) (h9 : ¬ k0 = 9) (h3 : 3 ≤ k0) (hm3 : m ≤ 3) (hkl0 : Hid (kids.length = m)) (hrow0 : RowV w (fun _ => True) ka m vs) (hkids0 : Hid (∀ i, i < m → IsTree w (fun _ => True) (vs.getD i .nilIface) (kids.getD i default))) (ha : Ints w p3 n3 sz) (hpos : Hid (∀ z ∈ sz, 0 ≤ z)) :
    Calls Tryz.prog 208 #[.agg #[.int .i64 wd, .slice p1 n1 c1, .slice p2 n2 c2, .int .i64 tp, .slice p3 n3 c3, .slice p4 n4 c4], .iface 273 (.agg #[.int .i64 k0, .slice ka m kc])] w fun e w' => e = .returned (.bool ((Tr.node k0 0 kids).trap sz)) ∧ Below w.heap.size w w' := by
  have m1 := m_op_under (.int .i64 k0) (.slice ka m kc)
  have q1 := tm_op_cell (.agg #[.int .i64 k0, .slice ka m kc])
  have q2 := tm_op_op (.agg #[.int .i64 k0, .slice ka m kc])
  simp only [Tr.okT] at hok
  have hok3 := hok.2.2
  clear hok
  have hnm3 : Hid (∀ t ∈ Tr.flats kids, t.1 = 2 → t.2 < (sz.length : Int)) := Lib.hid (fun t ht => hnm t (by simp only [Tr.flat]; exact List.mem_append_left _ ht))
  clear hnm
  simp only [Tr.flat, List.length_append, List.length_singleton] at hN
  obtain ⟨wb, HWB⟩ : ∃ wb, Hid (wb = (w.alloc (.cells #[.int .i64 wd, .slice p1 n1 c1, .slice p2 n2 c2, .int .i64 tp, .slice p3 n3 c3, .slice p4 n4 c4] 28)).alloc (.cells #[.int .i64 k0, .slice ka m kc] 273)) := ⟨_, rfl⟩
  have BX : Blk wb w.heap.size 28 [.int .i64 wd, .slice p1 n1 c1, .slice p2 n2 c2, .int .i64 tp, .slice p3 n3 c3, .slice p4 n4 c4] := by rw [HWB.out]; exact (Blk.new w _ _).alloc _
  have BT : Blk wb (w.heap.size + 1) 273 [.int .i64 k0, .slice ka m kc] := by rw [HWB.out]; simpa using Blk.new (w.alloc _) 273 [.int .i64 k0, .slice ka m kc]
  have hbb : Below w.heap.size w wb := by rw [HWB.out]; exact ((Below.refl _ _).alloc (Nat.le_refl _) _).alloc (by simp) _
  obtain ⟨R, HR⟩ : ∃ R, Hid ((headT sz k0 0 kids || Tr.traps sz kids) = R) := ⟨_, rfl⟩
  have HRR : Hid ((Tr.node k0 0 kids).trap sz = R) := Lib.hid (by rw [← HR.out]; simp only [Tr.trap])
  rw [HRR.out]
  have HA := Lib.hid ha
  have HBX := Lib.hid BX
  have HBF := Lib.hid hbb
  have HRW : Hid (RowV wb (fun _ => True) ka m vs) := Lib.hid (hrow0.keep (keeps_below hbb))
  have t0 := BX.cell (j := 0) rfl
  have t1 := BX.cell (j := 1) rfl
  have t2 := BX.cell (j := 2) rfl
  have t3 := BX.cell (j := 3) rfl
  have t4 := BX.cell (j := 4) rfl
  have t5 := BX.cell (j := 5) rfl
  have t6 := BT.cell (j := 0) rfl
  have t7 := BT.cell (j := 1) rfl
  clear BX BT hbb ha hrow0
  have HEAD : Hid (headT sz k0 0 kids = false) := Lib.hid (by simp [headT, h8, h9]; omega)
  go_enter Tryz.func208, Tryz.ntmps208
  go_wp2_with fail
  try rw [← HWB.out]
  go_wp2_with fail
  refine (op_under _ _ _ _ _).mono ?_
  rintro e w1 ⟨rfl, hb1⟩
  have hwb1 := hb1
  have hrow := HRW.out.keep (keeps_below hwb1)
  have HB1 := Lib.hid (HBF.out.trans (hwb1.mono HBF.out.size))
  have HBOX := Lib.hid (HBX.out.below hwb1 HBX.out.lt)
  have HARR := Lib.hid (HA.out.below HB1.out)
  have HKIDS := Lib.hid (show ∀ i, i < m → IsTree w1 (fun _ => True) (vs.getD i .nilIface) (kids.getD i default) from fun i hi => (hkids0.out i hi).keep (keeps_below HB1.out))
  clear hb1 hwb1 t0 t1 t2 t3 t4 t5 t6 t7 q1 q2
  go_wp2
  go_loopw [48] (fun i wr => ∃ k : Nat, k ≤ m ∧ i = .int .i64 (k : Int) ∧ Hid (Tr.traps sz ((kids).take k) = false) ∧ Below w1.heap.size w1 wr) (fun i _ => m - (intOf i).toNat)
  case atStart => exact ⟨0, Nat.zero_le _, rfl, Lib.hid rfl, Below.refl _ _⟩
  case round =>
    obtain ⟨k, hk, rfl, hno, hbel⟩ := hrel
    by_cases hlt : k < m
    · obtain ⟨kb, ko, hka, hbl, hcell⟩ := (hrow.keep (keeps_below hbel)).at_ hlt
      have hkid := (HKIDS.out k hlt).keep (keeps_below hbel)
      subst hka
      obtain ⟨u, y, hv⟩ := hkid.iface
      rw [hv] at hcell hkid
      clear hv
      have hkl := flats_take_le (kids) k (by have := hkl0.out; omega)
      have hko := oks_getD hok3 (i := k) (by have := hkl0.out; omega)
      have hkn : ∀ t ∈ ((kids).getD k default).flat, t.1 = 2 → t.2 < (sz.length : Int) := fun t ht => hnm3.out t (mem_flats_getD ht (by have := hkl0.out; omega))
      have HS := Lib.hid (traps_take_succ sz (kids) k (by have := hkl0.out; omega))
      have HOF := Lib.hid (traps_of sz (kids) k (by have := hkl0.out; omega))
      have hq3 : ((kids).getD k default).flat.length ≤ N := by omega
      have HX := HBOX.out.below hbel HBOX.out.lt
      have t0 := HX.cell (j := 0) rfl
      have t1 := HX.cell (j := 1) rfl
      have t2 := HX.cell (j := 2) rfl
      have t3 := HX.cell (j := 3) rfl
      have t4 := HX.cell (j := 4) rfl
      have t5 := HX.cell (j := 5) rfl
      generalize (kids).getD k default = T1 at *
      have HC := Lib.hid (ih.out T1 (.iface u y) wd tp p1 p2 p3 p4 n1 n2 n3 n4 c1 c2 c3 c4 wr hq3 hko hkn hkid (HARR.out.below hbel) hpos)
      obtain ⟨b, HBB⟩ : ∃ b, Hid (T1.trap sz = b) := ⟨_, rfl⟩
      rw [HBB.out] at HC HS HOF
      have HBEL := Lib.hid hbel
      clear HX hkid hkl hko hkn hq3 hbel hbl
      cases b with
      | true =>
        have HT : Hid (R = true) := Lib.hid (by rw [← HR.out, HOF.out rfl]; simp)
        go_wp2_with fail
        refine HC.out.mono ?_
        rintro e w4 ⟨rfl, hb4⟩
        have HF := Lib.hid (HB1.out.trans ((HBEL.out.trans (hb4.mono HBEL.out.size)).mono HB1.out.size))
        clear t0 t1 t2 t3 t4 t5 hcell hb4
        go_wp2
        go_ret
        exact ⟨by rw [HT.out]; rfl, HF.out⟩
      | false =>
        have HS2 : Hid (Tr.traps sz ((kids).take (k + 1)) = false) := Lib.hid (by rw [HS.out, hno.out]; rfl)
        go_wp2_with fail
        refine HC.out.mono ?_
        rintro e w4 ⟨rfl, hb4⟩
        have hbf := HBEL.out.trans (hb4.mono HBEL.out.size)
        clear t0 t1 t2 t3 t4 t5 hcell hb4
        go_wp2
        go_roundw
        case rel => exact ⟨k + 1, by omega, by go_num, HS2, hbf⟩
        case measure => simp [intOf]; omega
    · obtain rfl : m = k := by omega
      have HT : Hid (R = false) := Lib.hid (by
        have e : (kids).take m = kids := List.take_of_length_le (by have := hkl0.out; omega)
        have := hno.out
        rw [e] at this
        rw [← HR.out, HEAD.out, this]
        rfl)
      have HF := Lib.hid (HB1.out.trans (hbel.mono HB1.out.size))
      clear hbel
      go_wp2
      go_ret
      exact ⟨by rw [HT.out]; rfl, HF.out⟩
end Go.Proofs.YtbnpoliogldohaaGreat
/- The contracts of the program's treeMayTrap (whatever the tree), expMayTrap and MayTrap. -/
namespace Go.Proofs.YtbnpoliogldohaaGreat
open Go.RowKit

theorem code_arrays {p : Prg} (h : codeB p = 0) : ∀ z ∈ p.arrays, 0 ≤ z := by
  unfold codeB at h
  split at h
  · exact absurd h (by decide)
  split at h
  · exact absurd h (by decide)
  split at h
  · exact absurd h (by decide)
  rename_i h1 h2 h3
  have hr : roomB p = true := by simpa using h3
  simp only [roomB, Bool.and_eq_true, decide_eq_true_eq, List.all_eq_true] at hr
  intro z hz
  have := hr.2 z hz
  omega
/-- May these Terms stand in a body of the program? -/
def standQ (p : Prg) (ts : List Tm) : Bool := bodyB (2 ^ p.width.toNat) (p.lows.length + p.secrets.length + p.temps.toNat) p.arrays.length ts
theorem standQ_tree {p : Prg} {ts : List Tm} (h : standQ p ts = true) : ∃ T : Tr, stackOf ts = [T] ∧ ts = T.flat ∧ T.okT ∧ ts.length ≤ 40 ∧ runD 0 ts = some 1 ∧ ∀ t ∈ ts, nameOk (2 ^ p.width.toNat) (p.lows.length + p.secrets.length + p.temps.toNat) p.arrays.length t = true := by
  simp only [standQ, bodyB, namesB, Bool.and_eq_true, decide_eq_true_eq, List.all_eq_true, bne_iff_ne] at h
  obtain ⟨h1, h2, h3, h4⟩ := h
  have hr := ((expB_iff ts).1 h3).2
  obtain ⟨op, n, kids, hs, he, ho, hk, hks⟩ := tree_of hr
  exact ⟨.node op n kids, hs, by rw [he]; rfl, by simp only [Tr.okT]; exact ⟨ho, hk, hks⟩, h2, hr, h4⟩
/-- What MayTrap answers. -/
noncomputable def trapQ (p : Prg) (ts : List Tm) : Bool := (codeB p == 0) && (standQ p ts && Tr.traps p.arrays (stackOf ts))

theorem trap_all (sz : List Int) : ∀ N, TrapSaid N sz := by
  intro N
  induction N with
  | zero => intro T v wd tp p1 p2 p3 p4 n1 n2 n3 n4 c1 c2 c3 c4 w hN; have := flat_pos T; omega
  | succ N ih =>
    have IH := Lib.hid ih
    clear ih
    intro T v wd tp p1 p2 p3 p4 n1 n2 n3 n4 c1 c2 c3 c4 w hN hok hnm hT ha hpos
    cases hT with
    | num x => exact trap_num N sz IH x wd tp p1 p2 p3 p4 n1 n2 n3 n4 c1 c2 c3 c4 w hN hok hnm ha hpos
    | var x => exact trap_var N sz IH x wd tp p1 p2 p3 p4 n1 n2 n3 n4 c1 c2 c3 c4 w hN hok hnm ha hpos
    | cell x v0 T0 h0 =>
      obtain ⟨u0, x0, rfl⟩ := h0.iface
      obtain ⟨j, rfl⟩ : ∃ j : Nat, x = (j : Int) := by
        have h := hok
        simp only [Tr.okT] at h
        obtain ⟨_, h2, _, _⟩ := (tOkB_iff _).1 h.1
        simp only [] at h2
        exact ⟨x.toNat, by omega⟩
      exact trap_cell N sz IH j u0 x0 T0 wd tp p1 p2 p3 p4 n1 n2 n3 n4 c1 c2 c3 c4 w hN hok hnm h0 ha hpos
    | op k0 ka m kc vs kids h1 h2 h3 h4 h5 h6 =>
      have hk2 : (kids.length : Int) = takesI k0 := by
        have h := hok
        simp only [Tr.okT] at h
        exact h.2.1
      by_cases h8 : k0 = 8
      · subst h8
        obtain rfl : m = 2 := by
          have : takesI 8 = 2 := rfl
          omega
        exact trap_div N sz IH ka kc vs kids wd tp p1 p2 p3 p4 n1 n2 n3 n4 c1 c2 c3 c4 w hN hok hnm (Lib.hid h4) h5 (Lib.hid h6) ha hpos
      · by_cases h9 : k0 = 9
        · subst h9
          obtain rfl : m = 2 := by
            have : takesI 9 = 2 := rfl
            omega
          exact trap_mod N sz IH ka kc vs kids wd tp p1 p2 p3 p4 n1 n2 n3 n4 c1 c2 c3 c4 w hN hok hnm (Lib.hid h4) h5 (Lib.hid h6) ha hpos
        · exact trap_oth N sz IH k0 ka m kc vs kids wd tp p1 p2 p3 p4 n1 n2 n3 n4 c1 c2 c3 c4 w hN hok hnm h8 h9 h1 h3 (Lib.hid h4) h5 (Lib.hid h6) ha hpos
set_option maxHeartbeats 1600000 in
theorem expMayTrap_any (r : PRow) (p : Prg) (a : Option Addr) (n c : Nat) (ts : List Tm) (w : World) (h : ProgAt w r p) (hz : codeB p = 0) (ht : Terms w a n ts) :
    Calls Tryz.prog 166 #[progV r, .slice a n c] w fun e w' => e = .returned (.bool (standQ p ts && Tr.traps p.arrays (stackOf ts))) ∧ Below w.heap.size w w' := by
  have HST : Hid (∀ w', Below w.heap.size w w' → Calls Tryz.prog 207 #[progV r, .slice a n c] w' fun e w'' => e = .returned (.bool (standQ p ts)) ∧ Below w'.heap.size w' w'') := Lib.hid (fun w' hw => mayStand_any r _ _ _ _ a n c ts w' (code_lim h hz) (ht.below (Nat.le_refl _) hw))
  have HTR : Hid (standQ p ts = true → ∃ T, Hid (stackOf ts = [T]) ∧ (∀ w', Below w.heap.size w w' → Calls Tryz.prog 165 #[.slice a n c] w' fun e w'' => ∃ u z, e = .returned (.iface u z) ∧ IsTree w'' (fun _ => True) (.iface u z) T ∧ Below w'.heap.size w' w'') ∧ (∀ w' u z, Below w.heap.size w w' → IsTree w' (fun _ => True) (.iface u z) T → Calls Tryz.prog 208 #[progV r, .iface u z] w' fun e w'' => e = .returned (.bool (T.trap p.arrays)) ∧ Below w'.heap.size w' w'')) := by
    refine Lib.hid fun hs => ?_
    obtain ⟨T, h1, h2, h3, h5, h6, h7⟩ := standQ_tree hs
    refine ⟨T, Lib.hid h1, fun w' hw => treeOf_any a n c ts T w' (ht.below (Nat.le_refl _) hw) (by have := ht.1; omega) (Lib.hid h6) (Lib.hid h1), fun w' u z hw hI => ?_⟩
    have hnm : ∀ t ∈ T.flat, t.1 = 2 → t.2 < (p.arrays.length : Int) := fun t hm e => by
      have := h7 t (by rw [h2]; exact hm)
      unfold nameOk at this
      rw [if_neg (by omega), if_neg (by omega), if_pos e] at this
      simpa using this
    obtain ⟨wd, ⟨a1, n1, c1⟩, ⟨a2, n2, c2⟩, tp, ⟨a3, n3, c3⟩, ⟨a4, n4, c4⟩, rows⟩ := r
    exact trap_all p.arrays _ T (.iface u z) wd tp a1 a2 a3 a4 n1 n2 n3 n4 c1 c2 c3 c4 w' (Nat.le_refl _) h3 hnm hI (h.arrays.below hw) (Lib.hid (code_arrays hz))
  obtain ⟨wd, ⟨a1, n1, c1⟩, ⟨a2, n2, c2⟩, tp, ⟨a3, n3, c3⟩, ⟨a4, n4, c4⟩, rows⟩ := r
  clear h ht hz
  show Calls Tryz.prog 166 #[.agg #[.int .i64 wd, .slice a1 n1 c1, .slice a2 n2 c2, .int .i64 tp, .slice a3 n3 c3, .slice a4 n4 c4], .slice a n c] w _
  obtain ⟨wa, HW⟩ : ∃ wa, Hid (wa = w.alloc (.cells #[.int .i64 wd, .slice a1 n1 c1, .slice a2 n2 c2, .int .i64 tp, .slice a3 n3 c3, .slice a4 n4 c4] 28)) := ⟨_, rfl⟩
  have B : Blk wa w.heap.size 28 [.int .i64 wd, .slice a1 n1 c1, .slice a2 n2 c2, .int .i64 tp, .slice a3 n3 c3, .slice a4 n4 c4] := by rw [HW.out]; exact Blk.new w _ _
  have HB : Below w.heap.size w wa := by rw [HW.out]; exact (Below.refl _ _).alloc (Nat.le_refl _) _
  have HBB := Lib.hid B
  have HBF := Lib.hid HB
  have t0 := B.cell (j := 0) rfl
  have t1 := B.cell (j := 1) rfl
  have t2 := B.cell (j := 2) rfl
  have t3 := B.cell (j := 3) rfl
  have t4 := B.cell (j := 4) rfl
  have t5 := B.cell (j := 5) rfl
  have HD : Below wa.heap.size wa wa.drew := ⟨rfl, rfl, rfl, Nat.le_refl _, fun _ _ => rfl⟩
  cases hs : standQ p ts with
  | false =>
    rw [hs] at HST
    have HS1 := HST
    clear HST HTR hs
    go_enter Tryz.func166, Tryz.ntmps166
    go_wp2_with fail
    rw [← HW.out]
    have g0 := lat_cell B.lt (B.cell (j := 0) rfl)
    have g1 := lat_cell B.lt (B.cell (j := 1) rfl)
    have g2 := lat_cell B.lt (B.cell (j := 2) rfl)
    have g3 := lat_cell B.lt (B.cell (j := 3) rfl)
    have g4 := lat_cell B.lt (B.cell (j := 4) rfl)
    have g5 := lat_cell B.lt (B.cell (j := 5) rfl)
    have HC1 : Hid (∀ q : Lat wa, Calls Tryz.prog 207 #[.agg #[.int .i64 wd, .slice a1 n1 c1, .slice a2 n2 c2, .int .i64 tp, .slice a3 n3 c3, .slice a4 n4 c4], .slice a n c] q.wd fun e w' => e = .returned (.bool false) ∧ Below q.wd.heap.size q.wd w') := Lib.hid (fun q => HS1.out q.wd (HBF.out.trans (q.ok.mono HBF.out.size)))
    clear B
    refine wp_region_lat (by kernel_rfl) (by kernel_rfl) ?_
    repeat (go_big_quiet_step ((go_at_call 207; exact lat_calls (HC1.out _))))
    refine wpQuiet_nil ?_
    intro _ hw'
    obtain ⟨⟨wq, hwq⟩, hw''⟩ := hw'
    subst hw''
    have HF := Lib.hid (HBF.out.trans (hwq.mono HBF.out.size))
    clear g0 g1 g2 g3 g4 g5 HC1 hwq
    go_wp2
    go_ret
    exact ⟨rfl, HF.out⟩
  | true =>
    rw [hs] at HST
    have HS1 := HST
    obtain ⟨T, HT1, hTR, hTM⟩ := HTR.out hs
    have HTR1 := Lib.hid hTR
    have HTM := Lib.hid hTM
    obtain ⟨b, HBV⟩ : ∃ b, Hid (T.trap p.arrays = b) := ⟨_, rfl⟩
    rw [HBV.out] at HTM
    have HX : Hid ((true && Tr.traps p.arrays (stackOf ts)) = b) := Lib.hid (by rw [HT1.out]; simp [Tr.traps, HBV.out])
    rw [HX.out]
    clear HST HTR hs B hTR hTM HT1 HBV HX
    go_enter Tryz.func166, Tryz.ntmps166
    go_wp2_with fail
    rw [← HW.out]
    go_region_held3 (fun w' => w'.cell? ⟨w.heap.size, 0, none⟩ = some (.int .i64 wd) ∧ w'.cell? ⟨w.heap.size, 1, none⟩ = some (.slice a1 n1 c1) ∧ w'.cell? ⟨w.heap.size, 2, none⟩ = some (.slice a2 n2 c2) ∧ w'.cell? ⟨w.heap.size, 3, none⟩ = some (.int .i64 tp) ∧ w'.cell? ⟨w.heap.size, 4, none⟩ = some (.slice a3 n3 c3) ∧ w'.cell? ⟨w.heap.size, 5, none⟩ = some (.slice a4 n4 c4)) (first | (refine ⟨?_, ?_, ?_, ?_, ?_, ?_⟩ <;> assumption) | go_keep | (refine ⟨?_, ?_, ?_, ?_, ?_, ?_⟩ <;> go_keep)) (first
      | (go_at_call 207; refine (HS1.out _ (HB.trans (HD.mono HB.size))).mono ?_; rintro e w3 ⟨rfl, hb3⟩; have HB3 : Below wa.heap.size wa w3 := HD.trans (hb3.mono HD.size); have B3 := HBB.out.below HB3 HBB.out.lt; have u0 := B3.cell (j := 0) rfl; have u1 := B3.cell (j := 1) rfl; have u2 := B3.cell (j := 2) rfl; have u3 := B3.cell (j := 3) rfl; have u4 := B3.cell (j := 4) rfl; have u5 := B3.cell (j := 5) rfl; clear B3 hb3)
      | (go_at_call 165; refine (HTR1.out _ (HB.trans (HB3.mono HB.size))).mono ?_; rintro e w4 ⟨u, z, rfl, hI, hb4⟩; have HB4 : Below wa.heap.size wa w4 := HB3.trans (hb4.mono HB3.size); have B4 := HBB.out.below HB4 HBB.out.lt; have v0 := B4.cell (j := 0) rfl; have v1 := B4.cell (j := 1) rfl; have v2 := B4.cell (j := 2) rfl; have v3 := B4.cell (j := 3) rfl; have v4 := B4.cell (j := 4) rfl; have v5 := B4.cell (j := 5) rfl; have HI := Lib.hid hI; clear B4 hb4 hI)
      | (go_at_call 208; refine (HTM.out w4 u z (HB.trans (HB4.mono HB.size)) HI.out).mono ?_; rintro e w5 ⟨rfl, hb5⟩; have HB5 : Below wa.heap.size wa w5 := HB4.trans (hb5.mono HB4.size); have B5 := HBB.out.below HB5 HBB.out.lt; have x0 := B5.cell (j := 0) rfl; have x1 := B5.cell (j := 1) rfl; have x2 := B5.cell (j := 2) rfl; have x3 := B5.cell (j := 3) rfl; have x4 := B5.cell (j := 4) rfl; have x5 := B5.cell (j := 5) rfl; clear B5 hb5))
    all_goals
      have HF := Lib.hid (HBF.out.trans (HB5.mono HBF.out.size))
      go_wp2
      go_ret
      exact ⟨rfl, HF.out⟩
end Go.Proofs.YtbnpoliogldohaaGreat
