/- The contract of the program's textOf: an expression in words. -/
import Derived.Test.YtjboghmcmlkpoaaGreatDoorJ13
import Derived.Test.YtjboghmcmlkpoaaGreatDoorJ16
import Derived.Test.YtjboghmcmlkpoaaGreatDoorJ14
import Derived.Test.YtjboghmcmlkpoaaGreatDoorJ17
import Derived.Deep.RegionHeld3
namespace Go.Proofs.YtjboghmcmlkpoaaGreatDoor
open Go.RowKit

theorem ty_num_num (x : Value) (w : World) : (Instr.typeAssert (.iface 161 x) 110 161 true).run Tryz.prog w = .ok (.tuple #[x, .bool true]) w := by kernel_rfl
theorem ty_var_num (x : Value) (w : World) : (Instr.typeAssert (.iface 163 x) 110 161 true).run Tryz.prog w = .ok (.tuple #[.agg #[.int .i64 0], .bool false]) w := by kernel_rfl
theorem ty_var_var (x : Value) (w : World) : (Instr.typeAssert (.iface 163 x) 110 163 true).run Tryz.prog w = .ok (.tuple #[x, .bool true]) w := by kernel_rfl
theorem ty_cell_num (x : Value) (w : World) : (Instr.typeAssert (.iface 165 x) 110 161 true).run Tryz.prog w = .ok (.tuple #[.agg #[.int .i64 0], .bool false]) w := by kernel_rfl
theorem ty_cell_var (x : Value) (w : World) : (Instr.typeAssert (.iface 165 x) 110 163 true).run Tryz.prog w = .ok (.tuple #[.agg #[.int .i64 0], .bool false]) w := by kernel_rfl
theorem ty_cell_cell (x : Value) (w : World) : (Instr.typeAssert (.iface 165 x) 110 165 true).run Tryz.prog w = .ok (.tuple #[x, .bool true]) w := by kernel_rfl
theorem ty_op_num (x : Value) (w : World) : (Instr.typeAssert (.iface 216 x) 110 161 true).run Tryz.prog w = .ok (.tuple #[.agg #[.int .i64 0], .bool false]) w := by kernel_rfl
theorem ty_op_var (x : Value) (w : World) : (Instr.typeAssert (.iface 216 x) 110 163 true).run Tryz.prog w = .ok (.tuple #[.agg #[.int .i64 0], .bool false]) w := by kernel_rfl
theorem ty_op_cell (x : Value) (w : World) : (Instr.typeAssert (.iface 216 x) 110 165 true).run Tryz.prog w = .ok (.tuple #[.agg #[.int .i64 0, .nilIface], .bool false]) w := by kernel_rfl
theorem field_op (v0 v1 : Value) (w : World) : Sem.run Tryz.prog (Instr.field 105 (.agg #[v0, v1]) 0) w = .ok v0 w := by kernel_rfl

/-- The variable at block g holds these texts. -/
def StrsAt (w : World) (g : Nat) (ls : List (List UInt8)) : Prop := g < w.heap.size ∧ ∀ k, k < ls.length → w.cell? ⟨g, k, none⟩ = some (.string ⟨(ls.getD k []).toArray⟩)
theorem StrsAt.below {w w' : World} {g : Nat} {ls : List (List UInt8)} (h : StrsAt w g ls) (hb : Below w.heap.size w w') : StrsAt w' g ls :=
  ⟨Nat.lt_of_lt_of_le h.1 hb.size, fun k hk => (hb.cell h.1).trans (h.2 k hk)⟩
/-- What the program's texts ask of the world: the library's table, the signs. -/
structure Tabs (w : World) : Prop where
  pow : Lib.TabIs Tryz.prog w "internal/strconv.uint64pow10" .u64 Lib.pow10Tab
  signs : StrsAt w 2 signsL
theorem Tabs.below {w w' : World} (h : Tabs w) (hb : Below w.heap.size w w') : Tabs w' := ⟨tab_later h.pow hb, h.signs.below hb⟩

theorem name_var {r : PRow} {n : Int} (h : NameHead r) (h0 : 0 ≤ n) (h1 : n < (r.lows.2.1 : Int) + r.secrets.2.1 + r.temps) : nameS r [108, 115, 116] n = varS r.lows.2.1 r.secrets.2.1 n := by
  obtain ⟨_, _, _, ht0, _⟩ := h
  unfold varS
  simp only [nameS, nameFirst, nameCount]
  simp
  by_cases c1 : n < (r.lows.2.1 : Int)
  · rw [if_pos ⟨h0, by omega⟩, if_pos c1]
  rw [if_neg (by omega), if_neg c1]
  by_cases c2 : n < (r.lows.2.1 : Int) + r.secrets.2.1
  · rw [if_pos ⟨by omega, by omega⟩, if_pos c2]
  rw [if_neg (by omega), if_neg c2, if_pos ⟨by omega, by omega⟩, show n - ((r.lows.2.1 : Int) + r.secrets.2.1) = n - r.lows.2.1 - r.secrets.2.1 by omega]
theorem name_array {r : PRow} {n : Int} (h0 : 0 ≤ n) (h1 : n < (r.arrays.2.1 : Int)) : nameS r [109] n = 109 :: Lib.itoa n := by
  simp only [nameS, nameFirst, nameCount]
  simp
  exact ⟨h0, by omega⟩
/-- The Terms name what the head has. -/
def NamedIn (r : PRow) (ts : List Tm) : Prop := ∀ t ∈ ts, (t.1 = 1 → t.2 < (r.lows.2.1 : Int) + r.secrets.2.1 + r.temps) ∧ (t.1 = 2 → t.2 < (r.arrays.2.1 : Int))

/-- What is said of textOf, for trees of at most N Terms. -/
def TextW (r : PRow) (N : Nat) : Prop := ∀ (T : Tr) (v : Value) (w : World), T.flat.length ≤ N → T.okT → (∀ t ∈ T.flat, t.1 ≠ 17) → NamedIn r T.flat → T.flat.length ≤ 3000 → IsTree w (fun _ => True) v T → Tabs w →
  Calls Tryz.prog 69 #[progV r, v] w fun e w' => e = .returned (.string ⟨(T.words r.lows.2.1 r.secrets.2.1).toArray⟩) ∧ Below w.heap.size w w'

section
variable (wd tp : Int) (a1 a2 a3 a4 : Option Addr) (n1 n2 n3 n4 c1 c2 c3 c4 : Nat) (rows : List SRow)
set_option maxHeartbeats 1600000 in
theorem text_num (x : Int) (w : World) (h0 : 0 ≤ x) (h1 : x ≤ 255) (ht : Tabs w) :
    Calls Tryz.prog 69 #[.agg #[.int .i64 wd, .slice a1 n1 c1, .slice a2 n2 c2, .int .i64 tp, .slice a3 n3 c3, .slice a4 n4 c4], .iface 161 (.agg #[.int .i64 x])] w fun e w' => e = .returned (.string ⟨(Lib.itoa x).toArray⟩) ∧ Below w.heap.size w w' := by
  have q1 := ty_num_num (.agg #[.int .i64 x])
  have HT := Lib.hid ht
  clear ht
  have HB : Below w.heap.size w ((w.alloc (.cells #[.int .i64 wd, .slice a1 n1 c1, .slice a2 n2 c2, .int .i64 tp, .slice a3 n3 c3, .slice a4 n4 c4] 28)).alloc (.cells #[.int .i64 x] 161)) := ((Below.refl _ _).alloc (Nat.le_refl _) _).alloc (by simp) _
  go_enter Tryz.func69, Tryz.ntmps69
  go_wp2_with fail
  refine (format_any x _ h0 (by omega) (HT.out.below HB).pow).mono ?_
  rintro e w1 ⟨rfl, hb1⟩
  go_wp2
  go_ret
  exact ⟨rfl, HB.trans (hb1.mono HB.size)⟩
set_option maxHeartbeats 1600000 in
theorem text_var (x : Int) (w : World) (h0 : 0 ≤ x) (h1 : x ≤ 255) (hr : NameHead ⟨wd, (a1, n1, c1), (a2, n2, c2), tp, (a3, n3, c3), (a4, n4, c4), rows⟩) (ht : Tabs w) :
    Calls Tryz.prog 69 #[.agg #[.int .i64 wd, .slice a1 n1 c1, .slice a2 n2 c2, .int .i64 tp, .slice a3 n3 c3, .slice a4 n4 c4], .iface 163 (.agg #[.int .i64 x])] w fun e w' => e = .returned (.string ⟨(nameS ⟨wd, (a1, n1, c1), (a2, n2, c2), tp, (a3, n3, c3), (a4, n4, c4), rows⟩ [108, 115, 116] x).toArray⟩) ∧ Below w.heap.size w w' := by
  have q1 := ty_var_num (.agg #[.int .i64 x])
  have q2 := ty_var_var (.agg #[.int .i64 x])
  have HT := Lib.hid ht
  clear ht
  obtain ⟨wb, HW⟩ : ∃ wb, Hid (wb = ((w.alloc (.cells #[.int .i64 wd, .slice a1 n1 c1, .slice a2 n2 c2, .int .i64 tp, .slice a3 n3 c3, .slice a4 n4 c4] 28)).alloc (.cells #[.int .i64 x] 163)).alloc (.cells #[.string ⟨#[108]⟩, .string ⟨#[115]⟩, .string ⟨#[116]⟩] 9)) := ⟨_, rfl⟩
  have HB : Below w.heap.size w wb := by rw [HW.out]; exact (((Below.refl _ _).alloc (Nat.le_refl _) _).alloc (by simp) _).alloc (by simp; omega) _
  have BL : Blk wb (w.heap.size + 2) 9 [.string ⟨#[108]⟩, .string ⟨#[115]⟩, .string ⟨#[116]⟩] := by rw [HW.out]; have := Blk.new ((w.alloc (.cells #[.int .i64 wd, .slice a1 n1 c1, .slice a2 n2 c2, .int .i64 tp, .slice a3 n3 c3, .slice a4 n4 c4] 28)).alloc (.cells #[.int .i64 x] 163)) 9 [.string ⟨#[108]⟩, .string ⟨#[115]⟩, .string ⟨#[116]⟩]; simpa using this
  have HLT : Letters wb (some ⟨w.heap.size + 2, 0, none⟩) 3 [108, 115, 116] := by
    refine ⟨rfl, by omega, fun c hc => ?_, w.heap.size + 2, 0, rfl, BL.lt, fun i hi => ?_⟩
    · simp at hc; unfold Letter; rcases hc with rfl | rfl | rfl <;> simp
    · have : i = 0 ∨ i = 1 ∨ i = 2 := by omega
      rcases this with rfl | rfl | rfl
      · exact BL.cell (j := 0) rfl
      · exact BL.cell (j := 1) rfl
      · exact BL.cell (j := 2) rfl
  go_enter Tryz.func69, Tryz.ntmps69
  go_wp2_with fail
  rw [← HW.out]
  refine (nameOf_any ⟨wd, (a1, n1, c1), (a2, n2, c2), tp, (a3, n3, c3), (a4, n4, c4), rows⟩ x _ _ _ [108, 115, 116] _ hr HLT h0 h1 (HT.out.below HB).pow).mono ?_
  rintro e w1 ⟨rfl, hb1⟩
  go_wp2
  go_ret
  exact ⟨rfl, HB.trans (hb1.mono HB.size)⟩
set_option maxHeartbeats 3200000 in
theorem text_cell (x : Int) (u : TypeId) (z : Value) (K : List UInt8) (w : World) (h0 : 0 ≤ x) (h1 : x < (n3 : Int)) (h2 : x ≤ 255) (hr : NameHead ⟨wd, (a1, n1, c1), (a2, n2, c2), tp, (a3, n3, c3), (a4, n4, c4), rows⟩) (ht : Tabs w) (hK : K.length ≤ 24000)
    (hkid : ∀ w', Below w.heap.size w w' → Calls Tryz.prog 69 #[.agg #[.int .i64 wd, .slice a1 n1 c1, .slice a2 n2 c2, .int .i64 tp, .slice a3 n3 c3, .slice a4 n4 c4], .iface u z] w' fun e w'' => e = .returned (.string ⟨K.toArray⟩) ∧ Below w'.heap.size w' w'') :
    Calls Tryz.prog 69 #[.agg #[.int .i64 wd, .slice a1 n1 c1, .slice a2 n2 c2, .int .i64 tp, .slice a3 n3 c3, .slice a4 n4 c4], .iface 165 (.agg #[.int .i64 x, .iface u z])] w fun e w' => e = .returned (.string ⟨(109 :: (Lib.itoa x ++ (91 :: (K ++ [93])))).toArray⟩) ∧ Below w.heap.size w w' := by
  have q1 := ty_cell_num (.agg #[.int .i64 x, .iface u z])
  have q2 := ty_cell_var (.agg #[.int .i64 x, .iface u z])
  have q3 := ty_cell_cell (.agg #[.int .i64 x, .iface u z])
  have HT := Lib.hid ht
  have HKID := Lib.hid hkid
  clear ht hkid
  obtain ⟨bx, HBX⟩ : ∃ bx : ByteArray, Hid (bx = ⟨K.toArray⟩) := ⟨_, rfl⟩
  have hbx : bx.size ≤ 24000 := by rw [strSz HBX.out]; exact hK
  obtain ⟨bt, HBT⟩ : ∃ bt : ByteArray, Hid (bt = ⟨(109 :: Lib.itoa x).toArray⟩) := ⟨_, rfl⟩
  have hbt : bt.size ≤ 10 := by rw [strSz HBT.out]; have := digs3 h0 (by omega); simp only [List.length_cons]; omega
  obtain ⟨s1, HS1, z1, k1⟩ := cat_ex bt ⟨#[91]⟩ 10 1 hbt (Nat.le_refl 1) (by omega)
  obtain ⟨s2, HS2, z2, k2⟩ := cat_ex s1 bx (10 + 1) 24000 z1 hbx (by omega)
  obtain ⟨s3, HS3, z3, k3⟩ := cat_ex s2 ⟨#[93]⟩ (10 + 1 + 24000) 1 z2 (Nat.le_refl 1) (by omega)
  rw [← HBX.out] at HKID
  obtain ⟨wb, HW⟩ : ∃ wb, Hid (wb = (w.alloc (.cells #[.int .i64 wd, .slice a1 n1 c1, .slice a2 n2 c2, .int .i64 tp, .slice a3 n3 c3, .slice a4 n4 c4] 28)).alloc (.cells #[.int .i64 x, .iface u z] 165)) := ⟨_, rfl⟩
  have BP : Blk wb w.heap.size 28 [.int .i64 wd, .slice a1 n1 c1, .slice a2 n2 c2, .int .i64 tp, .slice a3 n3 c3, .slice a4 n4 c4] := by rw [HW.out]; exact (Blk.new w _ _).alloc _
  have BT : Blk wb (w.heap.size + 1) 165 [.int .i64 x, .iface u z] := by rw [HW.out]; have := Blk.new (w.alloc (.cells #[.int .i64 wd, .slice a1 n1 c1, .slice a2 n2 c2, .int .i64 tp, .slice a3 n3 c3, .slice a4 n4 c4] 28)) 165 [.int .i64 x, .iface u z]; simpa using this
  have HB : Below w.heap.size w wb := by rw [HW.out]; exact ((Below.refl _ _).alloc (Nat.le_refl _) _).alloc (by simp) _
  have HNM : Hid (∀ (w' : World) (g : Nat), Below wb.heap.size wb w' → g < w'.heap.size → w'.cell? ⟨g, 0, none⟩ = some (.string ⟨#[109]⟩) → Calls Tryz.prog 104 #[.agg #[.int .i64 wd, .slice a1 n1 c1, .slice a2 n2 c2, .int .i64 tp, .slice a3 n3 c3, .slice a4 n4 c4], .int .i64 x, .slice (some ⟨g, 0, none⟩) 1 1] w' fun e w'' => e = .returned (.string bt) ∧ Below w'.heap.size w' w'') := by
    refine Lib.hid fun w' g hb hg hc => ?_
    rw [HBT.out, ← name_array (r := ⟨wd, (a1, n1, c1), (a2, n2, c2), tp, (a3, n3, c3), (a4, n4, c4), rows⟩) h0 h1]
    refine nameOf_any ⟨wd, (a1, n1, c1), (a2, n2, c2), tp, (a3, n3, c3), (a4, n4, c4), rows⟩ x _ _ _ [109] _ hr ⟨rfl, by omega, fun c hc => ?_, g, 0, rfl, hg, fun i hi => ?_⟩ h0 h2 (HT.out.below (HB.trans (hb.mono HB.size))).pow
    · simp at hc; subst hc; unfold Letter; simp
    · obtain rfl : i = 0 := by omega
      exact hc
  have HD : Below wb.heap.size wb wb.drew := ⟨rfl, rfl, rfl, Nat.le_refl _, fun _ _ => rfl⟩
  have HBP := Lib.hid BP
  have HBTT := Lib.hid BT
  have p0 := BP.cell (j := 0) rfl
  have p1 := BP.cell (j := 1) rfl
  have p2 := BP.cell (j := 2) rfl
  have p3 := BP.cell (j := 3) rfl
  have p4 := BP.cell (j := 4) rfl
  have p5 := BP.cell (j := 5) rfl
  have t0 := BT.cell (j := 0) rfl
  have t1 := BT.cell (j := 1) rfl
  clear BP BT
  go_enter Tryz.func69, Tryz.ntmps69
  go_wp2_with fail
  rw [← HW.out]
  go_region_held3 (fun w' => w'.cell? ⟨w.heap.size, 0, none⟩ = some (.int .i64 wd) ∧ w'.cell? ⟨w.heap.size, 1, none⟩ = some (.slice a1 n1 c1) ∧ w'.cell? ⟨w.heap.size, 2, none⟩ = some (.slice a2 n2 c2) ∧ w'.cell? ⟨w.heap.size, 3, none⟩ = some (.int .i64 tp) ∧ w'.cell? ⟨w.heap.size, 4, none⟩ = some (.slice a3 n3 c3) ∧ w'.cell? ⟨w.heap.size, 5, none⟩ = some (.slice a4 n4 c4) ∧ w'.cell? ⟨w.heap.size + 1, 0, none⟩ = some (.int .i64 x) ∧ w'.cell? ⟨w.heap.size + 1, 1, none⟩ = some (.iface u z)) (first | (refine ⟨?_, ?_, ?_, ?_, ?_, ?_, ?_, ?_⟩ <;> assumption) | go_keep | (refine ⟨?_, ?_, ?_, ?_, ?_, ?_, ?_, ?_⟩ <;> go_keep)) (first
    | (go_at_call 104; refine (HNM.out _ _ ?_ ?_ ?_).mono ?_; exact HD.alloc HD.size _; simp; simp; rintro e w3 ⟨rfl, hb3⟩; have HB3 : Below wb.heap.size wb w3 := (HD.alloc HD.size _).trans (hb3.mono (HD.alloc HD.size _).size); have B3 := HBP.out.below HB3 HBP.out.lt; have C3 := HBTT.out.below HB3 HBTT.out.lt; have u0 := B3.cell (j := 0) rfl; have u1 := B3.cell (j := 1) rfl; have u2 := B3.cell (j := 2) rfl; have u3 := B3.cell (j := 3) rfl; have u4 := B3.cell (j := 4) rfl; have u5 := B3.cell (j := 5) rfl; have u6 := C3.cell (j := 0) rfl; have u7 := C3.cell (j := 1) rfl; clear B3 C3 hb3)
    | (go_at_call 69; refine (HKID.out w3 (HB.trans (HB3.mono HB.size))).mono ?_; rintro e w4 ⟨rfl, hb4⟩; have HB4 : Below wb.heap.size wb w4 := HB3.trans (hb4.mono HB3.size); have B4 := HBP.out.below HB4 HBP.out.lt; have C4 := HBTT.out.below HB4 HBTT.out.lt; have v0 := B4.cell (j := 0) rfl; have v1 := B4.cell (j := 1) rfl; have v2 := B4.cell (j := 2) rfl; have v3 := B4.cell (j := 3) rfl; have v4 := B4.cell (j := 4) rfl; have v5 := B4.cell (j := 5) rfl; have v6 := C4.cell (j := 0) rfl; have v7 := C4.cell (j := 1) rfl; clear B4 C4 hb4))
  all_goals
    go_wp2
    go_ret
    exact ⟨ret_str (by rw [HS3.out, HS2.out, HS1.out, HBT.out, HBX.out]; apply ByteArray.ext; simp), HB.trans (HB4.mono HB.size)⟩
set_option maxHeartbeats 3200000 in
theorem text_one_not (kb ko kc : Nat) (w : World) (hkb : kb < w.heap.size) (u0 : TypeId) (z0 : Value) (K0 : List UInt8) (hK0 : K0.length ≤ 24000) (hc0 : w.cell? ⟨kb, ko + 0, none⟩ = some (.iface u0 z0)) (hkid0 : ∀ w', Below w.heap.size w w' → Calls Tryz.prog 69 #[.agg #[.int .i64 wd, .slice a1 n1 c1, .slice a2 n2 c2, .int .i64 tp, .slice a3 n3 c3, .slice a4 n4 c4], .iface u0 z0] w' fun e w'' => e = .returned (.string ⟨K0.toArray⟩) ∧ Below w'.heap.size w' w'') :
    Calls Tryz.prog 69 #[.agg #[.int .i64 wd, .slice a1 n1 c1, .slice a2 n2 c2, .int .i64 tp, .slice a3 n3 c3, .slice a4 n4 c4], .iface 216 (.agg #[.int .i64 3, .slice (some ⟨kb, ko, none⟩) 1 kc])] w fun e w' => e = .returned (.string ⟨(33 :: K0).toArray⟩) ∧ Below w.heap.size w w' := by
  have q1 := ty_op_num (.agg #[.int .i64 3, .slice (some ⟨kb, ko, none⟩) 1 kc])
  have q2 := ty_op_var (.agg #[.int .i64 3, .slice (some ⟨kb, ko, none⟩) 1 kc])
  have q3 := ty_op_cell (.agg #[.int .i64 3, .slice (some ⟨kb, ko, none⟩) 1 kc])
  have m1 := m_op_under (.int .i64 3) (.slice (some ⟨kb, ko, none⟩) 1 kc)
  have m2 := m_op_term (.int .i64 3) (.slice (some ⟨kb, ko, none⟩) 1 kc)
  have m3 := field_op (.int .i64 3) (.int .i64 0)
  obtain ⟨wb, HW⟩ : ∃ wb, Hid (wb = w.alloc (.cells #[.int .i64 wd, .slice a1 n1 c1, .slice a2 n2 c2, .int .i64 tp, .slice a3 n3 c3, .slice a4 n4 c4] 28)) := ⟨_, rfl⟩
  have BP : Blk wb w.heap.size 28 [.int .i64 wd, .slice a1 n1 c1, .slice a2 n2 c2, .int .i64 tp, .slice a3 n3 c3, .slice a4 n4 c4] := by rw [HW.out]; exact Blk.new w _ _
  have HB : Below w.heap.size w wb := by rw [HW.out]; exact (Below.refl _ _).alloc (Nat.le_refl _) _
  obtain ⟨bx0, HBX0⟩ : ∃ bx : ByteArray, Hid (bx = ⟨K0.toArray⟩) := ⟨_, rfl⟩
  have hbx0 : bx0.size ≤ 24000 := by rw [strSz HBX0.out]; exact hK0
  have HKID0 := Lib.hid hkid0
  rw [← HBX0.out] at HKID0
  rw [Nat.add_zero] at hc0
  have HC0 := Lib.hid hc0
  clear hkid0 hc0
  obtain ⟨s1, HS1, z1, k1⟩ := cat_ex ⟨#[33]⟩ bx0 1 24000 (Nat.le_refl 1) hbx0 (by omega)
  go_enter Tryz.func69, Tryz.ntmps69
  go_wp2_with fail
  rw [← HW.out]
  refine (op_term _ _ _ _ _).mono ?_
  rintro e w1 ⟨rfl, hb1⟩
  have BP := BP.below hb1 BP.lt
  have HB := HB.trans (hb1.mono HB.size)
  clear hb1
  go_wp2_with fail
  refine (op_under _ _ _ _ _).mono ?_
  rintro e w2 ⟨rfl, hb2⟩
  have BP := BP.below hb2 BP.lt
  have HB := HB.trans (hb2.mono HB.size)
  clear hb2
  have g0 := lat_cell BP.lt (BP.cell (j := 0) rfl)
  have g1 := lat_cell BP.lt (BP.cell (j := 1) rfl)
  have g2 := lat_cell BP.lt (BP.cell (j := 2) rfl)
  have g3 := lat_cell BP.lt (BP.cell (j := 3) rfl)
  have g4 := lat_cell BP.lt (BP.cell (j := 4) rfl)
  have g5 := lat_cell BP.lt (BP.cell (j := 5) rfl)
  have hk0 := lat_cell (Nat.lt_of_lt_of_le hkb HB.size) ((HB.cell (p := ⟨kb, ko, none⟩) hkb).trans HC0.out)
  skip
  have HX0 : Hid (∀ p : Lat w2, Calls Tryz.prog 69 #[.agg #[.int .i64 wd, .slice a1 n1 c1, .slice a2 n2 c2, .int .i64 tp, .slice a3 n3 c3, .slice a4 n4 c4], .iface u0 z0] p.wd fun e w' => e = .returned (.string bx0) ∧ Below p.wd.heap.size p.wd w') := Lib.hid (fun p => HKID0.out p.wd (HB.trans (p.ok.mono HB.size)))
  go_wp2_with fail
  refine wp_region_lat (by kernel_rfl) (by kernel_rfl) ?_
  repeat (quiet_step ((go_at_call 69; exact lat_calls (HX0.out _))))
  refine wpQuiet_nil ?_
  intro _ hw'
  obtain ⟨⟨wq, hwq⟩, hw''⟩ := hw'
  subst hw''
  go_wp2
  go_ret
  exact ⟨ret_str (by rw [HS1.out, HBX0.out]; apply ByteArray.ext; simp), HB.trans (hwq.mono HB.size)⟩
set_option maxHeartbeats 3200000 in
theorem text_two_neg (kb ko kc : Nat) (w : World) (hkb : kb < w.heap.size) (u0 : TypeId) (z0 : Value) (K0 : List UInt8) (hK0 : K0.length ≤ 24000) (hc0 : w.cell? ⟨kb, ko + 0, none⟩ = some (.iface u0 z0)) (hkid0 : ∀ w', Below w.heap.size w w' → Calls Tryz.prog 69 #[.agg #[.int .i64 wd, .slice a1 n1 c1, .slice a2 n2 c2, .int .i64 tp, .slice a3 n3 c3, .slice a4 n4 c4], .iface u0 z0] w' fun e w'' => e = .returned (.string ⟨K0.toArray⟩) ∧ Below w'.heap.size w' w'') :
    Calls Tryz.prog 69 #[.agg #[.int .i64 wd, .slice a1 n1 c1, .slice a2 n2 c2, .int .i64 tp, .slice a3 n3 c3, .slice a4 n4 c4], .iface 216 (.agg #[.int .i64 4, .slice (some ⟨kb, ko, none⟩) 1 kc])] w fun e w' => e = .returned (.string ⟨(45 :: K0).toArray⟩) ∧ Below w.heap.size w w' := by
  have q1 := ty_op_num (.agg #[.int .i64 4, .slice (some ⟨kb, ko, none⟩) 1 kc])
  have q2 := ty_op_var (.agg #[.int .i64 4, .slice (some ⟨kb, ko, none⟩) 1 kc])
  have q3 := ty_op_cell (.agg #[.int .i64 4, .slice (some ⟨kb, ko, none⟩) 1 kc])
  have m1 := m_op_under (.int .i64 4) (.slice (some ⟨kb, ko, none⟩) 1 kc)
  have m2 := m_op_term (.int .i64 4) (.slice (some ⟨kb, ko, none⟩) 1 kc)
  have m3 := field_op (.int .i64 4) (.int .i64 0)
  obtain ⟨wb, HW⟩ : ∃ wb, Hid (wb = w.alloc (.cells #[.int .i64 wd, .slice a1 n1 c1, .slice a2 n2 c2, .int .i64 tp, .slice a3 n3 c3, .slice a4 n4 c4] 28)) := ⟨_, rfl⟩
  have BP : Blk wb w.heap.size 28 [.int .i64 wd, .slice a1 n1 c1, .slice a2 n2 c2, .int .i64 tp, .slice a3 n3 c3, .slice a4 n4 c4] := by rw [HW.out]; exact Blk.new w _ _
  have HB : Below w.heap.size w wb := by rw [HW.out]; exact (Below.refl _ _).alloc (Nat.le_refl _) _
  obtain ⟨bx0, HBX0⟩ : ∃ bx : ByteArray, Hid (bx = ⟨K0.toArray⟩) := ⟨_, rfl⟩
  have hbx0 : bx0.size ≤ 24000 := by rw [strSz HBX0.out]; exact hK0
  have HKID0 := Lib.hid hkid0
  rw [← HBX0.out] at HKID0
  rw [Nat.add_zero] at hc0
  have HC0 := Lib.hid hc0
  clear hkid0 hc0
  obtain ⟨s1, HS1, z1, k1⟩ := cat_ex ⟨#[45]⟩ bx0 1 24000 (Nat.le_refl 1) hbx0 (by omega)
  go_enter Tryz.func69, Tryz.ntmps69
  go_wp2_with fail
  rw [← HW.out]
  refine (op_term _ _ _ _ _).mono ?_
  rintro e w1 ⟨rfl, hb1⟩
  have BP := BP.below hb1 BP.lt
  have HB := HB.trans (hb1.mono HB.size)
  clear hb1
  go_wp2_with fail
  refine (op_under _ _ _ _ _).mono ?_
  rintro e w2 ⟨rfl, hb2⟩
  have BP := BP.below hb2 BP.lt
  have HB := HB.trans (hb2.mono HB.size)
  clear hb2
  have g0 := lat_cell BP.lt (BP.cell (j := 0) rfl)
  have g1 := lat_cell BP.lt (BP.cell (j := 1) rfl)
  have g2 := lat_cell BP.lt (BP.cell (j := 2) rfl)
  have g3 := lat_cell BP.lt (BP.cell (j := 3) rfl)
  have g4 := lat_cell BP.lt (BP.cell (j := 4) rfl)
  have g5 := lat_cell BP.lt (BP.cell (j := 5) rfl)
  have hk0 := lat_cell (Nat.lt_of_lt_of_le hkb HB.size) ((HB.cell (p := ⟨kb, ko, none⟩) hkb).trans HC0.out)
  skip
  have HX0 : Hid (∀ p : Lat w2, Calls Tryz.prog 69 #[.agg #[.int .i64 wd, .slice a1 n1 c1, .slice a2 n2 c2, .int .i64 tp, .slice a3 n3 c3, .slice a4 n4 c4], .iface u0 z0] p.wd fun e w' => e = .returned (.string bx0) ∧ Below p.wd.heap.size p.wd w') := Lib.hid (fun p => HKID0.out p.wd (HB.trans (p.ok.mono HB.size)))
  go_wp2_with fail
  refine wp_region_lat (by kernel_rfl) (by kernel_rfl) ?_
  repeat (quiet_step ((go_at_call 69; exact lat_calls (HX0.out _))))
  refine wpQuiet_nil ?_
  intro _ hw'
  obtain ⟨⟨wq, hwq⟩, hw''⟩ := hw'
  subst hw''
  go_wp2
  go_ret
  exact ⟨ret_str (by rw [HS1.out, HBX0.out]; apply ByteArray.ext; simp), HB.trans (hwq.mono HB.size)⟩
set_option maxHeartbeats 6400000 in
theorem text_pair (j : Nat) (hj : j ≤ 11) (kb ko kc : Nat) (w : World) (ht : Tabs w) (hkb : kb < w.heap.size) (u0 : TypeId) (z0 : Value) (K0 : List UInt8) (hK0 : K0.length ≤ 24000) (hc0 : w.cell? ⟨kb, ko + 0, none⟩ = some (.iface u0 z0)) (hkid0 : ∀ w', Below w.heap.size w w' → Calls Tryz.prog 69 #[.agg #[.int .i64 wd, .slice a1 n1 c1, .slice a2 n2 c2, .int .i64 tp, .slice a3 n3 c3, .slice a4 n4 c4], .iface u0 z0] w' fun e w'' => e = .returned (.string ⟨K0.toArray⟩) ∧ Below w'.heap.size w' w'') (u1 : TypeId) (z1 : Value) (K1 : List UInt8) (hK1 : K1.length ≤ 24000) (hc1 : w.cell? ⟨kb, ko + 1, none⟩ = some (.iface u1 z1)) (hkid1 : ∀ w', Below w.heap.size w w' → Calls Tryz.prog 69 #[.agg #[.int .i64 wd, .slice a1 n1 c1, .slice a2 n2 c2, .int .i64 tp, .slice a3 n3 c3, .slice a4 n4 c4], .iface u1 z1] w' fun e w'' => e = .returned (.string ⟨K1.toArray⟩) ∧ Below w'.heap.size w' w'') :
    Calls Tryz.prog 69 #[.agg #[.int .i64 wd, .slice a1 n1 c1, .slice a2 n2 c2, .int .i64 tp, .slice a3 n3 c3, .slice a4 n4 c4], .iface 216 (.agg #[.int .i64 ((j : Int) + 5), .slice (some ⟨kb, ko, none⟩) 2 kc])] w fun e w' => e = .returned (.string ⟨(40 :: (K0 ++ (32 :: (signS ((j : Int) + 5) ++ (32 :: (K1 ++ [41])))))).toArray⟩) ∧ Below w.heap.size w w' := by
  have q1 := ty_op_num (.agg #[.int .i64 ((j : Int) + 5), .slice (some ⟨kb, ko, none⟩) 2 kc])
  have q2 := ty_op_var (.agg #[.int .i64 ((j : Int) + 5), .slice (some ⟨kb, ko, none⟩) 2 kc])
  have q3 := ty_op_cell (.agg #[.int .i64 ((j : Int) + 5), .slice (some ⟨kb, ko, none⟩) 2 kc])
  have m1 := m_op_under (.int .i64 ((j : Int) + 5)) (.slice (some ⟨kb, ko, none⟩) 2 kc)
  have m2 := m_op_term (.int .i64 ((j : Int) + 5)) (.slice (some ⟨kb, ko, none⟩) 2 kc)
  have m3 := field_op (.int .i64 ((j : Int) + 5)) (.int .i64 0)
  obtain ⟨wb, HW⟩ : ∃ wb, Hid (wb = w.alloc (.cells #[.int .i64 wd, .slice a1 n1 c1, .slice a2 n2 c2, .int .i64 tp, .slice a3 n3 c3, .slice a4 n4 c4] 28)) := ⟨_, rfl⟩
  have BP : Blk wb w.heap.size 28 [.int .i64 wd, .slice a1 n1 c1, .slice a2 n2 c2, .int .i64 tp, .slice a3 n3 c3, .slice a4 n4 c4] := by rw [HW.out]; exact Blk.new w _ _
  have HB : Below w.heap.size w wb := by rw [HW.out]; exact (Below.refl _ _).alloc (Nat.le_refl _) _
  obtain ⟨bx0, HBX0⟩ : ∃ bx : ByteArray, Hid (bx = ⟨K0.toArray⟩) := ⟨_, rfl⟩
  have hbx0 : bx0.size ≤ 24000 := by rw [strSz HBX0.out]; exact hK0
  have HKID0 := Lib.hid hkid0
  rw [← HBX0.out] at HKID0
  rw [Nat.add_zero] at hc0
  have HC0 := Lib.hid hc0
  clear hkid0 hc0
  obtain ⟨bx1, HBX1⟩ : ∃ bx : ByteArray, Hid (bx = ⟨K1.toArray⟩) := ⟨_, rfl⟩
  have hbx1 : bx1.size ≤ 24000 := by rw [strSz HBX1.out]; exact hK1
  have HKID1 := Lib.hid hkid1
  rw [← HBX1.out] at HKID1
  skip
  have HC1 := Lib.hid hc1
  clear hkid1 hc1
  have HSG : Hid (signS ((j : Int) + 5) = signsL.getD j []) := Lib.hid (by unfold signS; rw [show ((j : Int) + 5 - 5).toNat = j by omega])
  obtain ⟨bt, HBT⟩ : ∃ bt : ByteArray, Hid (bt = ⟨(signsL.getD j []).toArray⟩) := ⟨_, rfl⟩
  have hbt : bt.size ≤ 10 := by rw [strSz HBT.out, ← HSG.out]; have := signS_len ((j : Int) + 5); omega
  have hsg := ht.signs.2 j (by show j < 12; omega)
  rw [← HBT.out] at hsg
  have HSGC := Lib.hid hsg
  have hsl := ht.signs.1
  clear ht hsg
  obtain ⟨s1, HS1, y1, k1⟩ := cat_ex ⟨#[40]⟩ bx0 1 24000 (Nat.le_refl 1) hbx0 (by omega)
  obtain ⟨s2, HS2, y2, k2⟩ := cat_ex s1 ⟨#[32]⟩ (1 + 24000) 1 y1 (Nat.le_refl 1) (by omega)
  obtain ⟨s3, HS3, y3, k3⟩ := cat_ex s2 bt (1 + 24000 + 1) 10 y2 hbt (by omega)
  obtain ⟨s4, HS4, y4, k4⟩ := cat_ex s3 ⟨#[32]⟩ (1 + 24000 + 1 + 10) 1 y3 (Nat.le_refl 1) (by omega)
  obtain ⟨s5, HS5, y5, k5⟩ := cat_ex s4 bx1 (1 + 24000 + 1 + 10 + 1) 24000 y4 hbx1 (by omega)
  obtain ⟨s6, HS6, y6, k6⟩ := cat_ex s5 ⟨#[41]⟩ (1 + 24000 + 1 + 10 + 1 + 24000) 1 y5 (Nat.le_refl 1) (by omega)
  have x3 : ((j : Int) + 5 == 3) = false := by simp; omega
  have x4 : ((j : Int) + 5 == 4) = false := by simp; omega
  have hw1 : IntKind.i64.wrap (j : Int) = (j : Int) := wrapI _ (by omega) (by omega)
  have hw2 : IntKind.i64.wrap ((j : Int) + 5 - 5) = (j : Int) := by rw [show (j : Int) + 5 - 5 = (j : Int) by omega]; exact hw1
  have hj2 : (j : Int) < 12 := by omega
  go_enter Tryz.func69, Tryz.ntmps69
  go_wp2_with fail
  rw [← HW.out]
  refine (op_term _ _ _ _ _).mono ?_
  rintro e w1 ⟨rfl, hb1⟩
  have BP := BP.below hb1 BP.lt
  have HB := HB.trans (hb1.mono HB.size)
  clear hb1
  go_wp2_with fail
  refine (op_under _ _ _ _ _).mono ?_
  rintro e w2 ⟨rfl, hb2⟩
  have BP := BP.below hb2 BP.lt
  have HB := HB.trans (hb2.mono HB.size)
  clear hb2
  have g0 := lat_cell BP.lt (BP.cell (j := 0) rfl)
  have g1 := lat_cell BP.lt (BP.cell (j := 1) rfl)
  have g2 := lat_cell BP.lt (BP.cell (j := 2) rfl)
  have g3 := lat_cell BP.lt (BP.cell (j := 3) rfl)
  have g4 := lat_cell BP.lt (BP.cell (j := 4) rfl)
  have g5 := lat_cell BP.lt (BP.cell (j := 5) rfl)
  have hk0 := lat_cell (Nat.lt_of_lt_of_le hkb HB.size) ((HB.cell (p := ⟨kb, ko, none⟩) hkb).trans HC0.out)
  skip
  have HX0 : Hid (∀ p : Lat w2, Calls Tryz.prog 69 #[.agg #[.int .i64 wd, .slice a1 n1 c1, .slice a2 n2 c2, .int .i64 tp, .slice a3 n3 c3, .slice a4 n4 c4], .iface u0 z0] p.wd fun e w' => e = .returned (.string bx0) ∧ Below p.wd.heap.size p.wd w') := Lib.hid (fun p => HKID0.out p.wd (HB.trans (p.ok.mono HB.size)))
  have hk1 := lat_cell (Nat.lt_of_lt_of_le hkb HB.size) ((HB.cell (p := ⟨kb, ko + 1, none⟩) hkb).trans HC1.out)
  skip
  have HX1 : Hid (∀ p : Lat w2, Calls Tryz.prog 69 #[.agg #[.int .i64 wd, .slice a1 n1 c1, .slice a2 n2 c2, .int .i64 tp, .slice a3 n3 c3, .slice a4 n4 c4], .iface u1 z1] p.wd fun e w' => e = .returned (.string bx1) ∧ Below p.wd.heap.size p.wd w') := Lib.hid (fun p => HKID1.out p.wd (HB.trans (p.ok.mono HB.size)))
  have hs := lat_cell (Nat.lt_of_lt_of_le hsl HB.size) ((HB.cell (p := ⟨2, j, none⟩) hsl).trans HSGC.out)
  go_wp2_with fail
  refine wp_region_lat (by kernel_rfl) (by kernel_rfl) ?_
  repeat (quiet_step ((go_at_call 69; first | with_reducible exact lat_calls (HX0.out _) | with_reducible exact lat_calls (HX1.out _))))
  refine wpQuiet_nil ?_
  intro _ hw'
  obtain ⟨⟨wq, hwq⟩, hw''⟩ := hw'
  subst hw''
  go_wp2
  go_ret
  exact ⟨ret_str (by rw [HS6.out, HS5.out, HS4.out, HS3.out, HS2.out, HS1.out, HBT.out, HBX0.out, HBX1.out, HSG.out]; apply ByteArray.ext; simp), HB.trans (hwq.mono HB.size)⟩
end
end Go.Proofs.YtjboghmcmlkpoaaGreatDoor
