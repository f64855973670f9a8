/- Joined texts of this proof (ImplStmtText, ImplShowProg, LaidProg), in build order. -/
import Derived.Test.YtjboghmcmlkpoaaGreatDoorJ22
/- The contract of the program's stmtText, kind by kind (written by tools/gen_implprog.py). -/
namespace Go.Proofs.YtjboghmcmlkpoaaGreatDoor
open Go.RowKit

def stmtWordsL : List (List UInt8) := [[105, 102], [101, 108, 115, 101], [101, 110, 100], [108, 111, 111, 112], [111, 117, 116], [116, 104, 114, 111, 119], [116, 114, 121], [99, 97, 116, 99, 104]]
set_option maxRecDepth 20000 in
set_option maxHeartbeats 6400000 in
theorem stmtText_0 (wd tp : Int) (a1 a2 a3 a4 b1 b2 : Option Addr) (n1 n2 n3 n4 c1 c2 c3 c4 m1 m2 d1 d2 : Nat) (y : Int) (w : World) (V : List UInt8) (hV : V.length ≤ 10) (hv : ∀ (w' : World) (g : Nat), Below w.heap.size w w' → g < w'.heap.size → w'.cell? ⟨g, 0, none⟩ = some (.string ⟨#[116]⟩) → Calls Tryz.prog 104 #[.agg #[.int .i64 wd, .slice a1 n1 c1, .slice a2 n2 c2, .int .i64 tp, .slice a3 n3 c3, .slice a4 n4 c4], .int .i64 y, .slice (some ⟨g, 0, none⟩) 1 1] w' fun e w'' => e = .returned (.string ⟨V.toArray⟩) ∧ Below w'.heap.size w' w'') (T0 : Tr) (K0 : List UInt8) (hK0 : K0.length ≤ 320)
    (hr0 : ∀ w', Below w.heap.size w w' → Calls Tryz.prog 70 #[.slice b2 m2 d2] w' fun e w'' => ∃ u z, e = .returned (.iface u z) ∧ IsTree w'' (fun _ => True) (.iface u z) T0 ∧ Below w'.heap.size w' w'')
    (hx0 : ∀ w' u z, Below w.heap.size w w' → IsTree w' (fun _ => True) (.iface u z) T0 → Calls Tryz.prog 69 #[.agg #[.int .i64 wd, .slice a1 n1 c1, .slice a2 n2 c2, .int .i64 tp, .slice a3 n3 c3, .slice a4 n4 c4], .iface u z] w' fun e w'' => e = .returned (.string ⟨K0.toArray⟩) ∧ Below w'.heap.size w' w'') :
    Calls Tryz.prog 44 #[.agg #[.int .i64 wd, .slice a1 n1 c1, .slice a2 n2 c2, .int .i64 tp, .slice a3 n3 c3, .slice a4 n4 c4], .agg #[.int .i64 0, .int .i64 y, .slice b1 m1 d1, .slice b2 m2 d2]] w fun e w' => e = .returned (.string ⟨((V ++ ([32, 61, 32] ++ K0)) ++ [10]).toArray⟩) ∧ Below w.heap.size w w' := by
  obtain ⟨wb, HW⟩ : ∃ wb, Hid (wb = (w.alloc (.cells #[.int .i64 wd, .slice a1 n1 c1, .slice a2 n2 c2, .int .i64 tp, .slice a3 n3 c3, .slice a4 n4 c4] 28)).alloc (.cells #[.int .i64 0, .int .i64 y, .slice b1 m1 d1, .slice b2 m2 d2] 76)) := ⟨_, rfl⟩
  have BP : Blk wb w.heap.size 28 [.int .i64 wd, .slice a1 n1 c1, .slice a2 n2 c2, .int .i64 tp, .slice a3 n3 c3, .slice a4 n4 c4] := by rw [HW.out]; exact (Blk.new w _ _).alloc _
  have BS : Blk wb (w.heap.size + 1) 76 [.int .i64 0, .int .i64 y, .slice b1 m1 d1, .slice b2 m2 d2] := by rw [HW.out]; have := Blk.new (w.alloc (.cells #[.int .i64 wd, .slice a1 n1 c1, .slice a2 n2 c2, .int .i64 tp, .slice a3 n3 c3, .slice a4 n4 c4] 28)) 76 [.int .i64 0, .int .i64 y, .slice b1 m1 d1, .slice b2 m2 d2]; simpa using this
  have HB : Below w.heap.size w wb := by rw [HW.out]; exact ((Below.refl _ _).alloc (Nat.le_refl _) _).alloc (by simp) _
  have HD : Below wb.heap.size wb wb.drew := ⟨rfl, rfl, rfl, Nat.le_refl _, fun _ _ => rfl⟩
  have HBP := Lib.hid BP
  have HBS := Lib.hid BS
  obtain ⟨bx9, HBX9⟩ : ∃ bx : ByteArray, Hid (bx = ⟨V.toArray⟩) := ⟨_, rfl⟩
  have hbx9 : bx9.size ≤ 10 := by rw [strSz HBX9.out]; exact hV
  obtain ⟨bx0, HBX0⟩ : ∃ bx : ByteArray, Hid (bx = ⟨K0.toArray⟩) := ⟨_, rfl⟩
  have hbx0 : bx0.size ≤ 320 := by rw [strSz HBX0.out]; exact hK0
  have HNM : Hid (∀ (w' : World) (g : Nat), Below wb.heap.size wb w' → g < w'.heap.size → w'.cell? ⟨g, 0, none⟩ = some (.string ⟨#[116]⟩) → Calls Tryz.prog 104 #[.agg #[.int .i64 wd, .slice a1 n1 c1, .slice a2 n2 c2, .int .i64 tp, .slice a3 n3 c3, .slice a4 n4 c4], .int .i64 y, .slice (some ⟨g, 0, none⟩) 1 1] w' fun e w'' => e = .returned (.string bx9) ∧ Below w'.heap.size w' w'') := Lib.hid (fun w' g i1 i2 i3 => by rw [HBX9.out]; exact hv w' g (HB.trans (i1.mono HB.size)) i2 i3)
  clear hv
  have HR0 := Lib.hid hr0
  have HX0 := Lib.hid hx0
  rw [← HBX0.out] at HX0
  clear hr0 hx0
  obtain ⟨s1, HS1, z1, k1⟩ := cat_ex bx9 ⟨#[32, 61, 32]⟩ (10) (3) hbx9 (Nat.le_refl 3) (by omega)
  obtain ⟨s2, HS2, z2, k2⟩ := cat_ex s1 bx0 (10 + 3) (320) z1 hbx0 (by omega)
  obtain ⟨s3, HS3, z3, k3⟩ := cat_ex s2 ⟨#[10]⟩ (10 + 3 + 320) (1) z2 (Nat.le_refl 1) (by omega)
  have p0 := BP.cell (j := 0) rfl
  have p1 := BP.cell (j := 1) rfl
  have p2 := BP.cell (j := 2) rfl
  have p3 := BP.cell (j := 3) rfl
  have p4 := BP.cell (j := 4) rfl
  have p5 := BP.cell (j := 5) rfl
  have p6 := BS.cell (j := 0) rfl
  have p7 := BS.cell (j := 1) rfl
  have p8 := BS.cell (j := 2) rfl
  have p9 := BS.cell (j := 3) rfl
  clear BP BS
  go_enter Tryz.func44, Tryz.ntmps44
  go_wp2_with fail
  rw [← HW.out]
  go_region_held3 (fun w' => w'.cell? ⟨w.heap.size, 0, none⟩ = some (.int .i64 wd) ∧ w'.cell? ⟨w.heap.size, 1, none⟩ = some (.slice a1 n1 c1) ∧ w'.cell? ⟨w.heap.size, 2, none⟩ = some (.slice a2 n2 c2) ∧ w'.cell? ⟨w.heap.size, 3, none⟩ = some (.int .i64 tp) ∧ w'.cell? ⟨w.heap.size, 4, none⟩ = some (.slice a3 n3 c3) ∧ w'.cell? ⟨w.heap.size, 5, none⟩ = some (.slice a4 n4 c4) ∧ w'.cell? ⟨w.heap.size + 1, 0, none⟩ = some (.int .i64 0) ∧ w'.cell? ⟨w.heap.size + 1, 1, none⟩ = some (.int .i64 y) ∧ w'.cell? ⟨w.heap.size + 1, 2, none⟩ = some (.slice b1 m1 d1) ∧ w'.cell? ⟨w.heap.size + 1, 3, none⟩ = some (.slice b2 m2 d2)) (first | (refine ⟨?_, ?_, ?_, ?_, ?_, ?_, ?_, ?_, ?_, ?_⟩ <;> assumption) | go_keep | (refine ⟨?_, ?_, ?_, ?_, ?_, ?_, ?_, ?_, ?_, ?_⟩ <;> go_keep)) (first
    | (go_at_call 104; refine (HNM.out _ _ ?_ ?_ ?_).mono ?_; exact HD.alloc HD.size _; simp; simp; rintro e w3 ⟨rfl, hb3⟩; have HB3 : Below wb.heap.size wb w3 := (HD.alloc HD.size _).trans (hb3.mono (HD.alloc HD.size _).size); have BX := HBP.out.below HB3 HBP.out.lt; have r3q0 := BX.cell (j := 0) rfl; have r3q1 := BX.cell (j := 1) rfl; have r3q2 := BX.cell (j := 2) rfl; have r3q3 := BX.cell (j := 3) rfl; have r3q4 := BX.cell (j := 4) rfl; have r3q5 := BX.cell (j := 5) rfl; have BY := HBS.out.below HB3 HBS.out.lt; have r3q6 := BY.cell (j := 0) rfl; have r3q7 := BY.cell (j := 1) rfl; have r3q8 := BY.cell (j := 2) rfl; have r3q9 := BY.cell (j := 3) rfl; clear BX BY; clear hb3)
    | (go_at_call 70; with_reducible refine (HR0.out _ ?_).mono ?_; exact HB.trans (HB3.mono HB.size); rintro e w4 ⟨u0, v0, rfl, hI0, hb4⟩; have HB4 : Below wb.heap.size wb w4 := HB3.trans (hb4.mono HB3.size); have HI0 := Lib.hid hI0; have BX := HBP.out.below HB4 HBP.out.lt; have r4q0 := BX.cell (j := 0) rfl; have r4q1 := BX.cell (j := 1) rfl; have r4q2 := BX.cell (j := 2) rfl; have r4q3 := BX.cell (j := 3) rfl; have r4q4 := BX.cell (j := 4) rfl; have r4q5 := BX.cell (j := 5) rfl; have BY := HBS.out.below HB4 HBS.out.lt; have r4q6 := BY.cell (j := 0) rfl; have r4q7 := BY.cell (j := 1) rfl; have r4q8 := BY.cell (j := 2) rfl; have r4q9 := BY.cell (j := 3) rfl; clear BX BY; clear hI0 hb4)
    | (go_at_call 69; with_reducible refine (HX0.out w4 u0 v0 (HB.trans (HB4.mono HB.size)) HI0.out).mono ?_; rintro e w5 ⟨rfl, hb5⟩; have HB5 : Below wb.heap.size wb w5 := HB4.trans (hb5.mono HB4.size); have BX := HBP.out.below HB5 HBP.out.lt; have r5q0 := BX.cell (j := 0) rfl; have r5q1 := BX.cell (j := 1) rfl; have r5q2 := BX.cell (j := 2) rfl; have r5q3 := BX.cell (j := 3) rfl; have r5q4 := BX.cell (j := 4) rfl; have r5q5 := BX.cell (j := 5) rfl; have BY := HBS.out.below HB5 HBS.out.lt; have r5q6 := BY.cell (j := 0) rfl; have r5q7 := BY.cell (j := 1) rfl; have r5q8 := BY.cell (j := 2) rfl; have r5q9 := BY.cell (j := 3) rfl; clear BX BY; clear hb5))
  all_goals
    go_wp2
    go_ret
    exact ⟨ret_str (by rw [HS3.out, HS2.out, HS1.out, HBX9.out, HBX0.out]; apply ByteArray.ext; simp), HB.trans (HB5.mono HB.size)⟩
set_option maxRecDepth 20000 in
set_option maxHeartbeats 6400000 in
theorem stmtText_1 (wd tp : Int) (a1 a2 a3 a4 b1 b2 : Option Addr) (n1 n2 n3 n4 c1 c2 c3 c4 m1 m2 d1 d2 : Nat) (y : Int) (w : World) (V : List UInt8) (hV : V.length ≤ 10) (hv : ∀ (w' : World) (g : Nat), Below w.heap.size w w' → g < w'.heap.size → w'.cell? ⟨g, 0, none⟩ = some (.string ⟨#[109]⟩) → Calls Tryz.prog 104 #[.agg #[.int .i64 wd, .slice a1 n1 c1, .slice a2 n2 c2, .int .i64 tp, .slice a3 n3 c3, .slice a4 n4 c4], .int .i64 y, .slice (some ⟨g, 0, none⟩) 1 1] w' fun e w'' => e = .returned (.string ⟨V.toArray⟩) ∧ Below w'.heap.size w' w'') (T0 : Tr) (K0 : List UInt8) (hK0 : K0.length ≤ 320)
    (hr0 : ∀ w', Below w.heap.size w w' → Calls Tryz.prog 70 #[.slice b1 m1 d1] w' fun e w'' => ∃ u z, e = .returned (.iface u z) ∧ IsTree w'' (fun _ => True) (.iface u z) T0 ∧ Below w'.heap.size w' w'')
    (hx0 : ∀ w' u z, Below w.heap.size w w' → IsTree w' (fun _ => True) (.iface u z) T0 → Calls Tryz.prog 69 #[.agg #[.int .i64 wd, .slice a1 n1 c1, .slice a2 n2 c2, .int .i64 tp, .slice a3 n3 c3, .slice a4 n4 c4], .iface u z] w' fun e w'' => e = .returned (.string ⟨K0.toArray⟩) ∧ Below w'.heap.size w' w'') (T1 : Tr) (K1 : List UInt8) (hK1 : K1.length ≤ 320)
    (hr1 : ∀ w', Below w.heap.size w w' → Calls Tryz.prog 70 #[.slice b2 m2 d2] w' fun e w'' => ∃ u z, e = .returned (.iface u z) ∧ IsTree w'' (fun _ => True) (.iface u z) T1 ∧ Below w'.heap.size w' w'')
    (hx1 : ∀ w' u z, Below w.heap.size w w' → IsTree w' (fun _ => True) (.iface u z) T1 → Calls Tryz.prog 69 #[.agg #[.int .i64 wd, .slice a1 n1 c1, .slice a2 n2 c2, .int .i64 tp, .slice a3 n3 c3, .slice a4 n4 c4], .iface u z] w' fun e w'' => e = .returned (.string ⟨K1.toArray⟩) ∧ Below w'.heap.size w' w'') :
    Calls Tryz.prog 44 #[.agg #[.int .i64 wd, .slice a1 n1 c1, .slice a2 n2 c2, .int .i64 tp, .slice a3 n3 c3, .slice a4 n4 c4], .agg #[.int .i64 1, .int .i64 y, .slice b1 m1 d1, .slice b2 m2 d2]] w fun e w' => e = .returned (.string ⟨((V ++ (91 :: (K0 ++ ([93, 32, 61, 32] ++ K1)))) ++ [10]).toArray⟩) ∧ Below w.heap.size w w' := by
  obtain ⟨wb, HW⟩ : ∃ wb, Hid (wb = (w.alloc (.cells #[.int .i64 wd, .slice a1 n1 c1, .slice a2 n2 c2, .int .i64 tp, .slice a3 n3 c3, .slice a4 n4 c4] 28)).alloc (.cells #[.int .i64 1, .int .i64 y, .slice b1 m1 d1, .slice b2 m2 d2] 76)) := ⟨_, rfl⟩
  have BP : Blk wb w.heap.size 28 [.int .i64 wd, .slice a1 n1 c1, .slice a2 n2 c2, .int .i64 tp, .slice a3 n3 c3, .slice a4 n4 c4] := by rw [HW.out]; exact (Blk.new w _ _).alloc _
  have BS : Blk wb (w.heap.size + 1) 76 [.int .i64 1, .int .i64 y, .slice b1 m1 d1, .slice b2 m2 d2] := by rw [HW.out]; have := Blk.new (w.alloc (.cells #[.int .i64 wd, .slice a1 n1 c1, .slice a2 n2 c2, .int .i64 tp, .slice a3 n3 c3, .slice a4 n4 c4] 28)) 76 [.int .i64 1, .int .i64 y, .slice b1 m1 d1, .slice b2 m2 d2]; simpa using this
  have HB : Below w.heap.size w wb := by rw [HW.out]; exact ((Below.refl _ _).alloc (Nat.le_refl _) _).alloc (by simp) _
  have HD : Below wb.heap.size wb wb.drew := ⟨rfl, rfl, rfl, Nat.le_refl _, fun _ _ => rfl⟩
  have HBP := Lib.hid BP
  have HBS := Lib.hid BS
  obtain ⟨bx9, HBX9⟩ : ∃ bx : ByteArray, Hid (bx = ⟨V.toArray⟩) := ⟨_, rfl⟩
  have hbx9 : bx9.size ≤ 10 := by rw [strSz HBX9.out]; exact hV
  obtain ⟨bx0, HBX0⟩ : ∃ bx : ByteArray, Hid (bx = ⟨K0.toArray⟩) := ⟨_, rfl⟩
  have hbx0 : bx0.size ≤ 320 := by rw [strSz HBX0.out]; exact hK0
  obtain ⟨bx1, HBX1⟩ : ∃ bx : ByteArray, Hid (bx = ⟨K1.toArray⟩) := ⟨_, rfl⟩
  have hbx1 : bx1.size ≤ 320 := by rw [strSz HBX1.out]; exact hK1
  have HNM : Hid (∀ (w' : World) (g : Nat), Below wb.heap.size wb w' → g < w'.heap.size → w'.cell? ⟨g, 0, none⟩ = some (.string ⟨#[109]⟩) → Calls Tryz.prog 104 #[.agg #[.int .i64 wd, .slice a1 n1 c1, .slice a2 n2 c2, .int .i64 tp, .slice a3 n3 c3, .slice a4 n4 c4], .int .i64 y, .slice (some ⟨g, 0, none⟩) 1 1] w' fun e w'' => e = .returned (.string bx9) ∧ Below w'.heap.size w' w'') := Lib.hid (fun w' g i1 i2 i3 => by rw [HBX9.out]; exact hv w' g (HB.trans (i1.mono HB.size)) i2 i3)
  clear hv
  have HR0 := Lib.hid hr0
  have HX0 := Lib.hid hx0
  rw [← HBX0.out] at HX0
  clear hr0 hx0
  have HR1 := Lib.hid hr1
  have HX1 := Lib.hid hx1
  rw [← HBX1.out] at HX1
  clear hr1 hx1
  obtain ⟨s1, HS1, z1, k1⟩ := cat_ex bx9 ⟨#[91]⟩ (10) (1) hbx9 (Nat.le_refl 1) (by omega)
  obtain ⟨s2, HS2, z2, k2⟩ := cat_ex s1 bx0 (10 + 1) (320) z1 hbx0 (by omega)
  obtain ⟨s3, HS3, z3, k3⟩ := cat_ex s2 ⟨#[93, 32, 61, 32]⟩ (10 + 1 + 320) (4) z2 (Nat.le_refl 4) (by omega)
  obtain ⟨s4, HS4, z4, k4⟩ := cat_ex s3 bx1 (10 + 1 + 320 + 4) (320) z3 hbx1 (by omega)
  obtain ⟨s5, HS5, z5, k5⟩ := cat_ex s4 ⟨#[10]⟩ (10 + 1 + 320 + 4 + 320) (1) z4 (Nat.le_refl 1) (by omega)
  have p0 := BP.cell (j := 0) rfl
  have p1 := BP.cell (j := 1) rfl
  have p2 := BP.cell (j := 2) rfl
  have p3 := BP.cell (j := 3) rfl
  have p4 := BP.cell (j := 4) rfl
  have p5 := BP.cell (j := 5) rfl
  have p6 := BS.cell (j := 0) rfl
  have p7 := BS.cell (j := 1) rfl
  have p8 := BS.cell (j := 2) rfl
  have p9 := BS.cell (j := 3) rfl
  clear BP BS
  go_enter Tryz.func44, Tryz.ntmps44
  go_wp2_with fail
  rw [← HW.out]
  go_region_held3 (fun w' => w'.cell? ⟨w.heap.size, 0, none⟩ = some (.int .i64 wd) ∧ w'.cell? ⟨w.heap.size, 1, none⟩ = some (.slice a1 n1 c1) ∧ w'.cell? ⟨w.heap.size, 2, none⟩ = some (.slice a2 n2 c2) ∧ w'.cell? ⟨w.heap.size, 3, none⟩ = some (.int .i64 tp) ∧ w'.cell? ⟨w.heap.size, 4, none⟩ = some (.slice a3 n3 c3) ∧ w'.cell? ⟨w.heap.size, 5, none⟩ = some (.slice a4 n4 c4) ∧ w'.cell? ⟨w.heap.size + 1, 0, none⟩ = some (.int .i64 1) ∧ w'.cell? ⟨w.heap.size + 1, 1, none⟩ = some (.int .i64 y) ∧ w'.cell? ⟨w.heap.size + 1, 2, none⟩ = some (.slice b1 m1 d1) ∧ w'.cell? ⟨w.heap.size + 1, 3, none⟩ = some (.slice b2 m2 d2)) (first | (refine ⟨?_, ?_, ?_, ?_, ?_, ?_, ?_, ?_, ?_, ?_⟩ <;> assumption) | go_keep | (refine ⟨?_, ?_, ?_, ?_, ?_, ?_, ?_, ?_, ?_, ?_⟩ <;> go_keep)) (first
    | (go_at_call 104; refine (HNM.out _ _ ?_ ?_ ?_).mono ?_; exact HD.alloc HD.size _; simp; simp; rintro e w3 ⟨rfl, hb3⟩; have HB3 : Below wb.heap.size wb w3 := (HD.alloc HD.size _).trans (hb3.mono (HD.alloc HD.size _).size); have BX := HBP.out.below HB3 HBP.out.lt; have r3q0 := BX.cell (j := 0) rfl; have r3q1 := BX.cell (j := 1) rfl; have r3q2 := BX.cell (j := 2) rfl; have r3q3 := BX.cell (j := 3) rfl; have r3q4 := BX.cell (j := 4) rfl; have r3q5 := BX.cell (j := 5) rfl; have BY := HBS.out.below HB3 HBS.out.lt; have r3q6 := BY.cell (j := 0) rfl; have r3q7 := BY.cell (j := 1) rfl; have r3q8 := BY.cell (j := 2) rfl; have r3q9 := BY.cell (j := 3) rfl; clear BX BY; clear hb3)
    | (go_at_call 70; with_reducible refine (HR0.out _ ?_).mono ?_; exact HB.trans (HB3.mono HB.size); rintro e w4 ⟨u0, v0, rfl, hI0, hb4⟩; have HB4 : Below wb.heap.size wb w4 := HB3.trans (hb4.mono HB3.size); have HI0 := Lib.hid hI0; have BX := HBP.out.below HB4 HBP.out.lt; have r4q0 := BX.cell (j := 0) rfl; have r4q1 := BX.cell (j := 1) rfl; have r4q2 := BX.cell (j := 2) rfl; have r4q3 := BX.cell (j := 3) rfl; have r4q4 := BX.cell (j := 4) rfl; have r4q5 := BX.cell (j := 5) rfl; have BY := HBS.out.below HB4 HBS.out.lt; have r4q6 := BY.cell (j := 0) rfl; have r4q7 := BY.cell (j := 1) rfl; have r4q8 := BY.cell (j := 2) rfl; have r4q9 := BY.cell (j := 3) rfl; clear BX BY; clear hI0 hb4)
    | (go_at_call 69; with_reducible refine (HX0.out w4 u0 v0 (HB.trans (HB4.mono HB.size)) HI0.out).mono ?_; rintro e w5 ⟨rfl, hb5⟩; have HB5 : Below wb.heap.size wb w5 := HB4.trans (hb5.mono HB4.size); have BX := HBP.out.below HB5 HBP.out.lt; have r5q0 := BX.cell (j := 0) rfl; have r5q1 := BX.cell (j := 1) rfl; have r5q2 := BX.cell (j := 2) rfl; have r5q3 := BX.cell (j := 3) rfl; have r5q4 := BX.cell (j := 4) rfl; have r5q5 := BX.cell (j := 5) rfl; have BY := HBS.out.below HB5 HBS.out.lt; have r5q6 := BY.cell (j := 0) rfl; have r5q7 := BY.cell (j := 1) rfl; have r5q8 := BY.cell (j := 2) rfl; have r5q9 := BY.cell (j := 3) rfl; clear BX BY; clear hb5)
    | (go_at_call 70; with_reducible refine (HR1.out _ ?_).mono ?_; exact HB.trans (HB5.mono HB.size); rintro e w6 ⟨u1, v1, rfl, hI1, hb6⟩; have HB6 : Below wb.heap.size wb w6 := HB5.trans (hb6.mono HB5.size); have HI1 := Lib.hid hI1; have BX := HBP.out.below HB6 HBP.out.lt; have r6q0 := BX.cell (j := 0) rfl; have r6q1 := BX.cell (j := 1) rfl; have r6q2 := BX.cell (j := 2) rfl; have r6q3 := BX.cell (j := 3) rfl; have r6q4 := BX.cell (j := 4) rfl; have r6q5 := BX.cell (j := 5) rfl; have BY := HBS.out.below HB6 HBS.out.lt; have r6q6 := BY.cell (j := 0) rfl; have r6q7 := BY.cell (j := 1) rfl; have r6q8 := BY.cell (j := 2) rfl; have r6q9 := BY.cell (j := 3) rfl; clear BX BY; clear hI1 hb6)
    | (go_at_call 69; with_reducible refine (HX1.out w6 u1 v1 (HB.trans (HB6.mono HB.size)) HI1.out).mono ?_; rintro e w7 ⟨rfl, hb7⟩; have HB7 : Below wb.heap.size wb w7 := HB6.trans (hb7.mono HB6.size); have BX := HBP.out.below HB7 HBP.out.lt; have r7q0 := BX.cell (j := 0) rfl; have r7q1 := BX.cell (j := 1) rfl; have r7q2 := BX.cell (j := 2) rfl; have r7q3 := BX.cell (j := 3) rfl; have r7q4 := BX.cell (j := 4) rfl; have r7q5 := BX.cell (j := 5) rfl; have BY := HBS.out.below HB7 HBS.out.lt; have r7q6 := BY.cell (j := 0) rfl; have r7q7 := BY.cell (j := 1) rfl; have r7q8 := BY.cell (j := 2) rfl; have r7q9 := BY.cell (j := 3) rfl; clear BX BY; clear hb7))
  all_goals
    go_wp2
    go_ret
    exact ⟨ret_str (by rw [HS5.out, HS4.out, HS3.out, HS2.out, HS1.out, HBX9.out, HBX0.out, HBX1.out]; apply ByteArray.ext; simp), HB.trans (HB7.mono HB.size)⟩
set_option maxRecDepth 20000 in
set_option maxHeartbeats 6400000 in
theorem stmtText_2 (wd tp : Int) (a1 a2 a3 a4 b1 b2 : Option Addr) (n1 n2 n3 n4 c1 c2 c3 c4 m1 m2 d1 d2 : Nat) (y : Int) (w : World) (hw : w.cell? ⟨0, 0, none⟩ = some (.string ⟨#[105, 102]⟩)) (hwl : 0 < w.heap.size) (T0 : Tr) (K0 : List UInt8) (hK0 : K0.length ≤ 320)
    (hr0 : ∀ w', Below w.heap.size w w' → Calls Tryz.prog 70 #[.slice b2 m2 d2] w' fun e w'' => ∃ u z, e = .returned (.iface u z) ∧ IsTree w'' (fun _ => True) (.iface u z) T0 ∧ Below w'.heap.size w' w'')
    (hx0 : ∀ w' u z, Below w.heap.size w w' → IsTree w' (fun _ => True) (.iface u z) T0 → Calls Tryz.prog 69 #[.agg #[.int .i64 wd, .slice a1 n1 c1, .slice a2 n2 c2, .int .i64 tp, .slice a3 n3 c3, .slice a4 n4 c4], .iface u z] w' fun e w'' => e = .returned (.string ⟨K0.toArray⟩) ∧ Below w'.heap.size w' w'') :
    Calls Tryz.prog 44 #[.agg #[.int .i64 wd, .slice a1 n1 c1, .slice a2 n2 c2, .int .i64 tp, .slice a3 n3 c3, .slice a4 n4 c4], .agg #[.int .i64 2, .int .i64 y, .slice b1 m1 d1, .slice b2 m2 d2]] w fun e w' => e = .returned (.string ⟨(([105, 102, 32] ++ K0) ++ [10]).toArray⟩) ∧ Below w.heap.size w w' := by
  obtain ⟨wb, HW⟩ : ∃ wb, Hid (wb = (w.alloc (.cells #[.int .i64 wd, .slice a1 n1 c1, .slice a2 n2 c2, .int .i64 tp, .slice a3 n3 c3, .slice a4 n4 c4] 28)).alloc (.cells #[.int .i64 2, .int .i64 y, .slice b1 m1 d1, .slice b2 m2 d2] 76)) := ⟨_, rfl⟩
  have BP : Blk wb w.heap.size 28 [.int .i64 wd, .slice a1 n1 c1, .slice a2 n2 c2, .int .i64 tp, .slice a3 n3 c3, .slice a4 n4 c4] := by rw [HW.out]; exact (Blk.new w _ _).alloc _
  have BS : Blk wb (w.heap.size + 1) 76 [.int .i64 2, .int .i64 y, .slice b1 m1 d1, .slice b2 m2 d2] := by rw [HW.out]; have := Blk.new (w.alloc (.cells #[.int .i64 wd, .slice a1 n1 c1, .slice a2 n2 c2, .int .i64 tp, .slice a3 n3 c3, .slice a4 n4 c4] 28)) 76 [.int .i64 2, .int .i64 y, .slice b1 m1 d1, .slice b2 m2 d2]; simpa using this
  have HB : Below w.heap.size w wb := by rw [HW.out]; exact ((Below.refl _ _).alloc (Nat.le_refl _) _).alloc (by simp) _
  have HD : Below wb.heap.size wb wb.drew := ⟨rfl, rfl, rfl, Nat.le_refl _, fun _ _ => rfl⟩
  have HBP := Lib.hid BP
  have HBS := Lib.hid BS
  obtain ⟨bx0, HBX0⟩ : ∃ bx : ByteArray, Hid (bx = ⟨K0.toArray⟩) := ⟨_, rfl⟩
  have hbx0 : bx0.size ≤ 320 := by rw [strSz HBX0.out]; exact hK0
  have HR0 := Lib.hid hr0
  have HX0 := Lib.hid hx0
  rw [← HBX0.out] at HX0
  clear hr0 hx0
  obtain ⟨s1, HS1, z1, k1⟩ := cat_ex ⟨#[105, 102]⟩ ⟨#[32]⟩ (2) (1) (Nat.le_refl 2) (Nat.le_refl 1) (by omega)
  obtain ⟨s2, HS2, z2, k2⟩ := cat_ex s1 bx0 (2 + 1) (320) z1 hbx0 (by omega)
  obtain ⟨s3, HS3, z3, k3⟩ := cat_ex s2 ⟨#[10]⟩ (2 + 1 + 320) (1) z2 (Nat.le_refl 1) (by omega)
  have hwb : wb.cell? ⟨0, 0, none⟩ = some (.string ⟨#[105, 102]⟩) := (HB.cell hwl).trans hw
  have p0 := BP.cell (j := 0) rfl
  have p1 := BP.cell (j := 1) rfl
  have p2 := BP.cell (j := 2) rfl
  have p3 := BP.cell (j := 3) rfl
  have p4 := BP.cell (j := 4) rfl
  have p5 := BP.cell (j := 5) rfl
  have p6 := BS.cell (j := 0) rfl
  have p7 := BS.cell (j := 1) rfl
  have p8 := BS.cell (j := 2) rfl
  have p9 := BS.cell (j := 3) rfl
  clear BP BS
  go_enter Tryz.func44, Tryz.ntmps44
  go_wp2_with fail
  rw [← HW.out]
  go_region_held3 (fun w' => w'.cell? ⟨w.heap.size, 0, none⟩ = some (.int .i64 wd) ∧ w'.cell? ⟨w.heap.size, 1, none⟩ = some (.slice a1 n1 c1) ∧ w'.cell? ⟨w.heap.size, 2, none⟩ = some (.slice a2 n2 c2) ∧ w'.cell? ⟨w.heap.size, 3, none⟩ = some (.int .i64 tp) ∧ w'.cell? ⟨w.heap.size, 4, none⟩ = some (.slice a3 n3 c3) ∧ w'.cell? ⟨w.heap.size, 5, none⟩ = some (.slice a4 n4 c4) ∧ w'.cell? ⟨w.heap.size + 1, 0, none⟩ = some (.int .i64 2) ∧ w'.cell? ⟨w.heap.size + 1, 1, none⟩ = some (.int .i64 y) ∧ w'.cell? ⟨w.heap.size + 1, 2, none⟩ = some (.slice b1 m1 d1) ∧ w'.cell? ⟨w.heap.size + 1, 3, none⟩ = some (.slice b2 m2 d2)) (first | (refine ⟨?_, ?_, ?_, ?_, ?_, ?_, ?_, ?_, ?_, ?_⟩ <;> assumption) | go_keep | (refine ⟨?_, ?_, ?_, ?_, ?_, ?_, ?_, ?_, ?_, ?_⟩ <;> go_keep)) (first
    | (go_at_call 70; with_reducible refine (HR0.out _ ?_).mono ?_; exact HB.trans (HD.mono HB.size); rintro e w4 ⟨u0, v0, rfl, hI0, hb4⟩; have HB4 : Below wb.heap.size wb w4 := HD.trans (hb4.mono HD.size); have HI0 := Lib.hid hI0; have BX := HBP.out.below HB4 HBP.out.lt; have r4q0 := BX.cell (j := 0) rfl; have r4q1 := BX.cell (j := 1) rfl; have r4q2 := BX.cell (j := 2) rfl; have r4q3 := BX.cell (j := 3) rfl; have r4q4 := BX.cell (j := 4) rfl; have r4q5 := BX.cell (j := 5) rfl; have BY := HBS.out.below HB4 HBS.out.lt; have r4q6 := BY.cell (j := 0) rfl; have r4q7 := BY.cell (j := 1) rfl; have r4q8 := BY.cell (j := 2) rfl; have r4q9 := BY.cell (j := 3) rfl; clear BX BY; clear hI0 hb4)
    | (go_at_call 69; with_reducible refine (HX0.out w4 u0 v0 (HB.trans (HB4.mono HB.size)) HI0.out).mono ?_; rintro e w5 ⟨rfl, hb5⟩; have HB5 : Below wb.heap.size wb w5 := HB4.trans (hb5.mono HB4.size); have BX := HBP.out.below HB5 HBP.out.lt; have r5q0 := BX.cell (j := 0) rfl; have r5q1 := BX.cell (j := 1) rfl; have r5q2 := BX.cell (j := 2) rfl; have r5q3 := BX.cell (j := 3) rfl; have r5q4 := BX.cell (j := 4) rfl; have r5q5 := BX.cell (j := 5) rfl; have BY := HBS.out.below HB5 HBS.out.lt; have r5q6 := BY.cell (j := 0) rfl; have r5q7 := BY.cell (j := 1) rfl; have r5q8 := BY.cell (j := 2) rfl; have r5q9 := BY.cell (j := 3) rfl; clear BX BY; clear hb5))
  all_goals
    go_wp2
    go_ret
    exact ⟨ret_str (by rw [HS3.out, HS2.out, HS1.out, HBX0.out]; apply ByteArray.ext; simp), HB.trans (HB5.mono HB.size)⟩
set_option maxRecDepth 20000 in
set_option maxHeartbeats 6400000 in
theorem stmtText_6 (wd tp : Int) (a1 a2 a3 a4 b1 b2 : Option Addr) (n1 n2 n3 n4 c1 c2 c3 c4 m1 m2 d1 d2 : Nat) (y : Int) (w : World) (hw : w.cell? ⟨0, 4, none⟩ = some (.string ⟨#[111, 117, 116]⟩)) (hwl : 0 < w.heap.size) (T0 : Tr) (K0 : List UInt8) (hK0 : K0.length ≤ 320)
    (hr0 : ∀ w', Below w.heap.size w w' → Calls Tryz.prog 70 #[.slice b2 m2 d2] w' fun e w'' => ∃ u z, e = .returned (.iface u z) ∧ IsTree w'' (fun _ => True) (.iface u z) T0 ∧ Below w'.heap.size w' w'')
    (hx0 : ∀ w' u z, Below w.heap.size w w' → IsTree w' (fun _ => True) (.iface u z) T0 → Calls Tryz.prog 69 #[.agg #[.int .i64 wd, .slice a1 n1 c1, .slice a2 n2 c2, .int .i64 tp, .slice a3 n3 c3, .slice a4 n4 c4], .iface u z] w' fun e w'' => e = .returned (.string ⟨K0.toArray⟩) ∧ Below w'.heap.size w' w'') :
    Calls Tryz.prog 44 #[.agg #[.int .i64 wd, .slice a1 n1 c1, .slice a2 n2 c2, .int .i64 tp, .slice a3 n3 c3, .slice a4 n4 c4], .agg #[.int .i64 6, .int .i64 y, .slice b1 m1 d1, .slice b2 m2 d2]] w fun e w' => e = .returned (.string ⟨(([111, 117, 116, 32] ++ K0) ++ [10]).toArray⟩) ∧ Below w.heap.size w w' := by
  obtain ⟨wb, HW⟩ : ∃ wb, Hid (wb = (w.alloc (.cells #[.int .i64 wd, .slice a1 n1 c1, .slice a2 n2 c2, .int .i64 tp, .slice a3 n3 c3, .slice a4 n4 c4] 28)).alloc (.cells #[.int .i64 6, .int .i64 y, .slice b1 m1 d1, .slice b2 m2 d2] 76)) := ⟨_, rfl⟩
  have BP : Blk wb w.heap.size 28 [.int .i64 wd, .slice a1 n1 c1, .slice a2 n2 c2, .int .i64 tp, .slice a3 n3 c3, .slice a4 n4 c4] := by rw [HW.out]; exact (Blk.new w _ _).alloc _
  have BS : Blk wb (w.heap.size + 1) 76 [.int .i64 6, .int .i64 y, .slice b1 m1 d1, .slice b2 m2 d2] := by rw [HW.out]; have := Blk.new (w.alloc (.cells #[.int .i64 wd, .slice a1 n1 c1, .slice a2 n2 c2, .int .i64 tp, .slice a3 n3 c3, .slice a4 n4 c4] 28)) 76 [.int .i64 6, .int .i64 y, .slice b1 m1 d1, .slice b2 m2 d2]; simpa using this
  have HB : Below w.heap.size w wb := by rw [HW.out]; exact ((Below.refl _ _).alloc (Nat.le_refl _) _).alloc (by simp) _
  have HD : Below wb.heap.size wb wb.drew := ⟨rfl, rfl, rfl, Nat.le_refl _, fun _ _ => rfl⟩
  have HBP := Lib.hid BP
  have HBS := Lib.hid BS
  obtain ⟨bx0, HBX0⟩ : ∃ bx : ByteArray, Hid (bx = ⟨K0.toArray⟩) := ⟨_, rfl⟩
  have hbx0 : bx0.size ≤ 320 := by rw [strSz HBX0.out]; exact hK0
  have HR0 := Lib.hid hr0
  have HX0 := Lib.hid hx0
  rw [← HBX0.out] at HX0
  clear hr0 hx0
  obtain ⟨s1, HS1, z1, k1⟩ := cat_ex ⟨#[111, 117, 116]⟩ ⟨#[32]⟩ (3) (1) (Nat.le_refl 3) (Nat.le_refl 1) (by omega)
  obtain ⟨s2, HS2, z2, k2⟩ := cat_ex s1 bx0 (3 + 1) (320) z1 hbx0 (by omega)
  obtain ⟨s3, HS3, z3, k3⟩ := cat_ex s2 ⟨#[10]⟩ (3 + 1 + 320) (1) z2 (Nat.le_refl 1) (by omega)
  have hwb : wb.cell? ⟨0, 4, none⟩ = some (.string ⟨#[111, 117, 116]⟩) := (HB.cell hwl).trans hw
  have p0 := BP.cell (j := 0) rfl
  have p1 := BP.cell (j := 1) rfl
  have p2 := BP.cell (j := 2) rfl
  have p3 := BP.cell (j := 3) rfl
  have p4 := BP.cell (j := 4) rfl
  have p5 := BP.cell (j := 5) rfl
  have p6 := BS.cell (j := 0) rfl
  have p7 := BS.cell (j := 1) rfl
  have p8 := BS.cell (j := 2) rfl
  have p9 := BS.cell (j := 3) rfl
  clear BP BS
  go_enter Tryz.func44, Tryz.ntmps44
  go_wp2_with fail
  rw [← HW.out]
  go_region_held3 (fun w' => w'.cell? ⟨w.heap.size, 0, none⟩ = some (.int .i64 wd) ∧ w'.cell? ⟨w.heap.size, 1, none⟩ = some (.slice a1 n1 c1) ∧ w'.cell? ⟨w.heap.size, 2, none⟩ = some (.slice a2 n2 c2) ∧ w'.cell? ⟨w.heap.size, 3, none⟩ = some (.int .i64 tp) ∧ w'.cell? ⟨w.heap.size, 4, none⟩ = some (.slice a3 n3 c3) ∧ w'.cell? ⟨w.heap.size, 5, none⟩ = some (.slice a4 n4 c4) ∧ w'.cell? ⟨w.heap.size + 1, 0, none⟩ = some (.int .i64 6) ∧ w'.cell? ⟨w.heap.size + 1, 1, none⟩ = some (.int .i64 y) ∧ w'.cell? ⟨w.heap.size + 1, 2, none⟩ = some (.slice b1 m1 d1) ∧ w'.cell? ⟨w.heap.size + 1, 3, none⟩ = some (.slice b2 m2 d2)) (first | (refine ⟨?_, ?_, ?_, ?_, ?_, ?_, ?_, ?_, ?_, ?_⟩ <;> assumption) | go_keep | (refine ⟨?_, ?_, ?_, ?_, ?_, ?_, ?_, ?_, ?_, ?_⟩ <;> go_keep)) (first
    | (go_at_call 70; with_reducible refine (HR0.out _ ?_).mono ?_; exact HB.trans (HD.mono HB.size); rintro e w4 ⟨u0, v0, rfl, hI0, hb4⟩; have HB4 : Below wb.heap.size wb w4 := HD.trans (hb4.mono HD.size); have HI0 := Lib.hid hI0; have BX := HBP.out.below HB4 HBP.out.lt; have r4q0 := BX.cell (j := 0) rfl; have r4q1 := BX.cell (j := 1) rfl; have r4q2 := BX.cell (j := 2) rfl; have r4q3 := BX.cell (j := 3) rfl; have r4q4 := BX.cell (j := 4) rfl; have r4q5 := BX.cell (j := 5) rfl; have BY := HBS.out.below HB4 HBS.out.lt; have r4q6 := BY.cell (j := 0) rfl; have r4q7 := BY.cell (j := 1) rfl; have r4q8 := BY.cell (j := 2) rfl; have r4q9 := BY.cell (j := 3) rfl; clear BX BY; clear hI0 hb4)
    | (go_at_call 69; with_reducible refine (HX0.out w4 u0 v0 (HB.trans (HB4.mono HB.size)) HI0.out).mono ?_; rintro e w5 ⟨rfl, hb5⟩; have HB5 : Below wb.heap.size wb w5 := HB4.trans (hb5.mono HB4.size); have BX := HBP.out.below HB5 HBP.out.lt; have r5q0 := BX.cell (j := 0) rfl; have r5q1 := BX.cell (j := 1) rfl; have r5q2 := BX.cell (j := 2) rfl; have r5q3 := BX.cell (j := 3) rfl; have r5q4 := BX.cell (j := 4) rfl; have r5q5 := BX.cell (j := 5) rfl; have BY := HBS.out.below HB5 HBS.out.lt; have r5q6 := BY.cell (j := 0) rfl; have r5q7 := BY.cell (j := 1) rfl; have r5q8 := BY.cell (j := 2) rfl; have r5q9 := BY.cell (j := 3) rfl; clear BX BY; clear hb5))
  all_goals
    go_wp2
    go_ret
    exact ⟨ret_str (by rw [HS3.out, HS2.out, HS1.out, HBX0.out]; apply ByteArray.ext; simp), HB.trans (HB5.mono HB.size)⟩
set_option maxRecDepth 20000 in
set_option maxHeartbeats 6400000 in
theorem stmtText_5 (wd tp : Int) (a1 a2 a3 a4 b1 b2 : Option Addr) (n1 n2 n3 n4 c1 c2 c3 c4 m1 m2 d1 d2 : Nat) (y : Int) (w : World) (h0 : 0 ≤ y) (h1 : y ≤ 9) (hw : w.cell? ⟨0, 3, none⟩ = some (.string ⟨#[108, 111, 111, 112]⟩)) (hwl : 0 < w.heap.size) (hln : ∀ (word : List UInt8) (a : Option Addr) (m c : Nat) (zs : List Int) (w' : World), word.length ≤ 100 → Ints w' a m zs → m ≤ 2 → (∀ z ∈ zs, 0 ≤ z ∧ z ≤ 255) → Below w.heap.size w w' → Calls Tryz.prog 103 #[.string ⟨word.toArray⟩, .slice a m c] w' fun e w'' => e = .returned (.string ⟨(lineL word zs).toArray⟩) ∧ Below w'.heap.size w' w'') :
    Calls Tryz.prog 44 #[.agg #[.int .i64 wd, .slice a1 n1 c1, .slice a2 n2 c2, .int .i64 tp, .slice a3 n3 c3, .slice a4 n4 c4], .agg #[.int .i64 5, .int .i64 y, .slice b1 m1 d1, .slice b2 m2 d2]] w fun e w' => e = .returned (.string ⟨(([108, 111, 111, 112, 32] ++ Lib.itoa y) ++ [10]).toArray⟩) ∧ Below w.heap.size w w' := by
  obtain ⟨wb, HW⟩ : ∃ wb, Hid (wb = (w.alloc (.cells #[.int .i64 wd, .slice a1 n1 c1, .slice a2 n2 c2, .int .i64 tp, .slice a3 n3 c3, .slice a4 n4 c4] 28)).alloc (.cells #[.int .i64 5, .int .i64 y, .slice b1 m1 d1, .slice b2 m2 d2] 76)) := ⟨_, rfl⟩
  have BP : Blk wb w.heap.size 28 [.int .i64 wd, .slice a1 n1 c1, .slice a2 n2 c2, .int .i64 tp, .slice a3 n3 c3, .slice a4 n4 c4] := by rw [HW.out]; exact (Blk.new w _ _).alloc _
  have BS : Blk wb (w.heap.size + 1) 76 [.int .i64 5, .int .i64 y, .slice b1 m1 d1, .slice b2 m2 d2] := by rw [HW.out]; have := Blk.new (w.alloc (.cells #[.int .i64 wd, .slice a1 n1 c1, .slice a2 n2 c2, .int .i64 tp, .slice a3 n3 c3, .slice a4 n4 c4] 28)) 76 [.int .i64 5, .int .i64 y, .slice b1 m1 d1, .slice b2 m2 d2]; simpa using this
  have HB : Below w.heap.size w wb := by rw [HW.out]; exact ((Below.refl _ _).alloc (Nat.le_refl _) _).alloc (by simp) _
  have HD : Below wb.heap.size wb wb.drew := ⟨rfl, rfl, rfl, Nat.le_refl _, fun _ _ => rfl⟩
  have HBP := Lib.hid BP
  have HBS := Lib.hid BS
  have HLN := Lib.hid hln
  have hwb : wb.cell? ⟨0, 3, none⟩ = some (.string ⟨#[108, 111, 111, 112]⟩) := (HB.cell hwl).trans hw
  clear hln
  have p0 := BP.cell (j := 0) rfl
  have p1 := BP.cell (j := 1) rfl
  have p2 := BP.cell (j := 2) rfl
  have p3 := BP.cell (j := 3) rfl
  have p4 := BP.cell (j := 4) rfl
  have p5 := BP.cell (j := 5) rfl
  have p6 := BS.cell (j := 0) rfl
  have p7 := BS.cell (j := 1) rfl
  have p8 := BS.cell (j := 2) rfl
  have p9 := BS.cell (j := 3) rfl
  clear BP BS
  have hwa1 : Below w.heap.size w (wb.alloc (.cells #[.int .i64 y] 2)) := HB.alloc HB.size _
  go_enter Tryz.func44, Tryz.ntmps44
  go_wp2_with fail
  rw [← HW.out]
  refine (HLN.out [108, 111, 111, 112] (some ⟨w.heap.size + 2, 0, none⟩) _ _ [y] (wb.alloc (.cells #[.int .i64 y] 2)) (by simp) (ints_one rfl (by rw [HW.out]; simp) (in64_small (by omega) (by omega))) (by omega) (by simp; omega) hwa1).mono ?_
  rintro e w1 ⟨rfl, hb1⟩
  go_wp2
  go_ret
  exact ⟨ret_str (by simp [lineL, numS]), hwa1.trans (hb1.mono hwa1.size)⟩
set_option maxRecDepth 20000 in
set_option maxHeartbeats 6400000 in
theorem stmtText_7 (wd tp : Int) (a1 a2 a3 a4 b1 b2 : Option Addr) (n1 n2 n3 n4 c1 c2 c3 c4 m1 m2 d1 d2 : Nat) (y : Int) (w : World) (h0 : 0 ≤ y) (h1 : y ≤ 9) (hw : w.cell? ⟨0, 5, none⟩ = some (.string ⟨#[116, 104, 114, 111, 119]⟩)) (hwl : 0 < w.heap.size) (hln : ∀ (word : List UInt8) (a : Option Addr) (m c : Nat) (zs : List Int) (w' : World), word.length ≤ 100 → Ints w' a m zs → m ≤ 2 → (∀ z ∈ zs, 0 ≤ z ∧ z ≤ 255) → Below w.heap.size w w' → Calls Tryz.prog 103 #[.string ⟨word.toArray⟩, .slice a m c] w' fun e w'' => e = .returned (.string ⟨(lineL word zs).toArray⟩) ∧ Below w'.heap.size w' w'') :
    Calls Tryz.prog 44 #[.agg #[.int .i64 wd, .slice a1 n1 c1, .slice a2 n2 c2, .int .i64 tp, .slice a3 n3 c3, .slice a4 n4 c4], .agg #[.int .i64 7, .int .i64 y, .slice b1 m1 d1, .slice b2 m2 d2]] w fun e w' => e = .returned (.string ⟨(([116, 104, 114, 111, 119, 32] ++ Lib.itoa y) ++ [10]).toArray⟩) ∧ Below w.heap.size w w' := by
  obtain ⟨wb, HW⟩ : ∃ wb, Hid (wb = (w.alloc (.cells #[.int .i64 wd, .slice a1 n1 c1, .slice a2 n2 c2, .int .i64 tp, .slice a3 n3 c3, .slice a4 n4 c4] 28)).alloc (.cells #[.int .i64 7, .int .i64 y, .slice b1 m1 d1, .slice b2 m2 d2] 76)) := ⟨_, rfl⟩
  have BP : Blk wb w.heap.size 28 [.int .i64 wd, .slice a1 n1 c1, .slice a2 n2 c2, .int .i64 tp, .slice a3 n3 c3, .slice a4 n4 c4] := by rw [HW.out]; exact (Blk.new w _ _).alloc _
  have BS : Blk wb (w.heap.size + 1) 76 [.int .i64 7, .int .i64 y, .slice b1 m1 d1, .slice b2 m2 d2] := by rw [HW.out]; have := Blk.new (w.alloc (.cells #[.int .i64 wd, .slice a1 n1 c1, .slice a2 n2 c2, .int .i64 tp, .slice a3 n3 c3, .slice a4 n4 c4] 28)) 76 [.int .i64 7, .int .i64 y, .slice b1 m1 d1, .slice b2 m2 d2]; simpa using this
  have HB : Below w.heap.size w wb := by rw [HW.out]; exact ((Below.refl _ _).alloc (Nat.le_refl _) _).alloc (by simp) _
  have HD : Below wb.heap.size wb wb.drew := ⟨rfl, rfl, rfl, Nat.le_refl _, fun _ _ => rfl⟩
  have HBP := Lib.hid BP
  have HBS := Lib.hid BS
  have HLN := Lib.hid hln
  have hwb : wb.cell? ⟨0, 5, none⟩ = some (.string ⟨#[116, 104, 114, 111, 119]⟩) := (HB.cell hwl).trans hw
  clear hln
  have p0 := BP.cell (j := 0) rfl
  have p1 := BP.cell (j := 1) rfl
  have p2 := BP.cell (j := 2) rfl
  have p3 := BP.cell (j := 3) rfl
  have p4 := BP.cell (j := 4) rfl
  have p5 := BP.cell (j := 5) rfl
  have p6 := BS.cell (j := 0) rfl
  have p7 := BS.cell (j := 1) rfl
  have p8 := BS.cell (j := 2) rfl
  have p9 := BS.cell (j := 3) rfl
  clear BP BS
  have hwa1 : Below w.heap.size w (wb.alloc (.cells #[.int .i64 y] 2)) := HB.alloc HB.size _
  go_enter Tryz.func44, Tryz.ntmps44
  go_wp2_with fail
  rw [← HW.out]
  refine (HLN.out [116, 104, 114, 111, 119] (some ⟨w.heap.size + 2, 0, none⟩) _ _ [y] (wb.alloc (.cells #[.int .i64 y] 2)) (by simp) (ints_one rfl (by rw [HW.out]; simp) (in64_small (by omega) (by omega))) (by omega) (by simp; omega) hwa1).mono ?_
  rintro e w1 ⟨rfl, hb1⟩
  go_wp2
  go_ret
  exact ⟨ret_str (by simp [lineL, numS]), hwa1.trans (hb1.mono hwa1.size)⟩
set_option maxRecDepth 20000 in
set_option maxHeartbeats 6400000 in
theorem stmtText_9 (wd tp : Int) (a1 a2 a3 a4 b1 b2 : Option Addr) (n1 n2 n3 n4 c1 c2 c3 c4 m1 m2 d1 d2 : Nat) (y : Int) (w : World) (h0 : 0 ≤ y) (h1 : y ≤ 9) (hw : w.cell? ⟨0, 7, none⟩ = some (.string ⟨#[99, 97, 116, 99, 104]⟩)) (hwl : 0 < w.heap.size) (hln : ∀ (word : List UInt8) (a : Option Addr) (m c : Nat) (zs : List Int) (w' : World), word.length ≤ 100 → Ints w' a m zs → m ≤ 2 → (∀ z ∈ zs, 0 ≤ z ∧ z ≤ 255) → Below w.heap.size w w' → Calls Tryz.prog 103 #[.string ⟨word.toArray⟩, .slice a m c] w' fun e w'' => e = .returned (.string ⟨(lineL word zs).toArray⟩) ∧ Below w'.heap.size w' w'') :
    Calls Tryz.prog 44 #[.agg #[.int .i64 wd, .slice a1 n1 c1, .slice a2 n2 c2, .int .i64 tp, .slice a3 n3 c3, .slice a4 n4 c4], .agg #[.int .i64 9, .int .i64 y, .slice b1 m1 d1, .slice b2 m2 d2]] w fun e w' => e = .returned (.string ⟨(([99, 97, 116, 99, 104, 32] ++ Lib.itoa y) ++ [10]).toArray⟩) ∧ Below w.heap.size w w' := by
  obtain ⟨wb, HW⟩ : ∃ wb, Hid (wb = (w.alloc (.cells #[.int .i64 wd, .slice a1 n1 c1, .slice a2 n2 c2, .int .i64 tp, .slice a3 n3 c3, .slice a4 n4 c4] 28)).alloc (.cells #[.int .i64 9, .int .i64 y, .slice b1 m1 d1, .slice b2 m2 d2] 76)) := ⟨_, rfl⟩
  have BP : Blk wb w.heap.size 28 [.int .i64 wd, .slice a1 n1 c1, .slice a2 n2 c2, .int .i64 tp, .slice a3 n3 c3, .slice a4 n4 c4] := by rw [HW.out]; exact (Blk.new w _ _).alloc _
  have BS : Blk wb (w.heap.size + 1) 76 [.int .i64 9, .int .i64 y, .slice b1 m1 d1, .slice b2 m2 d2] := by rw [HW.out]; have := Blk.new (w.alloc (.cells #[.int .i64 wd, .slice a1 n1 c1, .slice a2 n2 c2, .int .i64 tp, .slice a3 n3 c3, .slice a4 n4 c4] 28)) 76 [.int .i64 9, .int .i64 y, .slice b1 m1 d1, .slice b2 m2 d2]; simpa using this
  have HB : Below w.heap.size w wb := by rw [HW.out]; exact ((Below.refl _ _).alloc (Nat.le_refl _) _).alloc (by simp) _
  have HD : Below wb.heap.size wb wb.drew := ⟨rfl, rfl, rfl, Nat.le_refl _, fun _ _ => rfl⟩
  have HBP := Lib.hid BP
  have HBS := Lib.hid BS
  have HLN := Lib.hid hln
  have hwb : wb.cell? ⟨0, 7, none⟩ = some (.string ⟨#[99, 97, 116, 99, 104]⟩) := (HB.cell hwl).trans hw
  clear hln
  have p0 := BP.cell (j := 0) rfl
  have p1 := BP.cell (j := 1) rfl
  have p2 := BP.cell (j := 2) rfl
  have p3 := BP.cell (j := 3) rfl
  have p4 := BP.cell (j := 4) rfl
  have p5 := BP.cell (j := 5) rfl
  have p6 := BS.cell (j := 0) rfl
  have p7 := BS.cell (j := 1) rfl
  have p8 := BS.cell (j := 2) rfl
  have p9 := BS.cell (j := 3) rfl
  clear BP BS
  have hwa1 : Below w.heap.size w (wb.alloc (.cells #[.int .i64 y] 2)) := HB.alloc HB.size _
  go_enter Tryz.func44, Tryz.ntmps44
  go_wp2_with fail
  rw [← HW.out]
  refine (HLN.out [99, 97, 116, 99, 104] (some ⟨w.heap.size + 2, 0, none⟩) _ _ [y] (wb.alloc (.cells #[.int .i64 y] 2)) (by simp) (ints_one rfl (by rw [HW.out]; simp) (in64_small (by omega) (by omega))) (by omega) (by simp; omega) hwa1).mono ?_
  rintro e w1 ⟨rfl, hb1⟩
  go_wp2
  go_ret
  exact ⟨ret_str (by simp [lineL, numS]), hwa1.trans (hb1.mono hwa1.size)⟩
set_option maxRecDepth 20000 in
set_option maxHeartbeats 6400000 in
theorem stmtText_3 (wd tp : Int) (a1 a2 a3 a4 b1 b2 : Option Addr) (n1 n2 n3 n4 c1 c2 c3 c4 m1 m2 d1 d2 : Nat) (y : Int) (w : World) (hw : w.cell? ⟨0, 1, none⟩ = some (.string ⟨#[101, 108, 115, 101]⟩)) (hwl : 0 < w.heap.size) (hln : ∀ (word : List UInt8) (a : Option Addr) (m c : Nat) (zs : List Int) (w' : World), word.length ≤ 100 → Ints w' a m zs → m ≤ 2 → (∀ z ∈ zs, 0 ≤ z ∧ z ≤ 255) → Below w.heap.size w w' → Calls Tryz.prog 103 #[.string ⟨word.toArray⟩, .slice a m c] w' fun e w'' => e = .returned (.string ⟨(lineL word zs).toArray⟩) ∧ Below w'.heap.size w' w'') :
    Calls Tryz.prog 44 #[.agg #[.int .i64 wd, .slice a1 n1 c1, .slice a2 n2 c2, .int .i64 tp, .slice a3 n3 c3, .slice a4 n4 c4], .agg #[.int .i64 3, .int .i64 y, .slice b1 m1 d1, .slice b2 m2 d2]] w fun e w' => e = .returned (.string ⟨(([101, 108, 115, 101] : List UInt8) ++ [10]).toArray⟩) ∧ Below w.heap.size w w' := by
  obtain ⟨wb, HW⟩ : ∃ wb, Hid (wb = (w.alloc (.cells #[.int .i64 wd, .slice a1 n1 c1, .slice a2 n2 c2, .int .i64 tp, .slice a3 n3 c3, .slice a4 n4 c4] 28)).alloc (.cells #[.int .i64 3, .int .i64 y, .slice b1 m1 d1, .slice b2 m2 d2] 76)) := ⟨_, rfl⟩
  have BP : Blk wb w.heap.size 28 [.int .i64 wd, .slice a1 n1 c1, .slice a2 n2 c2, .int .i64 tp, .slice a3 n3 c3, .slice a4 n4 c4] := by rw [HW.out]; exact (Blk.new w _ _).alloc _
  have BS : Blk wb (w.heap.size + 1) 76 [.int .i64 3, .int .i64 y, .slice b1 m1 d1, .slice b2 m2 d2] := by rw [HW.out]; have := Blk.new (w.alloc (.cells #[.int .i64 wd, .slice a1 n1 c1, .slice a2 n2 c2, .int .i64 tp, .slice a3 n3 c3, .slice a4 n4 c4] 28)) 76 [.int .i64 3, .int .i64 y, .slice b1 m1 d1, .slice b2 m2 d2]; simpa using this
  have HB : Below w.heap.size w wb := by rw [HW.out]; exact ((Below.refl _ _).alloc (Nat.le_refl _) _).alloc (by simp) _
  have HD : Below wb.heap.size wb wb.drew := ⟨rfl, rfl, rfl, Nat.le_refl _, fun _ _ => rfl⟩
  have HBP := Lib.hid BP
  have HBS := Lib.hid BS
  have HLN := Lib.hid hln
  have hwb : wb.cell? ⟨0, 1, none⟩ = some (.string ⟨#[101, 108, 115, 101]⟩) := (HB.cell hwl).trans hw
  clear hln
  have p0 := BP.cell (j := 0) rfl
  have p1 := BP.cell (j := 1) rfl
  have p2 := BP.cell (j := 2) rfl
  have p3 := BP.cell (j := 3) rfl
  have p4 := BP.cell (j := 4) rfl
  have p5 := BP.cell (j := 5) rfl
  have p6 := BS.cell (j := 0) rfl
  have p7 := BS.cell (j := 1) rfl
  have p8 := BS.cell (j := 2) rfl
  have p9 := BS.cell (j := 3) rfl
  clear BP BS
  go_enter Tryz.func44, Tryz.ntmps44
  go_wp2_with fail
  rw [← HW.out]
  refine (HLN.out [101, 108, 115, 101] none 0 0 [] wb (by simp) ⟨rfl, by omega, by simp, fun h => absurd h (by omega)⟩ (by omega) (by simp) HB).mono ?_
  rintro e w1 ⟨rfl, hb1⟩
  go_wp2
  go_ret
  exact ⟨ret_str (by simp [lineL]), HB.trans (hb1.mono HB.size)⟩
set_option maxRecDepth 20000 in
set_option maxHeartbeats 6400000 in
theorem stmtText_4 (wd tp : Int) (a1 a2 a3 a4 b1 b2 : Option Addr) (n1 n2 n3 n4 c1 c2 c3 c4 m1 m2 d1 d2 : Nat) (y : Int) (w : World) (hw : w.cell? ⟨0, 2, none⟩ = some (.string ⟨#[101, 110, 100]⟩)) (hwl : 0 < w.heap.size) (hln : ∀ (word : List UInt8) (a : Option Addr) (m c : Nat) (zs : List Int) (w' : World), word.length ≤ 100 → Ints w' a m zs → m ≤ 2 → (∀ z ∈ zs, 0 ≤ z ∧ z ≤ 255) → Below w.heap.size w w' → Calls Tryz.prog 103 #[.string ⟨word.toArray⟩, .slice a m c] w' fun e w'' => e = .returned (.string ⟨(lineL word zs).toArray⟩) ∧ Below w'.heap.size w' w'') :
    Calls Tryz.prog 44 #[.agg #[.int .i64 wd, .slice a1 n1 c1, .slice a2 n2 c2, .int .i64 tp, .slice a3 n3 c3, .slice a4 n4 c4], .agg #[.int .i64 4, .int .i64 y, .slice b1 m1 d1, .slice b2 m2 d2]] w fun e w' => e = .returned (.string ⟨(([101, 110, 100] : List UInt8) ++ [10]).toArray⟩) ∧ Below w.heap.size w w' := by
  obtain ⟨wb, HW⟩ : ∃ wb, Hid (wb = (w.alloc (.cells #[.int .i64 wd, .slice a1 n1 c1, .slice a2 n2 c2, .int .i64 tp, .slice a3 n3 c3, .slice a4 n4 c4] 28)).alloc (.cells #[.int .i64 4, .int .i64 y, .slice b1 m1 d1, .slice b2 m2 d2] 76)) := ⟨_, rfl⟩
  have BP : Blk wb w.heap.size 28 [.int .i64 wd, .slice a1 n1 c1, .slice a2 n2 c2, .int .i64 tp, .slice a3 n3 c3, .slice a4 n4 c4] := by rw [HW.out]; exact (Blk.new w _ _).alloc _
  have BS : Blk wb (w.heap.size + 1) 76 [.int .i64 4, .int .i64 y, .slice b1 m1 d1, .slice b2 m2 d2] := by rw [HW.out]; have := Blk.new (w.alloc (.cells #[.int .i64 wd, .slice a1 n1 c1, .slice a2 n2 c2, .int .i64 tp, .slice a3 n3 c3, .slice a4 n4 c4] 28)) 76 [.int .i64 4, .int .i64 y, .slice b1 m1 d1, .slice b2 m2 d2]; simpa using this
  have HB : Below w.heap.size w wb := by rw [HW.out]; exact ((Below.refl _ _).alloc (Nat.le_refl _) _).alloc (by simp) _
  have HD : Below wb.heap.size wb wb.drew := ⟨rfl, rfl, rfl, Nat.le_refl _, fun _ _ => rfl⟩
  have HBP := Lib.hid BP
  have HBS := Lib.hid BS
  have HLN := Lib.hid hln
  have hwb : wb.cell? ⟨0, 2, none⟩ = some (.string ⟨#[101, 110, 100]⟩) := (HB.cell hwl).trans hw
  clear hln
  have p0 := BP.cell (j := 0) rfl
  have p1 := BP.cell (j := 1) rfl
  have p2 := BP.cell (j := 2) rfl
  have p3 := BP.cell (j := 3) rfl
  have p4 := BP.cell (j := 4) rfl
  have p5 := BP.cell (j := 5) rfl
  have p6 := BS.cell (j := 0) rfl
  have p7 := BS.cell (j := 1) rfl
  have p8 := BS.cell (j := 2) rfl
  have p9 := BS.cell (j := 3) rfl
  clear BP BS
  go_enter Tryz.func44, Tryz.ntmps44
  go_wp2_with fail
  rw [← HW.out]
  refine (HLN.out [101, 110, 100] none 0 0 [] wb (by simp) ⟨rfl, by omega, by simp, fun h => absurd h (by omega)⟩ (by omega) (by simp) HB).mono ?_
  rintro e w1 ⟨rfl, hb1⟩
  go_wp2
  go_ret
  exact ⟨ret_str (by simp [lineL]), HB.trans (hb1.mono HB.size)⟩
set_option maxRecDepth 20000 in
set_option maxHeartbeats 6400000 in
theorem stmtText_8 (wd tp : Int) (a1 a2 a3 a4 b1 b2 : Option Addr) (n1 n2 n3 n4 c1 c2 c3 c4 m1 m2 d1 d2 : Nat) (y : Int) (w : World) (hw : w.cell? ⟨0, 6, none⟩ = some (.string ⟨#[116, 114, 121]⟩)) (hwl : 0 < w.heap.size) (hln : ∀ (word : List UInt8) (a : Option Addr) (m c : Nat) (zs : List Int) (w' : World), word.length ≤ 100 → Ints w' a m zs → m ≤ 2 → (∀ z ∈ zs, 0 ≤ z ∧ z ≤ 255) → Below w.heap.size w w' → Calls Tryz.prog 103 #[.string ⟨word.toArray⟩, .slice a m c] w' fun e w'' => e = .returned (.string ⟨(lineL word zs).toArray⟩) ∧ Below w'.heap.size w' w'') :
    Calls Tryz.prog 44 #[.agg #[.int .i64 wd, .slice a1 n1 c1, .slice a2 n2 c2, .int .i64 tp, .slice a3 n3 c3, .slice a4 n4 c4], .agg #[.int .i64 8, .int .i64 y, .slice b1 m1 d1, .slice b2 m2 d2]] w fun e w' => e = .returned (.string ⟨(([116, 114, 121] : List UInt8) ++ [10]).toArray⟩) ∧ Below w.heap.size w w' := by
  obtain ⟨wb, HW⟩ : ∃ wb, Hid (wb = (w.alloc (.cells #[.int .i64 wd, .slice a1 n1 c1, .slice a2 n2 c2, .int .i64 tp, .slice a3 n3 c3, .slice a4 n4 c4] 28)).alloc (.cells #[.int .i64 8, .int .i64 y, .slice b1 m1 d1, .slice b2 m2 d2] 76)) := ⟨_, rfl⟩
  have BP : Blk wb w.heap.size 28 [.int .i64 wd, .slice a1 n1 c1, .slice a2 n2 c2, .int .i64 tp, .slice a3 n3 c3, .slice a4 n4 c4] := by rw [HW.out]; exact (Blk.new w _ _).alloc _
  have BS : Blk wb (w.heap.size + 1) 76 [.int .i64 8, .int .i64 y, .slice b1 m1 d1, .slice b2 m2 d2] := by rw [HW.out]; have := Blk.new (w.alloc (.cells #[.int .i64 wd, .slice a1 n1 c1, .slice a2 n2 c2, .int .i64 tp, .slice a3 n3 c3, .slice a4 n4 c4] 28)) 76 [.int .i64 8, .int .i64 y, .slice b1 m1 d1, .slice b2 m2 d2]; simpa using this
  have HB : Below w.heap.size w wb := by rw [HW.out]; exact ((Below.refl _ _).alloc (Nat.le_refl _) _).alloc (by simp) _
  have HD : Below wb.heap.size wb wb.drew := ⟨rfl, rfl, rfl, Nat.le_refl _, fun _ _ => rfl⟩
  have HBP := Lib.hid BP
  have HBS := Lib.hid BS
  have HLN := Lib.hid hln
  have hwb : wb.cell? ⟨0, 6, none⟩ = some (.string ⟨#[116, 114, 121]⟩) := (HB.cell hwl).trans hw
  clear hln
  have p0 := BP.cell (j := 0) rfl
  have p1 := BP.cell (j := 1) rfl
  have p2 := BP.cell (j := 2) rfl
  have p3 := BP.cell (j := 3) rfl
  have p4 := BP.cell (j := 4) rfl
  have p5 := BP.cell (j := 5) rfl
  have p6 := BS.cell (j := 0) rfl
  have p7 := BS.cell (j := 1) rfl
  have p8 := BS.cell (j := 2) rfl
  have p9 := BS.cell (j := 3) rfl
  clear BP BS
  go_enter Tryz.func44, Tryz.ntmps44
  go_wp2_with fail
  rw [← HW.out]
  refine (HLN.out [116, 114, 121] none 0 0 [] wb (by simp) ⟨rfl, by omega, by simp, fun h => absurd h (by omega)⟩ (by omega) (by simp) HB).mono ?_
  rintro e w1 ⟨rfl, hb1⟩
  go_wp2
  go_ret
  exact ⟨ret_str (by simp [lineL]), HB.trans (hb1.mono HB.size)⟩
end Go.Proofs.YtjboghmcmlkpoaaGreatDoor
/- The contracts of the program's stmtText and ShowProg (written by tools/gen_implprog.py). -/
namespace Go.Proofs.YtjboghmcmlkpoaaGreatDoor
open Go.RowKit

/-- .. and of the statements' words. -/
structure Tabs2 (w : World) : Prop where
  tabs : Tabs w
  words : StrsAt w 0 stmtWordsL
theorem Tabs2.below {w w' : World} (h : Tabs2 w) (hb : Below w.heap.size w w') : Tabs2 w' := ⟨h.tabs.below hb, h.words.below hb⟩
theorem name_temp {r : PRow} {n : Int} (h0 : (r.lows.2.1 : Int) + r.secrets.2.1 ≤ n) (h1 : n < (r.lows.2.1 : Int) + r.secrets.2.1 + r.temps) : nameS r [116] n = varS r.lows.2.1 r.secrets.2.1 n := by
  unfold varS
  simp only [nameS, nameFirst, nameCount]
  simp
  rw [if_pos ⟨by omega, by omega⟩, if_neg (by omega), if_neg (by omega), show n - ((r.lows.2.1 : Int) + r.secrets.2.1) = n - r.lows.2.1 - r.secrets.2.1 by omega]
theorem stmtText_any (r : PRow) (p : Prg) (s : Stm) (b1 b2 : Option Addr) (m1 m2 d1 d2 : Nat) (w : World) (h : ProgAt w r p) (hz : codeB p = 0) (hs : stmtB (2 ^ p.width.toNat) (p.lows.length + p.secrets.length) p.temps.toNat p.arrays.length s = true) (h1 : Terms w b1 m1 s.at_) (h2 : Terms w b2 m2 s.exp) (ht : Tabs2 w) :
    Calls Tryz.prog 44 #[progV r, .agg #[.int .i64 s.op, .int .i64 s.n, .slice b1 m1 d1, .slice b2 m2 d2]] w fun e w' => e = .returned (.string ⟨(lineS p.lows.length p.secrets.length s).toArray⟩) ∧ Below w.heap.size w w' := by
  obtain ⟨_, _, q3, q4, q5, q6, q7, _⟩ := code_head hz
  have hn := code_names h hz
  have e1 := h.lows.1
  have e2 := h.secrets.1
  have e3 := h.arrays.1
  have e4 := h.temps
  have hE : ∀ (a : Option Addr) (n c : Nat) (ts : List Tm), Terms w a n ts → standB p ts = true → ∃ T : Tr, (∀ w', Below w.heap.size w w' → Calls Tryz.prog 70 #[.slice a n c] w' fun e w'' => ∃ u z, e = .returned (.iface u z) ∧ IsTree w'' (fun _ => True) (.iface u z) T ∧ Below w'.heap.size w' w'') ∧
      (∀ w' u z, Below w.heap.size w w' → IsTree w' (fun _ => True) (.iface u z) T → Calls Tryz.prog 69 #[progV r, .iface u z] w' fun e w'' => e = .returned (.string ⟨(expS p.lows.length p.secrets.length ts).toArray⟩) ∧ Below w'.heap.size w' w'') := by
    intro a n c ts hts hb
    obtain ⟨T, g1, g2, g3, g4, g5, g6, _⟩ := stand_tree hb
    refine ⟨T, fun w' hw => treeOf_any a n c ts T w' (hts.below (Nat.le_refl _) hw) (by have := hts.1; omega) (Lib.hid g6) (Lib.hid g1), fun w' u z hw hI => ?_⟩
    rw [expS_of g1, e1, e2]
    exact textOf_any r T _ w' hn g3 (by rw [← g2]; exact g4) (by rw [← g2]; exact stand_named h hz hb) (by rw [← g2]; omega) hI (ht.tabs.below hw)
  have hNM : ∀ (n : Int) (c : UInt8), Letter c → 0 ≤ n → n ≤ 255 → ∀ (w' : World) (g : Nat), Below w.heap.size w w' → g < w'.heap.size → w'.cell? ⟨g, 0, none⟩ = some (.string ⟨#[c]⟩) → Calls Tryz.prog 104 #[progV r, .int .i64 n, .slice (some ⟨g, 0, none⟩) 1 1] w' fun e w'' => e = .returned (.string ⟨(nameS r [c] n).toArray⟩) ∧ Below w'.heap.size w' w'' := by
    intro n c hc i0 i1 w' g hb hg hcell
    refine nameOf_any r n _ _ _ [c] _ hn ⟨rfl, by omega, fun c' hc' => ?_, g, 0, rfl, hg, fun i hi => ?_⟩ i0 i1 (ht.tabs.below hb).pow
    · simp at hc'; subst hc'; exact hc
    · obtain rfl : i = 0 := by omega
      exact hcell
  have hW := fun k (hk : k < 8) => ht.words.2 k hk
  have hWl := ht.words.1
  have hLN : ∀ (word : List UInt8) (a : Option Addr) (m c : Nat) (zs : List Int) (w' : World), word.length ≤ 100 → Ints w' a m zs → m ≤ 2 → (∀ z ∈ zs, 0 ≤ z ∧ z ≤ 255) → Below w.heap.size w w' → Calls Tryz.prog 103 #[.string ⟨word.toArray⟩, .slice a m c] w' fun e w'' => e = .returned (.string ⟨(lineL word zs).toArray⟩) ∧ Below w'.heap.size w' w'' := fun word a m c zs w' i1 i2 i3 i4 i5 => lineOf_any word a m c zs w' i1 i2 i3 i4 (ht.tabs.below i5).pow
  obtain ⟨x, y, ts, us⟩ := s
  have hc := stm_cases hs
  simp only [] at hc h1 h2
  have hV0 : (p.lows.length + p.secrets.length : Nat) ≤ y → y ≤ ((p.lows.length + p.secrets.length : Nat) : Int) + p.temps.toNat - 1 → nameS r [116] y = varS p.lows.length p.secrets.length y := fun i1 i2 => by
    rw [e1, e2]; exact name_temp (by omega) (by omega)
  have hV1 : 0 ≤ y → y ≤ (p.arrays.length : Int) - 1 → nameS r [109] y = 109 :: Lib.itoa y := fun i1 i2 => name_array i1 (by omega)
  obtain ⟨wd, ⟨a1, n1, c1⟩, ⟨a2, n2, c2⟩, tp, ⟨a3, n3, c3⟩, ⟨a4, n4, c4⟩, rows⟩ := r
  simp only [lineS]
  rcases hc with ⟨rfl, i1, i2, g1⟩ | ⟨rfl, i1, i2, g1, g2⟩ | ⟨rfl, g1⟩ | rfl | rfl | ⟨rfl, i1, i2⟩ | ⟨rfl, g1⟩ | ⟨rfl, i1, i2⟩ | rfl | ⟨rfl, i1, i2⟩
  · obtain ⟨T, t1, t2⟩ := hE b2 m2 d2 us h2 g1
    have := hNM y 116 (.inr (.inr (.inl rfl))) (by omega) (by omega)
    rw [hV0 i1 i2] at this
    exact stmtText_0 wd tp a1 a2 a3 a4 b1 b2 n1 n2 n3 n4 c1 c2 c3 c4 m1 m2 d1 d2 y w _ (by have := varS_len (L := p.lows.length) (S := p.secrets.length) (n := y) (by omega) (by omega); omega) this T _ (expS_len g1) t1 t2
  · obtain ⟨T, t1, t2⟩ := hE b1 m1 d1 ts h1 g2
    obtain ⟨T', t3, t4⟩ := hE b2 m2 d2 us h2 g1
    have := hNM y 109 (.inr (.inr (.inr rfl))) (by omega) (by omega)
    rw [hV1 i1 i2] at this
    exact stmtText_1 wd tp a1 a2 a3 a4 b1 b2 n1 n2 n3 n4 c1 c2 c3 c4 m1 m2 d1 d2 y w (109 :: Lib.itoa y) (by have := digs3 (n := y) (by omega) (by omega); simp; omega) this T _ (expS_len g2) t1 t2 T' _ (expS_len g1) t3 t4
  · obtain ⟨T, t1, t2⟩ := hE b2 m2 d2 us h2 g1
    exact stmtText_2 wd tp a1 a2 a3 a4 b1 b2 n1 n2 n3 n4 c1 c2 c3 c4 m1 m2 d1 d2 y w (hW 0 (by omega)) hWl T _ (expS_len g1) t1 t2
  · exact stmtText_3 wd tp a1 a2 a3 a4 b1 b2 n1 n2 n3 n4 c1 c2 c3 c4 m1 m2 d1 d2 y w (hW 1 (by omega)) hWl hLN
  · exact stmtText_4 wd tp a1 a2 a3 a4 b1 b2 n1 n2 n3 n4 c1 c2 c3 c4 m1 m2 d1 d2 y w (hW 2 (by omega)) hWl hLN
  · exact stmtText_5 wd tp a1 a2 a3 a4 b1 b2 n1 n2 n3 n4 c1 c2 c3 c4 m1 m2 d1 d2 y w i1 i2 (hW 3 (by omega)) hWl hLN
  · obtain ⟨T, t1, t2⟩ := hE b2 m2 d2 us h2 g1
    exact stmtText_6 wd tp a1 a2 a3 a4 b1 b2 n1 n2 n3 n4 c1 c2 c3 c4 m1 m2 d1 d2 y w (hW 4 (by omega)) hWl T _ (expS_len g1) t1 t2
  · exact stmtText_7 wd tp a1 a2 a3 a4 b1 b2 n1 n2 n3 n4 c1 c2 c3 c4 m1 m2 d1 d2 y w i1 i2 (hW 5 (by omega)) hWl hLN
  · exact stmtText_8 wd tp a1 a2 a3 a4 b1 b2 n1 n2 n3 n4 c1 c2 c3 c4 m1 m2 d1 d2 y w (hW 6 (by omega)) hWl hLN
  · exact stmtText_9 wd tp a1 a2 a3 a4 b1 b2 n1 n2 n3 n4 c1 c2 c3 c4 m1 m2 d1 d2 y w i1 i2 (hW 7 (by omega)) hWl hLN
theorem byteCells_len (l : List UInt8) : (Lib.byteCells l).length = l.length := by simp [Lib.byteCells]
theorem headS_len {p : Prg} (hz : codeB p = 0) : (headS p).length ≤ 200 := by
  have := part_lens hz
  have h1 := this.lows p.lows.length
  have h2 := this.secrets p.secrets.length
  have h3 := this.arrays p.arrays.length
  have h4 := this.width
  have h5 := this.temps
  rw [List.take_length] at h1 h2 h3
  simp only [headS, List.length_append]
  omega
set_option maxRecDepth 20000 in
set_option maxHeartbeats 6400000 in
theorem implShowProg_any (r : PRow) (p : Prg) (w : World) (h : ProgAt w r p) (hcap : Caps r) (ht : Tabs2 w) :
    Calls Tryz.prog 11 #[progV r] w fun e w' => e = .returned (.string ⟨(progSB p).toArray⟩) ∧ Below w.heap.size w w' := by
  have HPO : Hid (∀ w', Below w.heap.size w w' → Calls Tryz.prog 41 #[progV r] w' fun e w'' => e = .returned (.bool (codeB p == 0)) ∧ Below w'.heap.size w' w'') := Lib.hid (fun w' hw => implProgOk_any r p w' (h.below hw) hcap.body)
  by_cases hz : codeB p = 0
  case neg =>
    rw [prog_no hz]
    have hzz : (codeB p == 0) = false := by simpa using hz
    rw [hzz] at HPO
    obtain ⟨wd, ⟨a1, n1, c1⟩, ⟨a2, n2, c2⟩, tp, ⟨a3, n3, c3⟩, ⟨a4, n4, c4⟩, rows⟩ := r
    clear h hz hzz hcap ht
    show Calls Tryz.prog 11 #[.agg #[.int .i64 wd, .slice a1 n1 c1, .slice a2 n2 c2, .int .i64 tp, .slice a3 n3 c3, .slice a4 n4 c4]] w _
    have HB : Below w.heap.size w (w.alloc (.cells #[.int .i64 wd, .slice a1 n1 c1, .slice a2 n2 c2, .int .i64 tp, .slice a3 n3 c3, .slice a4 n4 c4] 28)) := (Below.refl _ _).alloc (Nat.le_refl _) _
    go_enter Tryz.func11, Tryz.ntmps11
    go_wp2_with fail
    refine (HPO.out _ HB).mono ?_
    rintro e w1 ⟨rfl, hb1⟩
    have HB := HB.trans (hb1.mono HB.size)
    go_wp2
    go_ret
    exact ⟨rfl, HB⟩
  have hzz : (codeB p == 0) = true := by simpa using hz
  rw [hzz] at HPO
  rw [prog_yes hz]
  have PL := Lib.hid (part_lens hz)
  have HHL := Lib.hid (headS_len hz)
  obtain ⟨_, _, _, _, _, _, _, q8⟩ := code_head hz
  obtain ⟨_, _, _, g4⟩ := code_parts hz
  have HHT : Hid (∀ w', Below w.heap.size w w' → Calls Tryz.prog 43 #[progV r] w' fun e w'' => e = .returned (.string ⟨(headS p).toArray⟩) ∧ Below w'.heap.size w' w'') := Lib.hid (fun w' hw => headText_any r p w' (h.below hw) hz (ht.tabs.below hw).pow)
  have HST : Hid (∀ k x y ba m1 d1 bb m2 d2 ts us, k < p.body.length → stAt p.body k = ⟨x, y, ts, us⟩ → ∀ w', Below w.heap.size w w' → Terms w' ba m1 ts → Terms w' bb m2 us → Calls Tryz.prog 44 #[progV r, .agg #[.int .i64 x, .int .i64 y, .slice ba m1 d1, .slice bb m2 d2]] w' fun e w'' => e = .returned (.string ⟨(lineS p.lows.length p.secrets.length ⟨x, y, ts, us⟩).toArray⟩) ∧ Below w'.heap.size w' w'') := Lib.hid (fun k x y ba m1 d1 bb m2 d2 ts us hk e w' hw t1 t2 => stmtText_any r p ⟨x, y, ts, us⟩ ba bb m1 m2 d1 d2 w' (h.below hw) hz (by rw [← e]; exact g4 _ (stAt_mem hk)) t1 t2 (ht.below hw))
  have HSL : Hid (∀ k x y ts us, k < p.body.length → stAt p.body k = ⟨x, y, ts, us⟩ → (lineS p.lows.length p.secrets.length ⟨x, y, ts, us⟩).length ≤ 701) := Lib.hid (fun k x y ts us hk e => by have := stm_len hz (g4 _ (stAt_mem hk)); rw [e] at this; simp [lineS]; omega)
  have HCAP := Lib.hid hcap
  have HPA := Lib.hid h
  obtain ⟨wd, ⟨a1, n1, c1⟩, ⟨a2, n2, c2⟩, tp, ⟨a3, n3, c3⟩, ⟨a4, n4, c4⟩, rows⟩ := r
  have L4 := Lib.hid h.body.2.1
  simp only [] at L4
  have hn4 : n4 ≤ 40 := by rw [← L4.out]; exact q8
  obtain ⟨hd, HHD⟩ : ∃ hd, Hid (headS p = hd) := ⟨_, rfl⟩
  obtain ⟨ls, HLS⟩ : ∃ ls : Stm → List UInt8, Hid (lineS p.lows.length p.secrets.length = ls) := ⟨_, rfl⟩
  have HPB : Hid (∀ k, ((p.body.take k).flatMap ls).length ≤ 28040) := Lib.hid (by rw [← HLS.out]; exact PL.out.body)
  rw [HHD.out] at HHT HHL
  rw [HLS.out] at HST HSL
  have HR : Hid (progS p = hd ++ p.body.flatMap ls) := Lib.hid (by rw [progS, HHD.out, HLS.out])
  rw [HR.out]
  obtain ⟨pb, HB2⟩ : ∃ pb, Hid (p.body = pb) := ⟨_, rfl⟩
  rw [HB2.out] at HST HSL L4 HPB ⊢
  have hhd : hd.length ≤ 200 := HHL.out
  clear h hz hzz hcap ht q8 g4 HHD HLS PL HR HHL
  show Calls Tryz.prog 11 #[.agg #[.int .i64 wd, .slice a1 n1 c1, .slice a2 n2 c2, .int .i64 tp, .slice a3 n3 c3, .slice a4 n4 c4]] w _
  obtain ⟨wa, HW⟩ : ∃ wa, Hid (wa = w.alloc (.cells #[.int .i64 wd, .slice a1 n1 c1, .slice a2 n2 c2, .int .i64 tp, .slice a3 n3 c3, .slice a4 n4 c4] 28)) := ⟨_, rfl⟩
  have BP : Blk wa w.heap.size 28 [.int .i64 wd, .slice a1 n1 c1, .slice a2 n2 c2, .int .i64 tp, .slice a3 n3 c3, .slice a4 n4 c4] := by rw [HW.out]; exact Blk.new w _ _
  have HB : Below w.heap.size w wa := by rw [HW.out]; exact (Below.refl _ _).alloc (Nat.le_refl _) _
  go_enter Tryz.func11, Tryz.ntmps11
  go_wp2_with fail
  rw [← HW.out]
  refine (HPO.out _ HB).mono ?_
  rintro e w1 ⟨rfl, hb1⟩
  have BP := BP.below hb1 BP.lt
  have HB := HB.trans (hb1.mono HB.size)
  clear hb1 HW HPO
  have hbd := Lib.fresh_isBuilder 70 5 w1
  have hb0 : Below w1.heap.size w1 (w1.alloc (.cells #[.pointer none, .slice none 0 0] 70)) := (Below.refl _ _).alloc (Nat.le_refl _) _
  have BPx := BP.alloc (.cells #[.pointer none, .slice none 0 0] 70)
  have t0 := BP.cell (j := 0) rfl
  have t1 := BP.cell (j := 1) rfl
  have t2 := BP.cell (j := 2) rfl
  have t3 := BP.cell (j := 3) rfl
  have t4 := BP.cell (j := 4) rfl
  have t5 := BP.cell (j := 5) rfl
  have hlt0 := BP.lt
  go_wp2_with fail
  refine (HHT.out _ (HB.trans (hb0.mono HB.size))).mono ?_
  rintro e w2 ⟨rfl, hb2⟩
  have hbd2 := isBuilder_below hbd hb2
  have ht2 := hb0.trans (hb2.mono hb0.size)
  clear hbd hb0 hb2 BPx t0 t1 t2 t3 t4 t5 HHT
  obtain ⟨sh, HSH⟩ : ∃ sh : ByteArray, Hid (sh = ⟨hd.toArray⟩) := ⟨_, rfl⟩
  have hsh : sh.size ≤ 200 := by rw [strSz HSH.out]; exact hhd
  rw [← HSH.out]
  go_wp2_with fail
  refine (writeString_any w1.heap.size w1.heap.size [] sh _ hbd2 (by simp; omega) ht2.size).mono ?_
  rintro e w3 ⟨rfl, hbd3, hb3⟩
  rw [List.nil_append, HSH.out, strCells_list] at hbd3
  have ht3 := ht2.trans hb3
  have BP3 := BP.below ht3 BP.lt
  have t5 := BP3.cell (j := 5) rfl
  clear hbd2 hb3 ht2
  go_wp2_with fail
  clear t5 BP3
  go_loopw [15] (fun iv wr => ∃ k : Nat, k ≤ n4 ∧ iv = .int .i64 (k : Int) ∧ Lib.IsBuilder 70 5 w1.heap.size w1.heap.size (Lib.byteCells (hd ++ (pb.take k).flatMap ls)) wr ∧ Below w1.heap.size w1 wr) (fun iv _ => n4 - (intOf iv).toNat)
  case atStart => exact ⟨0, Nat.zero_le _, rfl, by simpa using .inr hbd3, ht3⟩
  case round =>
    clear hbd3 ht3
    obtain ⟨k, hk, rfl, hbdr, htr⟩ := hrel
    have HBr := HB.trans (htr.mono HB.size)
    have BPr := BP.below htr BP.lt
    by_cases hlt : k < n4
    · have hkl : k < pb.length := by rw [L4.out]; exact hlt
      obtain ⟨b, o, x, y, ba, m1, d1, bb, m2, d2, ts, us, ea, hb, hxy, hc1, hc2, hc3, hc4, i1, i2, hT1, hT2⟩ := stmt_row (k := k) (HPA.out.below HBr) HCAP.out (by rw [HB2.out]; exact hkl)
      simp only [] at ea
      rw [HB2.out] at hxy
      subst ea
      have HF := Lib.hid (st_flat ls hkl hxy)
      have hsl := HSL.out k x y ts us hkl hxy.out
      have hpl := HPB.out k
      have hbx : Below wr.heap.size wr (wr.alloc (.cells #[.int .i64 x, .int .i64 y, .slice ba m1 d1, .slice bb m2 d2] 76)) := (Below.refl _ _).alloc (Nat.le_refl _) _
      have hbd1 := isBuilder_below hbdr hbx
      have HQ := Lib.hid (HST.out k x y ba m1 d1 bb m2 d2 ts us hkl hxy.out _ (HBr.trans (hbx.mono HBr.size)) (hT1.below (Nat.le_refl _) hbx) (hT2.below (Nat.le_refl _) hbx))
      have htx := htr.trans (hbx.mono htr.size)
      have p0 := BPr.cell (j := 0) rfl
      have p1 := BPr.cell (j := 1) rfl
      have p2 := BPr.cell (j := 2) rfl
      have p3 := BPr.cell (j := 3) rfl
      have p4 := BPr.cell (j := 4) rfl
      have p5 := BPr.cell (j := 5) rfl
      have hltr := BPr.lt
      clear hbdr hT1 hT2 HBr
      go_wp2_with fail
      refine HQ.out.mono ?_
      rintro e w4 ⟨rfl, hb4⟩
      have hbd4 := isBuilder_below hbd1 hb4
      have ht4 := htx.trans (hb4.mono htx.size)
      clear hbd1 hb4 hbx htx HQ p0 p1 p2 p3 p4 p5 hc1 hc2 hc3 hc4
      obtain ⟨sl, HSL1⟩ : ∃ sl : ByteArray, Hid (sl = ⟨(ls ⟨x, y, ts, us⟩).toArray⟩) := ⟨_, rfl⟩
      have hslz : sl.size ≤ 701 := by rw [strSz HSL1.out]; exact hsl
      rw [← HSL1.out]
      go_wp2_with fail
      refine (writeString_any w1.heap.size w1.heap.size _ sl _ hbd4 (by rw [byteCells_len, List.length_append]; omega) ht4.size).mono ?_
      rintro e w5 ⟨rfl, hbd5, hb5⟩
      rw [HSL1.out, strCells_list, ← Lib.byteCells_append, List.append_assoc, ← HF.out] at hbd5
      have ht5 := ht4.trans hb5
      clear hbd4 hb5 ht4
      go_wp2
      go_roundw
      case rel => exact ⟨k + 1, by omega, by go_num, .inr hbd5, ht5⟩
      case measure => simp [intOf]; omega
    · obtain rfl : n4 = k := by omega
      have hall : pb.take n4 = pb := List.take_of_length_le (by rw [L4.out]; exact Nat.le_refl _)
      rw [hall] at hbdr
      clear hall
      go_wp2_with fail
      refine (Tryz.Builder_String_any w1.heap.size w1.heap.size _ _ hbdr htr.size).mono ?_
      rintro e w5 ⟨rfl, hb5⟩
      go_wp2
      go_ret
      exact ⟨ret_str (by simp), HB.trans ((htr.trans hb5).mono HB.size)⟩
end Go.Proofs.YtjboghmcmlkpoaaGreatDoor
/- From the row's condition on the listed variables to what ShowProg's contract asks. -/
namespace Go.Proofs.YtjboghmcmlkpoaaGreatDoor
open Go.RowKit
set_option maxRecDepth 100000

theorem tabs2_of_laid {w : World} (h : laidMetH Tryz.prog Rows.fnExactShowProgRow.laid w) : Tabs2 w := by
  have h : laidMetH Tryz.prog [("math/bits.deBruijn32tab", Rows.laid_math_bits_deBruijn32tab), ("math/bits.deBruijn64tab", Rows.laid_math_bits_deBruijn64tab), ("internal/strconv.uint64pow10", Rows.laid_internal_strconv_uint64pow10), ("loop.example/g00697/impl.signs", Rows.laid_loop_example_g00697_impl_signs), ("loop.example/g00697/impl.stmtWords", Rows.laid_loop_example_g00697_impl_stmtWords)] w := h
  rw [MakeChecks.laidMetH_plain _ _ _ (by kernel_rfl)] at h
  refine ⟨⟨Lib.tabIs_of_head (t := 260) (e := 39) (n := 20) (g := 5) (by kernel_rfl) (by kernel_rfl) Tryz.underlying260 Tryz.underlying39 (by kernel_rfl) (by kernel_rfl) h.tail.tail, ?_⟩, ?_⟩
  · exact strsAt_of_head (ls := signsL) (t := 169) (e := 9) (n := 12) (by kernel_rfl) (by kernel_rfl) Tryz.underlying169 Tryz.underlying9 (by kernel_rfl) (by kernel_rfl) h.tail.tail.tail
  · exact strsAt_of_head (ls := stmtWordsL) (t := 137) (e := 9) (n := 8) (by kernel_rfl) (by kernel_rfl) Tryz.underlying137 Tryz.underlying9 (by kernel_rfl) (by kernel_rfl) h.tail.tail.tail.tail
end Go.Proofs.YtjboghmcmlkpoaaGreatDoor
