/- Joined texts of this proof (ImplVal4, SumsLaw), in build order. -/
import Derived.Test.YtmppiefkeeanpaaJ25
import Derived.Defers
import Derived.Recover
import Derived.Test.YtmppiefkeeanpaaJ17
/- The contracts of the program's ValueIn (its deferred function recovers from the panic of a trap) and PlainIn. -/
namespace Go.Proofs.Ytmppiefkeeanpaa
open Go.RowKit

theorem assert_trap (code : Int) (w : World) : Sem.run Try.prog (Instr.typeAssert (.iface 75 (.agg #[.int .i64 code])) 20 75 true) w = .ok (.tuple #[.agg #[.int .i64 code], .bool true]) w := by kernel_rfl
theorem assert_none (w : World) : Sem.run Try.prog (Instr.typeAssert .nilIface 20 75 true) w = .ok (.tuple #[.agg #[.int .i64 0], .bool false]) w := by kernel_rfl
theorem catch_panicking (p : Addr) (x code : Int) (older : List PanicEntry) (w : World) (hc : w.cell? p = some (.int .i64 x)) (hz : w.frozen? p = false) (hp : p.block < w.heap.size) :
    CallsD Try.prog 35 #[.pointer (some p)] (.panicking ({ v := .iface 75 (.agg #[.int .i64 code]), recovered := false } :: older)) w fun e u' w' =>
      e = .returned (.tuple #[]) ∧ u' = .panicking ({ v := .iface 75 (.agg #[.int .i64 code]), recovered := true } :: older) ∧ w' = (w.alloc (.cells #[.int .i64 code] 75)).setCell p (.int .i64 code) := by
  refine callsD_of_wpS Try.func35 rfl fun c₀ cs hu => ?_
  apply wpS_seq
  apply wpS_region
  simp [wpOpsS, go_sem, recoverD, hu, Try.ntmps35, Exit.thenS, assert_trap]
  apply wpS_seq
  apply wpS_region
  simp [wpOpsS, go_sem, Exit.thenS]
  refine wpS_cond (t := true) (by simp [Act.eval, Array.replicate]) ?_
  simp only [if_true]
  apply wpS_region
  have hc' : ∀ o : Obj, (w.alloc o).cell? p = some (.int .i64 x) := fun o => (World.cell?_alloc_lt w o p hp).trans hc
  have hz' : ∀ (cs : Array Value) (t : TypeId), (w.alloc (.cells cs t)).frozen? p = false := fun cs t => (frozen?_alloc_cells w cs t p).trans hz
  simp [wpOpsS, go_sem, hc', hz', bodyPostS, results, Try.results35]
theorem catch_idle (p : Addr) (w : World) :
    CallsD Try.prog 35 #[.pointer (some p)] .returning w fun e u' w' => e = .returned (.tuple #[]) ∧ u' = .returning ∧ w' = w.alloc (.cells #[.int .i64 0] 75) := by
  refine callsD_of_wpS Try.func35 rfl fun c₀ cs hu => ?_
  apply wpS_seq
  apply wpS_region
  simp [wpOpsS, go_sem, recoverD, hu, Try.ntmps35, Exit.thenS, assert_none]
  apply wpS_seq
  apply wpS_region
  simp [wpOpsS, go_sem, Exit.thenS]
  refine wpS_cond (t := false) (by simp [Act.eval, Array.replicate]) ?_
  simp only [Bool.false_eq_true, if_false]
  refine wpS_of_wp (wp_skip ?_)
  cases c₀
  simp_all [bodyPostS, results, Try.results35]
set_option maxRecDepth 20000 in
set_option maxHeartbeats 1600000 in
theorem implPlainIn_any (r : PRow) (p : Prg) (er : ERow) (v : Envr) (a : Option Addr) (n c : Nat) (ts : List Tm) (w : World) (h : ProgAt w r p) (hcap : r.body.2.1 ≤ r.body.2.2) (he : EnvAt w er v) (ht : Terms w a n ts) :
    Calls Try.prog 14 #[progV r, envV er, .slice a n c] w fun e w' => e = .returned (.int .i64 (plainB p v ts : Int)) ∧ Below w.heap.size w w' := by
  have HBAD : Hid (reckB p v ts = false → plainB p v ts = 0) := Lib.hid (fun hR => by rw [plainB, hR, if_neg (by simp)])
  have HE0 : Hid (∀ w', Below w.heap.size w w' → Calls Try.prog 17 #[progV r, envV er] w' fun e w'' => e = .returned (.bool (envB p v)) ∧ Below w'.heap.size w' w'') := Lib.hid (fun w' hw => implEnvOk_any r p er v w' (h.below hw) hcap (he.below hw))
  have HN0 : Hid (codeB p = 0 → ∀ w', Below w.heap.size w w' → Calls Try.prog 34 #[progV r, .slice a n c] w' fun e w'' => e = .returned (.bool (namesB (2 ^ p.width.toNat) (p.lows.length + p.secrets.length + p.temps.toNat) p.arrays.length ts)) ∧ Below w'.heap.size w' w'') := Lib.hid (fun hz w' hw => mayReckon_any r _ _ _ _ a n c ts w' (code_lim h hz) (ht.below (Nat.le_refl _) hw))
  have HR0 : Hid (codeB p = 0 → ∀ w', Below w.heap.size w w' → Calls Try.prog 36 #[progV r, envV er, .bool true] w' fun e w'' => e = .returned (reckV (((2 ^ p.width.toNat : Nat) : Int) - 1) er true) ∧ Below w'.heap.size w' w'') := Lib.hid (fun hz w' _ => reckonerOf_any r _ er true w' (code_lim h hz).width (code_lim h hz).small)
  have HV0 : Hid (codeB p = 0 → Reck (2 ^ p.width.toNat) v ts → ∀ w', Below w.heap.size w w' → Calls Try.prog 37 #[reckV (((2 ^ p.width.toNat : Nat) : Int) - 1) er true, .slice a n c] w' fun e w'' => ValEnd true (trapV (2 ^ p.width.toNat) v.vars v.cells ts n) ((stkV (2 ^ p.width.toNat) v.vars v.cells ts).getD 0 0) e ∧ Below w'.heap.size w' w'') := Lib.hid (fun hz hk w' hw => value_any _ er true v a n c ts w' (by have := (code_head hz).1; omega) (code_lim h hz).small (he.below hw) (ht.below (Nat.le_refl _) hw) hk)
  have HL := Lib.hid ht.1
  clear h he ht
  obtain ⟨gv, HGV⟩ : ∃ gv : Int, Hid (((2 ^ p.width.toNat : Nat) : Int) - 1 = gv) := ⟨_, Lib.hid rfl⟩
  simp only [HGV.out] at HR0 HV0
  clear HGV
  obtain ⟨wd, ⟨a1, n1, d1⟩, ⟨a2, n2, d2⟩, tp, ⟨a3, n3, d3⟩, ⟨a4, n4, d4⟩, rows⟩ := r
  obtain ⟨⟨b1, m1, e1⟩, ⟨b2, m2, e2⟩, rws⟩ := er
  simp only [progV, envV, slV, reckV] at HE0 HN0 HR0 HV0
  show Calls Try.prog 14 #[.agg #[.int .i64 wd, .slice a1 n1 d1, .slice a2 n2 d2, .int .i64 tp, .slice a3 n3 d3, .slice a4 n4 d4], .agg #[.slice b1 m1 e1, .slice b2 m2 e2], .slice a n c] w _
  obtain ⟨wa, HW⟩ : ∃ wa, Hid (wa = ((w.alloc (.cells #[.int .i64 wd, .slice a1 n1 d1, .slice a2 n2 d2, .int .i64 tp, .slice a3 n3 d3, .slice a4 n4 d4] 31)).alloc (.cells #[.slice b1 m1 e1, .slice b2 m2 e2] 35))) := ⟨_, rfl⟩
  have BX : VBox w wa [.int .i64 wd, .slice a1 n1 d1, .slice a2 n2 d2, .int .i64 tp, .slice a3 n3 d3, .slice a4 n4 d4] [.slice b1 m1 e1, .slice b2 m2 e2] := by rw [HW.out]; exact vbox_new w _ _
  go_enter Try.func14, Try.ntmps14
  go_wp2_with fail
  rw [← HW.out]
  refine (HE0.out _ BX.bel).mono ?_
  rintro e w1 ⟨rfl, hb1⟩
  have B1 := BX.below hb1
  clear hb1 BX HW
  cases hE : envB p v with
  | false =>
    have hR : reckB p v ts = false := by rw [reckB, hE, Bool.false_and]
    go_wp2
    go_ret
    rw [HBAD.out hR]
    exact ⟨rfl, B1.bel⟩
  | true =>
  have hz := (envB_ok hE).1
  have g0 := B1.prg.cell (j := 0) rfl
  have g1 := B1.prg.cell (j := 1) rfl
  have g2 := B1.prg.cell (j := 2) rfl
  have g3 := B1.prg.cell (j := 3) rfl
  have g4 := B1.prg.cell (j := 4) rfl
  have g5 := B1.prg.cell (j := 5) rfl
  have k0 := B1.env.cell (j := 0) rfl
  have k1 := B1.env.cell (j := 1) rfl
  have HE := Lib.hid hE
  have HZ := Lib.hid hz
  clear hE hz
  go_wp2_with fail
  refine (HN0.out HZ.out _ B1.bel).mono ?_
  rintro e w2 ⟨rfl, hb2⟩
  have B2 := B1.below hb2
  clear hb2 B1 g0 g1 g2 g3 g4 g5 k0 k1
  cases hN : namesB (2 ^ p.width.toNat) (p.lows.length + p.secrets.length + p.temps.toNat) p.arrays.length ts with
  | false =>
    have hR : reckB p v ts = false := by rw [reckB, HE.out, hN, Bool.true_and]
    go_wp2
    go_ret
    rw [HBAD.out hR]
    exact ⟨rfl, B2.bel⟩
  | true =>
  have hR : reckB p v ts = true := by rw [reckB, HE.out, hN, Bool.true_and]
  have HK := Lib.hid (reck_of HE.out hN)
  have HR := Lib.hid hR
  clear hR hN
  have g0 := B2.prg.cell (j := 0) rfl
  have g1 := B2.prg.cell (j := 1) rfl
  have g2 := B2.prg.cell (j := 2) rfl
  have g3 := B2.prg.cell (j := 3) rfl
  have g4 := B2.prg.cell (j := 4) rfl
  have g5 := B2.prg.cell (j := 5) rfl
  have k0 := B2.env.cell (j := 0) rfl
  have k1 := B2.env.cell (j := 1) rfl
  go_wp2_with fail
  refine (HR0.out HZ.out _ B2.bel).mono ?_
  rintro e w3 ⟨rfl, hb3⟩
  have B3 := B2.below hb3
  clear hb3 B2 g0 g1 g2 g3 g4 g5 k0 k1
  go_wp2_with fail
  refine (HV0.out HZ.out HK.out _ B3.bel).mono ?_
  rintro e w4 ⟨he4, hb4⟩
  have B4 := B3.below hb4
  clear hb4 B3
  rcases he4 with ⟨_, rfl⟩ | ⟨⟨hf, _⟩, _⟩
  case inr => exact absurd hf (by simp)
  have HP : Hid (plainB p v ts = (stkV (2 ^ p.width.toNat) v.vars v.cells ts).getD 0 0) := Lib.hid (by rw [plainB, HR.out, if_pos rfl])
  rw [← HP.out]
  clear HP HV0 HN0 HE0
  go_wp2
  go_ret
  exact ⟨rfl, B4.bel⟩
set_option maxRecDepth 20000 in
set_option maxHeartbeats 3200000 in
theorem implValueIn_any (r : PRow) (p : Prg) (er : ERow) (v : Envr) (a : Option Addr) (n c : Nat) (ts : List Tm) (w : World) (h : ProgAt w r p) (hcap : r.body.2.1 ≤ r.body.2.2) (he : EnvAt w er v) (ht : Terms w a n ts) :
    Calls Try.prog 13 #[progV r, envV er, .slice a n c] w fun e w' => e = .returned (.tuple #[.int .i64 (valueB p v ts : Int), .int .i64 (trapB p v ts)]) ∧ Below w.heap.size w w' := by
  have hmf : ∀ (fn : Fn) (first cap : Array Value) (w : World), (Instr.makeFunc fn first cap).run Try.prog w = .ok (.func fn first cap) w := fun _ _ _ _ => rfl
  have HBAD : Hid (reckB p v ts = false → valueB p v ts = 0 ∧ trapB p v ts = 0) := Lib.hid (fun hR => by
    have e : trapB p v ts = 0 := by rw [trapB, hR, if_neg (by simp)]
    exact ⟨by rw [valueB, e, if_pos rfl, plainB, hR, if_neg (by simp)], e⟩)
  have HE0 : Hid (∀ w', Below w.heap.size w w' → Calls Try.prog 17 #[progV r, envV er] w' fun e w'' => e = .returned (.bool (envB p v)) ∧ Below w'.heap.size w' w'') := Lib.hid (fun w' hw => implEnvOk_any r p er v w' (h.below hw) hcap (he.below hw))
  have HN0 : Hid (codeB p = 0 → ∀ w', Below w.heap.size w w' → Calls Try.prog 34 #[progV r, .slice a n c] w' fun e w'' => e = .returned (.bool (namesB (2 ^ p.width.toNat) (p.lows.length + p.secrets.length + p.temps.toNat) p.arrays.length ts)) ∧ Below w'.heap.size w' w'') := Lib.hid (fun hz w' hw => mayReckon_any r _ _ _ _ a n c ts w' (code_lim h hz) (ht.below (Nat.le_refl _) hw))
  have HR0 : Hid (codeB p = 0 → ∀ w', Below w.heap.size w w' → Calls Try.prog 36 #[progV r, envV er, .bool false] w' fun e w'' => e = .returned (reckV (((2 ^ p.width.toNat : Nat) : Int) - 1) er false) ∧ Below w'.heap.size w' w'') := Lib.hid (fun hz w' _ => reckonerOf_any r _ er false w' (code_lim h hz).width (code_lim h hz).small)
  have HV0 : Hid (codeB p = 0 → Reck (2 ^ p.width.toNat) v ts → ∀ w', Below w.heap.size w w' → Calls Try.prog 37 #[reckV (((2 ^ p.width.toNat : Nat) : Int) - 1) er false, .slice a n c] w' fun e w'' => ValEnd false (trapV (2 ^ p.width.toNat) v.vars v.cells ts n) ((stkV (2 ^ p.width.toNat) v.vars v.cells ts).getD 0 0) e ∧ Below w'.heap.size w' w'') := Lib.hid (fun hz hk w' hw => value_any _ er false v a n c ts w' (by have := (code_head hz).1; omega) (code_lim h hz).small (he.below hw) (ht.below (Nat.le_refl _) hw) hk)
  have HL := Lib.hid ht.1
  clear h he ht
  obtain ⟨gv, HGV⟩ : ∃ gv : Int, Hid (((2 ^ p.width.toNat : Nat) : Int) - 1 = gv) := ⟨_, Lib.hid rfl⟩
  simp only [HGV.out] at HR0 HV0
  clear HGV
  obtain ⟨wd, ⟨a1, n1, d1⟩, ⟨a2, n2, d2⟩, tp, ⟨a3, n3, d3⟩, ⟨a4, n4, d4⟩, rows⟩ := r
  obtain ⟨⟨b1, m1, e1⟩, ⟨b2, m2, e2⟩, rws⟩ := er
  simp only [progV, envV, slV, reckV] at HE0 HN0 HR0 HV0
  show Calls Try.prog 13 #[.agg #[.int .i64 wd, .slice a1 n1 d1, .slice a2 n2 d2, .int .i64 tp, .slice a3 n3 d3, .slice a4 n4 d4], .agg #[.slice b1 m1 e1, .slice b2 m2 e2], .slice a n c] w _
  obtain ⟨wa, HW⟩ : ∃ wa, Hid (wa = ((w.alloc (.cells #[.int .i64 wd, .slice a1 n1 d1, .slice a2 n2 d2, .int .i64 tp, .slice a3 n3 d3, .slice a4 n4 d4] 31)).alloc (.cells #[.slice b1 m1 e1, .slice b2 m2 e2] 35)).alloc (.cells #[.int .i64 0] 2)) := ⟨_, rfl⟩
  have BX : VBox w wa [.int .i64 wd, .slice a1 n1 d1, .slice a2 n2 d2, .int .i64 tp, .slice a3 n3 d3, .slice a4 n4 d4] [.slice b1 m1 e1, .slice b2 m2 e2] := by rw [HW.out]; exact (vbox_new w _ _).below ((Below.refl _ _).alloc (Nat.le_refl _) _)
  have TX : Blk wa (w.heap.size + 1 + 1) 2 [.int .i64 0] := by rw [HW.out]; simpa using Blk.new ((w.alloc (.cells #[.int .i64 wd, .slice a1 n1 d1, .slice a2 n2 d2, .int .i64 tp, .slice a3 n3 d3, .slice a4 n4 d4] 31)).alloc (.cells #[.slice b1 m1 e1, .slice b2 m2 e2] 35)) 2 [.int .i64 0]
  go_enter_defers Try.func13, Try.ntmps13
  go_wp2_with fail
  rw [← HW.out]
  refine (HE0.out _ BX.bel).mono ?_
  rintro e w1 ⟨rfl, hb1⟩
  have B1 := BX.below hb1
  have T1 := TX.below hb1 TX.lt
  clear hb1 BX HW TX
  cases hE : envB p v with
  | false =>
    have hR : reckB p v ts = false := by rw [reckB, hE, Bool.false_and]
    have q0 := T1.cell (j := 0) rfl
    have q1 := T1.frozen 0
    go_wp2
    obtain ⟨wx, HX⟩ : ∃ wx, Hid (w1.setCell ⟨w.heap.size + 1 + 1, 0, none⟩ (.int .i64 0) = wx) := ⟨_, rfl⟩
    have TY : Blk wx (w.heap.size + 1 + 1) 2 [.int .i64 0] := by rw [← HX.out]; exact T1.set _
    have HBX : Below w.heap.size w wx := by rw [← HX.out]; exact below_set B1.bel (by omega) _
    rw [HX.out]
    clear HX
    have r0 := TY.cell (j := 0) rfl
    simp [bodyPostD, Leaves, results, Try.results13, go_sem, r0, (HBAD.out hR).1, (HBAD.out hR).2, HBX]
  | true =>
  have hz := (envB_ok hE).1
  have g0 := B1.prg.cell (j := 0) rfl
  have g1 := B1.prg.cell (j := 1) rfl
  have g2 := B1.prg.cell (j := 2) rfl
  have g3 := B1.prg.cell (j := 3) rfl
  have g4 := B1.prg.cell (j := 4) rfl
  have g5 := B1.prg.cell (j := 5) rfl
  have k0 := B1.env.cell (j := 0) rfl
  have k1 := B1.env.cell (j := 1) rfl
  have HE := Lib.hid hE
  have HZ := Lib.hid hz
  clear hE hz
  go_wp2_with fail
  refine (HN0.out HZ.out _ B1.bel).mono ?_
  rintro e w2 ⟨rfl, hb2⟩
  have B2 := B1.below hb2
  have T2 := T1.below hb2 T1.lt
  clear hb2 B1 g0 g1 g2 g3 g4 g5 k0 k1 T1
  cases hN : namesB (2 ^ p.width.toNat) (p.lows.length + p.secrets.length + p.temps.toNat) p.arrays.length ts with
  | false =>
    have hR : reckB p v ts = false := by rw [reckB, HE.out, hN, Bool.true_and]
    have q0 := T2.cell (j := 0) rfl
    have q1 := T2.frozen 0
    go_wp2
    obtain ⟨wx, HX⟩ : ∃ wx, Hid (w2.setCell ⟨w.heap.size + 1 + 1, 0, none⟩ (.int .i64 0) = wx) := ⟨_, rfl⟩
    have TY : Blk wx (w.heap.size + 1 + 1) 2 [.int .i64 0] := by rw [← HX.out]; exact T2.set _
    have HBX : Below w.heap.size w wx := by rw [← HX.out]; exact below_set B2.bel (by omega) _
    rw [HX.out]
    clear HX
    have r0 := TY.cell (j := 0) rfl
    simp [bodyPostD, Leaves, results, Try.results13, go_sem, r0, (HBAD.out hR).1, (HBAD.out hR).2, HBX]
  | true =>
  have hR : reckB p v ts = true := by rw [reckB, HE.out, hN, Bool.true_and]
  have HK := Lib.hid (reck_of HE.out hN)
  have HR := Lib.hid hR
  clear hR hN
  have g0 := B2.prg.cell (j := 0) rfl
  have g1 := B2.prg.cell (j := 1) rfl
  have g2 := B2.prg.cell (j := 2) rfl
  have g3 := B2.prg.cell (j := 3) rfl
  have g4 := B2.prg.cell (j := 4) rfl
  have g5 := B2.prg.cell (j := 5) rfl
  have k0 := B2.env.cell (j := 0) rfl
  have k1 := B2.env.cell (j := 1) rfl
  go_wp2_with fail
  refine (HR0.out HZ.out _ B2.bel).mono ?_
  rintro e w3 ⟨rfl, hb3⟩
  have B3 := B2.below hb3
  have T3 := T2.below hb3 T2.lt
  clear hb3 B2 g0 g1 g2 g3 g4 g5 k0 k1 T2
  go_wp2_with fail
  refine (HV0.out HZ.out HK.out _ B3.bel).mono ?_
  rintro e w4 ⟨he4, hb4⟩
  have B4 := B3.below hb4
  have T4 := T3.below hb4 T3.lt
  clear hb4 B3 T3
  have q0 := T4.cell (j := 0) rfl
  have q1 := T4.frozen 0
  have HP : Hid (plainB p v ts = (stkV (2 ^ p.width.toNat) v.vars v.cells ts).getD 0 0) := Lib.hid (by rw [plainB, HR.out, if_pos rfl])
  have HT : Hid (trapB p v ts = trapV (2 ^ p.width.toNat) v.vars v.cells ts n) := Lib.hid (by rw [trapB, HR.out, if_pos rfl, HL.out])
  rw [← HP.out, ← HT.out] at he4
  clear HP HT HV0 HN0 HE0
  rcases he4 with ⟨h0, rfl⟩ | ⟨⟨_, hn0⟩, rfl⟩
  · go_wp2
    obtain ⟨wx, HX⟩ : ∃ wx, Hid (w4.setCell ⟨w.heap.size + 1 + 1, 0, none⟩ (.int .i64 0) = wx) := ⟨_, rfl⟩
    have TY : Blk wx (w.heap.size + 1 + 1) 2 [.int .i64 0] := by rw [← HX.out]; exact T4.set _
    have HBX : Below w.heap.size w wx := by rw [← HX.out]; exact below_set B4.bel (by omega) _
    have HBY : Below w.heap.size w (wx.alloc (.cells #[.int .i64 0] 75)) := HBX.alloc HBX.size _
    have r0 := (TY.alloc (.cells #[.int .i64 0] 75)).cell (j := 0) rfl
    rw [HX.out]
    clear HX
    have ht0 : trapB p v ts = 0 := by
      rcases h0 with h0 | h0
      · exact absurd h0 (by simp)
      · exact h0
    have hv0 : valueB p v ts = plainB p v ts := by rw [valueB, if_pos ht0]
    refine leaves_cons (f := 35) (args := #[.pointer (some ⟨w.heap.size + 1 + 1, 0, none⟩)]) (by simp) (by simp [go_sem]) ?_
    refine (catch_idle ⟨w.heap.size + 1 + 1, 0, none⟩ _).mono ?_
    rintro e u' w'' ⟨rfl, rfl, rfl⟩
    simp [Leaves, settle, results, Try.results13, go_sem, r0, ht0, hv0, HBY]
  · go_wp2
    have hv0 : valueB p v ts = 0 := by rw [valueB, if_neg hn0]
    obtain ⟨wx, HX⟩ : ∃ wx, Hid ((w4.alloc (.cells #[.int .i64 (trapB p v ts)] 75)).setCell ⟨w.heap.size + 1 + 1, 0, none⟩ (.int .i64 (trapB p v ts)) = wx) := ⟨_, rfl⟩
    have TY : Blk wx (w.heap.size + 1 + 1) 2 [.int .i64 (trapB p v ts)] := by rw [← HX.out]; exact (T4.alloc _).set _
    have HBX : Below w.heap.size w wx := by rw [← HX.out]; exact below_set (B4.bel.alloc B4.bel.size _) (by omega) _
    have r0 := TY.cell (j := 0) rfl
    unfold trapC
    refine leaves_cons (f := 35) (args := #[.pointer (some ⟨w.heap.size + 1 + 1, 0, none⟩)]) (by simp) (by simp [go_sem]) ?_
    refine (catch_panicking ⟨w.heap.size + 1 + 1, 0, none⟩ 0 _ [] _ q0 q1 T4.lt).mono ?_
    rintro e u' w'' ⟨rfl, rfl, rfl⟩
    rw [HX.out]
    simp [Leaves, settle, results, Try.results13, go_sem, r0, hv0, HBX]
end Go.Proofs.Ytmppiefkeeanpaa
/- What the law FnSums leans on: the value of an expression that is put together of variables, in a drawn program. -/
namespace Go.Proofs.Ytmppiefkeeanpaa
open Go.RowKit

theorem terms_alloc {w : World} {a : Option Addr} {n : Nat} {ts : List Tm} (h : Terms w a n ts) (o : Obj) : Terms (w.alloc o) a n ts := h.below (Nat.le_refl _) ((Below.refl _ _).alloc (Nat.le_refl _) o)
theorem two_lit {op : Int} (h0 : 0 ≤ op) (h1 : op ≤ 17) {b1 n1 c1 b2 n2 c2 : Nat} (n3 : Nat) (hn : n1 + n2 + 1 = n3) (hs : n1 + n2 < 1048576) (ts us : List Tm) (w : World) (ht : Terms w (some ⟨b1, 0, none⟩) n1 ts) (hu : Terms w (some ⟨b2, 0, none⟩) n2 us) :
    Calls Try.prog 20 #[.int .i64 op, .slice (some ⟨b1, 0, none⟩) n1 c1, .slice (some ⟨b2, 0, none⟩) n2 c2] w fun e w' => ∃ g c, e = .returned (.slice (some ⟨g, 0, none⟩) n3 c) ∧ Terms w' (some ⟨g, 0, none⟩) n3 (ts ++ us ++ [(op, 0)]) ∧ Below w.heap.size w w' := by
  refine (two_any op b1 0 n1 c1 b2 0 n2 c2 ts us w ht hu (inTm_small (by omega) (by omega) (by omega) (by omega)) hs).mono ?_
  rintro e w' ⟨a, c, rfl, ho, hb⟩
  obtain ⟨g, rfl, _, _⟩ := ownT_some ho (by omega)
  rw [hn] at ho
  exact ⟨g, c, by rw [hn], ho.terms, hb⟩
theorem formula_names {S V A : Nat} {ts : List Tm} (h : Formula V A ts) (hS : 4 ≤ S) (hl : ts.length ≤ 3000) : namesB S V A ts = true := by
  simp only [namesB, Bool.and_eq_true, List.all_eq_true]
  refine ⟨(expB_iff ts).2 ⟨hl, h.1⟩, fun t ht => ?_⟩
  obtain ⟨h0, h1, h2, h3, h4, h5, h6⟩ := h.2 t ht
  unfold nameOk
  by_cases e0 : t.1 = 0
  · rw [if_pos e0]; have := h4 e0; simp; omega
  by_cases e1 : t.1 = 1
  · rw [if_neg e0, if_pos e1]; have := h5 e1; simp; omega
  by_cases e2 : t.1 = 2
  · rw [if_neg e0, if_neg e1, if_pos e2]; have := h6 e2; simp; omega
  rw [if_neg e0, if_neg e1, if_neg e2]
theorem reck_formula {P : Prg} {v : Envr} {l s b s' b' : Int} {A : Nat} {ts : List Tm} (hE : envB P v = true) (hD : Drawn P l s b s' b' A) (hf : Formula 5 A ts) (hl : ts.length ≤ 3000) : reckB P v ts = true := by
  rw [reckB, hE, Bool.true_and, hD.lows, hD.secrets, hD.temps, hD.arrays]
  refine formula_names hf ?_ hl
  have : P.width.toNat = 2 ∨ P.width.toNat = 3 := by have := hD.width; omega
  rcases this with h | h <;> rw [h] <;> decide
theorem value_ev {P : Prg} {v : Envr} {l s b s' b' : Int} {A : Nat} {ts : List Tm} {x : Nat} (hE : envB P v = true) (hD : Drawn P l s b s' b' A) (hf : Formula 5 A ts) (hl : ts.length ≤ 3000) (h : Ev (2 ^ P.width.toNat) v.vars v.cells ts x) : valueB P v ts = x ∧ trapB P v ts = 0 := by
  have hR := reck_formula hE hD hf hl
  obtain ⟨e1, e2⟩ := ev_value h
  have ht : trapB P v ts = 0 := by rw [trapB, if_pos hR]; exact e2
  exact ⟨by rw [valueB, if_pos ht, plainB, if_pos hR]; exact e1, ht⟩
theorem value_trap {P : Prg} {v : Envr} {l s b s' b' : Int} {A : Nat} {ts : List Tm} (hE : envB P v = true) (hD : Drawn P l s b s' b' A) (hf : Formula 5 A ts) (hl : ts.length ≤ 3000) (h : trapV (2 ^ P.width.toNat) v.vars v.cells ts ts.length = 1) : valueB P v ts = 0 ∧ trapB P v ts = 1 := by
  have hR := reck_formula hE hD hf hl
  have ht : trapB P v ts = 1 := by rw [trapB, if_pos hR]; exact h
  exact ⟨by rw [valueB, if_neg (by rw [ht]; decide)], ht⟩
/-- All that FnSums asks of its values. -/
structure SumsOf (P : Prg) (v : Envr) (i j : Int) (x y : Nat) : Prop where
  ex : v.vars.getD i.toNat 0 = (x : Int)
  ey : v.vars.getD j.toNat 0 = (y : Int)
  one : valueB P v [(1, i)] = x ∧ trapB P v [(1, i)] = 0
  two : valueB P v [(1, j)] = y ∧ trapB P v [(1, j)] = 0
  back : valueB P v ([(1, i)] ++ [(1, j)] ++ [(5, 0)] ++ [(1, j)] ++ [(6, 0)]) = x
  turned : valueB P v ([(1, i)] ++ [(3, 0)] ++ [(3, 0)]) = x
  crossed : valueB P v ([(1, i)] ++ [(1, j)] ++ [(12, 0)] ++ [(1, j)] ++ [(12, 0)]) = x
  less : valueB P v ([(1, i)] ++ ([(1, i)] ++ [(4, 0)]) ++ [(5, 0)]) = 0
  whole : (y = 0 ∧ valueB P v ([(1, i)] ++ [(1, j)] ++ [(8, 0)] ++ [(1, j)] ++ [(7, 0)] ++ ([(1, i)] ++ [(1, j)] ++ [(9, 0)]) ++ [(5, 0)]) = 0 ∧ trapB P v ([(1, i)] ++ [(1, j)] ++ [(8, 0)] ++ [(1, j)] ++ [(7, 0)] ++ ([(1, i)] ++ [(1, j)] ++ [(9, 0)]) ++ [(5, 0)]) = 1) ∨
    (y ≠ 0 ∧ valueB P v ([(1, i)] ++ [(1, j)] ++ [(8, 0)] ++ [(1, j)] ++ [(7, 0)] ++ ([(1, i)] ++ [(1, j)] ++ [(9, 0)]) ++ [(5, 0)]) = x ∧ trapB P v ([(1, i)] ++ [(1, j)] ++ [(8, 0)] ++ [(1, j)] ++ [(7, 0)] ++ ([(1, i)] ++ [(1, j)] ++ [(9, 0)]) ++ [(5, 0)]) = 0)
  mixed : valueB P v ([(1, i)] ++ [(1, j)] ++ [(10, 0)] ++ ([(1, i)] ++ [(1, j)] ++ [(11, 0)]) ++ [(5, 0)]) = valueB P v ([(1, i)] ++ [(1, j)] ++ [(5, 0)])
theorem sums_of {P : Prg} {v : Envr} {l s b s' b' i j : Int} {A : Nat} (hE : envB P v = true) (hD : Drawn P l s b s' b' A) (hi0 : 0 ≤ i) (hi4 : i ≤ 4) (hj0 : 0 ≤ j) (hj4 : j ≤ 4) : ∃ x y, SumsOf P v i j x y := by
  have hin := (envB_ok hE).2.2.2.1
  have hS : 2 ^ P.width.toNat = 4 ∨ 2 ^ P.width.toNat = 8 := by
    have : P.width.toNat = 2 ∨ P.width.toNat = 3 := by have := hD.width; omega
    rcases this with h | h <;> rw [h] <;> decide
  have h0 : 0 < 2 ^ P.width.toNat := by omega
  obtain ⟨i, rfl⟩ := Int.eq_ofNat_of_zero_le hi0
  obtain ⟨j, rfl⟩ := Int.eq_ofNat_of_zero_le hj0
  have gx := getD_in h0 hin.1 i
  have gy := getD_in h0 hin.1 j
  have va := ev_var (S := 2 ^ P.width.toNat) (V := v.vars) (C := v.cells) i
  have vb := ev_var (S := 2 ^ P.width.toNat) (V := v.vars) (C := v.cells) j
  have fa : Formula 5 A [(1, (i : Int))] := form_var 5 A (by omega) (by omega) (by omega)
  have fb : Formula 5 A [(1, (j : Int))] := form_var 5 A (by omega) (by omega) (by omega)
  obtain ⟨x, Hx⟩ : ∃ x, (v.vars.getD i 0).toNat = x := ⟨_, rfl⟩
  obtain ⟨y, Hy⟩ : ∃ y, (v.vars.getD j 0).toNat = y := ⟨_, rfl⟩
  rw [Hx] at va
  rw [Hy] at vb
  have hx : x < 2 ^ P.width.toNat := by omega
  have hy : y < 2 ^ P.width.toNat := by omega
  have nd : ∀ {op : Int} {z : Nat}, ¬ op = 8 → ¬ op = 9 → ¬ (z = 0 ∧ (op = 8 ∨ op = 9)) := fun h8 h9 h => by omega
  have t5 := ev_two va vb (op := 5) (by omega) (by omega) (nd (by omega) (by omega))
  have g5 := form_two fa fb (op := 5) (by omega) (by omega)
  have t12 := ev_two va vb (op := 12) (by omega) (by omega) (nd (by omega) (by omega))
  have g12 := form_two fa fb (op := 12) (by omega) (by omega)
  refine ⟨x, y, by rw [Int.toNat_natCast, ← Hx]; omega, by rw [Int.toNat_natCast, ← Hy]; omega, value_ev hE hD fa (by simp) va, value_ev hE hD fb (by simp) vb, ?_, ?_, ?_, ?_, ?_, ?_⟩
  · have e := (value_ev hE hD (form_two g5 fb (op := 6) (by omega) (by omega)) (by simp) (ev_two t5 vb (op := 6) (by omega) (by omega) (nd (by omega) (by omega)))).1
    rw [e, sum_back hS hx hy]
  · have e := (value_ev hE hD (form_not (form_not fa (op := 3) (by omega) (by omega)) (op := 3) (by omega) (by omega)) (by simp) (ev_one (ev_one va (op := 3) (.inl rfl)) (op := 3) (.inl rfl))).1
    rw [e, turn_back hx]
  · have e := (value_ev hE hD (form_two g12 fb (op := 12) (by omega) (by omega)) (by simp) (ev_two t12 vb (op := 12) (by omega) (by omega) (nd (by omega) (by omega)))).1
    rw [e, cross_back]
  · have e := (value_ev hE hD (form_two fa (form_not fa (op := 4) (by omega) (by omega)) (op := 5) (by omega) (by omega)) (by simp) (ev_two va (ev_one va (op := 4) (.inr rfl)) (op := 5) (by omega) (by omega) (nd (by omega) (by omega)))).1
    rw [e, less_none hS hx]
  · have g8 := form_two fa fb (op := 8) (by omega) (by omega)
    have g9 := form_two fa fb (op := 9) (by omega) (by omega)
    have gw := form_two (form_two g8 fb (op := 7) (by omega) (by omega)) g9 (op := 5) (by omega) (by omega)
    by_cases hy0 : y = 0
    · refine .inl ⟨hy0, ?_⟩
      rw [hy0] at vb
      have ht := ev_trap (rest := [(1, (j : Int))] ++ ([(7, 0)] ++ (([(1, (i : Int))] ++ [(1, (j : Int))] ++ [(9, 0)]) ++ [(5, 0)]))) va vb (op := 8) (.inl rfl)
      simp only [← List.append_assoc] at ht ⊢
      have gw' := gw
      simp only [← List.append_assoc] at gw'
      exact value_trap hE hD gw' (by simp) ht
    · refine .inr ⟨hy0, ?_⟩
      have t8 := ev_two va vb (op := 8) (by omega) (by omega) (fun h => hy0 h.1)
      have t9 := ev_two va vb (op := 9) (by omega) (by omega) (fun h => hy0 h.1)
      have e := value_ev hE hD gw (by simp) (ev_two (ev_two t8 vb (op := 7) (by omega) (by omega) (nd (by omega) (by omega))) t9 (op := 5) (by omega) (by omega) (nd (by omega) (by omega)))
      rw [whole_is hx hy0] at e
      exact e
  · have t10 := ev_two va vb (op := 10) (by omega) (by omega) (nd (by omega) (by omega))
    have t11 := ev_two va vb (op := 11) (by omega) (by omega) (nd (by omega) (by omega))
    have g10 := form_two fa fb (op := 10) (by omega) (by omega)
    have g11 := form_two fa fb (op := 11) (by omega) (by omega)
    have e := (value_ev hE hD (form_two g10 g11 (op := 5) (by omega) (by omega)) (by simp) (ev_two t10 t11 (op := 5) (by omega) (by omega) (nd (by omega) (by omega)))).1
    have e5 := (value_ev hE hD g5 (by simp) t5).1
    rw [e, e5, mixed_is hS hx hy]
end Go.Proofs.Ytmppiefkeeanpaa
