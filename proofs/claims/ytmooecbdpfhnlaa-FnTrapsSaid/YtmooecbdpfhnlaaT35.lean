/- The contracts of the program's ValueIn (its deferred function recovers from the panic of a trap) and PlainIn. -/
import Derived.Test.YtmooecbdpfhnlaaT34
import Derived.Defers
import Derived.Recover
namespace Go.Proofs.Ytmooecbdpfhnlaa
open Go.RowKit

theorem assert_trap (code : Int) (w : World) : Sem.run Try.prog (Instr.typeAssert (.iface 101 (.agg #[.int .i64 code])) 20 101 true) w = .ok (.tuple #[.agg #[.int .i64 code], .bool true]) w := by kernel_rfl
theorem assert_none (w : World) : Sem.run Try.prog (Instr.typeAssert .nilIface 20 101 true) w = .ok (.tuple #[.agg #[.int .i64 0], .bool false]) w := by kernel_rfl
theorem catch_panicking (p : Addr) (x code : Int) (older : List PanicEntry) (w : World) (hc : w.cell? p = some (.int .i64 x)) (hz : w.frozen? p = false) (hp : p.block < w.heap.size) :
    CallsD Try.prog 64 #[.pointer (some p)] (.panicking ({ v := .iface 101 (.agg #[.int .i64 code]), recovered := false } :: older)) w fun e u' w' =>
      e = .returned (.tuple #[]) ∧ u' = .panicking ({ v := .iface 101 (.agg #[.int .i64 code]), recovered := true } :: older) ∧ w' = (w.alloc (.cells #[.int .i64 code] 101)).setCell p (.int .i64 code) := by
  refine callsD_of_wpS Try.func64 rfl fun c₀ cs hu => ?_
  apply wpS_seq
  apply wpS_region
  simp [wpOpsS, go_sem, recoverD, hu, Try.ntmps64, Exit.thenS, assert_trap]
  apply wpS_seq
  apply wpS_region
  simp [wpOpsS, go_sem, Exit.thenS]
  refine wpS_cond (t := true) (by simp [Act.eval, Array.replicate]) ?_
  simp only [if_true]
  apply wpS_region
  have hc' : ∀ o : Obj, (w.alloc o).cell? p = some (.int .i64 x) := fun o => (World.cell?_alloc_lt w o p hp).trans hc
  have hz' : ∀ (cs : Array Value) (t : TypeId), (w.alloc (.cells cs t)).frozen? p = false := fun cs t => (frozen?_alloc_cells w cs t p).trans hz
  simp [wpOpsS, go_sem, hc', hz', bodyPostS, results, Try.results64]
theorem catch_idle (p : Addr) (w : World) :
    CallsD Try.prog 64 #[.pointer (some p)] .returning w fun e u' w' => e = .returned (.tuple #[]) ∧ u' = .returning ∧ w' = w.alloc (.cells #[.int .i64 0] 101) := by
  refine callsD_of_wpS Try.func64 rfl fun c₀ cs hu => ?_
  apply wpS_seq
  apply wpS_region
  simp [wpOpsS, go_sem, recoverD, hu, Try.ntmps64, Exit.thenS, assert_none]
  apply wpS_seq
  apply wpS_region
  simp [wpOpsS, go_sem, Exit.thenS]
  refine wpS_cond (t := false) (by simp [Act.eval, Array.replicate]) ?_
  simp only [Bool.false_eq_true, if_false]
  refine wpS_of_wp (wp_skip ?_)
  cases c₀
  simp_all [bodyPostS, results, Try.results64]
set_option maxRecDepth 20000 in
set_option maxHeartbeats 3200000 in
theorem implValueIn_any (r : PRow) (p : Prg) (er : ERow) (v : Envr) (a : Option Addr) (n c : Nat) (ts : List Tm) (w : World) (h : ProgAt w r p) (hcap : r.body.2.1 ≤ r.body.2.2) (he : EnvAt w er v) (ht : Terms w a n ts) :
    Calls Try.prog 28 #[progV r, envV er, .slice a n c] w fun e w' => e = .returned (.tuple #[.int .i64 (valueB p v ts : Int), .int .i64 (trapB p v ts)]) ∧ Below w.heap.size w w' := by
  have hmf : ∀ (fn : Fn) (first cap : Array Value) (w : World), (Instr.makeFunc fn first cap).run Try.prog w = .ok (.func fn first cap) w := fun _ _ _ _ => rfl
  have HBAD : Hid (reckB p v ts = false → valueB p v ts = 0 ∧ trapB p v ts = 0) := Lib.hid (fun hR => by
    have e : trapB p v ts = 0 := by rw [trapB, hR, if_neg (by simp)]
    exact ⟨by rw [valueB, e, if_pos rfl, plainB, hR, if_neg (by simp)], e⟩)
  have HE0 : Hid (∀ w', Below w.heap.size w w' → Calls Try.prog 62 #[progV r, envV er] w' fun e w'' => e = .returned (.bool (envB p v)) ∧ Below w'.heap.size w' w'') := Lib.hid (fun w' hw => implEnvOk_any r p er v w' (h.below hw) hcap (he.below hw))
  have HN0 : Hid (codeB p = 0 → ∀ w', Below w.heap.size w w' → Calls Try.prog 63 #[progV r, .slice a n c] w' fun e w'' => e = .returned (.bool (namesB (2 ^ p.width.toNat) (p.lows.length + p.secrets.length + p.temps.toNat) p.arrays.length ts)) ∧ Below w'.heap.size w' w'') := Lib.hid (fun hz w' hw => mayReckon_any r _ _ _ _ a n c ts w' (code_lim h hz) (ht.below (Nat.le_refl _) hw))
  have HR0 : Hid (codeB p = 0 → ∀ w', Below w.heap.size w w' → Calls Try.prog 65 #[progV r, envV er, .bool false] w' fun e w'' => e = .returned (reckV (((2 ^ p.width.toNat : Nat) : Int) - 1) er false) ∧ Below w'.heap.size w' w'') := Lib.hid (fun hz w' _ => reckonerOf_any r _ er false w' (code_lim h hz).width (code_lim h hz).small)
  have HV0 : Hid (codeB p = 0 → Reck (2 ^ p.width.toNat) v ts → ∀ w', Below w.heap.size w w' → Calls Try.prog 66 #[reckV (((2 ^ p.width.toNat : Nat) : Int) - 1) er false, .slice a n c] w' fun e w'' => ValEnd false (trapV (2 ^ p.width.toNat) v.vars v.cells ts n) ((stkV (2 ^ p.width.toNat) v.vars v.cells ts).getD 0 0) e ∧ Below w'.heap.size w' w'') := Lib.hid (fun hz hk w' hw => value_any _ er false v a n c ts w' (by have := (code_head hz).1; omega) (code_lim h hz).small (he.below hw) (ht.below (Nat.le_refl _) hw) hk)
  have HL := Lib.hid ht.1
  clear h he ht
  obtain ⟨gv, HGV⟩ : ∃ gv : Int, Hid (((2 ^ p.width.toNat : Nat) : Int) - 1 = gv) := ⟨_, Lib.hid rfl⟩
  simp only [HGV.out] at HR0 HV0
  clear HGV
  obtain ⟨wd, ⟨a1, n1, d1⟩, ⟨a2, n2, d2⟩, tp, ⟨a3, n3, d3⟩, ⟨a4, n4, d4⟩, rows⟩ := r
  obtain ⟨⟨b1, m1, e1⟩, ⟨b2, m2, e2⟩, rws⟩ := er
  simp only [progV, envV, slV, reckV] at HE0 HN0 HR0 HV0
  show Calls Try.prog 28 #[.agg #[.int .i64 wd, .slice a1 n1 d1, .slice a2 n2 d2, .int .i64 tp, .slice a3 n3 d3, .slice a4 n4 d4], .agg #[.slice b1 m1 e1, .slice b2 m2 e2], .slice a n c] w _
  obtain ⟨wa, HW⟩ : ∃ wa, Hid (wa = ((w.alloc (.cells #[.int .i64 wd, .slice a1 n1 d1, .slice a2 n2 d2, .int .i64 tp, .slice a3 n3 d3, .slice a4 n4 d4] 28)).alloc (.cells #[.slice b1 m1 e1, .slice b2 m2 e2] 53)).alloc (.cells #[.int .i64 0] 2)) := ⟨_, rfl⟩
  have BX : VBox w wa [.int .i64 wd, .slice a1 n1 d1, .slice a2 n2 d2, .int .i64 tp, .slice a3 n3 d3, .slice a4 n4 d4] [.slice b1 m1 e1, .slice b2 m2 e2] := by rw [HW.out]; exact (vbox_new w _ _).below ((Below.refl _ _).alloc (Nat.le_refl _) _)
  have TX : Blk wa (w.heap.size + 1 + 1) 2 [.int .i64 0] := by rw [HW.out]; simpa using Blk.new ((w.alloc (.cells #[.int .i64 wd, .slice a1 n1 d1, .slice a2 n2 d2, .int .i64 tp, .slice a3 n3 d3, .slice a4 n4 d4] 28)).alloc (.cells #[.slice b1 m1 e1, .slice b2 m2 e2] 53)) 2 [.int .i64 0]
  go_enter_defers Try.func28, Try.ntmps28
  go_wp2_with fail
  rw [← HW.out]
  refine (HE0.out _ BX.bel).mono ?_
  rintro e w1 ⟨rfl, hb1⟩
  have B1 := BX.below hb1
  have T1 := TX.below hb1 TX.lt
  clear hb1 BX HW TX
  cases hE : envB p v with
  | false =>
    have hR : reckB p v ts = false := by rw [reckB, hE, Bool.false_and]
    have q0 := T1.cell (j := 0) rfl
    have q1 := T1.frozen 0
    go_wp2
    obtain ⟨wx, HX⟩ : ∃ wx, Hid (w1.setCell ⟨w.heap.size + 1 + 1, 0, none⟩ (.int .i64 0) = wx) := ⟨_, rfl⟩
    have TY : Blk wx (w.heap.size + 1 + 1) 2 [.int .i64 0] := by rw [← HX.out]; exact T1.set _
    have HBX : Below w.heap.size w wx := by rw [← HX.out]; exact below_set B1.bel (by omega) _
    rw [HX.out]
    clear HX
    have r0 := TY.cell (j := 0) rfl
    simp [bodyPostD, Leaves, results, Try.results28, go_sem, r0, (HBAD.out hR).1, (HBAD.out hR).2, HBX]
  | true =>
  have hz := (envB_ok hE).1
  have g0 := B1.prg.cell (j := 0) rfl
  have g1 := B1.prg.cell (j := 1) rfl
  have g2 := B1.prg.cell (j := 2) rfl
  have g3 := B1.prg.cell (j := 3) rfl
  have g4 := B1.prg.cell (j := 4) rfl
  have g5 := B1.prg.cell (j := 5) rfl
  have k0 := B1.env.cell (j := 0) rfl
  have k1 := B1.env.cell (j := 1) rfl
  have HE := Lib.hid hE
  have HZ := Lib.hid hz
  clear hE hz
  go_wp2_with fail
  refine (HN0.out HZ.out _ B1.bel).mono ?_
  rintro e w2 ⟨rfl, hb2⟩
  have B2 := B1.below hb2
  have T2 := T1.below hb2 T1.lt
  clear hb2 B1 g0 g1 g2 g3 g4 g5 k0 k1 T1
  cases hN : namesB (2 ^ p.width.toNat) (p.lows.length + p.secrets.length + p.temps.toNat) p.arrays.length ts with
  | false =>
    have hR : reckB p v ts = false := by rw [reckB, HE.out, hN, Bool.true_and]
    have q0 := T2.cell (j := 0) rfl
    have q1 := T2.frozen 0
    go_wp2
    obtain ⟨wx, HX⟩ : ∃ wx, Hid (w2.setCell ⟨w.heap.size + 1 + 1, 0, none⟩ (.int .i64 0) = wx) := ⟨_, rfl⟩
    have TY : Blk wx (w.heap.size + 1 + 1) 2 [.int .i64 0] := by rw [← HX.out]; exact T2.set _
    have HBX : Below w.heap.size w wx := by rw [← HX.out]; exact below_set B2.bel (by omega) _
    rw [HX.out]
    clear HX
    have r0 := TY.cell (j := 0) rfl
    simp [bodyPostD, Leaves, results, Try.results28, go_sem, r0, (HBAD.out hR).1, (HBAD.out hR).2, HBX]
  | true =>
  have hR : reckB p v ts = true := by rw [reckB, HE.out, hN, Bool.true_and]
  have HK := Lib.hid (reck_of HE.out hN)
  have HR := Lib.hid hR
  clear hR hN
  have g0 := B2.prg.cell (j := 0) rfl
  have g1 := B2.prg.cell (j := 1) rfl
  have g2 := B2.prg.cell (j := 2) rfl
  have g3 := B2.prg.cell (j := 3) rfl
  have g4 := B2.prg.cell (j := 4) rfl
  have g5 := B2.prg.cell (j := 5) rfl
  have k0 := B2.env.cell (j := 0) rfl
  have k1 := B2.env.cell (j := 1) rfl
  go_wp2_with fail
  refine (HR0.out HZ.out _ B2.bel).mono ?_
  rintro e w3 ⟨rfl, hb3⟩
  have B3 := B2.below hb3
  have T3 := T2.below hb3 T2.lt
  clear hb3 B2 g0 g1 g2 g3 g4 g5 k0 k1 T2
  go_wp2_with fail
  refine (HV0.out HZ.out HK.out _ B3.bel).mono ?_
  rintro e w4 ⟨he4, hb4⟩
  have B4 := B3.below hb4
  have T4 := T3.below hb4 T3.lt
  clear hb4 B3 T3
  have q0 := T4.cell (j := 0) rfl
  have q1 := T4.frozen 0
  have HP : Hid (plainB p v ts = (stkV (2 ^ p.width.toNat) v.vars v.cells ts).getD 0 0) := Lib.hid (by rw [plainB, HR.out, if_pos rfl])
  have HT : Hid (trapB p v ts = trapV (2 ^ p.width.toNat) v.vars v.cells ts n) := Lib.hid (by rw [trapB, HR.out, if_pos rfl, HL.out])
  rw [← HP.out, ← HT.out] at he4
  clear HP HT HV0 HN0 HE0
  rcases he4 with ⟨h0, rfl⟩ | ⟨⟨_, hn0⟩, rfl⟩
  · go_wp2
    obtain ⟨wx, HX⟩ : ∃ wx, Hid (w4.setCell ⟨w.heap.size + 1 + 1, 0, none⟩ (.int .i64 0) = wx) := ⟨_, rfl⟩
    have TY : Blk wx (w.heap.size + 1 + 1) 2 [.int .i64 0] := by rw [← HX.out]; exact T4.set _
    have HBX : Below w.heap.size w wx := by rw [← HX.out]; exact below_set B4.bel (by omega) _
    have HBY : Below w.heap.size w (wx.alloc (.cells #[.int .i64 0] 101)) := HBX.alloc HBX.size _
    have r0 := (TY.alloc (.cells #[.int .i64 0] 101)).cell (j := 0) rfl
    rw [HX.out]
    clear HX
    have ht0 : trapB p v ts = 0 := by
      rcases h0 with h0 | h0
      · exact absurd h0 (by simp)
      · exact h0
    have hv0 : valueB p v ts = plainB p v ts := by rw [valueB, if_pos ht0]
    refine leaves_cons (f := 64) (args := #[.pointer (some ⟨w.heap.size + 1 + 1, 0, none⟩)]) (by simp) (by simp [go_sem]) ?_
    refine (catch_idle ⟨w.heap.size + 1 + 1, 0, none⟩ _).mono ?_
    rintro e u' w'' ⟨rfl, rfl, rfl⟩
    simp [Leaves, settle, results, Try.results28, go_sem, r0, ht0, hv0, HBY]
  · go_wp2
    have hv0 : valueB p v ts = 0 := by rw [valueB, if_neg hn0]
    obtain ⟨wx, HX⟩ : ∃ wx, Hid ((w4.alloc (.cells #[.int .i64 (trapB p v ts)] 101)).setCell ⟨w.heap.size + 1 + 1, 0, none⟩ (.int .i64 (trapB p v ts)) = wx) := ⟨_, rfl⟩
    have TY : Blk wx (w.heap.size + 1 + 1) 2 [.int .i64 (trapB p v ts)] := by rw [← HX.out]; exact (T4.alloc _).set _
    have HBX : Below w.heap.size w wx := by rw [← HX.out]; exact below_set (B4.bel.alloc B4.bel.size _) (by omega) _
    have r0 := TY.cell (j := 0) rfl
    unfold trapC
    refine leaves_cons (f := 64) (args := #[.pointer (some ⟨w.heap.size + 1 + 1, 0, none⟩)]) (by simp) (by simp [go_sem]) ?_
    refine (catch_panicking ⟨w.heap.size + 1 + 1, 0, none⟩ 0 _ [] _ q0 q1 T4.lt).mono ?_
    rintro e u' w'' ⟨rfl, rfl, rfl⟩
    rw [HX.out]
    simp [Leaves, settle, results, Try.results28, go_sem, r0, hv0, HBX]
end Go.Proofs.Ytmooecbdpfhnlaa
