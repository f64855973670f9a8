/- Joined texts of this proof (ImplRun1, ImplRun2, ImplRun3, ImplRun4, ImplRunOf), in build order. -/
import Derived.Test.YtmooecbdpfhnlaaGreatK38
import Derived.Defers
import Derived.Recover
import Derived.Test.YtmooecbdpfhnlaaGreatK22
import Derived.Test.YtmooecbdpfhnlaaGreatK24
import Derived.Test.YtmooecbdpfhnlaaGreatK35
import Derived.Test.YtmooecbdpfhnlaaGreatK23
/- The program's runner: the contracts of choose, of isThrownIn's deferred function, of isThrownIn and try, each over what run does. -/
namespace Go.Proofs.YtmooecbdpfhnlaaGreat
open Go.RowKit

/-- What run is to do of a body: the contract, of one call. -/
def RunCall (ws : World) (o0 : Sl) (f : FuncId) (a : Option Addr) (n c : Nat) (w0 w : World) (b : Nat) (g : Int) (er : ERow) (q' : Sta) (r : Rz) : Prop :=
  Calls Tryz.prog f #[.pointer (some ⟨b, 0, none⟩), .slice a n c] w fun e w' => RunEnd r e ∧ ∃ os', RB ws o0 w0 w' b g er os' q'
set_option maxRecDepth 20000 in
set_option maxHeartbeats 1600000 in
theorem choose_any (ws : World) (o0 : Sl) (w0 w : World) (b : Nat) (g : Int) (er : ERow) (os : Sl) (q q' : Sta) (r : Rz) (a2 a3 a4 : Option Addr) (n2 c2 n3 c3 n4 c4 : Nat) (tr : Int) (z : Nat) (h : RB ws o0 w0 w b g er os q)
    (HV : Hid (∀ w', Below w.heap.size w w' → Calls Tryz.prog 217 #[reckV g er false, .slice a2 n2 c2] w' fun e w'' => ValEnd false tr z e ∧ Below w'.heap.size w' w''))
    (HT : Hid (tr ≠ 0 → q' = q ∧ r = (2, tr)))
    (H1 : Hid (tr = 0 → z ≠ 0 → ∀ w', RB ws o0 w0 w' b g er os q → RunCall ws o0 185 a3 n3 c3 w0 w' b g er q' r))
    (H0 : Hid (tr = 0 → z = 0 → ∀ w', RB ws o0 w0 w' b g er os q → RunCall ws o0 185 a4 n4 c4 w0 w' b g er q' r)) :
    Calls Tryz.prog 202 #[.pointer (some ⟨b, 0, none⟩), .slice a2 n2 c2, .slice a3 n3 c3, .slice a4 n4 c4] w fun e w' => RunEnd r e ∧ ∃ os', RB ws o0 w0 w' b g er os' q' := by
  obtain ⟨⟨va, vn, vc⟩, ⟨ca, cn, cc⟩, rws⟩ := er
  obtain ⟨oa, on, oc⟩ := os
  simp only [reckV, slV] at HV
  have f0 := h.box.cell (j := 0) rfl
  have f1 := h.box.cell (j := 1) rfl
  have f2 := h.box.cell (j := 2) rfl
  have f3 := h.box.cell (j := 3) rfl
  simp only [slV] at f1 f2
  have HR := Lib.hid h
  clear h
  go_enter Tryz.func202, Tryz.ntmps202
  go_wp2_with fail
  refine (HV.out _ (Below.refl _ _)).mono ?_
  rintro e w1 ⟨he, hb1⟩
  have R1 := Lib.hid (HR.out.below hb1)
  clear f0 f1 f2 f3 hb1 HR HV
  rcases he with ⟨ht, rfl⟩ | ⟨ht, rfl⟩
  case inr =>
    obtain ⟨e1, e2⟩ := HT.out ht.2
    subst e1 e2
    exact ⟨rfl, runEnd_trap, _, R1.out⟩
  have HT0 : Hid (tr = 0) := Lib.hid (ht.resolve_left (by simp))
  clear ht HT
  by_cases hz : z = 0
  · have hne : ((z : Int) != 0) = false := by simp [hz]
    have HC := Lib.hid (H0.out HT0.out hz w1 R1.out)
    clear hz H0 H1
    unfold RunCall at HC
    go_wp2_with fail
    refine HC.out.mono ?_
    rintro e w2 ⟨he, hr⟩
    have HR2 := Lib.hid hr
    rcases he with ⟨h0, rfl⟩ | ⟨h0, older, ho, rfl⟩
    · have HE : Hid (RunEnd r (.returned (.tuple #[]))) := Lib.hid (.inl ⟨h0, rfl⟩)
      clear h0 hr
      go_wp2
      go_end0
      exact ⟨HE.out, HR2.out⟩
    · exact ⟨rfl, .inr ⟨h0, older, ho, rfl⟩, hr⟩
  · have hne : ((z : Int) != 0) = true := by simp; omega
    have HC := Lib.hid (H1.out HT0.out hz w1 R1.out)
    clear hz H0 H1
    unfold RunCall at HC
    go_wp2_with fail
    refine HC.out.mono ?_
    rintro e w2 ⟨he, hr⟩
    have HR2 := Lib.hid hr
    rcases he with ⟨h0, rfl⟩ | ⟨h0, older, ho, rfl⟩
    · have HE : Hid (RunEnd r (.returned (.tuple #[]))) := Lib.hid (.inl ⟨h0, rfl⟩)
      clear h0 hr
      go_wp2
      go_end0
      exact ⟨HE.out, HR2.out⟩
    · exact ⟨rfl, .inr ⟨h0, older, ho, rfl⟩, hr⟩
theorem assert_thrown (code : Int) (w : World) : Sem.run Tryz.prog (Instr.typeAssert (.iface 230 (.agg #[.int .i64 code])) 20 230 true) w = .ok (.tuple #[.agg #[.int .i64 code], .bool true]) w := by kernel_rfl
theorem assert_other (code : Int) (w : World) : Sem.run Tryz.prog (Instr.typeAssert (.iface 232 (.agg #[.int .i64 code])) 20 230 true) w = .ok (.tuple #[.agg #[.int .i64 0], .bool false]) w := by kernel_rfl
set_option maxHeartbeats 800000 in
/-- Nothing was thrown. -/
theorem watch_idle (p r : Addr) (w : World) :
    CallsD Tryz.prog 229 #[.pointer (some p), .pointer (some r)] .returning w fun e u' w' => e = .returned (.tuple #[]) ∧ u' = .returning ∧ w' = w := by
  refine callsD_of_wpS Tryz.func229 rfl fun c₀ cs hu => ?_
  apply wpS_seq
  apply wpS_region
  simp [wpOpsS, go_sem, recoverD, hu, Tryz.ntmps229, Exit.thenS]
  refine wpS_of_wp ?_
  have ea : (#[.pointer (some p), .pointer (some r)] ++ ((Array.replicate 20 undef).setIfInBounds 3 (.nilIface)).setIfInBounds 0 (.nilIface) : Array Value) = #[.pointer (some p), .pointer (some r), .nilIface, undef, undef, .nilIface, undef, undef, undef, undef, undef, undef, undef, undef, undef, undef, undef, undef, undef, undef, undef, undef] := by kernel_rfl
  rw [ea]
  clear ea
  go_wp2
  cases c₀
  simp_all [bodyPostS, results, Tryz.results229]
set_option maxHeartbeats 800000 in
/-- That number was thrown. -/
theorem watch_caught (p r : Addr) (n : Int) (x : Bool) (older : List PanicEntry) (w : World) (hp : w.cell? p = some (.int .i64 n)) (hr : w.cell? r = some (.bool x)) (hz : w.frozen? r = false) (lp : p.block < w.heap.size) (lr : r.block < w.heap.size) :
    CallsD Tryz.prog 229 #[.pointer (some p), .pointer (some r)] (.panicking ({ v := .iface 230 (.agg #[.int .i64 n]), recovered := false } :: older)) w fun e u' w' =>
      e = .returned (.tuple #[]) ∧ u' = .panicking ({ v := .iface 230 (.agg #[.int .i64 n]), recovered := true } :: older) ∧ w' = (w.alloc (.cells #[.int .i64 n] 230)).setCell r (.bool true) := by
  have hp' : (w.alloc (.cells #[.int .i64 n] 230)).cell? p = some (.int .i64 n) := (World.cell?_alloc_lt w _ p lp).trans hp
  have hr' : (w.alloc (.cells #[.int .i64 n] 230)).cell? r = some (.bool x) := (World.cell?_alloc_lt w _ r lr).trans hr
  have hz' : (w.alloc (.cells #[.int .i64 n] 230)).frozen? r = false := (frozen?_alloc_cells w _ _ r).trans hz
  have ha := assert_thrown n w
  have hne : (n != n) = false := by simp
  refine callsD_of_wpS Tryz.func229 rfl fun c₀ cs hu => ?_
  apply wpS_seq
  apply wpS_region
  simp [wpOpsS, go_sem, recoverD, hu, Tryz.ntmps229, Exit.thenS]
  refine wpS_of_wp ?_
  have ea : (#[.pointer (some p), .pointer (some r)] ++ ((Array.replicate 20 undef).setIfInBounds 3 (.iface 230 (.agg #[.int .i64 n]))).setIfInBounds 0 (.iface 230 (.agg #[.int .i64 n])) : Array Value) = #[.pointer (some p), .pointer (some r), .iface 230 (.agg #[.int .i64 n]), undef, undef, .iface 230 (.agg #[.int .i64 n]), undef, undef, undef, undef, undef, undef, undef, undef, undef, undef, undef, undef, undef, undef, undef, undef] := by kernel_rfl
  rw [ea]
  clear ea
  go_wp2
  simp [bodyPostS, results, Tryz.results229, go_sem]
set_option maxHeartbeats 800000 in
/-- Something else. -/
theorem watch_other (p r : Addr) (n m : Int) (older : List PanicEntry) (w : World) (hp : w.cell? p = some (.int .i64 n)) (lp : p.block < w.heap.size) (hnm : m ≠ n) :
    CallsD Tryz.prog 229 #[.pointer (some p), .pointer (some r)] (.panicking ({ v := .iface 230 (.agg #[.int .i64 m]), recovered := false } :: older)) w fun e u' w' =>
      e = .panicked [{ v := .iface 230 (.agg #[.int .i64 m]), recovered := false }] ∧ u' = .panicking ({ v := .iface 230 (.agg #[.int .i64 m]), recovered := true } :: older) ∧ w' = w.alloc (.cells #[.int .i64 m] 230) := by
  have hp' : (w.alloc (.cells #[.int .i64 m] 230)).cell? p = some (.int .i64 n) := (World.cell?_alloc_lt w _ p lp).trans hp
  have ha := assert_thrown m w
  have hne : (m != n) = true := by simpa using hnm
  refine callsD_of_wpS Tryz.func229 rfl fun c₀ cs hu => ?_
  apply wpS_seq
  apply wpS_region
  simp [wpOpsS, go_sem, recoverD, hu, Tryz.ntmps229, Exit.thenS]
  refine wpS_of_wp ?_
  have ea : (#[.pointer (some p), .pointer (some r)] ++ ((Array.replicate 20 undef).setIfInBounds 3 (.iface 230 (.agg #[.int .i64 m]))).setIfInBounds 0 (.iface 230 (.agg #[.int .i64 m])) : Array Value) = #[.pointer (some p), .pointer (some r), .iface 230 (.agg #[.int .i64 m]), undef, undef, .iface 230 (.agg #[.int .i64 m]), undef, undef, undef, undef, undef, undef, undef, undef, undef, undef, undef, undef, undef, undef, undef, undef] := by kernel_rfl
  rw [ea]
  clear ea
  go_wp2
  simp [bodyPostS, go_sem]
set_option maxHeartbeats 800000 in
theorem watch_trap (p r : Addr) (m : Int) (older : List PanicEntry) (w : World) :
    CallsD Tryz.prog 229 #[.pointer (some p), .pointer (some r)] (.panicking ({ v := .iface 232 (.agg #[.int .i64 m]), recovered := false } :: older)) w fun e u' w' =>
      e = .panicked [{ v := .iface 232 (.agg #[.int .i64 m]), recovered := false }] ∧ u' = .panicking ({ v := .iface 232 (.agg #[.int .i64 m]), recovered := true } :: older) ∧ w' = w.alloc (.cells #[.int .i64 0] 230) := by
  have ha := assert_other m w
  refine callsD_of_wpS Tryz.func229 rfl fun c₀ cs hu => ?_
  apply wpS_seq
  apply wpS_region
  simp [wpOpsS, go_sem, recoverD, hu, Tryz.ntmps229, Exit.thenS]
  refine wpS_of_wp ?_
  have ea : (#[.pointer (some p), .pointer (some r)] ++ ((Array.replicate 20 undef).setIfInBounds 3 (.iface 232 (.agg #[.int .i64 m]))).setIfInBounds 0 (.iface 232 (.agg #[.int .i64 m])) : Array Value) = #[.pointer (some p), .pointer (some r), .iface 232 (.agg #[.int .i64 m]), undef, undef, .iface 232 (.agg #[.int .i64 m]), undef, undef, undef, undef, undef, undef, undef, undef, undef, undef, undef, undef, undef, undef, undef, undef] := by kernel_rfl
  rw [ea]
  clear ea
  go_wp2
  simp [bodyPostS, go_sem]
theorem settle_old {v : Value} {older : List PanicEntry} (h : OldP older) : settle (.panicking ({ v := v, recovered := true } :: older)) = .returning := by
  have e : older.dropWhile (fun x => !x.goexit) = [] := by
    induction older with
    | nil => rfl
    | cons x r ih =>
      rw [List.dropWhile_cons, h x (List.mem_cons_self ..)]
      exact ih (fun y hy => h y (List.mem_cons_of_mem _ hy))
  simp [settle, e]
theorem oldP_cons {v : Value} {rc : Bool} {older : List PanicEntry} (h : OldP older) : OldP ({ v := v, recovered := rc } :: older) := fun x hx => by
  rcases List.mem_cons.1 hx with e | e
  · rw [e]
  · exact h x e
theorem RB.fresh {ws w0 w : World} {b : Nat} {g : Int} {er : ERow} {o0 os : Sl} {q : Sta} (h : RB ws o0 w0 w b g er os q) {k j : Nat} (hk : ws.heap.size ≤ k) (hn : ¬ Touch er os b k) (hc : (slV er.cells).ownBlock ≠ some k) (hw : w0.heap.size ≤ k) (v : Value) : RB ws o0 w0 (w.setCell ⟨k, j, none⟩ v) b g er os q := by
  have hg := grown_set w k j v
  refine ⟨below_set h.bel hw _, h.kb, h.box.other (fun e => hn (.inl e.symm)) _, h.mem.keep hg (fun g' h1 e => hn (.inr (.inl (h1.trans e.symm)))) (fun g' h1 e => hn (.inr (.inr (.inl (h1.trans e.symm))))) (fun g' h1 e => hc (h1.trans e.symm)) (fun i g' hi h1 e => hn (.inr (.inr (.inr ⟨i, hi, h1.trans e.symm⟩)))), ⟨Nat.le_trans h.frm.size hg.size, fun k' hk' ht => (hg.block k' (Nat.lt_of_lt_of_le hk' h.frm.size) (fun e => by injection e with e; omega)).trans (h.frm.keep k' hk' ht), h.frm.outs⟩⟩
/-- How isThrownIn ends. -/
def WatchEnd (r : Rz) (code : Int) (e : Ending) : Prop := r = (1, code) ∧ e = .returned (.bool true) ∨ r.1 = 0 ∧ e = .returned (.bool false) ∨ r ≠ (1, code) ∧ RunEnd r e ∧ r.1 ≠ 0
set_option maxRecDepth 20000 in
set_option maxHeartbeats 3200000 in
theorem isThrownIn_any (ws : World) (o0 : Sl) (w0 w : World) (b : Nat) (g : Int) (er : ERow) (os : Sl) (q q' : Sta) (r : Rz) (a : Option Addr) (n c : Nat) (code : Int) (h : RB ws o0 w0 w b g er os q) (hf : Fin r)
    (HC : Hid (∀ ws o0 w', RB ws o0 w0 w' b g er os q → RunCall ws o0 185 a n c w0 w' b g er q' r)) :
    Calls Tryz.prog 218 #[.pointer (some ⟨b, 0, none⟩), .slice a n c, .int .i64 code] w fun e w' => WatchEnd r code e ∧ ∃ os', RB ws o0 w0 w' b g er os' q' := by
  have hmf : ∀ (fn : Fn) (first cap : Array Value) (w : World), (Instr.makeFunc fn first cap).run Tryz.prog w = .ok (.func fn first cap) w := fun _ _ _ _ => rfl
  obtain ⟨wa, HW⟩ : ∃ wa, Hid (wa = (w.alloc (.cells #[.int .i64 code] 2)).alloc (.cells #[.bool false] 4)) := ⟨_, rfl⟩
  have R1 : RB ws o0 w0 wa b g er os q := by rw [HW.out]; exact (h.alloc _).alloc _
  have CX : Blk wa w.heap.size 2 [.int .i64 code] := by rw [HW.out]; exact (Blk.new w _ _).alloc _
  have FX : Blk wa (w.heap.size + 1) 4 [.bool false] := by rw [HW.out]; simpa using Blk.new (w.alloc (.cells #[.int .i64 code] 2)) 4 [.bool false]
  have hn1 : ∀ k, w.heap.size ≤ k → ¬ Touch er os b k := fun k hk ht => by have := h.touch_lt ht; omega
  have HN := Lib.hid hn1
  have HB0 : Hid (w0.heap.size ≤ w.heap.size) := Lib.hid h.bel.size
  have HFS : Hid (ws.heap.size ≤ w.heap.size) := Lib.hid h.frm.size
  have HR := Lib.hid R1
  have HCX := Lib.hid CX
  have HFX := Lib.hid FX
  have HC1 := Lib.hid (HC.out wa os wa R1.anew)
  unfold RunCall at HC1
  clear R1 CX FX hn1 h HC
  go_enter_defers Tryz.func218, Tryz.ntmps218
  go_wp2_with fail
  rw [← HW.out]
  clear HW
  refine HC1.out.mono ?_
  rintro e w1 ⟨he, os', hr⟩
  have C1 : Blk w1 w.heap.size 2 [.int .i64 code] := (hr.frm.keep _ HCX.out.lt (HN.out _ (Nat.le_refl _))).trans HCX.out
  have F1 : Blk w1 (w.heap.size + 1) 4 [.bool false] := (hr.frm.keep _ HFX.out.lt (HN.out _ (by omega))).trans HFX.out
  have RJ := HR.out.join hr
  have hw0 := HB0.out
  have hnT : ¬ Touch er os' b (w.heap.size + 1) := fun ht => HN.out _ (by omega) (hr.frm.touch HFX.out.lt ht)
  have hnC : (slV er.cells).ownBlock ≠ some (w.heap.size + 1) := fun e => blk_apart F1 hr.mem.cells.1 (by decide) _ e rfl
  have RS := Lib.hid (fun v => RJ.fresh (j := 0) (by have := HFS.out; omega) hnT hnC (by omega) v)
  have RS2 := Lib.hid (fun o v => (RJ.alloc o).fresh (j := 0) (by have := HFS.out; omega) hnT hnC (by omega) v)
  have q0 := F1.cell (j := 0) rfl
  have q1 := F1.frozen 0
  have p0 := C1.cell (j := 0) rfl
  have lC := C1.lt
  have lF := F1.lt
  have HRJ := Lib.hid RJ
  have HF1 := Lib.hid F1
  clear RJ hr HCX HFX HN HR HC1 hnT hnC
  rcases he with ⟨h0, rfl⟩ | ⟨h0, older, ho, rfl⟩
  · have HH0 := Lib.hid h0
    clear h0
    go_wp2
    obtain ⟨wx, HX⟩ : ∃ wx, Hid (w1.setCell ⟨w.heap.size + 1, 0, none⟩ (.bool false) = wx) := ⟨_, rfl⟩
    have TY : Blk wx (w.heap.size + 1) 4 [.bool false] := by rw [← HX.out]; exact HF1.out.set _
    have RX : RB ws o0 w0 wx b g er os' q' := by rw [← HX.out]; exact RS.out _
    rw [HX.out]
    clear HX
    have r0 := TY.cell (j := 0) rfl
    refine leaves_cons (f := 229) (args := #[.pointer (some ⟨w.heap.size, 0, none⟩), .pointer (some ⟨w.heap.size + 1, 0, none⟩)]) (by simp) (by simp [go_sem]) ?_
    refine (watch_idle _ _ _).mono ?_
    rintro e u' w'' ⟨rfl, rfl, rfl⟩
    simp only [Leaves, settle]
    refine ⟨.bool false, by simp [results, Tryz.results218, go_sem, r0], .inr (.inl ⟨HH0.out, rfl⟩), _, RX⟩
  · rcases hf with rfl | ⟨n, rfl⟩ | rfl | rfl
    · exact absurd rfl h0
    · by_cases hnc : n = code
      · subst hnc
        have ev : valR (1, n) = .iface 230 (.agg #[.int .i64 n]) := rfl
        rw [ev]
        obtain ⟨wx, HX⟩ : ∃ wx, Hid ((w1.alloc (.cells #[.int .i64 n] 230)).setCell ⟨w.heap.size + 1, 0, none⟩ (.bool true) = wx) := ⟨_, rfl⟩
        have TY : Blk wx (w.heap.size + 1) 4 [.bool true] := by rw [← HX.out]; exact (HF1.out.alloc _).set _
        have RX : RB ws o0 w0 wx b g er os' q' := by rw [← HX.out]; exact RS2.out _ _
        have r0 := TY.cell (j := 0) rfl
        go_wp2
        refine leaves_cons (f := 229) (args := #[.pointer (some ⟨w.heap.size, 0, none⟩), .pointer (some ⟨w.heap.size + 1, 0, none⟩)]) (by simp) (by simp [go_sem]) ?_
        refine (watch_caught ⟨w.heap.size, 0, none⟩ ⟨w.heap.size + 1, 0, none⟩ n false older _ p0 q0 q1 lC lF).mono ?_
        rintro e u' w'' ⟨rfl, rfl, rfl⟩
        rw [HX.out]
        simp only [settle_old ho, Leaves]
        refine ⟨.bool true, by simp [results, Tryz.results218, go_sem, r0], .inl ⟨rfl, rfl⟩, _, RX⟩
      · have ev : valR (1, n) = .iface 230 (.agg #[.int .i64 n]) := rfl
        rw [ev]
        go_wp2
        refine leaves_cons (f := 229) (args := #[.pointer (some ⟨w.heap.size, 0, none⟩), .pointer (some ⟨w.heap.size + 1, 0, none⟩)]) (by simp) (by simp [go_sem]) ?_
        refine (watch_other ⟨w.heap.size, 0, none⟩ ⟨w.heap.size + 1, 0, none⟩ code n older _ p0 lC hnc).mono ?_
        rintro e u' w'' ⟨rfl, rfl, rfl⟩
        simp only [raised, Leaves]
        exact ⟨.inr (.inr ⟨fun e => hnc (by injection e), .inr ⟨h0, _, oldP_cons ho, rfl⟩, h0⟩), _, HRJ.out.alloc _⟩
    · have ev : valR (2, 1) = .iface 232 (.agg #[.int .i64 1]) := rfl
      rw [ev]
      go_wp2
      refine leaves_cons (f := 229) (args := #[.pointer (some ⟨w.heap.size, 0, none⟩), .pointer (some ⟨w.heap.size + 1, 0, none⟩)]) (by simp) (by simp [go_sem]) ?_
      refine (watch_trap ⟨w.heap.size, 0, none⟩ ⟨w.heap.size + 1, 0, none⟩ 1 older _).mono ?_
      rintro e u' w'' ⟨rfl, rfl, rfl⟩
      simp only [raised, Leaves]
      exact ⟨.inr (.inr ⟨fun e => by injection e with e; omega, .inr ⟨h0, _, oldP_cons ho, rfl⟩, h0⟩), _, HRJ.out.alloc _⟩
    · have ev : valR (2, 2) = .iface 232 (.agg #[.int .i64 2]) := rfl
      rw [ev]
      go_wp2
      refine leaves_cons (f := 229) (args := #[.pointer (some ⟨w.heap.size, 0, none⟩), .pointer (some ⟨w.heap.size + 1, 0, none⟩)]) (by simp) (by simp [go_sem]) ?_
      refine (watch_trap ⟨w.heap.size, 0, none⟩ ⟨w.heap.size + 1, 0, none⟩ 2 older _).mono ?_
      rintro e u' w'' ⟨rfl, rfl, rfl⟩
      simp only [raised, Leaves]
      exact ⟨.inr (.inr ⟨fun e => by injection e with e; omega, .inr ⟨h0, _, oldP_cons ho, rfl⟩, h0⟩), _, HRJ.out.alloc _⟩
set_option maxRecDepth 20000 in
set_option maxHeartbeats 1600000 in
theorem try_any (ws : World) (o0 : Sl) (w0 w : World) (b : Nat) (g : Int) (er : ERow) (os : Sl) (q q1 q' : Sta) (r1 r : Rz) (a3 a4 p1 p2 : Option Addr) (n3 c3 n4 c4 m1 d1 m2 d2 : Nat) (x code : Int) (h : RB ws o0 w0 w b g er os q) (hf : Fin r1)
    (HC : Hid (∀ ws o0 w', RB ws o0 w0 w' b g er os q → RunCall ws o0 185 a3 n3 c3 w0 w' b g er q1 r1))
    (HN : Hid (r1 ≠ (1, code) → q' = q1 ∧ r = r1))
    (HY : Hid (r1 = (1, code) → ∀ os w', RB ws o0 w0 w' b g er os q1 → RunCall ws o0 185 a4 n4 c4 w0 w' b g er q' r)) :
    Calls Tryz.prog 203 #[.pointer (some ⟨b, 0, none⟩), .slice a3 n3 c3, .agg #[.int .i64 x, .int .i64 code, .slice p1 m1 d1, .slice p2 m2 d2], .slice a4 n4 c4] w fun e w' => RunEnd r e ∧ ∃ os', RB ws o0 w0 w' b g er os' q' := by
  have HR := Lib.hid (h.alloc (.cells #[.int .i64 x, .int .i64 code, .slice p1 m1 d1, .slice p2 m2 d2] 82))
  clear h
  go_enter Tryz.func203, Tryz.ntmps203
  go_wp2_with fail
  refine (isThrownIn_any ws o0 w0 _ b g er os q q1 r1 a3 n3 c3 code HR.out hf HC).mono ?_
  rintro e w1 ⟨he, os', hr⟩
  have HR1 := Lib.hid hr
  clear hr HR HC
  rcases he with ⟨h1, rfl⟩ | ⟨h1, rfl⟩ | ⟨h1, h2, h3⟩
  · have HC2 := Lib.hid (HY.out h1 os' w1 HR1.out)
    unfold RunCall at HC2
    clear HY HN h1
    go_wp2_with fail
    refine HC2.out.mono ?_
    rintro e w2 ⟨he, hr⟩
    have HR2 := Lib.hid hr
    rcases he with ⟨h0, rfl⟩ | ⟨h0, older, ho, rfl⟩
    · have HE : Hid (RunEnd r (.returned (.tuple #[]))) := Lib.hid (.inl ⟨h0, rfl⟩)
      clear h0 hr
      go_wp2
      go_end0
      exact ⟨HE.out, HR2.out⟩
    · exact ⟨rfl, .inr ⟨h0, older, ho, rfl⟩, hr⟩
  · obtain ⟨e1, e2⟩ := HN.out (fun e => by rw [e] at h1; simp at h1)
    subst e1 e2
    have HE : Hid (RunEnd r (.returned (.tuple #[]))) := Lib.hid (.inl ⟨h1, rfl⟩)
    clear HY HN h1 hf
    go_wp2
    go_end0
    exact ⟨HE.out, _, HR1.out⟩
  · obtain ⟨e1, e2⟩ := HN.out h1
    subst e1 e2
    rcases h2 with ⟨h0, rfl⟩ | ⟨h0, older, ho, rfl⟩
    · exact absurd h0 h3
    · exact ⟨rfl, .inr ⟨h0, older, ho, rfl⟩, _, HR1.out⟩
end Go.Proofs.YtmooecbdpfhnlaaGreat
/- The contract of the program's run (a method of its runner), by what a part of a body does. -/
namespace Go.Proofs.YtmooecbdpfhnlaaGreat
open Go.RowKit

/-- The contract, for bodies below a length. -/
def RunAt (p : Prg) (er : ERow) (b : Nat) (w0 : World) (N : Nat) : Prop := ∀ (ws : World) (o0 : Sl) (a : Option Addr) (n c : Nat) (rs : List SRow) (ss : List Stm) (s : Nat) (w : World) (os : Sl) (q q' : Sta) (r : Rz),
  n < N → n ≤ 40 → n ≤ c → Stmts w0 a n rs ss → (∀ i, i < ss.length → goodS p (stAt ss i)) → RB ws o0 w0 w b (((2 ^ p.width.toNat : Nat) : Int) - 1) er os q → StaOk p q → q.outs.length + s ≤ 900000 → Runs (2 ^ p.width.toNat) ss .seq 0 n s q q' r →
  RunCall ws o0 185 a n c w0 w b (((2 ^ p.width.toNat : Nat) : Int) - 1) er q' r
set_option maxRecDepth 20000 in
set_option maxHeartbeats 6400000 in
theorem run_step (p : Prg) (er : ERow) (b : Nat) (w0 : World) (N : Nat) (hcode : codeB p = 0) (HI : Hid (RunAt p er b w0 N)) : RunAt p er b w0 (N + 1) := by
  intro ws o0 a n c rs ss s w os q q' r hN h40 hcap h hgood hrb hq hlen hrun
  obtain ⟨S, HSS⟩ : ∃ S : Nat, Hid (2 ^ p.width.toNat = S) := ⟨_, Lib.hid rfl⟩
  have hW := code_head hcode
  have HVAL : Hid (∀ (q : Sta) (os : Sl) (w1 : World) (a : Option Addr) (n c : Nat) (ts : List Tm), RB ws o0 w0 w1 b (((2 ^ p.width.toNat : Nat) : Int) - 1) er os q → StaOk p q → Terms w0 a n ts → namesB (2 ^ p.width.toNat) (p.lows.length + p.secrets.length + p.temps.toNat) p.arrays.length ts = true → Hid (∀ w', Below w1.heap.size w1 w' → Calls Tryz.prog 217 #[reckV (((2 ^ p.width.toNat : Nat) : Int) - 1) er false, .slice a n c] w' fun e w'' => ValEnd false (trS (2 ^ p.width.toNat) q ts) (vlS (2 ^ p.width.toNat) q ts) e ∧ Below w'.heap.size w' w'')) := Lib.hid (fun q os w1 a n c ts h hq ht hn => Lib.hid (fun w' hb => by
    have := value_any p.width.toNat er false (envOf q) a n c ts w' (by omega) (by omega) (h.mem.env.below hb) (ht.below (Nat.le_refl _) (h.bel.trans (hb.mono h.bel.size))) (goodS_reck hq hn)
    have e := ht.1
    subst e
    unfold trS vlS
    exact this))
  have HSTEP : Hid (∀ (w1 : World) (os : Sl) (q q' : Sta) (a1 a2 : Option Addr) (n1 c1 n2 c2 : Nat) (s : Stm) (x y : Int) (r : Rz), RB ws o0 w0 w1 b (((2 ^ p.width.toNat : Nat) : Int) - 1) er os q → StaOk p q → goodS p s → q.outs.length < 1000000 → s.op = x → s.n = y → Terms w0 a1 n1 s.at_ → Terms w0 a2 n2 s.exp → Basic (2 ^ p.width.toNat) s q q' r → Calls Tryz.prog 204 #[.pointer (some ⟨b, 0, none⟩), .agg #[.int .i64 x, .int .i64 y, .slice a1 n1 c1, .slice a2 n2 c2]] w1 fun e w' => RunEnd r e ∧ ∃ os', RB ws o0 w0 w' b (((2 ^ p.width.toNat : Nat) : Int) - 1) er os' q') := Lib.hid (fun w1 os q q' a1 a2 n1 c1 n2 c2 s x y r h1 h2 h3 h4 h5 h6 h7 h8 h9 => step_any p ws o0 w0 w1 b _ er os q y a1 a2 n1 c1 n2 c2 s x q' r hcode h1 h2 h3 h4 rfl h5 h6 h7 h8 h9)
  have HNM : Hid (∀ s : Stm, goodS p s → s.op = 2 → namesB (2 ^ p.width.toNat) (p.lows.length + p.secrets.length + p.temps.toNat) p.arrays.length s.exp = true) := Lib.hid (fun s h h2 => (goodS_exp h (.inr (.inr (.inl h2)))).1)
  unfold RunAt at HI
  simp only [HSS.out] at HI HVAL HSTEP HNM hrb hrun ⊢
  obtain ⟨g, HG⟩ : ∃ g : Int, Hid ((S : Int) - 1 = g) := ⟨_, Lib.hid rfl⟩
  simp only [HG.out] at HI HVAL HSTEP hrb ⊢
  have HOK : Hid (∀ {m : Mode} {i j s : Nat} {q q' : Sta} {r : Rz}, Runs S ss m i j s q q' r → StaOk p q → StaOk p q') := Lib.hid (fun h => by rw [← HSS.out] at h; exact h.ok hgood)
  have HL := Lib.hid h.2.1
  have HS := Lib.hid h
  have HGD := Lib.hid hgood
  have HBEL := Lib.hid hrb.bel
  clear hgood h HG HSS hW hcode
  unfold RunCall
  go_enter Tryz.func185, Tryz.ntmps185
  go_wp2
  go_loopw [4] (fun x wr => ∃ (k t : Nat) (qk : Sta) (ok : Sl), k ≤ n ∧ x = .int .i64 (k : Int) ∧ Hid (Runs S ss .seq k n t qk q' r) ∧ Hid (RB ws o0 w0 wr b g er ok qk) ∧ Hid (StaOk p qk) ∧ Hid (qk.outs.length + t ≤ 900000)) (fun x _ => n - (intOf x).toNat)
  case atStart => exact ⟨0, s, q, os, Nat.zero_le _, rfl, Lib.hid hrun, Lib.hid hrb, Lib.hid hq, Lib.hid hlen⟩
  case round =>
    clear hrun hrb hq hlen
    obtain ⟨k, t, qk, ok, hkn, rfl, HT, HR, HQ, HLN⟩ := hrel
    by_cases hlt : k < n
    case neg =>
      obtain rfl : k = n := by omega
      obtain ⟨e1, e2⟩ := runs_none HT.out
      subst e1 e2
      go_wp2
      go_end0
      exact ⟨runEnd_done, _, HR.out⟩
    obtain ⟨e, s1, t1, q1, r1, hst, hone, hke, hen, hgo, hstop⟩ := HT.out.split hlt
    have HONE := Lib.hid hone
    have HGO := Lib.hid hgo
    have HSTOP := Lib.hid hstop
    have HQ1 := Lib.hid (HOK.out hone HQ.out)
    have HLN1 : Hid (q1.outs.length + t1 ≤ 900000) := Lib.hid (by have h1 := hone.outs; have h2 := HLN.out; simp only [roundS] at h1; omega)
    have HLNS : Hid (qk.outs.length + s1 ≤ 900000) := Lib.hid (by have := HLN.out; omega)
    have HFIN := Lib.hid hone.fin
    clear hone hgo hstop HT HLN hst
    obtain ⟨b0, o, x, y, p1, m1, d1, p2, m2, d2, ts, us, rfl, hb, hz, hin1, hin2, hc1, hc2, hc3, hc4, hT1, hT2⟩ := HS.out.at_ hlt
    have hop : opAt ss k = x := by rw [opAt, hz.out]
    have HGS := Lib.hid (HGD.out k (by rw [HL.out]; exact hlt))
    rw [hz.out] at HGS
    have HTT1 := Lib.hid hT1
    have HTT2 := Lib.hid hT2
    have HC1 := Lib.hid hc1
    have HC2 := Lib.hid hc2
    have HC3 := Lib.hid hc3
    have HC4 := Lib.hid hc4
    have HB := Lib.hid hb
    have HZ := Lib.hid hz.out
    clear hin1 hin2 hc1 hc2 hc3 hc4 hT1 hT2 hb hz HBEL
    have DONE : Hid (r1.1 = 0 → ∀ (wx : World) (ox : Sl), RB ws o0 w0 wx b g er ox q1 → ∃ (k t : Nat) (qk : Sta) (ok : Sl), k ≤ n ∧ (Value.int .i64 ((e : Int) + 1)) = .int .i64 (k : Int) ∧ Hid (Runs S ss .seq k n t qk q' r) ∧ Hid (RB ws o0 w0 wx b g er ok qk) ∧ Hid (StaOk p qk) ∧ Hid (qk.outs.length + t ≤ 900000)) := Lib.hid (fun h0 wx ox hx => ⟨e + 1, t1, q1, ox, by omega, by go_num, Lib.hid (HGO.out h0).2, Lib.hid hx, HQ1, HLN1⟩)
    by_cases hx : x = 2 ∨ x = 5 ∨ x = 8
    case neg =>
      obtain ⟨ee, es, hbas, hkl⟩ := one_plain HONE.out (by rw [hop]; omega) (by rw [hop]; omega) (by rw [hop]; omega)
      subst ee
      have HBAS := Lib.hid hbas
      rw [HZ.out] at HBAS
      have k2 : (x == 2) = false := by simp; omega
      have k5 : (x == 5) = false := by simp; omega
      have k8 : (x == 8) = false := by simp; omega
      have HBE := Lib.hid (end_plain hkl (by rw [hop]; omega) (by rw [hop]; omega) (by rw [hop]; omega))
      clear hx hbas es hkl hop
      have HBD := Lib.hid (bodiesAt_plain (some ⟨b0, o, none⟩) n c rs ss e wr (HS.out.below HR.out.bel) h40 hlt HBE.out)
      go_wp2_with fail
      refine HBD.out.mono ?_
      rintro ed w1 ⟨rfl, hb1⟩
      have R1 := HR.out.below hb1
      have i1 := (R1.bel.cell HB.out).trans HC1.out
      have i2 := (R1.bel.cell HB.out).trans HC2.out
      have i3 := (R1.bel.cell HB.out).trans HC3.out
      have i4 := (R1.bel.cell HB.out).trans HC4.out
      obtain ⟨wa, HW⟩ : ∃ wa, Hid (wa = w1.alloc (.cells #[.int .i64 x, .int .i64 y, .slice p1 m1 d1, .slice p2 m2 d2] 82)) := ⟨_, rfl⟩
      have R2 : RB ws o0 w0 wa b g er ok qk := by rw [HW.out]; exact R1.alloc _
      have SX : Blk wa w1.heap.size 82 [.int .i64 x, .int .i64 y, .slice p1 m1 d1, .slice p2 m2 d2] := by rw [HW.out]; exact Blk.new w1 _ _
      have HR2 := Lib.hid R2
      clear HBE R1 R2 hb1 HBD HR
      go_wp2_with fail
      rw [← HW.out]
      clear HW i1 i2 i3 i4
      have j0 := SX.cell (j := 0) rfl
      have j1 := SX.cell (j := 1) rfl
      have j2 := SX.cell (j := 2) rfl
      have j3 := SX.cell (j := 3) rfl
      clear SX
      go_wp2_with fail
      refine (HSTEP.out wa ok qk q1 p1 p2 m1 d1 m2 d2 ⟨x, y, ts, us⟩ x y r1 HR2.out HQ.out HGS.out (by have := HLNS.out; omega) rfl rfl HTT1.out HTT2.out HBAS.out).mono ?_
      rintro e9 w2 ⟨he, ox, hr⟩
      have HR3 := Lib.hid hr
      rcases he with ⟨h0, rfl⟩ | ⟨h0, older, ho, rfl⟩
      case inr =>
        obtain ⟨e1, e2⟩ := HSTOP.out h0
        subst e1 e2
        exact ⟨rfl, .inr ⟨h0, older, ho, rfl⟩, _, hr⟩
      have HD := Lib.hid (DONE.out h0 w2 ox hr)
      clear hr h0 HR3 HR2 DONE HGO HSTOP HQ1 HLN1 HLNS HFIN HONE HQ j0 j1 j2 j3 HBAS
      go_wp2
      go_roundw
      case rel => exact HD.out
      case measure => simp [intOf]; omega
    by_cases hx2 : x = 2
    case pos =>
      subst hx2
      obtain ⟨M, hif⟩ := one_if HONE.out hop
      have HIF := Lib.hid hif
      have HNN := Lib.hid (HNM.out _ HGS.out rfl)
      have hpl := end_places (by rw [HL.out]; exact hlt) hif.ends
      have HEX : Hid ((stAt ss k).exp = us) := Lib.hid (by rw [HZ.out])
      clear hif hop hx
      by_cases hM : M < 0
      · obtain rfl : M = -1 := by omega
        have HYES : Hid (trS S qk us = 0 → vlS S qk us ≠ 0 → ∀ w', RB ws o0 w0 w' b g er ok qk → RunCall ws o0 185 (some ⟨b0, o + (k + 1) * 4, none⟩) (e - (k + 1)) (c - (k + 1)) w0 w' b g er q1 r1) := Lib.hid (fun t0 z0 w' hw => by
          obtain ⟨s', hs', hr'⟩ := HIF.out.yes (by rw [HEX.out]; exact t0) (by rw [HEX.out]; exact z0)
          rw [if_pos (by omega)] at hr'
          exact HI.out ws o0 _ _ _ _ (seg ss (k + 1) e) s' w' ok qk q1 r1 (by omega) (by omega) (by omega) (HS.out.part (lo := k + 1) (hi := e) (by omega) (by omega)) (good_seg (by omega) (by rw [HL.out]; omega) HGD.out) hw HQ.out (by have := HLNS.out; omega) (runs_part hr' (by rw [HL.out]; omega)))
        have HNO : Hid (trS S qk us = 0 → vlS S qk us = 0 → ∀ w', RB ws o0 w0 w' b g er ok qk → RunCall ws o0 185 none 0 0 w0 w' b g er q1 r1) := Lib.hid (fun t0 z0 w' hw => by
          obtain ⟨e1, e2⟩ := HIF.out.no1 (by rw [HEX.out]; exact t0) (by rw [HEX.out]; exact z0) (by omega)
          subst e1 e2
          exact HI.out ws o0 none 0 0 [] [] 0 w' ok q1 q1 (0, 0) (by omega) (by omega) (by omega) (stmts_nil w0) (fun i hi => absurd hi (by simp)) hw HQ.out (by have := HLNS.out; omega) (.nil 0 _))
        have HTR : Hid (trS S qk us ≠ 0 → q1 = qk ∧ r1 = (2, trS S qk us)) := Lib.hid (fun h => by have := HIF.out.trap (by rw [HEX.out]; exact h); rwa [HEX.out] at this)
        have HBD := Lib.hid (bodiesAt_one b0 o n c rs ss k e wr (HS.out.below HR.out.bel) h40 hcap hlt (by omega) (by omega) HIF.out.ends)
        go_wp2_with fail
        refine HBD.out.mono ?_
        rintro ed w1 ⟨rfl, hb1⟩
        have R1 := HR.out.below hb1
        have i1 := (R1.bel.cell HB.out).trans HC1.out
        have i2 := (R1.bel.cell HB.out).trans HC2.out
        have i3 := (R1.bel.cell HB.out).trans HC3.out
        have i4 := (R1.bel.cell HB.out).trans HC4.out
        obtain ⟨wa, HW⟩ : ∃ wa, Hid (wa = w1.alloc (.cells #[.int .i64 2, .int .i64 y, .slice p1 m1 d1, .slice p2 m2 d2] 82)) := ⟨_, rfl⟩
        have R2 : RB ws o0 w0 wa b g er ok qk := by rw [HW.out]; exact R1.alloc _
        have SX : Blk wa w1.heap.size 82 [.int .i64 2, .int .i64 y, .slice p1 m1 d1, .slice p2 m2 d2] := by rw [HW.out]; exact Blk.new w1 _ _
        have HR2 := Lib.hid R2
        clear R1 R2 hb1 HBD HR
        go_wp2_with fail
        rw [← HW.out]
        clear HW
        have j0 := SX.cell (j := 0) rfl
        have j1 := SX.cell (j := 1) rfl
        have j2 := SX.cell (j := 2) rfl
        have j3 := SX.cell (j := 3) rfl
        clear SX
        go_wp2_with fail
        refine (choose_any ws o0 w0 wa b g er ok qk q1 r1 p2 _ none m2 d2 _ _ 0 0 (trS S qk us) (vlS S qk us) HR2.out (HVAL.out qk ok wa p2 m2 d2 us HR2.out HQ.out HTT2.out HNN.out) HTR HYES HNO).mono ?_
        rintro e9 w2 ⟨he, ox, hr⟩
        have HR3 := Lib.hid hr
        rcases he with ⟨h0, rfl⟩ | ⟨h0, older, ho, rfl⟩
        case inr =>
          obtain ⟨e1, e2⟩ := HSTOP.out h0
          subst e1 e2
          exact ⟨rfl, .inr ⟨h0, older, ho, rfl⟩, _, hr⟩
        have HD := Lib.hid (DONE.out h0 w2 ox hr)
        clear hr h0 HR3 HR2 DONE HGO HSTOP HQ1 HLN1 HLNS HFIN HONE HQ j0 j1 j2 j3 HYES HNO HTR HIF i1 i2 i3 i4
        go_wp2
        go_roundw
        case rel => exact HD.out
        case measure => simp [intOf]; omega
      · obtain ⟨m, rfl⟩ := Int.eq_ofNat_of_zero_le (by omega : 0 ≤ M)
        have hmm : k < m ∧ m < e := by omega
        have HYES : Hid (trS S qk us = 0 → vlS S qk us ≠ 0 → ∀ w', RB ws o0 w0 w' b g er ok qk → RunCall ws o0 185 (some ⟨b0, o + (k + 1) * 4, none⟩) (m - (k + 1)) (c - (k + 1)) w0 w' b g er q1 r1) := Lib.hid (fun t0 z0 w' hw => by
          obtain ⟨s', hs', hr'⟩ := HIF.out.yes (by rw [HEX.out]; exact t0) (by rw [HEX.out]; exact z0)
          rw [if_neg hM, Int.toNat_natCast] at hr'
          exact HI.out ws o0 _ _ _ _ (seg ss (k + 1) m) s' w' ok qk q1 r1 (by omega) (by omega) (by omega) (HS.out.part (lo := k + 1) (hi := m) (by omega) (by omega)) (good_seg (by omega) (by rw [HL.out]; omega) HGD.out) hw HQ.out (by have := HLNS.out; omega) (runs_part hr' (by rw [HL.out]; omega)))
        have HNO : Hid (trS S qk us = 0 → vlS S qk us = 0 → ∀ w', RB ws o0 w0 w' b g er ok qk → RunCall ws o0 185 (some ⟨b0, o + (m + 1) * 4, none⟩) (e - (m + 1)) (c - (m + 1)) w0 w' b g er q1 r1) := Lib.hid (fun t0 z0 w' hw => by
          obtain ⟨s', hs', hr'⟩ := HIF.out.no2 (by rw [HEX.out]; exact t0) (by rw [HEX.out]; exact z0) (by omega)
          rw [Int.toNat_natCast] at hr'
          exact HI.out ws o0 _ _ _ _ (seg ss (m + 1) e) s' w' ok qk q1 r1 (by omega) (by omega) (by omega) (HS.out.part (lo := m + 1) (hi := e) (by omega) (by omega)) (good_seg (by omega) (by rw [HL.out]; omega) HGD.out) hw HQ.out (by have := HLNS.out; omega) (runs_part hr' (by rw [HL.out]; omega)))
        have HTR : Hid (trS S qk us ≠ 0 → q1 = qk ∧ r1 = (2, trS S qk us)) := Lib.hid (fun h => by have := HIF.out.trap (by rw [HEX.out]; exact h); rwa [HEX.out] at this)
        clear hM hpl
        have HBD := Lib.hid (bodiesAt_two b0 o n c rs ss k m e wr (HS.out.below HR.out.bel) h40 hcap (by omega) (by omega) (by omega) HIF.out.ends)
        go_wp2_with fail
        refine HBD.out.mono ?_
        rintro ed w1 ⟨rfl, hb1⟩
        have R1 := HR.out.below hb1
        have i1 := (R1.bel.cell HB.out).trans HC1.out
        have i2 := (R1.bel.cell HB.out).trans HC2.out
        have i3 := (R1.bel.cell HB.out).trans HC3.out
        have i4 := (R1.bel.cell HB.out).trans HC4.out
        obtain ⟨wa, HW⟩ : ∃ wa, Hid (wa = w1.alloc (.cells #[.int .i64 2, .int .i64 y, .slice p1 m1 d1, .slice p2 m2 d2] 82)) := ⟨_, rfl⟩
        have R2 : RB ws o0 w0 wa b g er ok qk := by rw [HW.out]; exact R1.alloc _
        have SX : Blk wa w1.heap.size 82 [.int .i64 2, .int .i64 y, .slice p1 m1 d1, .slice p2 m2 d2] := by rw [HW.out]; exact Blk.new w1 _ _
        have HR2 := Lib.hid R2
        clear R1 R2 hb1 HBD HR
        go_wp2_with fail
        rw [← HW.out]
        clear HW
        have j0 := SX.cell (j := 0) rfl
        have j1 := SX.cell (j := 1) rfl
        have j2 := SX.cell (j := 2) rfl
        have j3 := SX.cell (j := 3) rfl
        clear SX
        go_wp2_with fail
        refine (choose_any ws o0 w0 wa b g er ok qk q1 r1 p2 _ _ m2 d2 _ _ _ _ (trS S qk us) (vlS S qk us) HR2.out (HVAL.out qk ok wa p2 m2 d2 us HR2.out HQ.out HTT2.out HNN.out) HTR HYES HNO).mono ?_
        rintro e9 w2 ⟨he, ox, hr⟩
        have HR3 := Lib.hid hr
        rcases he with ⟨h0, rfl⟩ | ⟨h0, older, ho, rfl⟩
        case inr =>
          obtain ⟨e1, e2⟩ := HSTOP.out h0
          subst e1 e2
          exact ⟨rfl, .inr ⟨h0, older, ho, rfl⟩, _, hr⟩
        have HD := Lib.hid (DONE.out h0 w2 ox hr)
        clear hr h0 HR3 HR2 DONE HGO HSTOP HQ1 HLN1 HLNS HFIN HONE HQ j0 j1 j2 j3 HYES HNO HTR HIF i1 i2 i3 i4
        go_wp2
        go_roundw
        case rel => exact HD.out
        case measure => simp [intOf]; omega
    by_cases hx5 : x = 5
    case pos =>
      subst hx5
      obtain ⟨jj, s', hends, hyj, h4, hcost, hrnd⟩ := one_loop HONE.out hop
      obtain rfl : y = (jj : Int) := by rw [HZ.out] at hyj; exact hyj
      have hpl := end_places (by rw [HL.out]; exact hlt) hends
      have HEND := Lib.hid hends
      have HRND := Lib.hid hrnd
      have HL0 : Hid (qk.outs.length + jj * (1 + s') ≤ 900000) := Lib.hid (by have := HLNS.out; rw [← hcost] at this; omega)
      clear hop hx hx2 hends hrnd hyj hcost
      have HBD := Lib.hid (bodiesAt_one b0 o n c rs ss k e wr (HS.out.below HR.out.bel) h40 hcap hlt (by omega) (by omega) HEND.out)
      go_wp2_with fail
      refine HBD.out.mono ?_
      rintro ed w1 ⟨rfl, hb1⟩
      have R1 := HR.out.below hb1
      have i1 := (R1.bel.cell HB.out).trans HC1.out
      have i2 := (R1.bel.cell HB.out).trans HC2.out
      have i3 := (R1.bel.cell HB.out).trans HC3.out
      have i4 := (R1.bel.cell HB.out).trans HC4.out
      obtain ⟨wa, HW⟩ : ∃ wa, Hid (wa = w1.alloc (.cells #[.int .i64 5, .int .i64 (jj : Int), .slice p1 m1 d1, .slice p2 m2 d2] 82)) := ⟨_, rfl⟩
      have R2 : RB ws o0 w0 wa b g er ok qk := by rw [HW.out]; exact R1.alloc _
      have SX : Blk wa w1.heap.size 82 [.int .i64 5, .int .i64 (jj : Int), .slice p1 m1 d1, .slice p2 m2 d2] := by rw [HW.out]; exact Blk.new w1 _ _
      have HR2 := Lib.hid R2
      clear R1 R2 hb1 HBD HR
      go_wp2_with fail
      rw [← HW.out]
      clear HW i1 i2 i3 i4
      clear SX
      go_loopw [43] (fun x wr => ∃ (i : Nat) (qi : Sta) (oi : Sl), i ≤ jj ∧ x = .int .i64 (i : Int) ∧ Hid (Runs S ss (.rounds (jj - i)) (k + 1) e s' qi q1 r1) ∧ Hid (RB ws o0 w0 wr b g er oi qi) ∧ Hid (StaOk p qi) ∧ Hid (qi.outs.length + (jj - i) * (1 + s') ≤ 900000)) (fun x _ => jj - (intOf x).toNat)
      case atStart => exact ⟨0, qk, ok, Nat.zero_le _, rfl, HRND, HR2, HQ, HL0⟩
      case round =>
        clear HRND HR2 HQ HL0
        obtain ⟨i, qi, oi, hij, rfl, HRI, HBI, HQI, HLI⟩ := hrel
        by_cases hil : i < jj
        · obtain ⟨ri, hri⟩ : ∃ ri, jj - i = ri + 1 := ⟨jj - i - 1, by omega⟩
          have hinv := HRI.out
          have hli := HLI.out
          rw [hri] at hinv hli
          rw [Nat.add_mul] at hli
          obtain ⟨qa, ra, hbody, hnext, hbad⟩ := rounds_inv hinv
          have hrr : jj - (i + 1) = ri := by omega
          have HCALL := Lib.hid (HI.out ws o0 (some ⟨b0, o + (k + 1) * 4, none⟩) (e - (k + 1)) (c - (k + 1)) _ (seg ss (k + 1) e) s' _ oi qi qa ra (by omega) (by omega) (by omega) (HS.out.part (lo := k + 1) (hi := e) (by omega) (by omega)) (good_seg (by omega) (by rw [HL.out]; omega) HGD.out) HBI.out HQI.out (by omega) (runs_part hbody (by rw [HL.out]; omega)))
          have HNX := Lib.hid hnext
          have HBD2 := Lib.hid hbad
          have HQA := Lib.hid (HOK.out hbody HQI.out)
          have HLA : Hid (qa.outs.length + ri * (1 + s') ≤ 900000) := Lib.hid (by have := hbody.outs; simp only [roundS] at this; omega)
          have HRR := Lib.hid hrr
          unfold RunCall at HCALL
          clear hinv hli hbody hnext hbad hri hrr
          go_wp2_with fail
          refine HCALL.out.mono ?_
          rintro e9 w2 ⟨he, ox, hr⟩
          have HR3 := Lib.hid hr
          rcases he with ⟨h0, rfl⟩ | ⟨h0, older, ho, rfl⟩
          case inr =>
            obtain ⟨e1, e2⟩ := HBD2.out h0
            subst e1 e2
            obtain ⟨e1, e2⟩ := HSTOP.out h0
            subst e1 e2
            exact ⟨rfl, .inr ⟨h0, older, ho, rfl⟩, _, hr⟩
          have HNX2 := Lib.hid (HNX.out h0).2
          clear hr h0 HCALL HBI HRI HLI HQI HNX HBD2
          go_wp2
          go_roundw
          case rel => exact ⟨i + 1, qa, ox, by omega, by go_num, by rw [HRR.out]; exact HNX2, HR3, HQA, by rw [HRR.out]; exact HLA⟩
          case measure => simp [intOf]; omega
        · obtain rfl : i = jj := by omega
          have hinv := HRI.out
          rw [Nat.sub_self] at hinv
          obtain ⟨e1, e2⟩ := rounds_zero hinv
          subst e1 e2
          have HD := Lib.hid (DONE.out rfl _ oi HBI.out)
          clear hinv HRI HLI HQI HBI DONE HGO HSTOP HQ1 HLN1 HLNS HFIN HONE
          go_wp2
          go_roundw
          case rel => exact HD.out
          case measure => simp [intOf]; omega
    obtain rfl : x = 8 := by omega
    obtain ⟨m, sa, sb, qa, ra, htry⟩ := one_try HONE.out hop
    have HTRY := Lib.hid htry
    have hpl := end_places (by rw [HL.out]; exact hlt) htry.ends
    have hmm : k < m ∧ m < e := by omega
    have HQA := Lib.hid (HOK.out htry.body HQ.out)
    have HLA : Hid (qa.outs.length + sb ≤ 900000) := Lib.hid (by have h1 := htry.body.outs; have h2 := HLNS.out; have h3 := htry.cost; simp only [roundS] at h1; omega)
    have HFA := Lib.hid htry.body.fin
    obtain ⟨b9, o9, x9, y9, p3, m3, d3, p4, m4, d4, ts9, us9, hba, _, hz9, _, _, g1, g2, g3, g4, _⟩ := HS.out.at_ (k := m) (by omega)
    injection hba with hba
    injection hba with hb9 ho9
    subst hb9 ho9
    have HCN : Hid ((stAt ss m).n = y9) := Lib.hid (by rw [hz9.out])
    have HG1 := Lib.hid g1
    have HG2 := Lib.hid g2
    have HG3 := Lib.hid g3
    have HG4 := Lib.hid g4
    have HBODY : Hid (∀ ws o0 w', RB ws o0 w0 w' b g er ok qk → RunCall ws o0 185 (some ⟨b0, o + (k + 1) * 4, none⟩) (m - (k + 1)) (c - (k + 1)) w0 w' b g er qa ra) := Lib.hid (fun ws o0 w' hw => HI.out ws o0 _ _ _ _ (seg ss (k + 1) m) sa w' ok qk qa ra (by omega) (by omega) (by omega) (HS.out.part (lo := k + 1) (hi := m) (by omega) (by omega)) (good_seg (by omega) (by rw [HL.out]; omega) HGD.out) hw HQ.out (by have := HLNS.out; have := HTRY.out.cost; omega) (runs_part HTRY.out.body (by rw [HL.out]; omega)))
    have HPASS : Hid (ra ≠ (1, y9) → q1 = qa ∧ r1 = ra) := Lib.hid (fun h => HTRY.out.pass (by rw [HCN.out]; exact h))
    have HTAKE : Hid (ra = (1, y9) → ∀ os w', RB ws o0 w0 w' b g er os qa → RunCall ws o0 185 (some ⟨b0, o + (m + 1) * 4, none⟩) (e - (m + 1)) (c - (m + 1)) w0 w' b g er q1 r1) := Lib.hid (fun h os w' hw => by
      have hr' := HTRY.out.take (by rw [HCN.out]; exact h)
      exact HI.out ws o0 _ _ _ _ (seg ss (m + 1) e) sb w' os qa q1 r1 (by omega) (by omega) (by omega) (HS.out.part (lo := m + 1) (hi := e) (by omega) (by omega)) (good_seg (by omega) (by rw [HL.out]; omega) HGD.out) hw HQA.out (by have := HLA.out; omega) (runs_part hr' (by rw [HL.out]; omega)))
    clear htry hop hx hx2 hx5 hpl g1 g2 g3 g4
    have HBD := Lib.hid (bodiesAt_two b0 o n c rs ss k m e wr (HS.out.below HR.out.bel) h40 hcap (by omega) (by omega) (by omega) HTRY.out.ends)
    go_wp2_with fail
    refine HBD.out.mono ?_
    rintro ed w1 ⟨rfl, hb1⟩
    have R1 := HR.out.below hb1
    have i1 := (R1.bel.cell HB.out).trans HC1.out
    have i2 := (R1.bel.cell HB.out).trans HC2.out
    have i3 := (R1.bel.cell HB.out).trans HC3.out
    have i4 := (R1.bel.cell HB.out).trans HC4.out
    obtain ⟨wa, HW⟩ : ∃ wa, Hid (wa = w1.alloc (.cells #[.int .i64 8, .int .i64 y, .slice p1 m1 d1, .slice p2 m2 d2] 82)) := ⟨_, rfl⟩
    have R2 : RB ws o0 w0 wa b g er ok qk := by rw [HW.out]; exact R1.alloc _
    have SX : Blk wa w1.heap.size 82 [.int .i64 8, .int .i64 y, .slice p1 m1 d1, .slice p2 m2 d2] := by rw [HW.out]; exact Blk.new w1 _ _
    have HR2 := Lib.hid R2
    clear R1 R2 hb1 HBD HR
    have R3 := HR2.out
    have g1 := (R3.bel.cell HB.out).trans HG1.out
    have g2 := (R3.bel.cell HB.out).trans HG2.out
    have g3 := (R3.bel.cell HB.out).trans HG3.out
    have g4 := (R3.bel.cell HB.out).trans HG4.out
    rw [HW.out] at g1 g2 g3 g4
    have hidx : (k : Int) + 1 + ((m - (k + 1) : Nat) : Int) = (m : Int) := by omega
    clear R3
    go_wp2_with fail
    rw [← HW.out]
    clear HW i1 i2 i3 i4 SX
    refine (try_any ws o0 w0 wa b g er ok qk qa q1 ra r1 _ _ p3 p4 _ _ _ _ m3 d3 m4 d4 x9 y9 HR2.out HFA.out HBODY HPASS HTAKE).mono ?_
    rintro e9 w2 ⟨he, ox, hr⟩
    have HR3 := Lib.hid hr
    rcases he with ⟨h0, rfl⟩ | ⟨h0, older, ho, rfl⟩
    case inr =>
      obtain ⟨e1, e2⟩ := HSTOP.out h0
      subst e1 e2
      exact ⟨rfl, .inr ⟨h0, older, ho, rfl⟩, _, hr⟩
    have HD := Lib.hid (DONE.out h0 w2 ox hr)
    clear hr h0 HR3 HR2 DONE HGO HSTOP HQ1 HLN1 HLNS HFIN HONE HQ HBODY HPASS HTAKE HTRY g1 g2 g3 g4 hidx
    go_wp2
    go_roundw
    case rel => exact HD.out
    case measure => simp [intOf]; omega
theorem run_all (p : Prg) (er : ERow) (b : Nat) (w0 : World) (hcode : codeB p = 0) : ∀ N, RunAt p er b w0 N
  | 0 => fun _ _ _ _ _ _ _ _ _ _ _ _ _ h => absurd h (by omega)
  | N + 1 => run_step p er b w0 N hcode (Lib.hid (run_all p er b w0 hcode N))
end Go.Proofs.YtmooecbdpfhnlaaGreat
/- The program's runner: the contracts of ending (its deferred function tells what was thrown, or the trap) and of runFrom. -/
namespace Go.Proofs.YtmooecbdpfhnlaaGreat
open Go.RowKit

theorem assertT_thrown (code : Int) (w : World) : Sem.run Tryz.prog (Instr.typeAssert (.iface 230 (.agg #[.int .i64 code])) 20 230 true) w = .ok (.tuple #[.agg #[.int .i64 code], .bool true]) w := by kernel_rfl
theorem assertT_other (code : Int) (w : World) : Sem.run Tryz.prog (Instr.typeAssert (.iface 232 (.agg #[.int .i64 code])) 20 230 true) w = .ok (.tuple #[.agg #[.int .i64 0], .bool false]) w := by kernel_rfl
theorem assertT_none (w : World) : Sem.run Tryz.prog (Instr.typeAssert .nilIface 20 230 true) w = .ok (.tuple #[.agg #[.int .i64 0], .bool false]) w := by kernel_rfl
theorem assertP_trapped (code : Int) (w : World) : Sem.run Tryz.prog (Instr.typeAssert (.iface 232 (.agg #[.int .i64 code])) 20 232 true) w = .ok (.tuple #[.agg #[.int .i64 code], .bool true]) w := by kernel_rfl
theorem assertP_none (w : World) : Sem.run Tryz.prog (Instr.typeAssert .nilIface 20 232 true) w = .ok (.tuple #[.agg #[.int .i64 0], .bool false]) w := by kernel_rfl
set_option maxHeartbeats 800000 in
/-- Nothing was thrown. -/
theorem tell_idle (p r : Addr) (w : World) :
    CallsD Tryz.prog 184 #[.pointer (some p), .pointer (some r)] .returning w fun e u' w' => e = .returned (.tuple #[]) ∧ u' = .returning ∧ w' = w := by
  have h1 := assertT_none w
  have h2 := assertP_none w
  refine callsD_of_wpS Tryz.func184 rfl fun c₀ cs hu => ?_
  apply wpS_seq
  apply wpS_region
  simp [wpOpsS, go_sem, recoverD, hu, Tryz.ntmps184, Exit.thenS]
  refine wpS_of_wp ?_
  have ea : (#[.pointer (some p), .pointer (some r)] ++ (Array.replicate 13 undef).setIfInBounds 2 (.nilIface) : Array Value) = #[.pointer (some p), .pointer (some r), undef, undef, .nilIface, undef, undef, undef, undef, undef, undef, undef, undef, undef, undef] := by kernel_rfl
  rw [ea]
  clear ea
  go_wp2
  cases c₀
  simp_all [bodyPostS, results, Tryz.results184]
set_option maxHeartbeats 1600000 in
theorem tell_thrown (b0 b1 : Nat) (n x y : Int) (older : List PanicEntry) (w : World) (hp : Blk w b0 2 [.int .i64 x]) (hr : Blk w b1 2 [.int .i64 y]) (hne : b0 ≠ b1) :
    CallsD Tryz.prog 184 #[.pointer (some ⟨b0, 0, none⟩), .pointer (some ⟨b1, 0, none⟩)] (.panicking ({ v := .iface 230 (.agg #[.int .i64 n]), recovered := false } :: older)) w fun e u' w' =>
      e = .returned (.tuple #[]) ∧ u' = .panicking ({ v := .iface 230 (.agg #[.int .i64 n]), recovered := true } :: older) ∧ w' = (((w.alloc (.cells #[.int .i64 n] 230)).setCell ⟨b0, 0, none⟩ (.int .i64 1)).setCell ⟨b1, 0, none⟩ (.int .i64 n)).drew := by
  have ha0 := assertT_thrown n w
  have l0 := hp.lt
  have l1 := hr.lt
  have e0 : b0 ≠ w.heap.size := by omega
  have e1 : b1 ≠ w.heap.size := by omega
  have e2 : w.heap.size ≠ b0 := by omega
  have e3 : w.heap.size ≠ b1 := by omega
  have e4 : b1 ≠ b0 := fun e => hne e.symm
  obtain ⟨wa, HW⟩ : ∃ wa, Hid (wa = w.alloc (.cells #[.int .i64 n] 230)) := ⟨_, rfl⟩
  have N : Blk wa w.heap.size 230 [.int .i64 n] := by rw [HW.out]; exact Blk.new w _ _
  have P : Blk wa b0 2 [.int .i64 x] := by rw [HW.out]; exact hp.alloc _
  have R : Blk wa b1 2 [.int .i64 y] := by rw [HW.out]; exact hr.alloc _
  have n0 := N.cell (j := 0) rfl
  have p0 := P.cell (j := 0) rfl
  have r0 := R.cell (j := 0) rfl
  have p1 := P.frozen 0
  have r1 := R.frozen 0
  rw [← HW.out]
  clear hp hr N P R l0 l1
  refine callsD_of_wpS Tryz.func184 rfl fun c₀ cs hu => ?_
  apply wpS_seq
  apply wpS_region
  simp [wpOpsS, go_sem, recoverD, hu, Tryz.ntmps184, Exit.thenS]
  refine wpS_of_wp ?_
  have ea : (#[.pointer (some ⟨b0, 0, none⟩), .pointer (some ⟨b1, 0, none⟩)] ++ (Array.replicate 13 undef).setIfInBounds 2 (.iface 230 (.agg #[.int .i64 n])) : Array Value) = #[.pointer (some ⟨b0, 0, none⟩), .pointer (some ⟨b1, 0, none⟩), undef, undef, .iface 230 (.agg #[.int .i64 n]), undef, undef, undef, undef, undef, undef, undef, undef, undef, undef] := by kernel_rfl
  rw [ea]
  clear ea
  go_wp2
  rw [← HW.out]
  go_region
  go_wp2
  simp [bodyPostS, results, Tryz.results184, go_sem]
set_option maxHeartbeats 1600000 in
theorem tell_trap (b0 b1 : Nat) (n x y : Int) (older : List PanicEntry) (w : World) (hp : Blk w b0 2 [.int .i64 x]) (hr : Blk w b1 2 [.int .i64 y]) (hne : b0 ≠ b1) :
    CallsD Tryz.prog 184 #[.pointer (some ⟨b0, 0, none⟩), .pointer (some ⟨b1, 0, none⟩)] (.panicking ({ v := .iface 232 (.agg #[.int .i64 n]), recovered := false } :: older)) w fun e u' w' =>
      e = .returned (.tuple #[]) ∧ u' = .panicking ({ v := .iface 232 (.agg #[.int .i64 n]), recovered := true } :: older) ∧ w' = (((w.alloc (.cells #[.int .i64 n] 232)).setCell ⟨b0, 0, none⟩ (.int .i64 2)).setCell ⟨b1, 0, none⟩ (.int .i64 n)).drew := by
  have ha0 := assertT_other n w
  have ha1 := assertP_trapped n w
  have l0 := hp.lt
  have l1 := hr.lt
  have e0 : b0 ≠ w.heap.size := by omega
  have e1 : b1 ≠ w.heap.size := by omega
  have e2 : w.heap.size ≠ b0 := by omega
  have e3 : w.heap.size ≠ b1 := by omega
  have e4 : b1 ≠ b0 := fun e => hne e.symm
  obtain ⟨wa, HW⟩ : ∃ wa, Hid (wa = w.alloc (.cells #[.int .i64 n] 232)) := ⟨_, rfl⟩
  have N : Blk wa w.heap.size 232 [.int .i64 n] := by rw [HW.out]; exact Blk.new w _ _
  have P : Blk wa b0 2 [.int .i64 x] := by rw [HW.out]; exact hp.alloc _
  have R : Blk wa b1 2 [.int .i64 y] := by rw [HW.out]; exact hr.alloc _
  have n0 := N.cell (j := 0) rfl
  have p0 := P.cell (j := 0) rfl
  have r0 := R.cell (j := 0) rfl
  have p1 := P.frozen 0
  have r1 := R.frozen 0
  rw [← HW.out]
  clear hp hr N P R l0 l1
  refine callsD_of_wpS Tryz.func184 rfl fun c₀ cs hu => ?_
  apply wpS_seq
  apply wpS_region
  simp [wpOpsS, go_sem, recoverD, hu, Tryz.ntmps184, Exit.thenS]
  refine wpS_of_wp ?_
  have ea : (#[.pointer (some ⟨b0, 0, none⟩), .pointer (some ⟨b1, 0, none⟩)] ++ (Array.replicate 13 undef).setIfInBounds 2 (.iface 232 (.agg #[.int .i64 n])) : Array Value) = #[.pointer (some ⟨b0, 0, none⟩), .pointer (some ⟨b1, 0, none⟩), undef, undef, .iface 232 (.agg #[.int .i64 n]), undef, undef, undef, undef, undef, undef, undef, undef, undef, undef] := by kernel_rfl
  rw [ea]
  clear ea
  go_wp2
  rw [← HW.out]
  go_region
  go_wp2
  simp [bodyPostS, results, Tryz.results184, go_sem]
/-- The two results' boxes, written; the run's memory stays. -/
theorem RB.ends {ws w0 w : World} {b : Nat} {g : Int} {er : ERow} {o0 os : Sl} {q : Sta} (h : RB ws o0 w0 w b g er os q) {k0 k1 : Nat} (h0 : ws.heap.size ≤ k0) (h1 : ws.heap.size ≤ k1) (n0 : ¬ Touch er os b k0) (n1 : ¬ Touch er os b k1) (c0 : (slV er.cells).ownBlock ≠ some k0) (c1 : (slV er.cells).ownBlock ≠ some k1) (l0 : w0.heap.size ≤ k0) (l1 : w0.heap.size ≤ k1) (o : Obj) (v v' : Value) : RB ws o0 w0 ((((w.alloc o).setCell ⟨k0, 0, none⟩ v).setCell ⟨k1, 0, none⟩ v').drew) b g er os q :=
  (((h.alloc o).fresh (j := 0) h0 n0 c0 l0 v).fresh (j := 0) h1 n1 c1 l1 v').below ⟨rfl, rfl, rfl, Nat.le_refl _, fun _ _ => rfl⟩
set_option maxRecDepth 20000 in
set_option maxHeartbeats 3200000 in
theorem ending_any (ws : World) (o0 : Sl) (w0 w : World) (b : Nat) (g : Int) (er : ERow) (os : Sl) (q q' : Sta) (r : Rz) (a : Option Addr) (n c : Nat) (h : RB ws o0 w0 w b g er os q) (hf : Fin r)
    (HC : Hid (∀ ws o0 w', RB ws o0 w0 w' b g er os q → RunCall ws o0 185 a n c w0 w' b g er q' r)) :
    Calls Tryz.prog 155 #[.pointer (some ⟨b, 0, none⟩), .slice a n c] w fun e w' => e = .returned (.tuple #[.int .i64 r.1, .int .i64 r.2]) ∧ ∃ os', RB ws o0 w0 w' b g er os' q' := by
  have hmf : ∀ (fn : Fn) (first cap : Array Value) (w : World), (Instr.makeFunc fn first cap).run Tryz.prog w = .ok (.func fn first cap) w := fun _ _ _ _ => rfl
  obtain ⟨wa, HW⟩ : ∃ wa, Hid (wa = (w.alloc (.cells #[.int .i64 0] 2)).alloc (.cells #[.int .i64 0] 2)) := ⟨_, rfl⟩
  have R1 : RB ws o0 w0 wa b g er os q := by rw [HW.out]; exact (h.alloc _).alloc _
  have CX : Blk wa w.heap.size 2 [.int .i64 0] := by rw [HW.out]; exact (Blk.new w _ _).alloc _
  have FX : Blk wa (w.heap.size + 1) 2 [.int .i64 0] := by rw [HW.out]; simpa using Blk.new (w.alloc (.cells #[.int .i64 0] 2)) 2 [.int .i64 0]
  have hn1 : ∀ k, w.heap.size ≤ k → ¬ Touch er os b k := fun k hk ht => by have := h.touch_lt ht; omega
  have HN := Lib.hid hn1
  have HB0 : Hid (w0.heap.size ≤ w.heap.size) := Lib.hid h.bel.size
  have HFS : Hid (ws.heap.size ≤ w.heap.size) := Lib.hid h.frm.size
  have HR := Lib.hid R1
  have HCX := Lib.hid CX
  have HFX := Lib.hid FX
  have HC1 := Lib.hid (HC.out wa os wa R1.anew)
  unfold RunCall at HC1
  clear R1 CX FX hn1 h HC
  go_enter_defers Tryz.func155, Tryz.ntmps155
  go_wp2_with fail
  rw [← HW.out]
  clear HW
  refine HC1.out.mono ?_
  rintro e w1 ⟨he, os', hr⟩
  have C1 : Blk w1 w.heap.size 2 [.int .i64 0] := (hr.frm.keep _ HCX.out.lt (HN.out _ (Nat.le_refl _))).trans HCX.out
  have F1 : Blk w1 (w.heap.size + 1) 2 [.int .i64 0] := (hr.frm.keep _ HFX.out.lt (HN.out _ (by omega))).trans HFX.out
  have RJ := HR.out.join hr
  have hw0 := HB0.out
  have hfs := HFS.out
  have t0 : ¬ Touch er os' b w.heap.size := fun ht => HN.out _ (Nat.le_refl _) (hr.frm.touch HCX.out.lt ht)
  have t1 : ¬ Touch er os' b (w.heap.size + 1) := fun ht => HN.out _ (by omega) (hr.frm.touch HFX.out.lt ht)
  have c0 : (slV er.cells).ownBlock ≠ some w.heap.size := fun e => blk_apart C1 hr.mem.cells.1 (by decide) _ e rfl
  have c1 : (slV er.cells).ownBlock ≠ some (w.heap.size + 1) := fun e => blk_apart F1 hr.mem.cells.1 (by decide) _ e rfl
  have RS := Lib.hid (fun v v' => (RJ.fresh (j := 0) hfs t0 c0 hw0 v).fresh (j := 0) (by omega) t1 c1 (by omega) v')
  have RS2 := Lib.hid (fun o v v' => RJ.ends hfs (by omega) t0 t1 c0 c1 hw0 (by omega) o v v')
  have q0 := F1.cell (j := 0) rfl
  have q1 := F1.frozen 0
  have p0 := C1.cell (j := 0) rfl
  have p1 := C1.frozen 0
  have HC1' := Lib.hid C1
  have HF1 := Lib.hid F1
  clear RJ hr HCX HFX HN HR HC1 t0 t1 c0 c1 C1 F1
  rcases he with ⟨h0, rfl⟩ | ⟨h0, older, ho, rfl⟩
  · have hr0 : r = (0, 0) := hf.go.resolve_right (fun h => h h0)
    subst hr0
    clear h0 hf
    go_wp2
    obtain ⟨wx, HX⟩ : ∃ wx, Hid ((w1.setCell ⟨w.heap.size, 0, none⟩ (.int .i64 0)).setCell ⟨w.heap.size + 1, 0, none⟩ (.int .i64 0) = wx) := ⟨_, rfl⟩
    have TX : Blk wx w.heap.size 2 [.int .i64 0] := by rw [← HX.out]; exact (HC1'.out.set _).other (by omega) _
    have TY : Blk wx (w.heap.size + 1) 2 [.int .i64 0] := by rw [← HX.out]; exact (HF1.out.other (by omega) _).set _
    have RX : RB ws o0 w0 wx b g er os' q' := by rw [← HX.out]; exact RS.out _ _
    rw [HX.out]
    clear HX
    have r0 := TX.cell (j := 0) rfl
    have r1 := TY.cell (j := 0) rfl
    refine leaves_cons (f := 184) (args := #[.pointer (some ⟨w.heap.size, 0, none⟩), .pointer (some ⟨w.heap.size + 1, 0, none⟩)]) (by simp) (by simp [go_sem]) ?_
    refine (tell_idle _ _ _).mono ?_
    rintro e u' w'' ⟨rfl, rfl, rfl⟩
    simp only [Leaves, settle]
    refine ⟨.tuple #[.int .i64 0, .int .i64 0], by simp [results, Tryz.results155, go_sem, r0, r1], rfl, _, _, _, RX⟩
  · have each : ∀ (one m : Int) (o : Obj), r = (one, m) → ∀ wx, wx = (((w1.alloc o).setCell ⟨w.heap.size, 0, none⟩ (.int .i64 one)).setCell ⟨w.heap.size + 1, 0, none⟩ (.int .i64 m)).drew → Blk wx w.heap.size 2 [.int .i64 one] ∧ Blk wx (w.heap.size + 1) 2 [.int .i64 m] ∧ RB ws o0 w0 wx b g er os' q' := fun one m o _ wx e => by
      subst e
      exact ⟨(((HC1'.out.alloc o).set _).other (by omega) _), (((HF1.out.alloc o).other (by omega) _).set _), RS2.out _ _ _⟩
    have EACH := Lib.hid each
    clear each
    rcases hf with rfl | ⟨m, rfl⟩ | rfl | rfl
    · exact absurd rfl h0
    · have ev : valR (1, m) = .iface 230 (.agg #[.int .i64 m]) := rfl
      rw [ev]
      obtain ⟨wx, HX⟩ : ∃ wx, Hid (wx = (((w1.alloc (.cells #[.int .i64 m] 230)).setCell ⟨w.heap.size, 0, none⟩ (.int .i64 1)).setCell ⟨w.heap.size + 1, 0, none⟩ (.int .i64 m)).drew) := ⟨_, rfl⟩
      obtain ⟨TX, TY, RX⟩ := EACH.out 1 m _ rfl wx HX.out
      have r0 := TX.cell (j := 0) rfl
      have r1 := TY.cell (j := 0) rfl
      go_wp2
      refine leaves_cons (f := 184) (args := #[.pointer (some ⟨w.heap.size, 0, none⟩), .pointer (some ⟨w.heap.size + 1, 0, none⟩)]) (by simp) (by simp [go_sem]) ?_
      refine (tell_thrown w.heap.size (w.heap.size + 1) m 0 0 older _ HC1'.out HF1.out (by omega)).mono ?_
      rintro e u' w'' ⟨rfl, rfl, rfl⟩
      rw [← HX.out]
      simp only [settle_old ho, Leaves]
      refine ⟨.tuple #[.int .i64 1, .int .i64 m], by simp [results, Tryz.results155, go_sem, r0, r1], rfl, _, _, _, RX⟩
    · have ev : valR (2, 1) = .iface 232 (.agg #[.int .i64 1]) := rfl
      rw [ev]
      obtain ⟨wx, HX⟩ : ∃ wx, Hid (wx = (((w1.alloc (.cells #[.int .i64 1] 232)).setCell ⟨w.heap.size, 0, none⟩ (.int .i64 2)).setCell ⟨w.heap.size + 1, 0, none⟩ (.int .i64 1)).drew) := ⟨_, rfl⟩
      obtain ⟨TX, TY, RX⟩ := EACH.out 2 1 _ rfl wx HX.out
      have r0 := TX.cell (j := 0) rfl
      have r1 := TY.cell (j := 0) rfl
      go_wp2
      refine leaves_cons (f := 184) (args := #[.pointer (some ⟨w.heap.size, 0, none⟩), .pointer (some ⟨w.heap.size + 1, 0, none⟩)]) (by simp) (by simp [go_sem]) ?_
      refine (tell_trap w.heap.size (w.heap.size + 1) 1 0 0 older _ HC1'.out HF1.out (by omega)).mono ?_
      rintro e u' w'' ⟨rfl, rfl, rfl⟩
      rw [← HX.out]
      simp only [settle_old ho, Leaves]
      refine ⟨.tuple #[.int .i64 2, .int .i64 1], by simp [results, Tryz.results155, go_sem, r0, r1], rfl, _, _, _, RX⟩
    · have ev : valR (2, 2) = .iface 232 (.agg #[.int .i64 2]) := rfl
      rw [ev]
      obtain ⟨wx, HX⟩ : ∃ wx, Hid (wx = (((w1.alloc (.cells #[.int .i64 2] 232)).setCell ⟨w.heap.size, 0, none⟩ (.int .i64 2)).setCell ⟨w.heap.size + 1, 0, none⟩ (.int .i64 2)).drew) := ⟨_, rfl⟩
      obtain ⟨TX, TY, RX⟩ := EACH.out 2 2 _ rfl wx HX.out
      have r0 := TX.cell (j := 0) rfl
      have r1 := TY.cell (j := 0) rfl
      go_wp2
      refine leaves_cons (f := 184) (args := #[.pointer (some ⟨w.heap.size, 0, none⟩), .pointer (some ⟨w.heap.size + 1, 0, none⟩)]) (by simp) (by simp [go_sem]) ?_
      refine (tell_trap w.heap.size (w.heap.size + 1) 2 0 0 older _ HC1'.out HF1.out (by omega)).mono ?_
      rintro e u' w'' ⟨rfl, rfl, rfl⟩
      rw [← HX.out]
      simp only [settle_old ho, Leaves]
      refine ⟨.tuple #[.int .i64 2, .int .i64 2], by simp [results, Tryz.results155, go_sem, r0, r1], rfl, _, _, _, RX⟩
end Go.Proofs.YtmooecbdpfhnlaaGreat
/- The contract of the program's runFrom. -/
namespace Go.Proofs.YtmooecbdpfhnlaaGreat
open Go.RowKit

/-- What a run leaves of the memory. -/
structure RanTo (w0 w w' : World) (er : ERow) (os' : Sl) (q' : Sta) : Prop where
  bel : Below w0.heap.size w0 w'
  mem : EnvMem w' w0.heap.size er os' q'
  size : w.heap.size ≤ w'.heap.size
  keep : ∀ k, k < w.heap.size → (slV er.vars).ownBlock ≠ some k → (∀ i, i < er.cells.2.1 → (slV (slAt er.rows i)).ownBlock ≠ some k) → w'.heap[k]? = w.heap[k]?
/-- The three boxes of a call of runFrom. -/
structure ABox (w wi : World) (c0 c1 c2 : List Value) : Prop where
  prg : Blk wi w.heap.size 31 c0
  env : Blk wi (w.heap.size + 1) 90 c1
  res : Blk wi (w.heap.size + 2) 43 c2
  bel : Below w.heap.size w wi
theorem ABox.below {w wi wj : World} {c0 c1 c2 : List Value} (h : ABox w wi c0 c1 c2) (hb : Below wi.heap.size wi wj) : ABox w wj c0 c1 c2 :=
  ⟨h.prg.below hb h.prg.lt, h.env.below hb h.env.lt, h.res.below hb h.res.lt, h.bel.trans (hb.mono h.bel.size)⟩
theorem abox_new (w : World) (c0 c1 c2 : List Value) : ABox w (((w.alloc (.cells c0.toArray 31)).alloc (.cells c1.toArray 90)).alloc (.cells c2.toArray 43)) c0 c1 c2 :=
  ⟨((Blk.new w _ _).alloc _).alloc _, (by simpa using Blk.new (w.alloc _) 90 c1 : Blk _ _ _ _).alloc _, by simpa using Blk.new ((w.alloc _).alloc _) 43 c2, (((Below.refl _ _).alloc (Nat.le_refl _) _).alloc (by simp) _).alloc (by simp; omega) _⟩
set_option maxRecDepth 20000 in
set_option maxHeartbeats 3200000 in
theorem runFrom_any (r : PRow) (p : Prg) (er : ERow) (q q' : Sta) (rr : Rz) (s : Nat) (w0 w : World) (hcode : codeB p = 0) (hp : ProgAt w0 r p) (hcap : r.body.2.1 ≤ r.body.2.2) (hb0 : Below w0.heap.size w0 w) (hm : EnvMem w w0.heap.size er (none, 0, 0) q) (hq : StaOk p q) (hs : q.outs.length + s ≤ 900000) (hrun : Runs (2 ^ p.width.toNat) p.body .seq 0 p.body.length s q q' rr) :
    Calls Tryz.prog 109 #[progV r, envV er] w fun e w' => ∃ os', e = .returned (.agg #[slV os', .int .i64 rr.1, .int .i64 rr.2]) ∧ RanTo w0 w w' er os' q' := by
  have hW := code_head hcode
  have hlen : r.body.2.1 = p.body.length := hp.body.2.1.symm
  have HF := Lib.hid hrun.fin
  have HRUN : Hid (∀ (b : Nat) ws o0 w', RB ws o0 w0 w' b (((2 ^ p.width.toNat : Nat) : Int) - 1) er (none, 0, 0) q → RunCall ws o0 185 r.body.1 r.body.2.1 r.body.2.2 w0 w' b (((2 ^ p.width.toNat : Nat) : Int) - 1) er q' rr) := Lib.hid (fun b ws o0 w' hw => run_all p er b w0 hcode (r.body.2.1 + 1) ws o0 _ _ _ r.rows p.body s w' _ q q' rr (by omega) (by omega) hcap hp.body (code_good hcode).1 hw hq hs (by rw [hlen]; exact hrun))
  have HROF : Hid (∀ w' : World, Calls Tryz.prog 154 #[progV r, envV er, .bool false] w' fun e w'' => e = .returned (reckV (((2 ^ p.width.toNat : Nat) : Int) - 1) er false) ∧ Below w'.heap.size w' w'') := Lib.hid (fun w' => reckonerOf_any r p.width.toNat er false w' (by have := hp.width; omega) (by omega))
  obtain ⟨g, HG⟩ : ∃ g : Int, Hid (((2 ^ p.width.toNat : Nat) : Int) - 1 = g) := ⟨_, Lib.hid rfl⟩
  simp only [HG.out] at HRUN HROF
  have HM := Lib.hid hm
  have HB0 := Lib.hid hb0
  clear HG hrun hs hq hlen hW hcap hcode hm hb0 hp
  obtain ⟨wd, ⟨a1, n1, d1⟩, ⟨a2, n2, d2⟩, tp, ⟨a3, n3, d3⟩, ⟨a4, n4, d4⟩, rows⟩ := r
  obtain ⟨⟨va, vn, vc⟩, ⟨ca, cn, cc⟩, rws⟩ := er
  simp only [progV, envV, slV, reckV] at HROF
  simp only [] at HRUN
  show Calls Tryz.prog 109 #[.agg #[.int .i64 wd, .slice a1 n1 d1, .slice a2 n2 d2, .int .i64 tp, .slice a3 n3 d3, .slice a4 n4 d4], .agg #[.slice va vn vc, .slice ca cn cc]] w _
  obtain ⟨wa, HW⟩ : ∃ wa, Hid (wa = (((w.alloc (.cells #[.int .i64 wd, .slice a1 n1 d1, .slice a2 n2 d2, .int .i64 tp, .slice a3 n3 d3, .slice a4 n4 d4] 31)).alloc (.cells #[.slice va vn vc, .slice ca cn cc] 90)).alloc (.cells #[.slice none 0 0, .int .i64 0, .int .i64 0] 43))) := ⟨_, rfl⟩
  have BX : ABox w wa [.int .i64 wd, .slice a1 n1 d1, .slice a2 n2 d2, .int .i64 tp, .slice a3 n3 d3, .slice a4 n4 d4] [.slice va vn vc, .slice ca cn cc] [.slice none 0 0, .int .i64 0, .int .i64 0] := by rw [HW.out]; exact abox_new w _ _ _
  go_enter Tryz.func109, Tryz.ntmps109
  go_wp2_with fail
  rw [← HW.out]
  clear HW
  refine (HROF.out _).mono ?_
  rintro e w1 ⟨rfl, hb1⟩
  have B1 := BX.below hb1
  clear BX hb1 HROF
  obtain ⟨wb, HWB⟩ : ∃ wb, Hid (wb = w1.alloc (.cells #[.int .i64 g, .slice va vn vc, .slice ca cn cc, .bool false, .slice none 0 0] 205)) := ⟨_, rfl⟩
  have hbw : Below w1.heap.size w1 wb := by rw [HWB.out]; exact (Below.refl _ _).alloc (Nat.le_refl _) _
  have B2 := B1.below hbw
  have RX : Blk wb w1.heap.size 205 [.int .i64 g, .slice va vn vc, .slice ca cn cc, .bool false, .slice none 0 0] := by rw [HWB.out]; exact Blk.new w1 _ _
  have hlt1 := B1.res.lt
  have RB1 : RB wb (none, 0, 0) w0 wb w1.heap.size g ⟨(va, vn, vc), (ca, cn, cc), rws⟩ (none, 0, 0) q := ⟨HB0.out.trans (B2.bel.mono HB0.out.size), Nat.le_trans HB0.out.size B1.bel.size, RX, HM.out.below B2.bel, Frm.refl _ _ _ _⟩
  have g5 := B2.prg.cell (j := 5) rfl
  rw [HWB.out] at g5
  have HRB := Lib.hid RB1
  have HB2 := Lib.hid B2
  obtain ⟨b, HBB⟩ : ∃ b, Hid (w1.heap.size = b) := ⟨_, rfl⟩
  have hltb : w.heap.size + 2 < b := by rw [← HBB.out]; exact hlt1
  rw [HBB.out] at HRB
  clear RB1 RX B1 B2 hbw hlt1
  go_wp2_with fail
  rw [← HWB.out, HBB.out]
  clear HWB g5 HBB
  refine (ending_any wb (none, 0, 0) w0 wb b g _ (none, 0, 0) q q' rr a4 n4 d4 HRB.out HF.out (Lib.hid (fun ws o0 w' hw => HRUN.out b ws o0 w' hw))).mono ?_
  rintro e w2 ⟨rfl, ⟨oa, on, oc⟩, hr⟩
  have hnt : ∀ k, k < wb.heap.size → w.heap.size ≤ k → k ≠ b → w2.heap[k]? = wb.heap[k]? := fun k hk h1 h2 => hr.frm.keep k hk (fun ht => by
    rcases ht with e | e | e | ⟨i, hi, e⟩
    · exact h2 e
    · have := (HM.out.vars.block k e).2; omega
    · simp [slV, Value.ownBlock] at e
    · have := ((HM.out.cells.2.2.2 i hi).block k e).2; omega)
  have X2 : Blk w2 (w.heap.size + 2) 43 [.slice none 0 0, .int .i64 0, .int .i64 0] := (hnt _ HB2.out.res.lt (by omega) (by omega)).trans HB2.out.res
  have hkeep : ∀ k, k < w.heap.size → (slV (va, vn, vc)).ownBlock ≠ some k → (∀ i, i < cn → (slV (slAt rws i)).ownBlock ≠ some k) → w2.heap[k]? = w.heap[k]? := fun k hk h1 h2 => by
    have hbl := HB2.out.bel
    refine (hr.frm.keep k (Nat.lt_of_lt_of_le hk hbl.size) (fun ht => ?_)).trans (hbl.block k hk)
    rcases ht with e | e | e | ⟨i, hi, e⟩
    · omega
    · exact h1 e
    · simp [slV, Value.ownBlock] at e
    · exact h2 i hi e
  have HK := Lib.hid hkeep
  have HR2 := Lib.hid hr
  have f4 := hr.box.cell (j := 4) rfl
  simp only [slV] at f4
  have x0 := X2.cell (j := 0) rfl
  have x1 := X2.cell (j := 1) rfl
  have x2 := X2.cell (j := 2) rfl
  have z0 := X2.frozen 0
  have z1 := X2.frozen 1
  have z2 := X2.frozen 2
  have hsz : wb.heap.size ≤ w2.heap.size := hr.frm.size
  have HX2 := Lib.hid X2
  have HSZ : Hid (w.heap.size ≤ w2.heap.size) := Lib.hid (Nat.le_trans HB2.out.bel.size hsz)
  have HNT : Hid (¬ Touch ⟨(va, vn, vc), (ca, cn, cc), rws⟩ (oa, on, oc) b (w.heap.size + 2)) := Lib.hid (fun ht => by
    rcases hr.frm.touch HB2.out.res.lt ht with e | e | e | ⟨i, hi, e⟩
    · omega
    · have := (HM.out.vars.block _ e).2; omega
    · simp [slV, Value.ownBlock] at e
    · have := ((HM.out.cells.2.2.2 i hi).block _ e).2; omega)
  have HNC : Hid ((slV (ca, cn, cc)).ownBlock ≠ some (w.heap.size + 2)) := Lib.hid (fun e => blk_apart X2 hr.mem.cells.1 (by decide) _ e rfl)
  clear hr X2 hkeep hnt hsz
  go_wp2
  obtain ⟨wx, HXX⟩ : ∃ wx, Hid (((w2.setCell ⟨w.heap.size + 1 + 1, 0, none⟩ (.slice oa on oc)).setCell ⟨w.heap.size + 1 + 1, 1, none⟩ (.int .i64 rr.1)).setCell ⟨w.heap.size + 1 + 1, 2, none⟩ (.int .i64 rr.2) = wx) := ⟨_, rfl⟩
  have XF : Blk wx (w.heap.size + 1 + 1) 43 [.slice oa on oc, .int .i64 rr.1, .int .i64 rr.2] := by rw [← HXX.out]; exact ((HX2.out.set (j := 0) _).set (j := 1) _).set (j := 2) _
  have y0 := XF.cell (j := 0) rfl
  have y1 := XF.cell (j := 1) rfl
  have y2 := XF.cell (j := 2) rfl
  have hw0 := HB0.out.size
  have ME : EnvMem wx w0.heap.size ⟨(va, vn, vc), (ca, cn, cc), rws⟩ (oa, on, oc) q' := by
    rw [← HXX.out]
    exact ((HR2.out.mem.set HX2.out (by decide) (by decide) _).set (HX2.out.set (j := 0) _) (by decide) (by decide) _).set ((HX2.out.set (j := 0) _).set (j := 1) _) (by decide) (by decide) _
  have BE : Below w0.heap.size w0 wx := by rw [← HXX.out]; exact below_set (below_set (below_set HR2.out.bel (by omega) _) (by omega) _) (by omega) _
  have KE : ∀ k, k < w.heap.size → (slV (va, vn, vc)).ownBlock ≠ some k → (∀ i, i < cn → (slV (slAt rws i)).ownBlock ≠ some k) → wx.heap[k]? = w.heap[k]? := fun k hk h1 h2 => by
    rw [← HXX.out, Below.heap_setCell _ _ _ k (by simp; omega), Below.heap_setCell _ _ _ k (by simp; omega), Below.heap_setCell _ _ _ k (by simp; omega)]
    exact HK.out k hk h1 h2
  have SE : w.heap.size ≤ wx.heap.size := by rw [← HXX.out]; simpa using HSZ.out
  rw [HXX.out]
  refine bodyPost_ret (v := .agg #[.slice oa on oc, .int .i64 rr.1, .int .i64 rr.2]) (by simp [results, Tryz.results109, go_sem, y0, y1, y2]) rfl ?_
  exact ⟨(oa, on, oc), rfl, BE, ME, SE, KE⟩
end Go.Proofs.YtmooecbdpfhnlaaGreat
/- The contracts of the program's RunOf and AfterOf (written by tools/gen_implrunof.py). -/
namespace Go.Proofs.YtmooecbdpfhnlaaGreat
open Go.RowKit

set_option maxRecDepth 20000 in
set_option maxHeartbeats 3200000 in
theorem implRunOf_ans (r : PRow) (p : Prg) (a a' : Option Addr) (n c n' c' : Nat) (ls ss : List Int) (w : World) (h : ProgAt w r p) (hcap : r.body.2.1 ≤ r.body.2.2) (h1 : Ints w a n ls) (h2 : Ints w a' n' ss) :
    Calls Tryz.prog 68 #[progV r, .slice a n c, .slice a' n' c'] w (AnsOc w (startB p ls ss) (outR p ls ss) (endR p ls ss)) := by
  have HP := Lib.hid h
  have HI1 := Lib.hid h1
  have HI2 := Lib.hid h2
  have HCP := Lib.hid hcap
  clear h h1 h2 hcap
  cases h0 : startB p ls ss with
  | false =>
    have HS : Hid (∀ w', Below w.heap.size w w' → Calls Tryz.prog 56 #[progV r, .slice a n c, .slice a' n' c'] w' fun e w'' => e = .returned (.tuple #[.agg #[.slice none 0 0, .slice none 0 0], .bool false]) ∧ Below w'.heap.size w' w'') := Lib.hid (fun w' hb => implStartOf_no r p a a' n c n' c' ls ss w' (HP.out.below hb) HCP.out (HI1.out.below hb) (HI2.out.below hb) h0)
    rw [← h0]
    rw [outR, endR, runX_no h0, h0]
    clear HP HI1 HI2 HCP h0
    obtain ⟨wd, ⟨a1, n1, c1⟩, ⟨a2, n2, c2⟩, tp, ⟨a3, n3, c3⟩, ⟨a4, n4, c4⟩, rows⟩ := r
    simp only [progV, slV] at HS
    show Calls Tryz.prog 68 #[.agg #[.int .i64 wd, .slice a1 n1 c1, .slice a2 n2 c2, .int .i64 tp, .slice a3 n3 c3, .slice a4 n4 c4], .slice a n c, .slice a' n' c'] w _
    obtain ⟨wa, HW⟩ : ∃ wa, Hid (wa = (w.alloc (.cells #[.int .i64 wd, .slice a1 n1 c1, .slice a2 n2 c2, .int .i64 tp, .slice a3 n3 c3, .slice a4 n4 c4] 31)).alloc (.cells #[.slice none 0 0, .int .i64 0, .int .i64 0] 43)) := ⟨_, rfl⟩
    have NX : TwoB w wa 31 [.int .i64 wd, .slice a1 n1 c1, .slice a2 n2 c2, .int .i64 tp, .slice a3 n3 c3, .slice a4 n4 c4] 43 [.slice none 0 0, .int .i64 0, .int .i64 0] := by rw [HW.out]; exact twob_new w _ _ _ _
    go_enter Tryz.func68, Tryz.ntmps68
    go_wp2_with fail
    rw [← HW.out]
    refine (HS.out _ NX.bel).mono ?_
    rintro e w1 ⟨rfl, hb1⟩
    obtain ⟨wb, HWB⟩ : ∃ wb, Hid (wb = w1.alloc (.cells #[.slice none 0 0, .slice none 0 0] 90)) := ⟨_, rfl⟩
    have N1 := (NX.below hb1).below (show Below w1.heap.size w1 wb by rw [HWB.out]; exact (Below.refl _ _).alloc (Nat.le_refl _) _)
    clear NX hb1 HW HS
    have q0 := N1.res.cell (j := 0) rfl
    have q1 := N1.res.cell (j := 1) rfl
    have q2 := N1.res.cell (j := 2) rfl
    have f0 := N1.res.frozen 0
    have f1 := N1.res.frozen 1
    have f2 := N1.res.frozen 2
    have N2 := (((N1.res.set (j := 0) (.slice none 0 0)).set (j := 1) (.int .i64 0)).set (j := 2) (.int .i64 0))
    have e0 := N2.cell (j := 0) rfl
    have e1 := N2.cell (j := 1) rfl
    have e2 := N2.cell (j := 2) rfl
    have HF : Hid (Below w.heap.size w (((wb.setCell ⟨w.heap.size + 1, 0, none⟩ (.slice none 0 0)).setCell ⟨w.heap.size + 1, 1, none⟩ (.int .i64 0)).setCell ⟨w.heap.size + 1, 2, none⟩ (.int .i64 0))) := Lib.hid (below_set3 N1.bel (.slice none 0 0) (.int .i64 0) (.int .i64 0))
    clear N1 N2
    rw [HWB.out] at q0 q1 q2 f0 f1 f2 e0 e1 e2 HF
    clear HWB
    go_wp2
    exact bodyPost_ret (v := .tuple #[.agg #[.slice none 0 0, .int .i64 0, .int .i64 0], .bool false]) (by simp [results, Tryz.results68, go_sem, e0, e1, e2]) rfl ⟨HF.out, (none, 0, 0), rfl, own_nil _ _⟩
  | true =>
    obtain ⟨s, hs, hrun⟩ := runX_spec h0
    have HS : Hid (∀ w', Below w.heap.size w w' → Calls Tryz.prog 56 #[progV r, .slice a n c, .slice a' n' c'] w' fun e w'' => ∃ er : ERow, e = .returned (.tuple #[envV er, .bool true]) ∧ EnvMem w'' w'.heap.size er (none, 0, 0) (startQ p ls ss) ∧ Below w'.heap.size w' w'') := Lib.hid (fun w' hb => implStartOf_yes r p a a' n c n' c' ls ss w' (HP.out.below hb) HCP.out (HI1.out.below hb) (HI2.out.below hb) h0)
    have HR : Hid (∀ (w0 w' : World) (er : ERow), Below w.heap.size w w0 → Below w0.heap.size w0 w' → EnvMem w' w0.heap.size er (none, 0, 0) (startQ p ls ss) → Calls Tryz.prog 109 #[progV r, envV er] w' fun e w'' => ∃ os', e = .returned (.agg #[slV os', .int .i64 (endR p ls ss).1, .int .i64 (endR p ls ss).2]) ∧ RanTo w0 w' w'' er os' (runX p ls ss).1) := Lib.hid (fun w0 w' er hb0 hb hm => runFrom_any r p er (startQ p ls ss) (runX p ls ss).1 (endR p ls ss) s w0 w' (startB_ok h0) (HP.out.below hb0) HCP.out hb hm (start_ok h0) (by simp [startQ]; omega) hrun)
    clear HP HI1 HI2 HCP h0 hs hrun
    unfold outR
    obtain ⟨Q, HQ⟩ : ∃ Q, Hid ((runX p ls ss).1 = Q) := ⟨_, Lib.hid rfl⟩
    obtain ⟨en, HEN⟩ : ∃ en, Hid ((endR p ls ss).1 = en) := ⟨_, rfl⟩
    obtain ⟨co, HCO⟩ : ∃ co, Hid ((endR p ls ss).2 = co) := ⟨_, rfl⟩
    obtain ⟨q0, HQ0⟩ : ∃ q, Hid (startQ p ls ss = q) := ⟨_, Lib.hid rfl⟩
    simp only [HQ.out, HEN.out, HCO.out, HQ0.out] at HR HS
    rw [HQ.out]
    obtain ⟨wd, ⟨a1, n1, c1⟩, ⟨a2, n2, c2⟩, tp, ⟨a3, n3, c3⟩, ⟨a4, n4, c4⟩, rows⟩ := r
    simp only [progV, slV] at HS HR
    show Calls Tryz.prog 68 #[.agg #[.int .i64 wd, .slice a1 n1 c1, .slice a2 n2 c2, .int .i64 tp, .slice a3 n3 c3, .slice a4 n4 c4], .slice a n c, .slice a' n' c'] w _
    obtain ⟨wa, HW⟩ : ∃ wa, Hid (wa = (w.alloc (.cells #[.int .i64 wd, .slice a1 n1 c1, .slice a2 n2 c2, .int .i64 tp, .slice a3 n3 c3, .slice a4 n4 c4] 31)).alloc (.cells #[.slice none 0 0, .int .i64 0, .int .i64 0] 43)) := ⟨_, rfl⟩
    have NX : TwoB w wa 31 [.int .i64 wd, .slice a1 n1 c1, .slice a2 n2 c2, .int .i64 tp, .slice a3 n3 c3, .slice a4 n4 c4] 43 [.slice none 0 0, .int .i64 0, .int .i64 0] := by rw [HW.out]; exact twob_new w _ _ _ _
    go_enter Tryz.func68, Tryz.ntmps68
    go_wp2_with fail
    rw [← HW.out]
    refine (HS.out _ NX.bel).mono ?_
    rintro e w1 ⟨⟨⟨va, vn, vc⟩, ⟨ca, cn, cc⟩, rws⟩, rfl, hm, hb1⟩
    simp only [envV, slV]
    obtain ⟨wb, HWB⟩ : ∃ wb, Hid (wb = w1.alloc (.cells #[.slice va vn vc, .slice ca cn cc] 90)) := ⟨_, rfl⟩
    have hbw : Below w1.heap.size w1 wb := by rw [HWB.out]; exact (Below.refl _ _).alloc (Nat.le_refl _) _
    have E1 : Blk wb w1.heap.size 90 [.slice va vn vc, .slice ca cn cc] := by rw [HWB.out]; exact Blk.new w1 _ _
    have N1 := (NX.below hb1).below hbw
    have hab : Below wa.heap.size wa wb := hb1.trans (hbw.mono hb1.size)
    have hm := hm.below hbw
    have HRC := Lib.hid (HR.out wa wb ⟨(va, vn, vc), (ca, cn, cc), rws⟩ NX.bel hab hm)
    simp only [envV, slV] at HRC
    have hlt := NX.lt
    have HNX := Lib.hid NX
    have HM := Lib.hid hm
    have HE1 := Lib.hid E1
    have t0 := N1.arg.cell (j := 0) rfl
    have t1 := N1.arg.cell (j := 1) rfl
    have t2 := N1.arg.cell (j := 2) rfl
    have t3 := N1.arg.cell (j := 3) rfl
    have t4 := N1.arg.cell (j := 4) rfl
    have t5 := N1.arg.cell (j := 5) rfl
    rw [HWB.out] at t0 t1 t2 t3 t4 t5
    clear NX hb1 HW HS HR hbw N1 hab hm E1
    go_wp2_with fail
    rw [← HWB.out]
    clear t0 t1 t2 t3 t4 t5
    refine HRC.out.mono ?_
    rintro e w2 ⟨⟨oa, on, oc⟩, rfl, hr⟩
    simp only []
    have N2 := HNX.out.below hr.bel
    have q0 := N2.res.cell (j := 0) rfl
    have q1 := N2.res.cell (j := 1) rfl
    have q2 := N2.res.cell (j := 2) rfl
    have f0 := N2.res.frozen 0
    have f1 := N2.res.frozen 1
    have f2 := N2.res.frozen 2
    have N3 := (((N2.res.set (j := 0) (.slice oa on oc)).set (j := 1) (.int .i64 en)).set (j := 2) (.int .i64 co))
    have e0 := N3.cell (j := 0) rfl
    have e1 := N3.cell (j := 1) rfl
    have e2 := N3.cell (j := 2) rfl
    have HF := Lib.hid (below_set3 N2.bel (.slice oa on oc) (.int .i64 en) (.int .i64 co))
    have HO := Lib.hid ((((hr.mem.outs.set (j := 0) hlt (.slice oa on oc)).set (j := 1) hlt (.int .i64 en)).set (j := 2) hlt (.int .i64 co)).base HNX.out.bel.size)
    clear N2 N3 hr HRC HM HE1
    go_wp2
    refine bodyPost_ret (v := .tuple #[.agg #[.slice oa on oc, .int .i64 en, .int .i64 co], .bool true]) (by simp [results, Tryz.results68, go_sem, e0, e1, e2]) rfl ?_
    exact ⟨HF.out, (oa, on, oc), by rw [HEN.out, HCO.out]; rfl, HO.out⟩
end Go.Proofs.YtmooecbdpfhnlaaGreat
