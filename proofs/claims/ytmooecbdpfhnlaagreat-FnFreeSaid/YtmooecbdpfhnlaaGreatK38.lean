/- The program's runner: its box, how its methods end; the contracts of put and step, case by case. -/
import Derived.Test.YtmooecbdpfhnlaaGreatK16
import Derived.Test.YtmooecbdpfhnlaaGreatK37
import Derived.Deep.RegionWith
import Derived.Deep.RegionHeld2
import Derived.Deep.RegionLaw
namespace Go.Proofs.YtmooecbdpfhnlaaGreat
open Go.RowKit

/-- What is panicked with: a throw or a trap. -/
def valR (r : Rz) : Value := if r.1 = 1 then .iface 230 (.agg #[.int .i64 r.2]) else .iface 232 (.agg #[.int .i64 r.2])
def OldP (older : List PanicEntry) : Prop := ∀ x ∈ older, x.goexit = false
theorem oldP_nil : OldP [] := fun x hx => by simp at hx
/-- How a method of the runner ends. -/
def RunEnd (r : Rz) (e : Ending) : Prop := r.1 = 0 ∧ e = .returned (.tuple #[]) ∨ r.1 ≠ 0 ∧ ∃ older, OldP older ∧ e = .panicked ({ v := valR r, recovered := false } :: older)
theorem runEnd_done : RunEnd (0, 0) (.returned (.tuple #[])) := .inl ⟨rfl, rfl⟩
theorem runEnd_trap {t : Int} : RunEnd (2, t) (.panicked (trapC t)) := .inr ⟨fun h : (2 : Int) = 0 => by omega, [], oldP_nil, rfl⟩
/-- The blocks into which a run may write: its box, the rows of variables, of cells, of what was put out. -/
def Touch (er : ERow) (os : Sl) (b k : Nat) : Prop := k = b ∨ (slV er.vars).ownBlock = some k ∨ (slV os).ownBlock = some k ∨ ∃ i, i < er.cells.2.1 ∧ (slV (slAt er.rows i)).ownBlock = some k
/-- Since the world ws (in which o0 was the row of what was put out) nothing else that was there has turned. -/
structure Frm (ws w : World) (er : ERow) (o0 os : Sl) (b : Nat) : Prop where
  size : ws.heap.size ≤ w.heap.size
  keep : ∀ k, k < ws.heap.size → ¬ Touch er o0 b k → w.heap[k]? = ws.heap[k]?
  outs : ∀ g, (slV os).ownBlock = some g → (slV o0).ownBlock = some g ∨ ws.heap.size ≤ g
theorem Frm.refl (w : World) (er : ERow) (os : Sl) (b : Nat) : Frm w w er os os b := ⟨Nat.le_refl _, fun _ _ _ => rfl, fun _ h => .inl h⟩
theorem Frm.touch {ws w : World} {er : ERow} {o0 os : Sl} {b k : Nat} (h : Frm ws w er o0 os b) (hk : k < ws.heap.size) (ht : Touch er os b k) : Touch er o0 b k := by
  rcases ht with e | e | e | e
  · exact .inl e
  · exact .inr (.inl e)
  · rcases h.outs k e with h' | h'
    · exact .inr (.inr (.inl h'))
    · omega
  · exact .inr (.inr (.inr e))
theorem Frm.trans {ws w w' : World} {er : ERow} {o0 os os' : Sl} {b : Nat} (h : Frm ws w er o0 os b) (h' : Frm w w' er os os' b) : Frm ws w' er o0 os' b :=
  ⟨Nat.le_trans h.size h'.size, fun k hk ht => (h'.keep k (Nat.lt_of_lt_of_le hk h.size) (fun t => ht (h.touch hk t))).trans (h.keep k hk ht), fun g hg => by
    rcases h'.outs g hg with e | e
    · exact h.outs g e
    · exact .inr (Nat.le_trans h.size e)⟩
theorem Frm.grown {ws w w' : World} {er : ERow} {o0 os : Sl} {b : Nat} {row : Option Nat} (h : Frm ws w er o0 os b) (hg : w.grownBy w' row) (hr : ∀ g, row = some g → Touch er os b g) : Frm ws w' er o0 os b :=
  ⟨Nat.le_trans h.size hg.size, fun k hk ht => (hg.block k (Nat.lt_of_lt_of_le hk h.size) (fun e => ht (h.touch hk (hr k e.symm)))).trans (h.keep k hk ht), h.outs⟩
theorem Frm.below {ws w w' : World} {er : ERow} {o0 os : Sl} {b : Nat} (h : Frm ws w er o0 os b) (hb : Below w.heap.size w w') : Frm ws w' er o0 os b :=
  ⟨Nat.le_trans h.size hb.size, fun k hk ht => (hb.block k (Nat.lt_of_lt_of_le hk h.size)).trans (h.keep k hk ht), h.outs⟩
/-- The runner's box. -/
structure RB (ws : World) (o0 : Sl) (w0 w : World) (b : Nat) (g : Int) (er : ERow) (os : Sl) (q : Sta) : Prop where
  bel : Below w0.heap.size w0 w
  kb : w0.heap.size ≤ b
  box : Blk w b 205 [.int .i64 g, slV er.vars, slV er.cells, .bool false, slV os]
  mem : EnvMem w w0.heap.size er os q
  frm : Frm ws w er o0 os b
section
variable {ws w0 w w' : World} {b : Nat} {g : Int} {er : ERow} {o0 os os' : Sl} {q : Sta}
theorem RB.below (h : RB ws o0 w0 w b g er os q) (hb : Below w.heap.size w w') : RB ws o0 w0 w' b g er os q :=
  ⟨h.bel.trans (hb.mono h.bel.size), h.kb, h.box.below hb h.box.lt, h.mem.below hb, h.frm.below hb⟩
theorem RB.alloc (h : RB ws o0 w0 w b g er os q) (o : Obj) : RB ws o0 w0 (w.alloc o) b g er os q := h.below ((Below.refl _ _).alloc (Nat.le_refl _) o)
theorem RB.drewN (h : RB ws o0 w0 w b g er os q) (n : Nat) : RB ws o0 w0 (w.drewN n) b g er os q := h.below ⟨rfl, rfl, rfl, Nat.le_refl _, fun _ _ => rfl⟩
theorem Blk.stays {t : TypeId} {xs : List Value} {row : Option Nat} (h : Blk w b t xs) (hg : w.grownBy w' row) (hr : row ≠ some b) : Blk w' b t xs := (hg.block b h.lt (fun e => hr e.symm)).trans h
theorem RB.setV (h : RB ws o0 w0 w b g er os q) {gv k z : Nat} (hz : z < 256) (ha : er.vars.1 = some ⟨gv, 0, none⟩) {n : Int} (hk : n.toNat = k) : RB ws o0 w0 (w.setCell ⟨gv, k, none⟩ (.int .i64 (z : Int))) b g er os (setV q n z) :=
  ⟨below_set h.bel (h.mem.varsB ha) _, h.kb, h.box.stays (grown_set _ _ _ _) (fun e => blk_apart h.box h.mem.vars.1 (by decide) gv (by rw [ha]; rfl) e.symm), h.mem.setV (in64_nat hz) ha hk, h.frm.grown (grown_set _ _ _ _) (fun g' e => by injection e with e; subst e; exact .inr (.inl (by rw [slV, ha]; rfl)))⟩
theorem RB.putC (h : RB ws o0 w0 w b g er os q) {gv k i z : Nat} (hz : z < 256) (hi : i < er.cells.2.1) (ha : (slAt er.rows i).1 = some ⟨gv, 0, none⟩) {n : Int} (hk : n.toNat = i) : RB ws o0 w0 (w.setCell ⟨gv, k, none⟩ (.int .i64 (z : Int))) b g er os (putC q n k z) :=
  ⟨below_set h.bel (h.mem.cellB hi ha) _, h.kb, h.box.stays (grown_set _ _ _ _) (fun e => blk_apart h.box (h.mem.cells.2.2.2 i hi).1 (by decide) gv (by rw [ha]; rfl) e.symm), h.mem.putC (in64_nat hz) hi ha hk, h.frm.grown (grown_set _ _ _ _) (fun g' e => by injection e with e; subst e; exact .inr (.inr (.inr ⟨i, hi, by rw [slV, ha]; rfl⟩)))⟩
theorem RB.outV (h : RB ws o0 w0 w b g er os q) {z : Nat} (ho : Own w' w0.heap.size os'.1 os'.2.1 os'.2.2 (q.outs ++ [(z : Int)])) (hg : GrowsTo w (slV os) w' (slV os')) : RB ws o0 w0 (w'.setCell ⟨b, 4, none⟩ (slV os')) b g er os' (outV q z) := by
  have hB : Blk w' b 205 [.int .i64 g, slV er.vars, slV er.cells, .bool false, slV os] := h.box.stays hg.1 (fun e => blk_apart h.box h.mem.outs.1 (by decide) b e rfl)
  have hm := h.mem.push ho hg
  have f1 : Frm w w' er os os' b := ⟨hg.1.size, fun k hk ht => hg.1.block k hk (fun e => ht (.inr (.inr (.inl e.symm)))), hg.2⟩
  exact ⟨below_set (hg.below (Nat.le_trans h.bel.size (Nat.le_refl _)) (fun g' hg' => (h.mem.outs.block g' hg').1) |> fun x => h.bel.trans x) h.kb _, h.kb, hB.set _, hm.set hB (by decide) (by decide) _, (h.frm.trans f1).grown (grown_set _ _ _ _) (fun g' e => by injection e with e; exact .inl e.symm)⟩
/-- What a run may write into lies in memory. -/
theorem RB.touch_lt (h : RB ws o0 w0 w b g er os q) {k : Nat} (ht : Touch er os b k) : k < w.heap.size := by
  rcases ht with e | e | e | ⟨i, hi, e⟩
  · rw [e]; exact h.box.lt
  · exact (h.mem.vars.block k e).2
  · exact (h.mem.outs.block k e).2
  · exact ((h.mem.cells.2.2.2 i hi).block k e).2
/-- The frame begins anew; it is joined to the elder one. -/
theorem RB.anew (h : RB ws o0 w0 w b g er os q) : RB w os w0 w b g er os q := ⟨h.bel, h.kb, h.box, h.mem, Frm.refl _ _ _ _⟩
theorem RB.join {q' : Sta} (h : RB ws o0 w0 w b g er os q) (h' : RB w os w0 w' b g er os' q') : RB ws o0 w0 w' b g er os' q' := ⟨h'.bel, h'.kb, h'.box, h'.mem, h.frm.trans h'.frm⟩
theorem own_some {B : Nat} {a : Option Addr} {n c k : Nat} {zs : List Int} (h : Own w B a n c zs) (hk : k < zs.length) : ∃ gv, a = some ⟨gv, 0, none⟩ ∧ w.cell? ⟨gv, k, none⟩ = some (.int .i64 (zs.getD k 0)) ∧ w.frozen? ⟨gv, k, none⟩ = false ∧ gv < w.heap.size := by
  have hl := h.len
  rcases h.1.2 with ⟨_, h0⟩ | ⟨gv, cap, cur, e, hb, hh, hr⟩
  · omega
  · injection e with e1 e2 e3
    subst e1 e3
    exact ⟨gv, rfl, own_cell h.1 (by omega), h.1.frozenAt k, (Array.getElem?_eq_some_iff.1 hh).1⟩
end
set_option maxRecDepth 20000 in
set_option maxHeartbeats 1600000 in
theorem step_set (ws : World) (o0 : Sl) (w0 w : World) (b : Nat) (g : Int) (er : ERow) (os : Sl) (q : Sta) (y : Int) (a1 a2 : Option Addr) (n1 c1 n2 c2 : Nat) (tr : Int) (z : Nat) (h : RB ws o0 w0 w b g er os q) (hy : 0 ≤ y) (hyl : y.toNat < q.vars.length) (hz : z < 256)
    (HV : Hid (∀ w', Below w.heap.size w w' → Calls Tryz.prog 217 #[reckV g er false, .slice a2 n2 c2] w' fun e w'' => ValEnd false tr z e ∧ Below w'.heap.size w' w'')) :
    Calls Tryz.prog 204 #[.pointer (some ⟨b, 0, none⟩), .agg #[.int .i64 0, .int .i64 y, .slice a1 n1 c1, .slice a2 n2 c2]] w fun e w' => tr = 0 ∧ e = .returned (.tuple #[]) ∧ RB ws o0 w0 w' b g er os (setV q y z) ∨ tr ≠ 0 ∧ e = .panicked (trapC tr) ∧ RB ws o0 w0 w' b g er os q := by
  obtain ⟨k, rfl⟩ := Int.eq_ofNat_of_zero_le hy
  rw [Int.toNat_natCast] at hyl
  have hvl := h.mem.vars.len
  obtain ⟨gv, hgv, _, _, hlt0⟩ := own_some h.mem.vars hyl
  obtain ⟨⟨va, vn, vc⟩, ⟨ca, cn, cc⟩, rws⟩ := er
  obtain ⟨oa, on, oc⟩ := os
  simp only [] at hvl hgv
  subst hgv
  simp only [reckV, slV] at HV
  have hkn : k < vn := by omega
  obtain ⟨wa, HW⟩ : ∃ wa, Hid (wa = w.alloc (.cells #[.int .i64 0, .int .i64 (k : Int), .slice a1 n1 c1, .slice a2 n2 c2] 82)) := ⟨_, rfl⟩
  have R1 : RB ws o0 w0 wa b g ⟨(some ⟨gv, 0, none⟩, vn, vc), (ca, cn, cc), rws⟩ (oa, on, oc) q := by rw [HW.out]; exact h.alloc _
  have SX : Blk wa w.heap.size 82 [.int .i64 0, .int .i64 (k : Int), .slice a1 n1 c1, .slice a2 n2 c2] := by rw [HW.out]; exact Blk.new w _ _
  have hba : Below w.heap.size w wa := by rw [HW.out]; exact (Below.refl _ _).alloc (Nat.le_refl _) _
  have hsz : w.heap.size < wa.heap.size := SX.lt
  go_enter Tryz.func204, Tryz.ntmps204
  go_wp2_with fail
  rw [← HW.out]
  clear HW
  have hd : Below wa.heap.size wa wa.drew := ⟨rfl, rfl, rfl, Nat.le_refl _, fun _ _ => rfl⟩
  have HD := Lib.hid hd
  have HC1 := Lib.hid (HV.out wa.drew (hba.trans (hd.mono hba.size)))
  have f0 := R1.box.cell (j := 0) rfl
  have f1 := R1.box.cell (j := 1) rfl
  have f2 := R1.box.cell (j := 2) rfl
  have f3 := R1.box.cell (j := 3) rfl
  have f4 := R1.box.cell (j := 4) rfl
  have s1 := SX.cell (j := 1) rfl
  have s2 := SX.cell (j := 2) rfl
  have s3 := SX.cell (j := 3) rfl
  simp only [slV] at f1 f2 f4
  have hne1 : b ≠ gv := fun e => blk_apart R1.box R1.mem.vars.1 (by decide) gv rfl (by rw [e])
  have hne2 : w.heap.size ≠ gv := by omega
  have hne3 : gv ≠ b := fun e => hne1 e.symm
  have hne4 : gv ≠ w.heap.size := fun e => hne2 e.symm
  have RH := Lib.hid R1
  have SH := Lib.hid SX
  clear R1 SX h hd hvl hlt0 hyl hy hba HV hsz
  go_region_held2 (fun w' => w'.cell? ⟨b, 0, none⟩ = some (.int .i64 g) ∧ w'.cell? ⟨b, 1, none⟩ = some (.slice (some ⟨gv, 0, none⟩) vn vc) ∧ w'.cell? ⟨b, 2, none⟩ = some (.slice ca cn cc) ∧ w'.cell? ⟨b, 3, none⟩ = some (.bool false) ∧ w'.cell? ⟨b, 4, none⟩ = some (.slice oa on oc) ∧ w'.cell? ⟨w.heap.size, 1, none⟩ = some (.int .i64 (k : Int)) ∧ w'.cell? ⟨w.heap.size, 2, none⟩ = some (.slice a1 n1 c1) ∧ w'.cell? ⟨w.heap.size, 3, none⟩ = some (.slice a2 n2 c2)) (first | exact ⟨f0, f1, f2, f3, f4, s1, s2, s3⟩ | exact ⟨g0, g1, g2, g3, g4, t1, t2, t3⟩ | go_keep) (first
    | (go_at_call 217; refine HC1.out.mono ?_; rintro e w1 ⟨he, hb1⟩; have R2 := RH.out.below (HD.out.trans (hb1.mono HD.out.size)); rcases he with ⟨ht, rfl⟩ | ⟨ht, rfl⟩; rotate_left; exact ⟨rfl, .inr ⟨ht.2, rfl, R2⟩⟩; have S2 := SH.out.below (HD.out.trans (hb1.mono HD.out.size)) SH.out.lt; have g0 := R2.box.cell (j := 0) rfl; have g1 := R2.box.cell (j := 1) rfl; have g2 := R2.box.cell (j := 2) rfl; have g3 := R2.box.cell (j := 3) rfl; have g4 := R2.box.cell (j := 4) rfl; have t1 := S2.cell (j := 1) rfl; have t2 := S2.cell (j := 2) rfl; have t3 := S2.cell (j := 3) rfl; simp only [slV] at g1 g2 g4; have vcell := own_cell R2.mem.vars.1 (k := k) hkn; have vfr := R2.mem.vars.1.frozenAt k; clear hb1 S2))
  have R3 := R2.setV (k := k) hz rfl (Int.toNat_natCast k)
  have ht0 : tr = 0 := ht.resolve_left (by simp)
  have HT := Lib.hid ht0
  clear R2 g0 g1 g2 g3 g4 t1 t2 t3 vcell vfr f0 f1 f2 f3 f4 s1 s2 s3 ht ht0
  go_wp2
  go_end0
  exact .inl ⟨HT.out, rfl, R3⟩
set_option maxRecDepth 20000 in
set_option maxHeartbeats 1600000 in
theorem step_out (ws : World) (o0 : Sl) (w0 w : World) (b : Nat) (g : Int) (er : ERow) (os : Sl) (q : Sta) (y : Int) (a1 a2 : Option Addr) (n1 c1 n2 c2 : Nat) (tr : Int) (z : Nat) (h : RB ws o0 w0 w b g er os q) (hl : q.outs.length < 1000000) (hz : z < 256)
    (HV : Hid (∀ w', Below w.heap.size w w' → Calls Tryz.prog 217 #[reckV g er false, .slice a2 n2 c2] w' fun e w'' => ValEnd false tr z e ∧ Below w'.heap.size w' w'')) :
    Calls Tryz.prog 204 #[.pointer (some ⟨b, 0, none⟩), .agg #[.int .i64 6, .int .i64 y, .slice a1 n1 c1, .slice a2 n2 c2]] w fun e w' => tr = 0 ∧ e = .returned (.tuple #[]) ∧ (∃ os', RB ws o0 w0 w' b g er os' (outV q z)) ∨ tr ≠ 0 ∧ e = .panicked (trapC tr) ∧ RB ws o0 w0 w' b g er os q := by
  have hol := h.mem.outs.len
  obtain ⟨⟨va, vn, vc⟩, ⟨ca, cn, cc⟩, rws⟩ := er
  obtain ⟨oa, on, oc⟩ := os
  simp only [] at hol
  simp only [reckV, slV] at HV
  have hon : on < 1048576 := by omega
  obtain ⟨wa, HW⟩ : ∃ wa, Hid (wa = w.alloc (.cells #[.int .i64 6, .int .i64 y, .slice a1 n1 c1, .slice a2 n2 c2] 82)) := ⟨_, rfl⟩
  have R1 : RB ws o0 w0 wa b g ⟨(va, vn, vc), (ca, cn, cc), rws⟩ (oa, on, oc) q := by rw [HW.out]; exact h.alloc _
  have SX : Blk wa w.heap.size 82 [.int .i64 6, .int .i64 y, .slice a1 n1 c1, .slice a2 n2 c2] := by rw [HW.out]; exact Blk.new w _ _
  have hba : Below w.heap.size w wa := by rw [HW.out]; exact (Below.refl _ _).alloc (Nat.le_refl _) _
  have hsz : w.heap.size < wa.heap.size := SX.lt
  go_enter Tryz.func204, Tryz.ntmps204
  go_wp2_with fail
  rw [← HW.out]
  clear HW
  have hd : Below wa.heap.size wa wa.drew := ⟨rfl, rfl, rfl, Nat.le_refl _, fun _ _ => rfl⟩
  have HD := Lib.hid hd
  have HC1 := Lib.hid (HV.out wa.drew (hba.trans (hd.mono hba.size)))
  have f0 := R1.box.cell (j := 0) rfl
  have f1 := R1.box.cell (j := 1) rfl
  have f2 := R1.box.cell (j := 2) rfl
  have f3 := R1.box.cell (j := 3) rfl
  have f4 := R1.box.cell (j := 4) rfl
  have s1 := SX.cell (j := 1) rfl
  have s2 := SX.cell (j := 2) rfl
  have s3 := SX.cell (j := 3) rfl
  simp only [slV] at f1 f2 f4
  have RH := Lib.hid R1
  have SH := Lib.hid SX
  clear R1 SX h hd hol hl hba HV hsz
  go_region_law (first
    | (refine step_pushI _ (by rfl) _ _ (by rfl) w0.heap.size _ _ _ q.outs (by rfl) (by exact R2a.mem.outs) w1.heap.size (z : Int) (by rfl) (by simp) (in64_nat hz) hon (by exact R2a.bel.size) ?_; intro a8 c8 w8 hown8 hg8; have R3 := R2a.outV (os' := (a8, on + 1, c8)) hown8 hg8; have o8 := R2a.box.stays hg8.1 (fun e => blk_apart R2a.box R2a.mem.outs.1 (by decide) b e rfl); have c4 := o8.cell (j := 4) rfl; have z4 := o8.frozen 4; simp only [slV] at c4 R3)
    | (go_simp; go_at_call 217; refine HC1.out.mono ?_; rintro e w1 ⟨he, hb1⟩; have R2 := RH.out.below (HD.out.trans (hb1.mono HD.out.size)); rcases he with ⟨ht, rfl⟩ | ⟨ht, rfl⟩; rotate_left; exact ⟨rfl, .inr ⟨ht.2, rfl, R2⟩⟩; have S2 := SH.out.below (HD.out.trans (hb1.mono HD.out.size)) SH.out.lt; have g0 := R2.box.cell (j := 0) rfl; have g1 := R2.box.cell (j := 1) rfl; have g2 := R2.box.cell (j := 2) rfl; have g3 := R2.box.cell (j := 3) rfl; have g4 := R2.box.cell (j := 4) rfl; have t1 := S2.cell (j := 1) rfl; have t2 := S2.cell (j := 2) rfl; have t3 := S2.cell (j := 3) rfl; simp only [slV] at g1 g2 g4; have R2a := R2.alloc (.cells #[.int .i64 (z : Int)] 2); have i4 := R2a.box.cell (j := 4) rfl; simp only [slV] at i4; clear hb1 S2; dsimp only))
  all_goals
    have HR3 := Lib.hid R3
    have ht0 : tr = 0 := ht.resolve_left (by simp)
    have HT := Lib.hid ht0
    clear R2 R2a R3 o8 hown8 hg8 g0 g1 g2 g3 g4 t1 t2 t3 f0 f1 f2 f3 f4 s1 s2 s3 i4 ht ht0 RH SH
    go_wp2
    go_end0
    exact .inl ⟨HT.out, rfl, _, HR3.out⟩
theorem step_throw (ws : World) (o0 : Sl) (w0 w : World) (b : Nat) (g : Int) (er : ERow) (os : Sl) (q : Sta) (y : Int) (a1 a2 : Option Addr) (n1 c1 n2 c2 : Nat) (h : RB ws o0 w0 w b g er os q) :
    Calls Tryz.prog 204 #[.pointer (some ⟨b, 0, none⟩), .agg #[.int .i64 7, .int .i64 y, .slice a1 n1 c1, .slice a2 n2 c2]] w fun e w' => RunEnd (1, y) e ∧ RB ws o0 w0 w' b g er os q := by
  have HR := Lib.hid (h.alloc (.cells #[.int .i64 7, .int .i64 y, .slice a1 n1 c1, .slice a2 n2 c2] 82))
  clear h
  go_enter Tryz.func204, Tryz.ntmps204
  go_wp2
  exact ⟨rfl, .inr ⟨fun h : (1 : Int) = 0 => by omega, [], oldP_nil, rfl⟩, HR.out⟩
theorem step_none (ws : World) (o0 : Sl) (w0 w : World) (b : Nat) (g : Int) (er : ERow) (os : Sl) (q : Sta) (y : Int) (a1 a2 : Option Addr) (n1 c1 n2 c2 : Nat) (x : Int) (h : RB ws o0 w0 w b g er os q) (h0 : x ≠ 0) (h1 : x ≠ 1) (h6 : x ≠ 6) (h7 : x ≠ 7) :
    Calls Tryz.prog 204 #[.pointer (some ⟨b, 0, none⟩), .agg #[.int .i64 x, .int .i64 y, .slice a1 n1 c1, .slice a2 n2 c2]] w fun e w' => e = .returned (.tuple #[]) ∧ RB ws o0 w0 w' b g er os q := by
  have HR := Lib.hid (h.alloc (.cells #[.int .i64 x, .int .i64 y, .slice a1 n1 c1, .slice a2 n2 c2] 82))
  have k0 : (x == 0) = false := by simpa using h0
  have k1 : (x == 1) = false := by simpa using h1
  have k6 : (x == 6) = false := by simpa using h6
  have k7 : (x == 7) = false := by simpa using h7
  clear h h0 h1 h6 h7
  go_enter Tryz.func204, Tryz.ntmps204
  go_wp2
  go_end0
  exact ⟨rfl, HR.out⟩
/-- How put ends. -/
def PutEnd (trA trE : Int) (fits : Bool) (e : Ending) : Prop := trA ≠ 0 ∧ e = .panicked (trapC trA) ∨ trA = 0 ∧ trE ≠ 0 ∧ e = .panicked (trapC trE) ∨ trA = 0 ∧ trE = 0 ∧ fits = false ∧ e = .panicked (trapC 2) ∨ trA = 0 ∧ trE = 0 ∧ fits = true ∧ e = .returned (.tuple #[])
set_option maxRecDepth 20000 in
set_option maxHeartbeats 1600000 in
theorem put_any (ws : World) (o0 : Sl) (w0 w : World) (b : Nat) (g : Int) (er : ERow) (os : Sl) (q : Sta) (y : Int) (a1 a2 : Option Addr) (n1 c1 n2 c2 : Nat) (trA trE : Int) (za ze : Nat) (h : RB ws o0 w0 w b g er os q) (hy : 0 ≤ y) (hyl : y.toNat < q.cells.length) (hze : ze < 256)
    (HA : Hid (∀ w', Below w.heap.size w w' → Calls Tryz.prog 217 #[reckV g er false, .slice a1 n1 c1] w' fun e w'' => ValEnd false trA za e ∧ Below w'.heap.size w' w''))
    (HE : Hid (∀ w', Below w.heap.size w w' → Calls Tryz.prog 217 #[reckV g er false, .slice a2 n2 c2] w' fun e w'' => ValEnd false trE ze e ∧ Below w'.heap.size w' w'')) :
    Calls Tryz.prog 219 #[.pointer (some ⟨b, 0, none⟩), .agg #[.int .i64 1, .int .i64 y, .slice a1 n1 c1, .slice a2 n2 c2]] w fun e w' => PutEnd trA trE (decide (za < (intsAt q.cells y.toNat).length)) e ∧ RB ws o0 w0 w' b g er os (if trA = 0 ∧ trE = 0 ∧ za < (intsAt q.cells y.toNat).length then putC q y za ze else q) := by
  obtain ⟨k, rfl⟩ := Int.eq_ofNat_of_zero_le hy
  rw [Int.toNat_natCast] at hyl ⊢
  have hcl := h.mem.cells.2.2.1
  have hcn := h.mem.cells.2.1
  have hkn : k < er.cells.2.1 := by omega
  obtain ⟨gC, hgC⟩ : ∃ gC, er.cells.1 = some ⟨gC, 0, none⟩ := by
    rcases h.mem.cells.1.2 with ⟨_, h0⟩ | ⟨gC, cap, cur, e, _⟩
    · omega
    · injection e with e1; exact ⟨gC, e1⟩
  obtain ⟨L, HL⟩ : ∃ L, Hid ((intsAt q.cells k).length = L) := ⟨_, rfl⟩
  have hrow : (slAt er.rows k).2.1 = L := by rw [← HL.out]; exact (h.mem.cells.2.2.2 k hkn).len.symm
  have hLb : L ≤ 1048576 := by rw [← hrow]; exact (h.mem.cells.2.2.2 k hkn).2.1
  rw [HL.out]
  obtain ⟨⟨ra, rn, rc⟩, HRW⟩ : ∃ rw', Hid (slAt er.rows k = rw') := ⟨_, rfl⟩
  rw [HRW.out] at hrow
  simp only [] at hrow
  subst hrow
  have HQ : Hid (¬ (trA = 0 ∧ trE = 0 ∧ za < rn) → (if trA = 0 ∧ trE = 0 ∧ za < rn then putC q (k : Int) za ze else q) = q) := Lib.hid (fun h => if_neg h)
  have HQ2 : Hid (trA = 0 ∧ trE = 0 ∧ za < rn → (if trA = 0 ∧ trE = 0 ∧ za < rn then putC q (k : Int) za ze else q) = putC q (k : Int) za ze) := Lib.hid (fun h => if_pos h)
  obtain ⟨Q2, HQD⟩ : ∃ Q2, Hid ((if trA = 0 ∧ trE = 0 ∧ za < rn then putC q (k : Int) za ze else q) = Q2) := ⟨_, rfl⟩
  rw [HQD.out] at HQ HQ2 ⊢
  clear HQD
  obtain ⟨⟨va, vn, vc⟩, ⟨ca, cn, cc⟩, rws⟩ := er
  obtain ⟨oa, on, oc⟩ := os
  simp only [] at hcl hgC hcn hkn HRW
  subst hgC
  simp only [reckV, slV] at HA HE
  obtain ⟨wa, HW⟩ : ∃ wa, Hid (wa = w.alloc (.cells #[.int .i64 1, .int .i64 (k : Int), .slice a1 n1 c1, .slice a2 n2 c2] 82)) := ⟨_, rfl⟩
  have R1 : RB ws o0 w0 wa b g ⟨(va, vn, vc), (some ⟨gC, 0, none⟩, cn, cc), rws⟩ (oa, on, oc) q := by rw [HW.out]; exact h.alloc _
  have SX : Blk wa w.heap.size 82 [.int .i64 1, .int .i64 (k : Int), .slice a1 n1 c1, .slice a2 n2 c2] := by rw [HW.out]; exact Blk.new w _ _
  have hba : Below w.heap.size w wa := by rw [HW.out]; exact (Below.refl _ _).alloc (Nat.le_refl _) _
  have hsz : w.heap.size < wa.heap.size := SX.lt
  go_enter Tryz.func219, Tryz.ntmps219
  go_wp2_with fail
  rw [← HW.out]
  clear HW
  have hd : Below wa.heap.size wa wa.drew := ⟨rfl, rfl, rfl, Nat.le_refl _, fun _ _ => rfl⟩
  have HD := Lib.hid hd
  have HC1 := Lib.hid (HA.out wa.drew (hba.trans (hd.mono hba.size)))
  have f0 := R1.box.cell (j := 0) rfl
  have f1 := R1.box.cell (j := 1) rfl
  have f2 := R1.box.cell (j := 2) rfl
  have f3 := R1.box.cell (j := 3) rfl
  have f4 := R1.box.cell (j := 4) rfl
  have s1 := SX.cell (j := 1) rfl
  have s2 := SX.cell (j := 2) rfl
  have s3 := SX.cell (j := 3) rfl
  simp only [slV] at f1 f2 f4
  have RH := Lib.hid R1
  have SH := Lib.hid SX
  have HBA := Lib.hid hba
  clear R1 SX h hd hcl hyl hy hba HA hsz
  go_region_held2 (fun w' => w'.cell? ⟨b, 0, none⟩ = some (.int .i64 g) ∧ w'.cell? ⟨b, 1, none⟩ = some (.slice va vn vc) ∧ w'.cell? ⟨b, 2, none⟩ = some (.slice (some ⟨gC, 0, none⟩) cn cc) ∧ w'.cell? ⟨b, 3, none⟩ = some (.bool false) ∧ w'.cell? ⟨b, 4, none⟩ = some (.slice oa on oc) ∧ w'.cell? ⟨w.heap.size, 1, none⟩ = some (.int .i64 (k : Int)) ∧ w'.cell? ⟨w.heap.size, 2, none⟩ = some (.slice a1 n1 c1) ∧ w'.cell? ⟨w.heap.size, 3, none⟩ = some (.slice a2 n2 c2)) (first | exact ⟨f0, f1, f2, f3, f4, s1, s2, s3⟩ | exact ⟨g0, g1, g2, g3, g4, t1, t2, t3⟩ | go_keep) (first
    | (go_at_call 217; refine HC1.out.mono ?_; rintro e w1 ⟨he, hb1⟩; have hb2 := HD.out.trans (hb1.mono HD.out.size); have R2 := RH.out.below hb2; rcases he with ⟨ht, rfl⟩ | ⟨ht, rfl⟩; rotate_left; exact ⟨rfl, .inl ⟨ht.2, rfl⟩, by rw [HQ.out (fun h => ht.2 h.1)]; exact R2⟩; have S2 := SH.out.below hb2 SH.out.lt; have g0 := R2.box.cell (j := 0) rfl; have g1 := R2.box.cell (j := 1) rfl; have g2 := R2.box.cell (j := 2) rfl; have g3 := R2.box.cell (j := 3) rfl; have g4 := R2.box.cell (j := 4) rfl; have t1 := S2.cell (j := 1) rfl; have t2 := S2.cell (j := 2) rfl; have t3 := S2.cell (j := 3) rfl; simp only [slV] at g1 g2 g4; clear hb1))
  have HTA : Hid (trA = 0) := Lib.hid (ht.resolve_left (by simp))
  have hd : Below w1.heap.size w1 w1.drew := ⟨rfl, rfl, rfl, Nat.le_refl _, fun _ _ => rfl⟩
  have HD2 := Lib.hid hd
  have HC2 := Lib.hid (HE.out w1.drew ((HBA.out.trans (hb2.mono HBA.out.size)).trans (hd.mono (Nat.le_trans HBA.out.size hb2.size))))
  have RH2 := Lib.hid R2
  have SH2 := Lib.hid S2
  clear R2 S2 hd f0 f1 f2 f3 f4 s1 s2 s3 RH SH HC1 HD ht hb2 HE HBA
  go_wp2_with fail
  go_region_held2 (fun w' => w'.cell? ⟨b, 0, none⟩ = some (.int .i64 g) ∧ w'.cell? ⟨b, 1, none⟩ = some (.slice va vn vc) ∧ w'.cell? ⟨b, 2, none⟩ = some (.slice (some ⟨gC, 0, none⟩) cn cc) ∧ w'.cell? ⟨b, 3, none⟩ = some (.bool false) ∧ w'.cell? ⟨b, 4, none⟩ = some (.slice oa on oc) ∧ w'.cell? ⟨w.heap.size, 1, none⟩ = some (.int .i64 (k : Int)) ∧ w'.cell? ⟨w.heap.size, 2, none⟩ = some (.slice a1 n1 c1) ∧ w'.cell? ⟨w.heap.size, 3, none⟩ = some (.slice a2 n2 c2)) (first | exact ⟨g0, g1, g2, g3, g4, t1, t2, t3⟩ | exact ⟨f0, f1, f2, f3, f4, s1, s2, s3⟩ | go_keep) (first
    | (go_at_call 217; refine HC2.out.mono ?_; rintro e w2 ⟨he, hb1⟩; have hb2 := HD2.out.trans (hb1.mono HD2.out.size); have R3 := RH2.out.below hb2; rcases he with ⟨ht, rfl⟩ | ⟨ht, rfl⟩; rotate_left; exact ⟨rfl, .inr (.inl ⟨HTA.out, ht.2, rfl⟩), by rw [HQ.out (fun h => ht.2 h.2.1)]; exact R3⟩; have S3 := SH2.out.below hb2 SH2.out.lt; have f0 := R3.box.cell (j := 0) rfl; have f1 := R3.box.cell (j := 1) rfl; have f2 := R3.box.cell (j := 2) rfl; have f3 := R3.box.cell (j := 3) rfl; have f4 := R3.box.cell (j := 4) rfl; have s1 := S3.cell (j := 1) rfl; have s2 := S3.cell (j := 2) rfl; have s3 := S3.cell (j := 3) rfl; simp only [slV] at f1 f2 f4; clear hb1))
  have HTE : Hid (trE = 0) := Lib.hid (ht.resolve_left (by simp))
  have hcr := own_cellR R3.mem.cells.1 (k := k) hkn
  rw [HRW.out] at hcr
  simp only [slV] at hcr
  have HR3 := Lib.hid R3
  clear S3 hb2 g0 g1 g2 g3 g4 t1 t2 t3 RH2 SH2 HC2 HD2 ht
  by_cases hfit : za < rn
  · have hdec : decide ((za : Int) ≥ (rn : Int)) = false := by simp; omega
    obtain ⟨gv, hgv, hvc, hvf, _⟩ := own_some (R3.mem.cells.2.2.2 k hkn) (k := za) (by rw [HL.out]; exact hfit)
    rw [HRW.out] at hgv
    simp only [] at hgv
    subst hgv
    have R4 := Lib.hid (fun n => (R3.drewN n).putC (k := za) (i := k) (n := (k : Int)) hze hkn (by rw [HRW.out]) (Int.toNat_natCast k))
    generalize (intsAt q.cells k).getD za 0 = z9 at hvc
    have hvc' : ∀ n, (w2.drewN n).cell? ⟨gv, za, none⟩ = some (.int .i64 z9) := fun _ => hvc
    have hvf' : ∀ n, (w2.drewN n).frozen? ⟨gv, za, none⟩ = false := fun _ => hvf
    have f2' : ∀ n, (w2.drewN n).cell? ⟨b, 2, none⟩ = some (.slice (some ⟨gC, 0, none⟩) cn cc) := fun _ => f2
    have s1' : ∀ n, (w2.drewN n).cell? ⟨w.heap.size, 1, none⟩ = some (.int .i64 (k : Int)) := fun _ => s1
    have hcr' : ∀ n, (w2.drewN n).cell? ⟨gC, k, none⟩ = some (.slice (some ⟨gv, 0, none⟩) rn rc) := fun _ => hcr
    clear R3
    go_wp2_with fail
    go_quiet (fail)
    go_wp2
    go_end0
    exact ⟨.inr (.inr (.inr ⟨HTA.out, HTE.out, decide_eq_true hfit, rfl⟩)), by rw [HQ2.out ⟨HTA.out, HTE.out, hfit⟩]; exact R4.out _⟩
  · have hdec : decide ((za : Int) ≥ (rn : Int)) = true := by simp; omega
    have R4 := Lib.hid (fun n => R3.drewN n)
    have f2' : ∀ n, (w2.drewN n).cell? ⟨b, 2, none⟩ = some (.slice (some ⟨gC, 0, none⟩) cn cc) := fun _ => f2
    have s1' : ∀ n, (w2.drewN n).cell? ⟨w.heap.size, 1, none⟩ = some (.int .i64 (k : Int)) := fun _ => s1
    have hcr' : ∀ n, (w2.drewN n).cell? ⟨gC, k, none⟩ = some (.slice ra rn rc) := fun _ => hcr
    clear R3
    go_wp2_with fail
    go_quiet (fail)
    go_wp2
    exact ⟨rfl, .inr (.inr (.inl ⟨HTA.out, HTE.out, decide_eq_false hfit, rfl⟩)), by rw [HQ.out (fun h => hfit h.2.2)]; exact R4.out _⟩
set_option maxRecDepth 20000 in
set_option maxHeartbeats 1600000 in
theorem step_put (ws : World) (o0 : Sl) (w0 w : World) (b : Nat) (g : Int) (er : ERow) (os : Sl) (q : Sta) (y : Int) (a1 a2 : Option Addr) (n1 c1 n2 c2 : Nat) (trA trE : Int) (za ze : Nat) (h : RB ws o0 w0 w b g er os q) (hy : 0 ≤ y) (hyl : y.toNat < q.cells.length) (hze : ze < 256)
    (HA : Hid (∀ w', Below w.heap.size w w' → Calls Tryz.prog 217 #[reckV g er false, .slice a1 n1 c1] w' fun e w'' => ValEnd false trA za e ∧ Below w'.heap.size w' w''))
    (HE : Hid (∀ w', Below w.heap.size w w' → Calls Tryz.prog 217 #[reckV g er false, .slice a2 n2 c2] w' fun e w'' => ValEnd false trE ze e ∧ Below w'.heap.size w' w'')) :
    Calls Tryz.prog 204 #[.pointer (some ⟨b, 0, none⟩), .agg #[.int .i64 1, .int .i64 y, .slice a1 n1 c1, .slice a2 n2 c2]] w fun e w' => PutEnd trA trE (decide (za < (intsAt q.cells y.toNat).length)) e ∧ RB ws o0 w0 w' b g er os (if trA = 0 ∧ trE = 0 ∧ za < (intsAt q.cells y.toNat).length then putC q y za ze else q) := by
  have HP : Hid (∀ w', Below w.heap.size w w' → Calls Tryz.prog 219 #[.pointer (some ⟨b, 0, none⟩), .agg #[.int .i64 1, .int .i64 y, .slice a1 n1 c1, .slice a2 n2 c2]] w' fun e w'' => PutEnd trA trE (decide (za < (intsAt q.cells y.toNat).length)) e ∧ RB ws o0 w0 w'' b g er os (if trA = 0 ∧ trE = 0 ∧ za < (intsAt q.cells y.toNat).length then putC q y za ze else q)) := Lib.hid (fun w' hb => put_any ws o0 w0 w' b g er os q y a1 a2 n1 c1 n2 c2 trA trE za ze (h.below hb) hy hyl hze (Lib.hid (fun w'' hb' => HA.out w'' (hb.trans (hb'.mono hb.size)))) (Lib.hid (fun w'' hb' => HE.out w'' (hb.trans (hb'.mono hb.size)))))
  clear HA HE h hy hyl
  obtain ⟨Q2, HQ⟩ : ∃ Q2, Hid ((if trA = 0 ∧ trE = 0 ∧ za < (intsAt q.cells y.toNat).length then putC q y za ze else q) = Q2) := ⟨_, rfl⟩
  obtain ⟨FT, HF⟩ : ∃ FT, Hid ((decide (za < (intsAt q.cells y.toNat).length)) = FT) := ⟨_, rfl⟩
  rw [HQ.out, HF.out] at HP ⊢
  clear HQ HF
  have HBA : Hid (Below w.heap.size w (w.alloc (.cells #[.int .i64 1, .int .i64 y, .slice a1 n1 c1, .slice a2 n2 c2] 82))) := Lib.hid ((Below.refl _ _).alloc (Nat.le_refl _) _)
  go_enter Tryz.func204, Tryz.ntmps204
  go_wp2_with fail
  refine (HP.out _ HBA.out).mono ?_
  rintro e w1 ⟨he, hr⟩
  rcases he with ⟨h1, rfl⟩ | ⟨h1, h2, rfl⟩ | ⟨h1, h2, h3, rfl⟩ | ⟨h1, h2, h3, rfl⟩
  · exact ⟨rfl, .inl ⟨h1, rfl⟩, hr⟩
  · exact ⟨rfl, .inr (.inl ⟨h1, h2, rfl⟩), hr⟩
  · exact ⟨rfl, .inr (.inr (.inl ⟨h1, h2, h3, rfl⟩)), hr⟩
  · have HR := Lib.hid hr
    have HT1 := Lib.hid h1
    have HT2 := Lib.hid h2
    have HT3 := Lib.hid h3
    clear hr h1 h2 h3
    go_wp2
    go_end0
    exact ⟨.inr (.inr (.inr ⟨HT1.out, HT2.out, HT3.out, rfl⟩)), HR.out⟩
/-- What step leaves, by what a statement does. -/
theorem step_any (p : Prg) (ws : World) (o0 : Sl) (w0 w : World) (b : Nat) (g : Int) (er : ERow) (os : Sl) (q : Sta) (y : Int) (a1 a2 : Option Addr) (n1 c1 n2 c2 : Nat) (s : Stm) (x : Int) (q' : Sta) (r : Rz) (hc : codeB p = 0) (h : RB ws o0 w0 w b g er os q) (hq : StaOk p q) (hg : goodS p s) (hl : q.outs.length < 1000000) (hgr : g = ((2 ^ p.width.toNat : Nat) : Int) - 1)
    (ex : s.op = x) (ey : s.n = y) (h1 : Terms w0 a1 n1 s.at_) (h2 : Terms w0 a2 n2 s.exp) (hB : Basic (2 ^ p.width.toNat) s q q' r) :
    Calls Tryz.prog 204 #[.pointer (some ⟨b, 0, none⟩), .agg #[.int .i64 x, .int .i64 y, .slice a1 n1 c1, .slice a2 n2 c2]] w fun e w' => RunEnd r e ∧ ∃ os', RB ws o0 w0 w' b g er os' q' := by
  subst ex ey hgr
  have h256 := pow_256 hc
  have hW := code_head hc
  have HV : ∀ (a : Option Addr) (n c : Nat) (ts : List Tm), Terms w0 a n ts → namesB (2 ^ p.width.toNat) (p.lows.length + p.secrets.length + p.temps.toNat) p.arrays.length ts = true → Hid (∀ w', Below w.heap.size w w' → Calls Tryz.prog 217 #[reckV (((2 ^ p.width.toNat : Nat) : Int) - 1) er false, .slice a n c] w' fun e w'' => ValEnd false (trS (2 ^ p.width.toNat) q ts) (vlS (2 ^ p.width.toNat) q ts) e ∧ Below w'.heap.size w' w'') := fun a n c ts ht hn => Lib.hid (fun w' hb => by
    have := value_any p.width.toNat er false (envOf q) a n c ts w' (by omega) (by omega) (h.mem.env.below hb) (ht.below (Nat.le_refl _) (h.bel.trans (hb.mono h.bel.size))) (goodS_reck hq hn)
    have e := ht.1
    subst e
    unfold trS vlS
    exact this)
  have lt : ∀ ts, namesB (2 ^ p.width.toNat) (p.lows.length + p.secrets.length + p.temps.toNat) p.arrays.length ts = true → vlS (2 ^ p.width.toNat) q ts < 256 := fun ts hn => Nat.lt_of_lt_of_le (vl_lt hq hn) h256
  have trapR : ∀ t : Int, RunEnd (2, t) (.panicked (trapC t)) := fun t => runEnd_trap
  cases hB with
  | set ho ht | setT ho ht =>
    have hn := (goodS_exp hg (.inl ho)).1
    have hk := goodS_set hg hq ho
    rw [ho]
    refine (step_set ws o0 w0 w b _ er os q s.n a1 a2 n1 c1 n2 c2 _ _ h hk.1 hk.2 (lt _ hn) (HV a2 n2 c2 _ h2 hn)).mono ?_
    rintro e w' (⟨t0, rfl, hr⟩ | ⟨t0, rfl, hr⟩)
    · first | exact ⟨runEnd_done, _, hr⟩ | exact absurd t0 ht
    · first | exact ⟨trapR _, _, hr⟩ | exact absurd ht t0
  | put ho ha ht hf | putA ho ha | putE ho ha ht | putC ho ha ht hf =>
    have hn := (goodS_exp hg (.inr (.inl ho))).1
    have hn1 := (goodS_at hg ho).1
    have hk := goodS_put hg hq ho
    rw [ho]
    refine (step_put ws o0 w0 w b _ er os q s.n a1 a2 n1 c1 n2 c2 _ _ _ _ h hk.1 hk.2 (lt _ hn) (HV a1 n1 c1 _ h1 hn1) (HV a2 n2 c2 _ h2 hn)).mono ?_
    rintro e w' ⟨he, hr⟩
    rcases he with ⟨t1, rfl⟩ | ⟨t1, t2, rfl⟩ | ⟨t1, t2, t3, rfl⟩ | ⟨t1, t2, t3, rfl⟩
    · first | exact absurd ha t1 | (rw [if_neg (fun h => t1 h.1)] at hr; exact ⟨trapR _, _, hr⟩)
    · first | exact absurd t1 ha | exact absurd ht t2 | (rw [if_neg (fun h => t2 h.2.1)] at hr; exact ⟨trapR _, _, hr⟩)
    · have t4 := of_decide_eq_false t3
      first | exact absurd t1 ha | exact absurd t2 ht | exact absurd hf t4 | (rw [if_neg (fun h => t4 h.2.2)] at hr; exact ⟨trapR _, _, hr⟩)
    · have t4 := of_decide_eq_true t3
      first | exact absurd t1 ha | exact absurd t2 ht | exact absurd t4 hf | (rw [if_pos ⟨t1, t2, t4⟩] at hr; exact ⟨runEnd_done, _, hr⟩)
  | out ho ht | outT ho ht =>
    have hn := (goodS_exp hg (.inr (.inr (.inr ho)))).1
    rw [ho]
    refine (step_out ws o0 w0 w b _ er os q s.n a1 a2 n1 c1 n2 c2 _ _ h hl (lt _ hn) (HV a2 n2 c2 _ h2 hn)).mono ?_
    rintro e w' (⟨t0, rfl, os', hr⟩ | ⟨t0, rfl, hr⟩)
    · first | exact ⟨runEnd_done, _, hr⟩ | exact absurd t0 ht
    · first | exact ⟨trapR _, _, hr⟩ | exact absurd ht t0
  | throw ho =>
    rw [ho]
    exact (step_throw ws o0 w0 w b _ er os q s.n a1 a2 n1 c1 n2 c2 h).mono fun e w' hh => ⟨hh.1, _, hh.2⟩
  | none h0 h1' h6 h7 => exact (step_none ws o0 w0 w b _ er os q s.n a1 a2 n1 c1 n2 c2 s.op h h0 h1' h6 h7).mono fun e w' hh => ⟨by rw [hh.1]; exact runEnd_done, _, hh.2⟩
end Go.Proofs.YtmooecbdpfhnlaaGreat
