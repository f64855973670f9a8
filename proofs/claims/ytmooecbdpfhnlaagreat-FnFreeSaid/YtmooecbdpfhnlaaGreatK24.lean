/- Joined texts of this proof (SpecRun0, RunInv, SpecRun1, SpecRunOf, InputMath, NumMath), in build order. -/
import Derived.Test.YtmooecbdpfhnlaaGreatK16
import Derived.Deep.RegionHeld2
import Derived.Test.YtmooecbdpfhnlaaGreatK12
import Derived.Test.YtmooecbdpfhnlaaGreatK3
import Derived.Test.YtmooecbdpfhnlaaGreatK23
import Derived.Test.YtmooecbdpfhnlaaGreatK17
import Derived.Test.YtmooecbdpfhnlaaGreatK20
/- The model's run: its box; the contracts of l6Trap and l6Stmt. -/
namespace Go.Proofs.YtmooecbdpfhnlaaGreat
open Go.RowKit

/-- The box of a run under way. -/
structure SB (w0 w : World) (b : Nat) (pr : PRow) (er : ERow) (os : Sl) (q : Sta) (r : Rz) : Prop where
  bel : Below w0.heap.size w0 w
  kb : w0.heap.size ≤ b
  box : Blk w b 109 [.int .i64 pr.width, slV pr.lows, slV pr.secrets, .int .i64 pr.temps, slV pr.arrays, slV pr.body, slV er.vars, slV er.cells, slV os, .int .i64 r.1, .int .i64 r.2, .bool (r.1 != 0)]
  mem : EnvMem w w0.heap.size er os q
section
variable {w0 w w' : World} {b : Nat} {pr : PRow} {er : ERow} {os os' : Sl} {q : Sta} {r : Rz}
theorem SB.below (h : SB w0 w b pr er os q r) (hb : Below w.heap.size w w') : SB w0 w' b pr er os q r :=
  ⟨h.bel.trans (hb.mono h.bel.size), h.kb, h.box.below hb h.box.lt, h.mem.below hb⟩
theorem SB.alloc (h : SB w0 w b pr er os q r) (o : Obj) : SB w0 (w.alloc o) b pr er os q r := h.below ((Below.refl _ _).alloc (Nat.le_refl _) o)
theorem SB.drewN (h : SB w0 w b pr er os q r) (n : Nat) : SB w0 (w.drewN n) b pr er os q r := h.below ⟨rfl, rfl, rfl, Nat.le_refl _, fun _ _ => rfl⟩
theorem sbk {t : TypeId} {xs : List Value} {row : Option Nat} (h : Blk w b t xs) (hg : w.grownBy w' row) (hr : row ≠ some b) : Blk w' b t xs := (hg.block b h.lt (fun e => hr e.symm)).trans h
theorem SB.setV (h : SB w0 w b pr er os q r) {gv k z : Nat} (hz : z < 256) (ha : er.vars.1 = some ⟨gv, 0, none⟩) {n : Int} (hk : n.toNat = k) : SB w0 (w.setCell ⟨gv, k, none⟩ (.int .i64 (z : Int))) b pr er os (setV q n z) r :=
  ⟨below_set h.bel (h.mem.varsB ha) _, h.kb, sbk h.box (grown_set _ _ _ _) (fun e => blk_apart h.box h.mem.vars.1 (by decide) gv (by rw [ha]; rfl) e.symm), h.mem.setV (in64_nat hz) ha hk⟩
theorem SB.putC (h : SB w0 w b pr er os q r) {gv k i z : Nat} (hz : z < 256) (hi : i < er.cells.2.1) (ha : (slAt er.rows i).1 = some ⟨gv, 0, none⟩) {n : Int} (hk : n.toNat = i) : SB w0 (w.setCell ⟨gv, k, none⟩ (.int .i64 (z : Int))) b pr er os (putC q n k z) r :=
  ⟨below_set h.bel (h.mem.cellB hi ha) _, h.kb, sbk h.box (grown_set _ _ _ _) (fun e => blk_apart h.box (h.mem.cells.2.2.2 i hi).1 (by decide) gv (by rw [ha]; rfl) e.symm), h.mem.putC (in64_nat hz) hi ha hk⟩
theorem SB.outV (h : SB w0 w b pr er os q r) {z : Nat} (ho : Own w' w0.heap.size os'.1 os'.2.1 os'.2.2 (q.outs ++ [(z : Int)])) (hg : GrowsTo w (slV os) w' (slV os')) : SB w0 (w'.setCell ⟨b, 8, none⟩ (slV os')) b pr er os' (outV q z) r := by
  have hB := sbk h.box hg.1 (fun e => blk_apart h.box h.mem.outs.1 (by decide) b e rfl)
  have hm := h.mem.push ho hg
  exact ⟨below_set (h.bel.trans (hg.below h.bel.size (fun g' hg' => (h.mem.outs.block g' hg').1))) h.kb _, h.kb, hB.set (j := 8) _, hm.set hB (by decide) (by decide) _⟩
/-- The end is written. -/
theorem SB.ends (h : SB w0 w b pr er os q r) (x y : Int) : SB w0 (((w.setCell ⟨b, 9, none⟩ (.int .i64 x)).setCell ⟨b, 10, none⟩ (.int .i64 y)).setCell ⟨b, 11, none⟩ (.bool (x != 0))) b pr er os q (x, y) :=
  ⟨below_set (below_set (below_set h.bel h.kb _) h.kb _) h.kb _, h.kb, ((h.box.set (j := 9) _).set (j := 10) _).set (j := 11) _, ((h.mem.set h.box (by decide) (by decide) _).set (h.box.set (j := 9) _) (by decide) (by decide) _).set ((h.box.set (j := 9) _).set (j := 10) _) (by decide) (by decide) _⟩
theorem SB.clears (h : SB w0 w b pr er os q r) : SB w0 (((w.setCell ⟨b, 11, none⟩ (.bool false)).setCell ⟨b, 9, none⟩ (.int .i64 0)).setCell ⟨b, 10, none⟩ (.int .i64 0)) b pr er os q (0, 0) :=
  ⟨below_set (below_set (below_set h.bel h.kb _) h.kb _) h.kb _, h.kb, ((h.box.set (j := 11) _).set (j := 9) _).set (j := 10) _, ((h.mem.set h.box (by decide) (by decide) _).set (h.box.set (j := 11) _) (by decide) (by decide) _).set ((h.box.set (j := 11) _).set (j := 9) _) (by decide) (by decide) _⟩
theorem own_someS {B : Nat} {a : Option Addr} {n c k : Nat} {zs : List Int} (h : Own w B a n c zs) (hk : k < zs.length) : ∃ gv, a = some ⟨gv, 0, none⟩ ∧ w.cell? ⟨gv, k, none⟩ = some (.int .i64 (zs.getD k 0)) ∧ w.frozen? ⟨gv, k, none⟩ = false ∧ gv < w.heap.size := by
  have hl := h.len
  rcases h.1.2 with ⟨_, h0⟩ | ⟨gv, cap, cur, e, hb, hh, hr⟩
  · omega
  · injection e with e1 e2 e3
    subst e1 e3
    exact ⟨gv, rfl, own_cell h.1 (by omega), h.1.frozenAt k, (Array.getElem?_eq_some_iff.1 hh).1⟩
end
theorem l6Trap_none (w : World) (b : Nat) : Calls Tryz.prog 145 #[.pointer (some ⟨b, 0, none⟩), .int .i64 0] w fun e w' => e = .returned (.bool false) ∧ w = w' := by
  go_enter Tryz.func145, Tryz.ntmps145
  go_wp2
  go_ret
  exact ⟨rfl, rfl⟩
set_option maxHeartbeats 800000 in
theorem l6Trap_some (w0 w : World) (b : Nat) (pr : PRow) (er : ERow) (os : Sl) (q : Sta) (r : Rz) (t : Int) (ht : t ≠ 0) (h : SB w0 w b pr er os q r) : Calls Tryz.prog 145 #[.pointer (some ⟨b, 0, none⟩), .int .i64 t] w fun e w' => e = .returned (.bool true) ∧ SB w0 w' b pr er os q (2, t) := by
  have k0 : (t == 0) = false := by simpa using ht
  have f0 := h.box.cell (j := 9) rfl
  have f1 := h.box.cell (j := 10) rfl
  have f2 := h.box.cell (j := 11) rfl
  have z0 := h.box.frozen 9
  have z1 := h.box.frozen 10
  have z2 := h.box.frozen 11
  have HE := Lib.hid (h.ends 2 t)
  clear h ht
  go_enter Tryz.func145, Tryz.ntmps145
  go_wp2
  go_ret
  exact ⟨rfl, HE.out⟩
set_option maxRecDepth 20000 in
set_option maxHeartbeats 3200000 in
theorem l6Stmt_set (w0 w : World) (b : Nat) (pr : PRow) (er : ERow) (os : Sl) (q : Sta) (y : Int) (e1 e2 : Option Addr) (m1 f1 m2 f2 : Nat) (tr : Int) (z : Nat) (h : SB w0 w b pr er os q (0, 0)) (hy : 0 ≤ y) (hyl : y.toNat < q.vars.length) (hz : z < 256)
    (HV : Hid (∀ w', Below w.heap.size w w' → Calls Tryz.prog 144 #[progV pr, envV er, .slice e2 m2 f2] w' fun e w'' => e = .returned (.tuple #[.int .i64 (z : Int), .int .i64 tr]) ∧ Below w'.heap.size w' w'')) :
    Calls Tryz.prog 146 #[.pointer (some ⟨b, 0, none⟩), .agg #[.int .i64 0, .int .i64 y, .slice e1 m1 f1, .slice e2 m2 f2]] w fun e w' => e = .returned (.tuple #[]) ∧ (tr = 0 ∧ SB w0 w' b pr er os (setV q y z) (0, 0) ∨ tr ≠ 0 ∧ SB w0 w' b pr er os q (2, tr)) := by
  obtain ⟨k, rfl⟩ := Int.eq_ofNat_of_zero_le hy
  rw [Int.toNat_natCast] at hyl
  have hvl := h.mem.vars.len
  obtain ⟨gv, hgv, _, _, hlt0⟩ := own_someS h.mem.vars hyl
  obtain ⟨wd, ⟨a1, n1, d1⟩, ⟨a2, n2, d2⟩, tp, ⟨a3, n3, d3⟩, ⟨a4, n4, d4⟩, rows⟩ := pr
  obtain ⟨⟨va, vn, vc⟩, ⟨ca, cn, cc⟩, rws⟩ := er
  obtain ⟨oa, on, oc⟩ := os
  simp only [] at hvl hgv
  subst hgv
  simp only [progV, envV, slV] at HV
  have hkn : k < vn := by omega
  obtain ⟨wa, HW⟩ : ∃ wa, Hid (wa = w.alloc (.cells #[.int .i64 0, .int .i64 (k : Int), .slice e1 m1 f1, .slice e2 m2 f2] 82)) := ⟨_, rfl⟩
  have R1 : SB w0 wa b ⟨wd, (a1, n1, d1), (a2, n2, d2), tp, (a3, n3, d3), (a4, n4, d4), rows⟩ ⟨(some ⟨gv, 0, none⟩, vn, vc), (ca, cn, cc), rws⟩ (oa, on, oc) q (0, 0) := by rw [HW.out]; exact h.alloc _
  have SX : Blk wa w.heap.size 82 [.int .i64 0, .int .i64 (k : Int), .slice e1 m1 f1, .slice e2 m2 f2] := by rw [HW.out]; exact Blk.new w _ _
  have hba : Below w.heap.size w wa := by rw [HW.out]; exact (Below.refl _ _).alloc (Nat.le_refl _) _
  have hsz : w.heap.size < wa.heap.size := SX.lt
  go_enter Tryz.func146, Tryz.ntmps146
  go_wp2_with fail
  rw [← HW.out]
  clear HW
  have hne1 : b ≠ gv := fun e => blk_apart R1.box R1.mem.vars.1 (by decide) gv rfl (by rw [e])
  have hne2 : w.heap.size ≠ gv := by omega
  have hne3 : gv ≠ b := fun e => hne1 e.symm
  have hne4 : gv ≠ w.heap.size := fun e => hne2 e.symm
  clear h hvl hlt0 hyl hy hsz
  have hd : Below wa.heap.size wa wa.drew := ⟨rfl, rfl, rfl, Nat.le_refl _, fun _ _ => rfl⟩
  have HD := Lib.hid hd
  have HC1 := Lib.hid (HV.out wa.drew (hba.trans (hd.mono hba.size)))
  have g0 := R1.box.cell (j := 0) rfl
  have g1 := R1.box.cell (j := 1) rfl
  have g2 := R1.box.cell (j := 2) rfl
  have g3 := R1.box.cell (j := 3) rfl
  have g4 := R1.box.cell (j := 4) rfl
  have g5 := R1.box.cell (j := 5) rfl
  have g6 := R1.box.cell (j := 6) rfl
  have g7 := R1.box.cell (j := 7) rfl
  have g8 := R1.box.cell (j := 8) rfl
  have s1 := SX.cell (j := 1) rfl
  have s2 := SX.cell (j := 2) rfl
  have s3 := SX.cell (j := 3) rfl
  simp only [slV] at g1 g2 g4 g5 g6 g7 g8
  have RH := Lib.hid R1
  have SH := Lib.hid SX
  clear R1 SX hd
  go_region_held2 (fun w' => w'.cell? ⟨b, 0, none⟩ = some (.int .i64 wd) ∧ w'.cell? ⟨b, 1, none⟩ = some (.slice a1 n1 d1) ∧ w'.cell? ⟨b, 2, none⟩ = some (.slice a2 n2 d2) ∧ w'.cell? ⟨b, 3, none⟩ = some (.int .i64 tp) ∧ w'.cell? ⟨b, 4, none⟩ = some (.slice a3 n3 d3) ∧ w'.cell? ⟨b, 5, none⟩ = some (.slice a4 n4 d4) ∧ w'.cell? ⟨b, 6, none⟩ = some (.slice (some ⟨gv, 0, none⟩) vn vc) ∧ w'.cell? ⟨b, 7, none⟩ = some (.slice ca cn cc) ∧ w'.cell? ⟨b, 8, none⟩ = some (.slice oa on oc) ∧ w'.cell? ⟨w.heap.size, 1, none⟩ = some (.int .i64 (k : Int)) ∧ w'.cell? ⟨w.heap.size, 2, none⟩ = some (.slice e1 m1 f1) ∧ w'.cell? ⟨w.heap.size, 3, none⟩ = some (.slice e2 m2 f2)) (first | exact ⟨g0, g1, g2, g3, g4, g5, g6, g7, g8, s1, s2, s3⟩ | exact ⟨h0, h1, h2, h3, h4, h5, h6, h7, h8, t1, t2, t3⟩ | go_keep) (first
    | (go_at_call 144; refine HC1.out.mono ?_; rintro e w1 ⟨rfl, hb1⟩; have hb2 := HD.out.trans (hb1.mono HD.out.size); have R2 := RH.out.below hb2; have S2 := SH.out.below hb2 SH.out.lt; have h0 := R2.box.cell (j := 0) rfl; have h1 := R2.box.cell (j := 1) rfl; have h2 := R2.box.cell (j := 2) rfl; have h3 := R2.box.cell (j := 3) rfl; have h4 := R2.box.cell (j := 4) rfl; have h5 := R2.box.cell (j := 5) rfl; have h6 := R2.box.cell (j := 6) rfl; have h7 := R2.box.cell (j := 7) rfl; have h8 := R2.box.cell (j := 8) rfl; have t1 := S2.cell (j := 1) rfl; have t2 := S2.cell (j := 2) rfl; have t3 := S2.cell (j := 3) rfl; simp only [slV] at h1 h2 h4 h5 h6 h7 h8; clear hb1))
  clear g0 g1 g2 g3 g4 g5 g6 g7 g8 s1 s2 s3 RH SH HC1 HD
  have HR2 := Lib.hid R2
  have HS2 := Lib.hid S2
  clear R2 S2 HV hba hb2
  by_cases ht : tr = 0
  · subst ht
    go_wp2_with (go_at_call 145; refine (l6Trap_none _ _).mono ?_; rintro e w9 ⟨rfl, rfl⟩)
    have R2 := HR2.out
    have S2 := HS2.out
    have i0 := R2.box.cell (j := 0) rfl
    have i1 := R2.box.cell (j := 1) rfl
    have i2 := R2.box.cell (j := 2) rfl
    have i3 := R2.box.cell (j := 3) rfl
    have i4 := R2.box.cell (j := 4) rfl
    have i5 := R2.box.cell (j := 5) rfl
    have i6 := R2.box.cell (j := 6) rfl
    have i7 := R2.box.cell (j := 7) rfl
    have i8 := R2.box.cell (j := 8) rfl
    have u1 := S2.cell (j := 1) rfl
    have u2 := S2.cell (j := 2) rfl
    have u3 := S2.cell (j := 3) rfl
    simp only [slV] at i1 i2 i4 i5 i6 i7 i8
    have vcell := own_cell R2.mem.vars.1 (k := k) hkn
    have vfr := R2.mem.vars.1.frozenAt k
    clear S2
    go_region_held2 (fun w' => w'.cell? ⟨b, 0, none⟩ = some (.int .i64 wd) ∧ w'.cell? ⟨b, 1, none⟩ = some (.slice a1 n1 d1) ∧ w'.cell? ⟨b, 2, none⟩ = some (.slice a2 n2 d2) ∧ w'.cell? ⟨b, 3, none⟩ = some (.int .i64 tp) ∧ w'.cell? ⟨b, 4, none⟩ = some (.slice a3 n3 d3) ∧ w'.cell? ⟨b, 5, none⟩ = some (.slice a4 n4 d4) ∧ w'.cell? ⟨b, 6, none⟩ = some (.slice (some ⟨gv, 0, none⟩) vn vc) ∧ w'.cell? ⟨b, 7, none⟩ = some (.slice ca cn cc) ∧ w'.cell? ⟨b, 8, none⟩ = some (.slice oa on oc) ∧ w'.cell? ⟨w.heap.size, 1, none⟩ = some (.int .i64 (k : Int)) ∧ w'.cell? ⟨w.heap.size, 2, none⟩ = some (.slice e1 m1 f1) ∧ w'.cell? ⟨w.heap.size, 3, none⟩ = some (.slice e2 m2 f2)) (first | exact ⟨i0, i1, i2, i3, i4, i5, i6, i7, i8, u1, u2, u3⟩ | go_keep) (fail)
    have R3 := Lib.hid ((R2.setV (k := k) hz rfl (Int.toNat_natCast k)).drewN 1)
    clear R2 i0 i1 i2 i3 i4 i5 i6 i7 i8 u1 u2 u3 h0 h1 h2 h3 h4 h5 h6 h7 h8 t1 t2 t3 vcell vfr
    go_wp2
    go_end0
    exact ⟨rfl, R3.out⟩
  · go_wp2_with fail
    refine (l6Trap_some w0 _ b _ _ _ q (0, 0) tr ht HR2.out).mono ?_
    rintro e w9 ⟨rfl, hr⟩
    have HR3 := Lib.hid hr
    have HT := Lib.hid ht
    clear hr ht h0 h1 h2 h3 h4 h5 h6 h7 h8 t1 t2 t3 HR2 HS2
    go_wp2
    go_end0
    exact ⟨rfl, .inr ⟨HT.out, HR3.out⟩⟩
set_option maxRecDepth 20000 in
set_option maxHeartbeats 3200000 in
theorem l6Stmt_out (w0 w : World) (b : Nat) (pr : PRow) (er : ERow) (os : Sl) (q : Sta) (y : Int) (e1 e2 : Option Addr) (m1 f1 m2 f2 : Nat) (tr : Int) (z : Nat) (h : SB w0 w b pr er os q (0, 0)) (hl : q.outs.length < 1000000) (hz : z < 256)
    (HV : Hid (∀ w', Below w.heap.size w w' → Calls Tryz.prog 144 #[progV pr, envV er, .slice e2 m2 f2] w' fun e w'' => e = .returned (.tuple #[.int .i64 (z : Int), .int .i64 tr]) ∧ Below w'.heap.size w' w'')) :
    Calls Tryz.prog 146 #[.pointer (some ⟨b, 0, none⟩), .agg #[.int .i64 6, .int .i64 y, .slice e1 m1 f1, .slice e2 m2 f2]] w fun e w' => e = .returned (.tuple #[]) ∧ (tr = 0 ∧ (∃ os', SB w0 w' b pr er os' (outV q z) (0, 0)) ∨ tr ≠ 0 ∧ SB w0 w' b pr er os q (2, tr)) := by
  have hol := h.mem.outs.len
  obtain ⟨wd, ⟨a1, n1, d1⟩, ⟨a2, n2, d2⟩, tp, ⟨a3, n3, d3⟩, ⟨a4, n4, d4⟩, rows⟩ := pr
  obtain ⟨⟨va, vn, vc⟩, ⟨ca, cn, cc⟩, rws⟩ := er
  obtain ⟨oa, on, oc⟩ := os
  simp only [] at hol
  simp only [progV, envV, slV] at HV
  have hon : on < 1048576 := by omega
  obtain ⟨wa, HW⟩ : ∃ wa, Hid (wa = w.alloc (.cells #[.int .i64 6, .int .i64 y, .slice e1 m1 f1, .slice e2 m2 f2] 82)) := ⟨_, rfl⟩
  have R1 : SB w0 wa b ⟨wd, (a1, n1, d1), (a2, n2, d2), tp, (a3, n3, d3), (a4, n4, d4), rows⟩ ⟨(va, vn, vc), (ca, cn, cc), rws⟩ (oa, on, oc) q (0, 0) := by rw [HW.out]; exact h.alloc _
  have SX : Blk wa w.heap.size 82 [.int .i64 6, .int .i64 y, .slice e1 m1 f1, .slice e2 m2 f2] := by rw [HW.out]; exact Blk.new w _ _
  have hba : Below w.heap.size w wa := by rw [HW.out]; exact (Below.refl _ _).alloc (Nat.le_refl _) _
  have hsz : w.heap.size < wa.heap.size := SX.lt
  go_enter Tryz.func146, Tryz.ntmps146
  go_wp2_with fail
  rw [← HW.out]
  clear HW
  clear h hol hl hsz
  have hd : Below wa.heap.size wa wa.drew := ⟨rfl, rfl, rfl, Nat.le_refl _, fun _ _ => rfl⟩
  have HD := Lib.hid hd
  have HC1 := Lib.hid (HV.out wa.drew (hba.trans (hd.mono hba.size)))
  have g0 := R1.box.cell (j := 0) rfl
  have g1 := R1.box.cell (j := 1) rfl
  have g2 := R1.box.cell (j := 2) rfl
  have g3 := R1.box.cell (j := 3) rfl
  have g4 := R1.box.cell (j := 4) rfl
  have g5 := R1.box.cell (j := 5) rfl
  have g6 := R1.box.cell (j := 6) rfl
  have g7 := R1.box.cell (j := 7) rfl
  have g8 := R1.box.cell (j := 8) rfl
  have s1 := SX.cell (j := 1) rfl
  have s2 := SX.cell (j := 2) rfl
  have s3 := SX.cell (j := 3) rfl
  simp only [slV] at g1 g2 g4 g5 g6 g7 g8
  have RH := Lib.hid R1
  have SH := Lib.hid SX
  clear R1 SX hd
  go_region_held2 (fun w' => w'.cell? ⟨b, 0, none⟩ = some (.int .i64 wd) ∧ w'.cell? ⟨b, 1, none⟩ = some (.slice a1 n1 d1) ∧ w'.cell? ⟨b, 2, none⟩ = some (.slice a2 n2 d2) ∧ w'.cell? ⟨b, 3, none⟩ = some (.int .i64 tp) ∧ w'.cell? ⟨b, 4, none⟩ = some (.slice a3 n3 d3) ∧ w'.cell? ⟨b, 5, none⟩ = some (.slice a4 n4 d4) ∧ w'.cell? ⟨b, 6, none⟩ = some (.slice va vn vc) ∧ w'.cell? ⟨b, 7, none⟩ = some (.slice ca cn cc) ∧ w'.cell? ⟨b, 8, none⟩ = some (.slice oa on oc) ∧ w'.cell? ⟨w.heap.size, 1, none⟩ = some (.int .i64 y) ∧ w'.cell? ⟨w.heap.size, 2, none⟩ = some (.slice e1 m1 f1) ∧ w'.cell? ⟨w.heap.size, 3, none⟩ = some (.slice e2 m2 f2)) (first | exact ⟨g0, g1, g2, g3, g4, g5, g6, g7, g8, s1, s2, s3⟩ | exact ⟨h0, h1, h2, h3, h4, h5, h6, h7, h8, t1, t2, t3⟩ | go_keep) (first
    | (go_at_call 144; refine HC1.out.mono ?_; rintro e w1 ⟨rfl, hb1⟩; have hb2 := HD.out.trans (hb1.mono HD.out.size); have R2 := RH.out.below hb2; have S2 := SH.out.below hb2 SH.out.lt; have h0 := R2.box.cell (j := 0) rfl; have h1 := R2.box.cell (j := 1) rfl; have h2 := R2.box.cell (j := 2) rfl; have h3 := R2.box.cell (j := 3) rfl; have h4 := R2.box.cell (j := 4) rfl; have h5 := R2.box.cell (j := 5) rfl; have h6 := R2.box.cell (j := 6) rfl; have h7 := R2.box.cell (j := 7) rfl; have h8 := R2.box.cell (j := 8) rfl; have t1 := S2.cell (j := 1) rfl; have t2 := S2.cell (j := 2) rfl; have t3 := S2.cell (j := 3) rfl; simp only [slV] at h1 h2 h4 h5 h6 h7 h8; clear hb1))
  clear g0 g1 g2 g3 g4 g5 g6 g7 g8 s1 s2 s3 RH SH HC1 HD
  have HR2 := Lib.hid R2
  have HS2 := Lib.hid S2
  clear R2 S2 HV hba hb2
  by_cases ht : tr = 0
  · subst ht
    have R2 := HR2.out
    have hB := R2.bel.size
    have R2a := R2.alloc (.cells #[.int .i64 (z : Int)] 2)
    have HR2a := Lib.hid R2a
    clear R2 R2a
    go_wp2_with (first | (go_at_call 145; refine (l6Trap_none _ _).mono ?_; rintro e w9 ⟨rfl, rfl⟩) | (at_builtin; refine wpList_pushJ _ rfl _ _ rfl w0.heap.size _ _ _ q.outs rfl HR2a.out.mem.outs w1.heap.size (z : Int) rfl (by simp) (in64_nat hz) hon HR2a.out.bel.size ?_))
    intro a8 c8 w8 hown8 hg8
    have o8 := sbk HR2a.out.box hg8.1 (fun e => blk_apart HR2a.out.box HR2a.out.mem.outs.1 (by decide) b e rfl)
    have R3 := Lib.hid (HR2a.out.outV (os' := (a8, on + 1, c8)) hown8 hg8)
    have c8' := o8.cell (j := 8) rfl
    have z8 := o8.frozen 8
    simp only [slV] at c8'
    clear o8 hown8 hg8 HR2a HR2 HS2 h0 h1 h2 h3 h4 h5 h6 h7 h8 t1 t2 t3
    go_wp2
    go_end0
    exact ⟨rfl, _, _, _, R3.out⟩
  · go_wp2_with fail
    refine (l6Trap_some w0 _ b _ _ _ q (0, 0) tr ht HR2.out).mono ?_
    rintro e w9 ⟨rfl, hr⟩
    have HR3 := Lib.hid hr
    have HT := Lib.hid ht
    clear hr ht h0 h1 h2 h3 h4 h5 h6 h7 h8 t1 t2 t3 HR2 HS2
    go_wp2
    go_end0
    exact ⟨rfl, .inr ⟨HT.out, HR3.out⟩⟩
theorem l6Stmt_throw (w0 w : World) (b : Nat) (pr : PRow) (er : ERow) (os : Sl) (q : Sta) (y : Int) (e1 e2 : Option Addr) (m1 f1 m2 f2 : Nat) (h : SB w0 w b pr er os q (0, 0)) :
    Calls Tryz.prog 146 #[.pointer (some ⟨b, 0, none⟩), .agg #[.int .i64 7, .int .i64 y, .slice e1 m1 f1, .slice e2 m2 f2]] w fun e w' => e = .returned (.tuple #[]) ∧ SB w0 w' b pr er os q (1, y) := by
  obtain ⟨wa, HW⟩ : ∃ wa, Hid (wa = w.alloc (.cells #[.int .i64 7, .int .i64 y, .slice e1 m1 f1, .slice e2 m2 f2] 82)) := ⟨_, rfl⟩
  have R1 : SB w0 wa b pr er os q (0, 0) := by rw [HW.out]; exact h.alloc _
  have SX : Blk wa w.heap.size 82 [.int .i64 7, .int .i64 y, .slice e1 m1 f1, .slice e2 m2 f2] := by rw [HW.out]; exact Blk.new w _ _
  have hne1 : b ≠ w.heap.size := by have := h.box.lt; omega
  have hne2 : w.heap.size ≠ b := fun e => hne1 e.symm
  have HE := Lib.hid (R1.ends 1 y)
  have f0 := R1.box.cell (j := 9) rfl
  have f1' := R1.box.cell (j := 10) rfl
  have f2' := R1.box.cell (j := 11) rfl
  have z0 := R1.box.frozen 9
  have z1 := R1.box.frozen 10
  have z2 := R1.box.frozen 11
  have s1 := SX.cell (j := 1) rfl
  rw [HW.out] at f0 f1' f2' z0 z1 z2 s1 HE
  clear R1 SX h HW
  go_enter Tryz.func146, Tryz.ntmps146
  go_wp2
  go_end0
  exact ⟨rfl, HE.out⟩
theorem l6Stmt_none (w0 w : World) (b : Nat) (pr : PRow) (er : ERow) (os : Sl) (q : Sta) (y : Int) (e1 e2 : Option Addr) (m1 f1 m2 f2 : Nat) (x : Int) (h : SB w0 w b pr er os q (0, 0)) (h0 : x ≠ 0) (h1 : x ≠ 1) (h6 : x ≠ 6) (h7 : x ≠ 7) :
    Calls Tryz.prog 146 #[.pointer (some ⟨b, 0, none⟩), .agg #[.int .i64 x, .int .i64 y, .slice e1 m1 f1, .slice e2 m2 f2]] w fun e w' => e = .returned (.tuple #[]) ∧ SB w0 w' b pr er os q (0, 0) := by
  have HR := Lib.hid (h.alloc (.cells #[.int .i64 x, .int .i64 y, .slice e1 m1 f1, .slice e2 m2 f2] 82))
  have k0 : (x == 0) = false := by simpa using h0
  have k1 : (x == 1) = false := by simpa using h1
  have k6 : (x == 6) = false := by simpa using h6
  have k7 : (x == 7) = false := by simpa using h7
  clear h h0 h1 h6 h7
  go_enter Tryz.func146, Tryz.ntmps146
  go_wp2
  go_end0
  exact ⟨rfl, HR.out⟩
/-- What l6Stmt leaves of an StPut. -/
def PutQ (w0 w' : World) (b : Nat) (pr : PRow) (er : ERow) (os : Sl) (q : Sta) (y : Int) (za ze : Nat) (trA trE : Int) (L : Nat) : Prop := trA ≠ 0 ∧ SB w0 w' b pr er os q (2, trA) ∨ trA = 0 ∧ trE ≠ 0 ∧ SB w0 w' b pr er os q (2, trE) ∨ trA = 0 ∧ trE = 0 ∧ ¬ za < L ∧ SB w0 w' b pr er os q (2, 2) ∨ trA = 0 ∧ trE = 0 ∧ za < L ∧ SB w0 w' b pr er os (putC q y za ze) (0, 0)
set_option maxRecDepth 20000 in
set_option maxHeartbeats 3200000 in
theorem l6Stmt_put (w0 w : World) (b : Nat) (pr : PRow) (er : ERow) (os : Sl) (q : Sta) (y : Int) (e1 e2 : Option Addr) (m1 f1 m2 f2 : Nat) (trA trE : Int) (za ze : Nat) (h : SB w0 w b pr er os q (0, 0)) (hy : 0 ≤ y) (hyl : y.toNat < q.cells.length) (hze : ze < 256)
    (HA : Hid (∀ w', Below w.heap.size w w' → Calls Tryz.prog 144 #[progV pr, envV er, .slice e1 m1 f1] w' fun e w'' => e = .returned (.tuple #[.int .i64 (za : Int), .int .i64 trA]) ∧ Below w'.heap.size w' w''))
    (HE : Hid (∀ w', Below w.heap.size w w' → Calls Tryz.prog 144 #[progV pr, envV er, .slice e2 m2 f2] w' fun e w'' => e = .returned (.tuple #[.int .i64 (ze : Int), .int .i64 trE]) ∧ Below w'.heap.size w' w'')) :
    Calls Tryz.prog 146 #[.pointer (some ⟨b, 0, none⟩), .agg #[.int .i64 1, .int .i64 y, .slice e1 m1 f1, .slice e2 m2 f2]] w fun e w' => e = .returned (.tuple #[]) ∧ PutQ w0 w' b pr er os q y za ze trA trE (intsAt q.cells y.toNat).length := by
  obtain ⟨k, rfl⟩ := Int.eq_ofNat_of_zero_le hy
  rw [Int.toNat_natCast] at hyl ⊢
  have hcl := h.mem.cells.2.2.1
  have hcn := h.mem.cells.2.1
  have hkn : k < er.cells.2.1 := by omega
  obtain ⟨gC, hgC⟩ : ∃ gC, er.cells.1 = some ⟨gC, 0, none⟩ := by
    rcases h.mem.cells.1.2 with ⟨_, h0⟩ | ⟨gC, cap, cur, e, _⟩
    · omega
    · injection e with e1; exact ⟨gC, e1⟩
  obtain ⟨L, HL⟩ : ∃ L, Hid ((intsAt q.cells k).length = L) := ⟨_, rfl⟩
  have hrow : (slAt er.rows k).2.1 = L := by rw [← HL.out]; exact (h.mem.cells.2.2.2 k hkn).len.symm
  have hLb : L ≤ 1048576 := by rw [← hrow]; exact (h.mem.cells.2.2.2 k hkn).2.1
  rw [HL.out]
  obtain ⟨⟨ra, rn, rc⟩, HRW⟩ : ∃ rw', Hid (slAt er.rows k = rw') := ⟨_, rfl⟩
  rw [HRW.out] at hrow
  simp only [] at hrow
  subst hrow
  obtain ⟨wd, ⟨a1, n1, d1⟩, ⟨a2, n2, d2⟩, tp, ⟨a3, n3, d3⟩, ⟨a4, n4, d4⟩, rows⟩ := pr
  obtain ⟨⟨va, vn, vc⟩, ⟨ca, cn, cc⟩, rws⟩ := er
  obtain ⟨oa, on, oc⟩ := os
  simp only [] at hcl hgC hcn hkn HRW
  subst hgC
  simp only [progV, envV, slV] at HA HE
  obtain ⟨wa, HW⟩ : ∃ wa, Hid (wa = w.alloc (.cells #[.int .i64 1, .int .i64 (k : Int), .slice e1 m1 f1, .slice e2 m2 f2] 82)) := ⟨_, rfl⟩
  have R1 : SB w0 wa b ⟨wd, (a1, n1, d1), (a2, n2, d2), tp, (a3, n3, d3), (a4, n4, d4), rows⟩ ⟨(va, vn, vc), (some ⟨gC, 0, none⟩, cn, cc), rws⟩ (oa, on, oc) q (0, 0) := by rw [HW.out]; exact h.alloc _
  have SX : Blk wa w.heap.size 82 [.int .i64 1, .int .i64 (k : Int), .slice e1 m1 f1, .slice e2 m2 f2] := by rw [HW.out]; exact Blk.new w _ _
  have hba : Below w.heap.size w wa := by rw [HW.out]; exact (Below.refl _ _).alloc (Nat.le_refl _) _
  have hsz : w.heap.size < wa.heap.size := SX.lt
  go_enter Tryz.func146, Tryz.ntmps146
  go_wp2_with fail
  rw [← HW.out]
  clear HW
  clear h hcl hyl hy hsz
  have HBA := Lib.hid hba
  have hd : Below wa.heap.size wa wa.drew := ⟨rfl, rfl, rfl, Nat.le_refl _, fun _ _ => rfl⟩
  have HD := Lib.hid hd
  have HC1 := Lib.hid (HA.out wa.drew (hba.trans (hd.mono hba.size)))
  have g0 := R1.box.cell (j := 0) rfl
  have g1 := R1.box.cell (j := 1) rfl
  have g2 := R1.box.cell (j := 2) rfl
  have g3 := R1.box.cell (j := 3) rfl
  have g4 := R1.box.cell (j := 4) rfl
  have g5 := R1.box.cell (j := 5) rfl
  have g6 := R1.box.cell (j := 6) rfl
  have g7 := R1.box.cell (j := 7) rfl
  have g8 := R1.box.cell (j := 8) rfl
  have s1 := SX.cell (j := 1) rfl
  have s2 := SX.cell (j := 2) rfl
  have s3 := SX.cell (j := 3) rfl
  simp only [slV] at g1 g2 g4 g5 g6 g7 g8
  have RH := Lib.hid R1
  have SH := Lib.hid SX
  clear R1 SX hd
  go_region_held2 (fun w' => w'.cell? ⟨b, 0, none⟩ = some (.int .i64 wd) ∧ w'.cell? ⟨b, 1, none⟩ = some (.slice a1 n1 d1) ∧ w'.cell? ⟨b, 2, none⟩ = some (.slice a2 n2 d2) ∧ w'.cell? ⟨b, 3, none⟩ = some (.int .i64 tp) ∧ w'.cell? ⟨b, 4, none⟩ = some (.slice a3 n3 d3) ∧ w'.cell? ⟨b, 5, none⟩ = some (.slice a4 n4 d4) ∧ w'.cell? ⟨b, 6, none⟩ = some (.slice va vn vc) ∧ w'.cell? ⟨b, 7, none⟩ = some (.slice (some ⟨gC, 0, none⟩) cn cc) ∧ w'.cell? ⟨b, 8, none⟩ = some (.slice oa on oc) ∧ w'.cell? ⟨w.heap.size, 1, none⟩ = some (.int .i64 (k : Int)) ∧ w'.cell? ⟨w.heap.size, 2, none⟩ = some (.slice e1 m1 f1) ∧ w'.cell? ⟨w.heap.size, 3, none⟩ = some (.slice e2 m2 f2)) (first | exact ⟨g0, g1, g2, g3, g4, g5, g6, g7, g8, s1, s2, s3⟩ | exact ⟨h0, h1, h2, h3, h4, h5, h6, h7, h8, t1, t2, t3⟩ | go_keep) (first
    | (go_at_call 144; refine HC1.out.mono ?_; rintro e w1 ⟨rfl, hb1⟩; have hb2 := HD.out.trans (hb1.mono HD.out.size); have R2 := RH.out.below hb2; have S2 := SH.out.below hb2 SH.out.lt; have h0 := R2.box.cell (j := 0) rfl; have h1 := R2.box.cell (j := 1) rfl; have h2 := R2.box.cell (j := 2) rfl; have h3 := R2.box.cell (j := 3) rfl; have h4 := R2.box.cell (j := 4) rfl; have h5 := R2.box.cell (j := 5) rfl; have h6 := R2.box.cell (j := 6) rfl; have h7 := R2.box.cell (j := 7) rfl; have h8 := R2.box.cell (j := 8) rfl; have t1 := S2.cell (j := 1) rfl; have t2 := S2.cell (j := 2) rfl; have t3 := S2.cell (j := 3) rfl; simp only [slV] at h1 h2 h4 h5 h6 h7 h8; clear hb1))
  clear g0 g1 g2 g3 g4 g5 g6 g7 g8 s1 s2 s3 RH SH HC1 HD
  have HBA1 := Lib.hid (HBA.out.trans (hb2.mono HBA.out.size))
  have HR2 := Lib.hid R2
  have HS2 := Lib.hid S2
  clear HA hba hb2 HBA
  by_cases hta : trA = 0
  case neg =>
    clear R2 S2
    go_wp2_with fail
    refine (l6Trap_some w0 _ b _ _ _ q (0, 0) trA hta HR2.out).mono ?_
    rintro e w9 ⟨rfl, hr⟩
    have HR3 := Lib.hid hr
    have HT := Lib.hid hta
    clear hr hta h0 h1 h2 h3 h4 h5 h6 h7 h8 t1 t2 t3 HR2 HS2
    go_wp2
    refine bodyPost_ret (v := .tuple #[]) (by simp [results, Tryz.results146, go_sem]) rfl ?_
    exact ⟨rfl, .inl ⟨HT.out, HR3.out⟩⟩
  subst hta
  have hbb := HBA1.out
  clear h0 h1 h2 h3 h4 h5 h6 h7 h8 t1 t2 t3
  go_wp2_with (go_at_call 145; refine (l6Trap_none _ _).mono ?_; rintro e w9 ⟨rfl, rfl⟩)
  have hd : Below w1.heap.size w1 w1.drew := ⟨rfl, rfl, rfl, Nat.le_refl _, fun _ _ => rfl⟩
  have HD := Lib.hid hd
  have HC1 := Lib.hid (HE.out w1.drew (hbb.trans (hd.mono hbb.size)))
  have g0 := R2.box.cell (j := 0) rfl
  have g1 := R2.box.cell (j := 1) rfl
  have g2 := R2.box.cell (j := 2) rfl
  have g3 := R2.box.cell (j := 3) rfl
  have g4 := R2.box.cell (j := 4) rfl
  have g5 := R2.box.cell (j := 5) rfl
  have g6 := R2.box.cell (j := 6) rfl
  have g7 := R2.box.cell (j := 7) rfl
  have g8 := R2.box.cell (j := 8) rfl
  have s1 := S2.cell (j := 1) rfl
  have s2 := S2.cell (j := 2) rfl
  have s3 := S2.cell (j := 3) rfl
  simp only [slV] at g1 g2 g4 g5 g6 g7 g8
  have RH := Lib.hid R2
  have SH := Lib.hid S2
  clear R2 S2 hd
  go_region_held2 (fun w' => w'.cell? ⟨b, 0, none⟩ = some (.int .i64 wd) ∧ w'.cell? ⟨b, 1, none⟩ = some (.slice a1 n1 d1) ∧ w'.cell? ⟨b, 2, none⟩ = some (.slice a2 n2 d2) ∧ w'.cell? ⟨b, 3, none⟩ = some (.int .i64 tp) ∧ w'.cell? ⟨b, 4, none⟩ = some (.slice a3 n3 d3) ∧ w'.cell? ⟨b, 5, none⟩ = some (.slice a4 n4 d4) ∧ w'.cell? ⟨b, 6, none⟩ = some (.slice va vn vc) ∧ w'.cell? ⟨b, 7, none⟩ = some (.slice (some ⟨gC, 0, none⟩) cn cc) ∧ w'.cell? ⟨b, 8, none⟩ = some (.slice oa on oc) ∧ w'.cell? ⟨w.heap.size, 1, none⟩ = some (.int .i64 (k : Int)) ∧ w'.cell? ⟨w.heap.size, 2, none⟩ = some (.slice e1 m1 f1) ∧ w'.cell? ⟨w.heap.size, 3, none⟩ = some (.slice e2 m2 f2)) (first | exact ⟨g0, g1, g2, g3, g4, g5, g6, g7, g8, s1, s2, s3⟩ | exact ⟨h0, h1, h2, h3, h4, h5, h6, h7, h8, t1, t2, t3⟩ | go_keep) (first
    | (go_at_call 144; refine HC1.out.mono ?_; rintro e w2 ⟨rfl, hb1⟩; have hb2 := HD.out.trans (hb1.mono HD.out.size); have R3 := RH.out.below hb2; have S3 := SH.out.below hb2 SH.out.lt; have h0 := R3.box.cell (j := 0) rfl; have h1 := R3.box.cell (j := 1) rfl; have h2 := R3.box.cell (j := 2) rfl; have h3 := R3.box.cell (j := 3) rfl; have h4 := R3.box.cell (j := 4) rfl; have h5 := R3.box.cell (j := 5) rfl; have h6 := R3.box.cell (j := 6) rfl; have h7 := R3.box.cell (j := 7) rfl; have h8 := R3.box.cell (j := 8) rfl; have t1 := S3.cell (j := 1) rfl; have t2 := S3.cell (j := 2) rfl; have t3 := S3.cell (j := 3) rfl; simp only [slV] at h1 h2 h4 h5 h6 h7 h8; clear hb1))
  clear g0 g1 g2 g3 g4 g5 g6 g7 g8 s1 s2 s3 RH SH HC1 HD
  have HR3 := Lib.hid R3
  have HS3 := Lib.hid S3
  clear HE hbb hb2 HBA1 HR2 HS2
  by_cases hte : trE = 0
  case neg =>
    clear R3 S3
    go_wp2_with fail
    refine (l6Trap_some w0 _ b _ _ _ q (0, 0) trE hte HR3.out).mono ?_
    rintro e w9 ⟨rfl, hr⟩
    have HR4 := Lib.hid hr
    have HT := Lib.hid hte
    clear hr hte h0 h1 h2 h3 h4 h5 h6 h7 h8 t1 t2 t3 HR3 HS3
    go_wp2
    refine bodyPost_ret (v := .tuple #[]) (by simp [results, Tryz.results146, go_sem]) rfl ?_
    exact ⟨rfl, .inr (.inl ⟨rfl, HT.out, HR4.out⟩)⟩
  subst hte
  have hcr := own_cellR R3.mem.cells.1 (k := k) hkn
  rw [HRW.out] at hcr
  simp only [slV] at hcr
  clear S3
  by_cases hfit : za < rn
  · have hdec : decide ((za : Int) ≥ (rn : Int)) = false := by simp; omega
    obtain ⟨gv, hgv, hvc, hvf, hvlt⟩ := own_someS (R3.mem.cells.2.2.2 k hkn) (k := za) (by rw [HL.out]; exact hfit)
    rw [HRW.out] at hgv
    simp only [] at hgv
    subst hgv
    generalize (intsAt q.cells k).getD za 0 = z9 at hvc
    have hsb := HS3.out.lt
    have hnb1 : b ≠ gv := fun e => blk_apart R3.box (R3.mem.cells.2.2.2 k hkn).1 (by decide) gv (by rw [HRW.out]; rfl) (by rw [e])
    have hnb2 : w.heap.size ≠ gv := fun e => by
      have hk2 := Go.Lib.ownsRow_kind (R3.mem.cells.2.2.2 k hkn).1 gv (by rw [HRW.out]; rfl)
      obtain ⟨c9, f9, e9⟩ := hk2
      rw [← e, show w2.heap[w.heap.size]? = _ from HS3.out] at e9
      injection e9 with e9
      injection e9 with _ e9
      exact absurd e9 (by decide)
    have hnb3 : gC ≠ gv := fun e => own_kinds R3.mem.cells.1 (R3.mem.cells.2.2.2 k hkn).1 (by decide) (g := gC) rfl (by rw [HRW.out, e]; rfl)
    have hnb4 : gv ≠ b := fun e => hnb1 e.symm
    have hnb5 : gv ≠ w.heap.size := fun e => hnb2 e.symm
    have hnb6 : gv ≠ gC := fun e => hnb3 e.symm
    have R4 := Lib.hid (fun n => ((R3.drewN n).putC (k := za) (i := k) (n := (k : Int)) hze hkn (by rw [HRW.out]) (Int.toNat_natCast k)).drewN 1)
    have R3H := Lib.hid R3
    clear R3 hvlt hsb
    go_wp2_with (go_at_call 145; refine (l6Trap_none _ _).mono ?_; rintro e w9 ⟨rfl, rfl⟩)
    go_quiet (fail)
    go_wp2_with fail
    have R5 := R3H.out.drewN nq
    have S5 : Blk (w2.drewN nq) w.heap.size 82 [.int .i64 1, .int .i64 (k : Int), .slice e1 m1 f1, .slice e2 m2 f2] := HS3.out
    have v5 : (w2.drewN nq).cell? ⟨gv, za, none⟩ = some (.int .i64 z9) := hvc
    have v6 : (w2.drewN nq).frozen? ⟨gv, za, none⟩ = false := hvf
    have v7 : (w2.drewN nq).cell? ⟨gC, k, none⟩ = some (.slice (some ⟨gv, 0, none⟩) rn rc) := hcr
    obtain ⟨w3, HW3⟩ : ∃ w3, Hid (w2.drewN nq = w3) := ⟨_, rfl⟩
    rw [HW3.out] at R5 S5 v5 v6 v7 ⊢
    have i0 := R5.box.cell (j := 0) rfl
    have i1 := R5.box.cell (j := 1) rfl
    have i2 := R5.box.cell (j := 2) rfl
    have i3 := R5.box.cell (j := 3) rfl
    have i4 := R5.box.cell (j := 4) rfl
    have i5 := R5.box.cell (j := 5) rfl
    have i6 := R5.box.cell (j := 6) rfl
    have i7 := R5.box.cell (j := 7) rfl
    have i8 := R5.box.cell (j := 8) rfl
    have u1 := S5.cell (j := 1) rfl
    have u2 := S5.cell (j := 2) rfl
    have u3 := S5.cell (j := 3) rfl
    simp only [slV] at i1 i2 i4 i5 i6 i7 i8
    have R6 := Lib.hid ((R5.putC (k := za) (i := k) (n := (k : Int)) hze hkn (by rw [HRW.out]) (Int.toNat_natCast k)).drewN 1)
    have HF := Lib.hid hfit
    clear R5 S5 HW3 h0 h1 h2 h3 h4 h5 h6 h7 h8 t1 t2 t3 hcr hvc hvf R3H R4 HR3 HS3
    go_region_held2 (fun w' => w'.cell? ⟨b, 0, none⟩ = some (.int .i64 wd) ∧ w'.cell? ⟨b, 1, none⟩ = some (.slice a1 n1 d1) ∧ w'.cell? ⟨b, 2, none⟩ = some (.slice a2 n2 d2) ∧ w'.cell? ⟨b, 3, none⟩ = some (.int .i64 tp) ∧ w'.cell? ⟨b, 4, none⟩ = some (.slice a3 n3 d3) ∧ w'.cell? ⟨b, 5, none⟩ = some (.slice a4 n4 d4) ∧ w'.cell? ⟨b, 6, none⟩ = some (.slice va vn vc) ∧ w'.cell? ⟨b, 7, none⟩ = some (.slice (some ⟨gC, 0, none⟩) cn cc) ∧ w'.cell? ⟨b, 8, none⟩ = some (.slice oa on oc) ∧ w'.cell? ⟨w.heap.size, 1, none⟩ = some (.int .i64 (k : Int)) ∧ w'.cell? ⟨w.heap.size, 2, none⟩ = some (.slice e1 m1 f1) ∧ w'.cell? ⟨w.heap.size, 3, none⟩ = some (.slice e2 m2 f2) ∧ w'.cell? ⟨gC, k, none⟩ = some (.slice (some ⟨gv, 0, none⟩) rn rc)) (first | exact ⟨i0, i1, i2, i3, i4, i5, i6, i7, i8, u1, u2, u3, v7⟩ | go_keep) (fail)
    clear i0 i1 i2 i3 i4 i5 i6 i7 i8 u1 u2 u3 v5 v6 v7 hnb1 hnb2 hnb3 hnb4 hnb5 hnb6 hdec hfit
    go_wp2
    go_end0
    exact ⟨rfl, .inr (.inr (.inr ⟨rfl, rfl, HF.out, R6.out⟩))⟩
  · have hdec : decide ((za : Int) ≥ (rn : Int)) = true := by simp; omega
    clear R3
    go_wp2_with (go_at_call 145; refine (l6Trap_none _ _).mono ?_; rintro e w9 ⟨rfl, rfl⟩)
    go_quiet (fail)
    go_wp2_with fail
    refine (l6Trap_some w0 _ b _ _ _ q (0, 0) 2 (by omega) (HR3.out.drewN _)).mono ?_
    rintro e w9 ⟨rfl, hr⟩
    have HR4 := Lib.hid hr
    have HF := Lib.hid hfit
    clear hr h0 h1 h2 h3 h4 h5 h6 h7 h8 t1 t2 t3 HR3 HS3 hcr hdec hfit
    go_wp2
    refine bodyPost_ret (v := .tuple #[]) (by simp [results, Tryz.results146, go_sem]) rfl ?_
    exact ⟨rfl, .inr (.inr (.inl ⟨rfl, rfl, HF.out, HR4.out⟩))⟩
end Go.Proofs.YtmooecbdpfhnlaaGreat
/- What a part, a statement, a round that has run was: the cases of Runs, turned round. -/
namespace Go.Proofs.YtmooecbdpfhnlaaGreat
open Go.RowKit

section
variable {S : Nat} {ss : List Stm} {k e n s t : Nat} {q q1 q' : Sta} {r r1 : Rz}
theorem runs_none (h : Runs S ss .seq n n t q q' r) : q' = q ∧ r = (0, 0) := by
  cases h with
  | nil => exact ⟨rfl, rfl⟩
  | go h1 h2 => have := h1.one_le; have := h2.seq_le; omega
  | stop h1 _ h3 => have := h1.one_le; omega
theorem Runs.split (h : Runs S ss .seq k n t q q' r) (hk : k < n) : ∃ e s1 t1 q1 r1, s1 + t1 = t ∧ Runs S ss .one k e s1 q q1 r1 ∧ k ≤ e ∧ e < n ∧ (r1.1 = 0 → r1 = (0, 0) ∧ Runs S ss .seq (e + 1) n t1 q1 q' r) ∧ (r1.1 ≠ 0 → q' = q1 ∧ r = r1) := by
  cases h with
  | nil => omega
  | go h1 h2 => exact ⟨_, _, _, _, _, rfl, h1, h1.one_le.1, by have := h2.seq_le; omega, fun _ => ⟨rfl, h2⟩, fun h => absurd rfl h⟩
  | stop h1 h2 h3 => exact ⟨_, _, _, _, _, rfl, h1, h1.one_le.1, h3, fun h => absurd h h2, fun _ => ⟨rfl, rfl⟩⟩
theorem one_plain (h : Runs S ss .one k e s q q1 r1) (h2 : opAt ss k ≠ 2) (h5 : opAt ss k ≠ 5) (h8 : opAt ss k ≠ 8) : e = k ∧ s = 1 ∧ Basic S (stAt ss k) q q1 r1 ∧ k < ss.length := by
  cases h with
  | plain hi _ _ _ h => exact ⟨rfl, rfl, h, hi⟩
  | ifT _ h | if1 _ h | if0 _ h | then_ _ h | else_ _ h => exact absurd h h2
  | loop _ h => exact absurd h h5
  | try_ _ h | catch_ _ h => exact absurd h h8
/-- What an if does: its middle M (below 0: there is none), its end e. -/
structure OneIf (S : Nat) (ss : List Stm) (k e s : Nat) (q q1 : Sta) (r1 : Rz) (M : Int) : Prop where
  ends : endOf ss k = (M, (e : Int))
  trap : trS S q (stAt ss k).exp ≠ 0 → q1 = q ∧ r1 = (2, trS S q (stAt ss k).exp)
  yes : trS S q (stAt ss k).exp = 0 → vlS S q (stAt ss k).exp ≠ 0 → ∃ s', s' ≤ s ∧ Runs S ss .seq (k + 1) (if M < 0 then e else M.toNat) s' q q1 r1
  no1 : trS S q (stAt ss k).exp = 0 → vlS S q (stAt ss k).exp = 0 → M < 0 → q1 = q ∧ r1 = (0, 0)
  no2 : trS S q (stAt ss k).exp = 0 → vlS S q (stAt ss k).exp = 0 → 0 ≤ M → ∃ s', s' ≤ s ∧ Runs S ss .seq (M.toNat + 1) e s' q q1 r1
theorem one_if (h : Runs S ss .one k e s q q1 r1) (h2 : opAt ss k = 2) : ∃ M, OneIf S ss k e s q q1 r1 M := by
  cases h with
  | plain _ h => exact absurd h2 h
  | loop _ h | try_ _ h | catch_ _ h => rw [h2] at h; omega
  | ifT hi _ he _ ht => exact ⟨_, he, fun _ => ⟨rfl, rfl⟩, fun h => absurd h ht, fun h => absurd h ht, fun h => absurd h ht⟩
  | if1 hi _ he ht hv h => exact ⟨_, he, fun h => absurd ht h, fun _ _ => by rw [if_pos (by omega)]; exact ⟨_, Nat.le_add_left _ 1, h⟩, fun _ h => absurd h hv, fun _ h => absurd h hv⟩
  | if0 hi _ he _ ht hv => exact ⟨_, he, fun h => absurd ht h, fun _ h => absurd hv h, fun _ _ _ => ⟨rfl, rfl⟩, fun _ _ h => absurd h (by omega)⟩
  | then_ hi _ he ht hv h => exact ⟨_, he, fun h => absurd ht h, fun _ _ => by rw [if_neg (by omega), Int.toNat_natCast]; exact ⟨_, Nat.le_trans (Nat.le_max_left _ _) (Nat.le_add_left _ 1), h⟩, fun _ h => absurd h hv, fun _ h => absurd h hv⟩
  | else_ hi _ he ht hv h => exact ⟨_, he, fun h => absurd ht h, fun _ h => absurd hv h, fun _ _ h => absurd h (by omega), fun _ _ _ => by rw [Int.toNat_natCast]; exact ⟨_, Nat.le_trans (Nat.le_max_right _ _) (Nat.le_add_left _ 1), h⟩⟩
theorem one_loop (h : Runs S ss .one k e s q q1 r1) (h5 : opAt ss k = 5) : ∃ j s' : Nat, endOf ss k = (-1, (e : Int)) ∧ (stAt ss k).n = (j : Int) ∧ j ≤ 4 ∧ 1 + j * (1 + s') = s ∧ Runs S ss (.rounds j) (k + 1) e s' q q1 r1 := by
  cases h with
  | plain _ _ h => exact absurd h5 h
  | ifT _ h | if1 _ h | if0 _ h | then_ _ h | else_ _ h => rw [h5] at h; omega
  | try_ _ h | catch_ _ h => rw [h5] at h; omega
  | loop hi _ he hk h4 h => exact ⟨_, _, he, hk, h4, rfl, h⟩
/-- What a try does. -/
structure OneTry (S : Nat) (ss : List Stm) (k m e s s1 s2 : Nat) (q q1 : Sta) (r1 : Rz) (qa : Sta) (ra : Rz) : Prop where
  ends : endOf ss k = ((m : Int), (e : Int))
  cost : s1 ≤ s ∧ s1 + s2 ≤ s
  body : Runs S ss .seq (k + 1) m s1 q qa ra
  pass : ra ≠ (1, (stAt ss m).n) → q1 = qa ∧ r1 = ra
  take : ra = (1, (stAt ss m).n) → Runs S ss .seq (m + 1) e s2 qa q1 r1
theorem one_try (h : Runs S ss .one k e s q q1 r1) (h8 : opAt ss k = 8) : ∃ m s1 s2 qa ra, OneTry S ss k m e s s1 s2 q q1 r1 qa ra := by
  cases h with
  | plain _ _ _ h => exact absurd h8 h
  | ifT _ h | if1 _ h | if0 _ h | then_ _ h | else_ _ h => rw [h8] at h; omega
  | loop _ h => rw [h8] at h; omega
  | @try_ _ _ _ s s' _ _ _ hi _ he h hr => exact ⟨_, s, s', _, _, he, ⟨by omega, by omega⟩, h, fun _ => ⟨rfl, rfl⟩, fun h => absurd h hr⟩
  | @catch_ _ _ _ s s' _ _ _ _ hi _ he h h' => exact ⟨_, s, s', _, _, he, ⟨by omega, by omega⟩, h, fun h => absurd rfl h, fun _ => h'⟩
theorem rounds_inv {j : Nat} (h : Runs S ss (.rounds (j + 1)) k e s q q1 r1) : ∃ qa ra, Runs S ss .seq k e s q qa ra ∧ (ra.1 = 0 → ra = (0, 0) ∧ Runs S ss (.rounds j) k e s qa q1 r1) ∧ (ra.1 ≠ 0 → q1 = qa ∧ r1 = ra) := by
  cases h with
  | again h1 h2 => exact ⟨_, _, h1, fun _ => ⟨rfl, h2⟩, fun h => absurd rfl h⟩
  | halt h1 h2 => exact ⟨_, _, h1, fun h => absurd h h2, fun _ => ⟨rfl, rfl⟩⟩
theorem rounds_zero (h : Runs S ss (.rounds 0) k e s q q1 r1) : q1 = q ∧ r1 = (0, 0) := by
  cases h with
  | zero => exact ⟨rfl, rfl⟩
end
end Go.Proofs.YtmooecbdpfhnlaaGreat
/- The model's run: l6Stmt by what a statement does, and l6Run. -/
namespace Go.Proofs.YtmooecbdpfhnlaaGreat
open Go.RowKit

theorem specValue (p : Prg) (w0 w : World) (b : Nat) (pr : PRow) (er : ERow) (os : Sl) (q : Sta) (r : Rz) (hc : codeB p = 0) (hp : ProgAt w0 pr p) (h : SB w0 w b pr er os q r) (hq : StaOk p q) (a : Option Addr) (n c : Nat) (ts : List Tm) (ht : Terms w0 a n ts) (hn : namesB (2 ^ p.width.toNat) (p.lows.length + p.secrets.length + p.temps.toNat) p.arrays.length ts = true) :
    Hid (∀ w', Below w.heap.size w w' → Calls Tryz.prog 144 #[progV pr, envV er, .slice a n c] w' fun e w'' => e = .returned (.tuple #[.int .i64 ((vlS (2 ^ p.width.toNat) q ts : Nat) : Int), .int .i64 (trS (2 ^ p.width.toNat) q ts)]) ∧ Below w'.heap.size w' w'') := Lib.hid (fun w' hb => by
  have hW := code_head hc
  have := l5Value_any pr p.width.toNat er (envOf q) a n c ts w' (by have := hp.width; omega) (by omega) (by omega) (h.mem.env.below hb) (ht.below (Nat.le_refl _) (h.bel.trans (hb.mono h.bel.size))) (goodS_reck hq hn)
  have e := ht.1
  subst e
  unfold trS vlS
  exact this)
theorem l6Stmt_any (p : Prg) (w0 w : World) (b : Nat) (pr : PRow) (er : ERow) (os : Sl) (q : Sta) (y : Int) (e1 e2 : Option Addr) (m1 f1 m2 f2 : Nat) (s : Stm) (x : Int) (q' : Sta) (r : Rz) (hc : codeB p = 0) (hp : ProgAt w0 pr p) (h : SB w0 w b pr er os q (0, 0)) (hq : StaOk p q) (hg : goodS p s) (hl : q.outs.length < 1000000)
    (ex : s.op = x) (ey : s.n = y) (h1 : Terms w0 e1 m1 s.at_) (h2 : Terms w0 e2 m2 s.exp) (hB : Basic (2 ^ p.width.toNat) s q q' r) :
    Calls Tryz.prog 146 #[.pointer (some ⟨b, 0, none⟩), .agg #[.int .i64 x, .int .i64 y, .slice e1 m1 f1, .slice e2 m2 f2]] w fun e w' => e = .returned (.tuple #[]) ∧ ∃ os', SB w0 w' b pr er os' q' r := by
  subst ex ey
  have h256 := pow_256 hc
  have HV := specValue p w0 w b pr er os q (0, 0) hc hp h hq
  have lt : ∀ ts, namesB (2 ^ p.width.toNat) (p.lows.length + p.secrets.length + p.temps.toNat) p.arrays.length ts = true → vlS (2 ^ p.width.toNat) q ts < 256 := fun ts hn => Nat.lt_of_lt_of_le (vl_lt hq hn) h256
  cases hB with
  | set ho ht | setT ho ht =>
    have hn := (goodS_exp hg (.inl ho)).1
    have hk := goodS_set hg hq ho
    rw [ho]
    refine (l6Stmt_set w0 w b pr er os q s.n e1 e2 m1 f1 m2 f2 _ _ h hk.1 hk.2 (lt _ hn) (HV e2 m2 f2 _ h2 hn)).mono ?_
    rintro e w' ⟨rfl, ⟨t0, hr⟩ | ⟨t0, hr⟩⟩
    · first | exact ⟨rfl, _, hr⟩ | exact absurd t0 ht
    · first | exact ⟨rfl, _, hr⟩ | exact absurd ht t0
  | put ho ha ht hf | putA ho ha | putE ho ha ht | putC ho ha ht hf =>
    have hn := (goodS_exp hg (.inr (.inl ho))).1
    have hn1 := (goodS_at hg ho).1
    have hk := goodS_put hg hq ho
    rw [ho]
    refine (l6Stmt_put w0 w b pr er os q s.n e1 e2 m1 f1 m2 f2 _ _ _ _ h hk.1 hk.2 (lt _ hn) (HV e1 m1 f1 _ h1 hn1) (HV e2 m2 f2 _ h2 hn)).mono ?_
    rintro e w' ⟨rfl, hr⟩
    rcases hr with ⟨t1, hr⟩ | ⟨t1, t2, hr⟩ | ⟨t1, t2, t3, hr⟩ | ⟨t1, t2, t3, hr⟩
    · first | exact absurd ha t1 | exact ⟨rfl, _, hr⟩
    · first | exact absurd t1 ha | exact absurd ht t2 | exact ⟨rfl, _, hr⟩
    · first | exact absurd t1 ha | exact absurd t2 ht | exact absurd hf t3 | exact ⟨rfl, _, hr⟩
    · first | exact absurd t1 ha | exact absurd t2 ht | exact absurd t3 hf | exact ⟨rfl, _, hr⟩
  | out ho ht | outT ho ht =>
    have hn := (goodS_exp hg (.inr (.inr (.inr ho)))).1
    rw [ho]
    refine (l6Stmt_out w0 w b pr er os q s.n e1 e2 m1 f1 m2 f2 _ _ h hl (lt _ hn) (HV e2 m2 f2 _ h2 hn)).mono ?_
    rintro e w' ⟨rfl, ⟨t0, os', hr⟩ | ⟨t0, hr⟩⟩
    · first | exact ⟨rfl, _, hr⟩ | exact absurd t0 ht
    · first | exact ⟨rfl, _, hr⟩ | exact absurd ht t0
  | throw ho =>
    rw [ho]
    exact (l6Stmt_throw w0 w b pr er os q s.n e1 e2 m1 f1 m2 f2 h).mono fun e w' hh => ⟨hh.1, _, hh.2⟩
  | none h0 h1' h6 h7 => exact (l6Stmt_none w0 w b pr er os q s.n e1 e2 m1 f1 m2 f2 s.op h h0 h1' h6 h7).mono fun e w' hh => ⟨hh.1, _, hh.2⟩
/-- The contract, at a part. -/
def SRunAt (p : Prg) (pr : PRow) (er : ERow) (b : Nat) (w0 : World) (i : Nat) : Prop := ∀ (j s : Nat) (w : World) (os : Sl) (q q' : Sta) (r : Rz), j ≤ p.body.length → SB w0 w b pr er os q (0, 0) → StaOk p q → q.outs.length + s ≤ 900000 → Runs (2 ^ p.width.toNat) p.body .seq i j s q q' r →
  Calls Tryz.prog 106 #[.pointer (some ⟨b, 0, none⟩), .int .i64 (i : Int), .int .i64 (j : Int)] w fun e w' => e = .returned (.tuple #[]) ∧ ∃ os', SB w0 w' b pr er os' q' r
/-- Where the run of the part stands at k: under way, or stopped. -/
def RelS (S : Nat) (ss : List Stm) (p : Prg) (pr : PRow) (er : ERow) (b : Nat) (w0 : World) (j : Nat) (q' : Sta) (r : Rz) (k : Nat) (wr : World) : Prop :=
  ∃ (t : Nat) (qk : Sta) (ok : Sl) (rk : Rz), SB w0 wr b pr er ok qk rk ∧ StaOk p qk ∧ (rk.1 = 0 → rk = (0, 0) ∧ Runs S ss .seq k j t qk q' r ∧ qk.outs.length + t ≤ 900000) ∧ (rk.1 ≠ 0 → q' = qk ∧ r = rk)
set_option maxRecDepth 20000 in
set_option maxHeartbeats 6400000 in
theorem srun_at (p : Prg) (pr : PRow) (er : ERow) (b : Nat) (w0 : World) (i : Nat) (hcode : codeB p = 0) (hp : ProgAt w0 pr p) (HI : Hid (∀ k, i < k → SRunAt p pr er b w0 k)) : SRunAt p pr er b w0 i := by
  intro j s w os q q' r hj hsb hq hlen hrun
  have HVAL := Lib.hid (fun (w : World) (os : Sl) (q : Sta) (h : SB w0 w b pr er os q (0, 0)) (hq : StaOk p q) => specValue p w0 w b pr er os q (0, 0) hcode hp h hq)
  have HSTM := Lib.hid (fun (w : World) (os : Sl) (q q' : Sta) (r : Rz) (x y : Int) (e1 e2 : Option Addr) (m1 f1 m2 f2 : Nat) (s : Stm) (h : SB w0 w b pr er os q (0, 0)) (hq : StaOk p q) (hg : goodS p s) (hl : q.outs.length < 1000000) (ex : s.op = x) (ey : s.n = y) (h1 : Terms w0 e1 m1 s.at_) (h2 : Terms w0 e2 m2 s.exp) (hB : Basic (2 ^ p.width.toNat) s q q' r) => l6Stmt_any p w0 w b pr er os q y e1 e2 m1 f1 m2 f2 s x q' r hcode hp h hq hg hl ex ey h1 h2 hB)
  have HNM : Hid (∀ s : Stm, goodS p s → s.op = 2 → namesB (2 ^ p.width.toNat) (p.lows.length + p.secrets.length + p.temps.toNat) p.arrays.length s.exp = true) := Lib.hid (fun s h h2 => (goodS_exp h (.inr (.inr (.inl h2)))).1)
  have HGD := Lib.hid (code_good hcode).1
  have h40 : p.body.length ≤ 40 := (code_head hcode).2.2.2.2.2.2.2
  have HOK : Hid (∀ {m : Mode} {i j s : Nat} {q q' : Sta} {r : Rz}, Runs (2 ^ p.width.toNat) p.body m i j s q q' r → StaOk p q → StaOk p q') := Lib.hid (fun h => h.ok (code_good hcode).1)
  have HS := Lib.hid hp.body
  have hpl := hp.body.2.1
  unfold SRunAt at HI
  obtain ⟨S, HSS⟩ : ∃ S : Nat, Hid (2 ^ p.width.toNat = S) := ⟨_, Lib.hid rfl⟩
  obtain ⟨ss, HBD⟩ : ∃ ss, Hid (p.body = ss) := ⟨_, Lib.hid rfl⟩
  simp only [HSS.out, HBD.out] at HI HVAL HSTM HNM HGD HOK HS h40 hj hrun hpl
  have hij := hrun.seq_le
  obtain ⟨wd, ⟨a1, n1, d1⟩, ⟨a2, n2, d2⟩, tp, ⟨a3, n3, d3⟩, ⟨a4, n4, d4⟩, rows⟩ := pr
  simp only [] at HS hpl
  have HL : Hid (ss.length = n4) := Lib.hid hpl
  rw [HL.out] at hj h40
  have f5 := hsb.box.cell (j := 5) rfl
  simp only [slV] at f5
  have HRL : Hid (RelS S ss p ⟨wd, (a1, n1, d1), (a2, n2, d2), tp, (a3, n3, d3), (a4, n4, d4), rows⟩ er b w0 j q' r i w) := Lib.hid ⟨s, q, os, (0, 0), hsb, hq, fun _ => ⟨rfl, hrun, hlen⟩, fun h => absurd rfl h⟩
  clear hpl hsb hq hlen hrun hcode hp HSS HBD
  go_enter Tryz.func106, Tryz.ntmps106
  go_wp2
  go_loopw [7] (fun x wr => ∃ k : Nat, i ≤ k ∧ k ≤ j ∧ x = .int .i64 (k : Int) ∧ Hid (RelS S ss p ⟨wd, (a1, n1, d1), (a2, n2, d2), tp, (a3, n3, d3), (a4, n4, d4), rows⟩ er b w0 j q' r k wr)) (fun x _ => j - (intOf x).toNat)
  case atStart => exact ⟨i, Nat.le_refl _, hij, rfl, HRL⟩
  case round =>
    clear HRL f5 hij
    obtain ⟨k, hik, hkj, rfl, HRL⟩ := hrel
    obtain ⟨t, qk, ok, rk, hsb, hq, hgo, hstop⟩ := HRL.out
    clear HRL
    by_cases hlt : k < j
    case neg =>
      obtain rfl : k = j := by omega
      have HF : Hid (∃ os', SB w0 wr b ⟨wd, (a1, n1, d1), (a2, n2, d2), tp, (a3, n3, d3), (a4, n4, d4), rows⟩ er os' q' r) := Lib.hid (by
        by_cases h0 : rk.1 = 0
        · obtain ⟨e1, h2, _⟩ := hgo h0
          obtain ⟨e3, e4⟩ := runs_none h2
          subst e1 e3 e4
          exact ⟨_, hsb⟩
        · obtain ⟨e1, e2⟩ := hstop h0
          subst e1 e2
          exact ⟨_, hsb⟩)
      clear hgo hstop hsb hq
      go_wp2
      go_end0
      exact ⟨rfl, HF.out⟩
    have f11 := hsb.box.cell (j := 11) rfl
    by_cases h0 : rk.1 = 0
    case neg =>
      obtain ⟨e1, e2⟩ := hstop h0
      subst e1 e2
      have hst : (r.1 != 0) = true := by simpa using h0
      rw [hst] at f11
      have HR := Lib.hid hsb
      clear hgo hstop hsb hq h0 hst
      go_wp2
      go_end0
      exact ⟨rfl, _, HR.out⟩
    obtain ⟨e0, hrun, hln⟩ := hgo h0
    subst e0
    clear hgo hstop h0
    obtain ⟨e, s1, t1, q1, r1, hst, hone, hke, hej, hgo, hstop⟩ := hrun.split hlt
    have HONE := Lib.hid hone
    have HSTOP := Lib.hid hstop
    have HQ := Lib.hid hq
    have HQ1 := Lib.hid (HOK.out hone hq)
    have HLNS : Hid (qk.outs.length + s1 ≤ 900000) := Lib.hid (by omega)
    have DONE : Hid (∀ (wx : World) (ox : Sl), SB w0 wx b ⟨wd, (a1, n1, d1), (a2, n2, d2), tp, (a3, n3, d3), (a4, n4, d4), rows⟩ er ox q1 r1 → ∃ k : Nat, i ≤ k ∧ k ≤ j ∧ (Value.int .i64 ((e : Int) + 1)) = .int .i64 (k : Int) ∧ Hid (RelS S ss p ⟨wd, (a1, n1, d1), (a2, n2, d2), tp, (a3, n3, d3), (a4, n4, d4), rows⟩ er b w0 j q' r k wx)) := Lib.hid (fun wx ox hx => ⟨e + 1, by omega, by omega, by go_num, Lib.hid ⟨t1, q1, ox, r1, hx, HQ1.out, fun h0 => ⟨(hgo h0).1, (hgo h0).2, by have h1 := hone.outs; simp only [roundS] at h1; omega⟩, hstop⟩⟩)
    have hst0 : (((0 : Int), (0 : Int)).1 != 0) = false := rfl
    rw [hst0] at f11
    obtain ⟨b0, o, x, y, p1, m1, c1, p2, m2, c2, ts, us, ea4, hb, hz, hin1, hin2, hc1, hc2, hc3, hc4, hT1, hT2⟩ := HS.out.at_ (k := k) (by omega)
    subst ea4
    have hop : opAt ss k = x := by rw [opAt, hz.out]
    have HGS := Lib.hid (HGD.out k (by rw [HL.out]; omega))
    rw [hz.out] at HGS
    have HZ := Lib.hid hz.out
    have HTT1 := Lib.hid hT1
    have HTT2 := Lib.hid hT2
    have HEND := Lib.hid (l3End_any (some ⟨b0, o, none⟩) n4 d4 rows ss k wr (HS.out.below hsb.bel) (by omega))
    have HR := Lib.hid hsb
    have i1 := (hsb.bel.cell hb).trans hc1
    have i2 := (hsb.bel.cell hb).trans hc2
    have i3 := (hsb.bel.cell hb).trans hc3
    have i4 := (hsb.bel.cell hb).trans hc4
    have HBW := Lib.hid hb
    have HC4 := Lib.hid hc4
    have HC2 := Lib.hid hc2
    clear hst hone hgo hstop hrun hq hln hin1 hin2 hc1 hc2 hc3 hc4 hT1 hT2 hb hz hsb hst0
    by_cases hx : x = 2 ∨ x = 5 ∨ x = 8
    case neg =>
      obtain ⟨ee, es, hbas, hkl⟩ := one_plain HONE.out (by rw [hop]; omega) (by rw [hop]; omega) (by rw [hop]; omega)
      subst ee
      have HBAS := Lib.hid hbas
      rw [HZ.out] at HBAS
      rw [end_plain hkl (by rw [hop]; omega) (by rw [hop]; omega) (by rw [hop]; omega)] at HEND
      have k2 : (x == 2) = false := by simp; omega
      have k5 : (x == 5) = false := by simp; omega
      have k8 : (x == 8) = false := by simp; omega
      clear hx hbas es hkl hop
      go_wp2_with (go_at_call 143; refine HEND.out.mono ?_; rintro e9 w9 ⟨rfl, rfl⟩)
      refine (HSTM.out _ ok qk q1 r1 x y p1 p2 m1 c1 m2 c2 ⟨x, y, ts, us⟩ HR.out HQ.out HGS.out (by have := HLNS.out; omega) rfl rfl HTT1.out HTT2.out HBAS.out).mono ?_
      rintro e9 w2 ⟨rfl, ox, hr⟩
      have HD := Lib.hid (DONE.out w2 ox hr)
      clear hr HR HQ DONE HSTOP HONE HBAS i1 i2 i3 i4 f11
      go_wp2
      go_roundw
      case rel => exact HD.out
      case measure => simp [intOf]; omega
    by_cases hx2 : x = 2
    case pos =>
      subst hx2
      obtain ⟨M, hif⟩ := one_if HONE.out hop
      have HIF := Lib.hid hif
      have HNN := Lib.hid (HNM.out _ HGS.out rfl)
      have hpl := end_places (by rw [HL.out]; omega) hif.ends
      have HEX : Hid ((stAt ss k).exp = us) := Lib.hid (by rw [HZ.out])
      rw [hif.ends] at HEND
      clear hif hop hx
      have hd : Below wr.heap.size wr wr.drew := ⟨rfl, rfl, rfl, Nat.le_refl _, fun _ _ => rfl⟩
      have HD := Lib.hid hd
      have HV1 := Lib.hid ((HVAL.out wr ok qk HR.out HQ.out p2 m2 c2 us HTT2.out HNN.out).out wr.drew hd)
      simp only [progV, envV, slV] at HV1
      obtain ⟨tr, HTR⟩ : ∃ tr, Hid (trS S qk us = tr) := ⟨_, rfl⟩
      obtain ⟨z, HZV⟩ : ∃ z, Hid (vlS S qk us = z) := ⟨_, rfl⟩
      rw [HTR.out, HZV.out] at HV1
      have R1 := HR.out
      have g0 := R1.box.cell (j := 0) rfl
      have g1 := R1.box.cell (j := 1) rfl
      have g2 := R1.box.cell (j := 2) rfl
      have g3 := R1.box.cell (j := 3) rfl
      have g4 := R1.box.cell (j := 4) rfl
      have g5 := R1.box.cell (j := 5) rfl
      have g6 := R1.box.cell (j := 6) rfl
      have g7 := R1.box.cell (j := 7) rfl
      simp only [slV] at g1 g2 g4 g5 g6 g7
      have hkn4 : k < n4 := by omega
      have hkn5 : (0 : Int) ≤ (k : Int) := by omega
      have hkn6 : (k : Int) < (n4 : Int) := by omega
      clear R1 hd
      go_wp2_with (go_at_call 143; refine HEND.out.mono ?_; rintro e9 w9 ⟨rfl, rfl⟩)
      go_region_held2 (fun w' => w'.cell? ⟨b, 0, none⟩ = some (.int .i64 wd) ∧ w'.cell? ⟨b, 1, none⟩ = some (.slice a1 n1 d1) ∧ w'.cell? ⟨b, 2, none⟩ = some (.slice a2 n2 d2) ∧ w'.cell? ⟨b, 3, none⟩ = some (.int .i64 tp) ∧ w'.cell? ⟨b, 4, none⟩ = some (.slice a3 n3 d3) ∧ w'.cell? ⟨b, 5, none⟩ = some (.slice (some ⟨b0, o, none⟩) n4 d4) ∧ w'.cell? ⟨b, 6, none⟩ = some (.slice er.vars.1 er.vars.2.1 er.vars.2.2) ∧ w'.cell? ⟨b, 7, none⟩ = some (.slice er.cells.1 er.cells.2.1 er.cells.2.2) ∧ w'.cell? ⟨b0, o + k * 4 + 3, none⟩ = some (.slice p2 m2 c2)) (first | exact ⟨g0, g1, g2, g3, g4, g5, g6, g7, i4⟩ | exact ⟨h0, h1, h2, h3, h4, h5, h6, h7, u4⟩ | go_keep) (first
        | (go_at_call 144; refine HV1.out.mono ?_; rintro e9 w1 ⟨rfl, hb1⟩; have hb2 := HD.out.trans (hb1.mono HD.out.size); have R2 := HR.out.below hb2; have u4 := (R2.bel.cell HBW.out).trans HC4.out; have h0 := R2.box.cell (j := 0) rfl; have h1 := R2.box.cell (j := 1) rfl; have h2 := R2.box.cell (j := 2) rfl; have h3 := R2.box.cell (j := 3) rfl; have h4 := R2.box.cell (j := 4) rfl; have h5 := R2.box.cell (j := 5) rfl; have h6 := R2.box.cell (j := 6) rfl; have h7 := R2.box.cell (j := 7) rfl; simp only [slV] at h1 h2 h4 h5 h6 h7; clear hb1))
      have HR2 := Lib.hid R2
      clear R2 g0 g1 g2 g3 g4 g5 g6 g7 h0 h1 h2 h3 h4 h5 h6 h7 u4 i1 i2 i3 i4 f11 HV1 HD HEND hb2 HR
      by_cases ht : tr = 0
      case neg =>
        obtain ⟨e3, e4⟩ := HIF.out.trap (by rw [HEX.out, HTR.out]; exact ht)
        subst e3 e4
        obtain ⟨e3, e4⟩ := HSTOP.out (fun h : (2 : Int) = 0 => by omega)
        subst e3 e4
        go_wp2_with fail
        refine (l6Trap_some w0 _ b _ _ _ _ (0, 0) tr ht HR2.out).mono ?_
        rintro e9 w9 ⟨rfl, hr⟩
        rw [← HTR.out, ← HEX.out] at hr
        have HR3 := Lib.hid hr
        clear hr ht HR2 HQ DONE HSTOP HONE HIF
        go_wp2
        refine bodyPost_ret (v := .tuple #[]) (by simp [results, Tryz.results106, go_sem]) rfl ?_
        exact ⟨rfl, _, HR3.out⟩
      subst ht
      by_cases hz0 : z = 0
      · have kz : ((z : Int) != 0) = false := by simp [hz0]
        by_cases hM : M < 0
        · obtain ⟨e3, e4⟩ := HIF.out.no1 (by rw [HEX.out, HTR.out]) (by rw [HEX.out, HZV.out]; exact hz0) hM
          subst e3 e4
          have kM : decide (M ≥ 0) = false := by simp; omega
          have HD := Lib.hid (DONE.out w1 ok HR2.out)
          clear HQ DONE HSTOP HONE HIF hM hz0
          go_wp2_with (go_at_call 145; refine (l6Trap_none _ _).mono ?_; rintro e9 w9 ⟨rfl, rfl⟩)
          go_roundw
          case rel => exact HD.out
          case measure => simp [intOf]; omega
        · obtain ⟨m, rfl⟩ := Int.eq_ofNat_of_zero_le (by omega : 0 ≤ M)
          obtain ⟨s', hs', hr'⟩ := HIF.out.no2 (by rw [HEX.out, HTR.out]) (by rw [HEX.out, HZV.out]; exact hz0) (by omega)
          rw [Int.toNat_natCast] at hr'
          have kM : decide ((m : Int) ≥ 0) = true := by simp
          have HCALL := Lib.hid (HI.out (m + 1) (by omega) e s' w1 ok qk q1 r1 (by rw [HL.out]; omega) HR2.out HQ.out (by have := HLNS.out; omega) hr')
          rw [show ((m + 1 : Nat) : Int) = (m : Int) + 1 by omega] at HCALL
          clear hz0 hM hr'
          go_wp2_with (go_at_call 145; refine (l6Trap_none _ _).mono ?_; rintro e9 w9 ⟨rfl, rfl⟩)
          refine HCALL.out.mono ?_
          rintro e9 w2 ⟨rfl, ox, hr⟩
          have HD := Lib.hid (DONE.out w2 ox hr)
          clear hr HR2 HQ DONE HSTOP HONE HCALL HIF
          go_wp2
          go_roundw
          case rel => exact HD.out
          case measure => simp [intOf]; omega
      · have kz : ((z : Int) != 0) = true := by simp; omega
        obtain ⟨s', hs', hr'⟩ := HIF.out.yes (by rw [HEX.out, HTR.out]) (by rw [HEX.out, HZV.out]; exact hz0)
        by_cases hM : M < 0
        · rw [if_pos hM] at hr'
          have kM : decide (M < 0) = true := by simpa using hM
          have HCALL := Lib.hid (HI.out (k + 1) (by omega) e s' w1 ok qk q1 r1 (by rw [HL.out]; omega) HR2.out HQ.out (by have := HLNS.out; omega) hr')
          rw [show ((k + 1 : Nat) : Int) = (k : Int) + 1 by omega] at HCALL
          clear hz0 hM hr'
          go_wp2_with (go_at_call 145; refine (l6Trap_none _ _).mono ?_; rintro e9 w9 ⟨rfl, rfl⟩)
          refine HCALL.out.mono ?_
          rintro e9 w2 ⟨rfl, ox, hr⟩
          have HD := Lib.hid (DONE.out w2 ox hr)
          clear hr HR2 HQ DONE HSTOP HONE HCALL HIF
          go_wp2
          go_roundw
          case rel => exact HD.out
          case measure => simp [intOf]; omega
        · obtain ⟨m, rfl⟩ := Int.eq_ofNat_of_zero_le (by omega : 0 ≤ M)
          rw [if_neg hM, Int.toNat_natCast] at hr'
          have kM : decide ((m : Int) < 0) = false := by simp
          have HCALL := Lib.hid (HI.out (k + 1) (by omega) m s' w1 ok qk q1 r1 (by rw [HL.out]; omega) HR2.out HQ.out (by have := HLNS.out; omega) hr')
          rw [show ((k + 1 : Nat) : Int) = (k : Int) + 1 by omega] at HCALL
          clear hz0 hM hr'
          go_wp2_with (go_at_call 145; refine (l6Trap_none _ _).mono ?_; rintro e9 w9 ⟨rfl, rfl⟩)
          refine HCALL.out.mono ?_
          rintro e9 w2 ⟨rfl, ox, hr⟩
          have HD := Lib.hid (DONE.out w2 ox hr)
          clear hr HR2 HQ DONE HSTOP HONE HCALL HIF
          go_wp2
          go_roundw
          case rel => exact HD.out
          case measure => simp [intOf]; omega
    by_cases hx5 : x = 5
    case pos =>
      subst hx5
      obtain ⟨jj, s', hends, hyj, h4, hcost, hrnd⟩ := one_loop HONE.out hop
      obtain rfl : y = (jj : Int) := by rw [HZ.out] at hyj; exact hyj
      have hpl := end_places (by rw [HL.out]; omega) hends
      rw [hends] at HEND
      have HRND : Hid (Runs S ss (.rounds (jj - 0)) (k + 1) e s' qk q1 r1) := Lib.hid hrnd
      have HL0 : Hid (qk.outs.length + (jj - 0) * (1 + s') ≤ 900000) := Lib.hid (by have := HLNS.out; rw [← hcost] at this; show qk.outs.length + jj * (1 + s') ≤ 900000; omega)
      clear hop hx hx2 hends hrnd hyj hcost
      go_wp2_with (go_at_call 143; refine HEND.out.mono ?_; rintro e9 w9 ⟨rfl, rfl⟩)
      go_loopw [12] (fun x wr => ∃ (i' : Nat) (qi : Sta) (oi : Sl) (ri : Rz), i' ≤ jj ∧ x = .int .i64 (i' : Int) ∧ Hid (SB w0 wr b ⟨wd, (a1, n1, d1), (a2, n2, d2), tp, (a3, n3, d3), (some ⟨b0, o, none⟩, n4, d4), rows⟩ er oi qi ri) ∧ Hid (StaOk p qi) ∧ Hid (ri.1 = 0 → ri = (0, 0) ∧ Runs S ss (.rounds (jj - i')) (k + 1) e s' qi q1 r1 ∧ qi.outs.length + (jj - i') * (1 + s') ≤ 900000) ∧ Hid (ri.1 ≠ 0 → q1 = qi ∧ r1 = ri)) (fun x _ => jj - (intOf x).toNat)
      case atStart => exact ⟨0, qk, ok, (0, 0), Nat.zero_le _, rfl, HR, HQ, Lib.hid (fun _ => ⟨rfl, HRND.out, HL0.out⟩), Lib.hid (fun h => absurd rfl h)⟩
      case round =>
        clear HRND HL0 HR HQ i1 i2 i3 i4 f11 HEND
        obtain ⟨i', qi, oi, ri, hij', rfl, HBI, HQI, HGI, HSI⟩ := hrel
        have R1 := HBI.out
        have f11 := R1.box.cell (j := 11) rfl
        have g2 := (R1.bel.cell HBW.out).trans HC2.out
        clear R1
        by_cases h0 : ri.1 = 0
        · obtain ⟨e0, hinv, hli⟩ := HGI.out h0
          subst e0
          rw [show (((0 : Int), (0 : Int)).1 != 0) = false from rfl] at f11
          clear h0 HGI HSI
          by_cases hil : i' < jj
          · obtain ⟨ri, hri⟩ : ∃ ri, jj - i' = ri + 1 := ⟨jj - i' - 1, by omega⟩
            rw [hri] at hinv hli
            rw [Nat.add_mul] at hli
            obtain ⟨qa, ra, hbody, hnext, hbad⟩ := rounds_inv hinv
            have hrr : jj - (i' + 1) = ri := by omega
            have HCALL := Lib.hid (HI.out (k + 1) (by omega) e s' _ oi qi qa ra (by rw [HL.out]; omega) HBI.out HQI.out (by omega) hbody)
            rw [show ((k + 1 : Nat) : Int) = (k : Int) + 1 by omega] at HCALL
            have HQA := Lib.hid (HOK.out hbody HQI.out)
            have HNX : Hid (ra.1 = 0 → ra = (0, 0) ∧ Runs S ss (.rounds (jj - (i' + 1))) (k + 1) e s' qa q1 r1 ∧ qa.outs.length + (jj - (i' + 1)) * (1 + s') ≤ 900000) := Lib.hid (fun h => by rw [hrr]; exact ⟨(hnext h).1, (hnext h).2, by have h1 := hbody.outs; simp only [roundS] at h1; omega⟩)
            have HBD2 := Lib.hid hbad
            clear hinv hli hbody hnext hbad hri hrr
            go_wp2_with fail
            refine HCALL.out.mono ?_
            rintro e9 w2 ⟨rfl, ox, hr⟩
            have HR3 := Lib.hid hr
            clear hr HCALL HBI HQI f11 g2
            go_wp2
            go_roundw
            case rel => exact ⟨i' + 1, qa, ox, ra, by omega, by go_num, HR3, HQA, HNX, HBD2⟩
            case measure => simp [intOf]; omega
          · obtain rfl : i' = jj := by omega
            rw [Nat.sub_self] at hinv
            obtain ⟨e3, e4⟩ := rounds_zero hinv
            subst e3 e4
            have HD := Lib.hid (DONE.out _ oi HBI.out)
            clear hinv hli HQI HBI DONE HSTOP HONE
            go_wp2
            go_roundw
            case rel => exact HD.out
            case measure => simp [intOf]; omega
        · obtain ⟨e3, e4⟩ := HSI.out h0
          subst e3 e4
          have hst : (r1.1 != 0) = true := by simpa using h0
          rw [hst] at f11
          have HD := Lib.hid (DONE.out _ oi HBI.out)
          clear hst h0 HQI HBI DONE HSTOP HONE HGI HSI
          by_cases hil : i' < jj
          · go_wp2
            go_roundw
            case rel => exact HD.out
            case measure => simp [intOf]; omega
          · go_wp2
            go_roundw
            case rel => exact HD.out
            case measure => simp [intOf]; omega
    obtain rfl : x = 8 := by omega
    obtain ⟨m, sa, sb, qa, ra, htry⟩ := one_try HONE.out hop
    have HTRY := Lib.hid htry
    have hpl := end_places (by rw [HL.out]; omega) htry.ends
    have hmm : k < m ∧ m < e := by omega
    rw [htry.ends] at HEND
    have HQA := Lib.hid (HOK.out htry.body HQ.out)
    have HLA : Hid (qa.outs.length + sb ≤ 900000) := Lib.hid (by have h1 := htry.body.outs; have h2 := HLNS.out; have h3 := htry.cost; simp only [roundS] at h1; omega)
    have hfin := htry.body.fin
    obtain ⟨b9, o9, x9, y9, p3, m3, d3', p4, m4, d4', ts9, us9, hba, _, hz9, _, _, g1, g2, g3, g4, _⟩ := HS.out.at_ (k := m) (by omega)
    injection hba with hba
    injection hba with hb9 ho9
    subst hb9 ho9
    have HCN : Hid ((stAt ss m).n = y9) := Lib.hid (by rw [hz9.out])
    have HG2 := Lib.hid g2
    have HCALL := Lib.hid (HI.out (k + 1) (by omega) m sa wr ok qk qa ra (by rw [HL.out]; omega) HR.out HQ.out (by have := HLNS.out; have := htry.cost; omega) htry.body)
    rw [show ((k + 1 : Nat) : Int) = (k : Int) + 1 by omega] at HCALL
    have hmn4 : m < n4 := by omega
    clear htry hop hx hx2 hx5 g1 g2 g3 g4 HR HQ
    go_wp2_with (go_at_call 143; refine HEND.out.mono ?_; rintro e9 w9 ⟨rfl, rfl⟩)
    refine HCALL.out.mono ?_
    rintro e9 w1 ⟨rfl, oa, R1⟩
    clear HCALL i1 i2 i3 i4 f11 HEND
    have g2 := lat_cell (Nat.lt_of_lt_of_le HBW.out R1.bel.size) ((R1.bel.cell HBW.out).trans HG2.out)
    have f9 := lat_cell R1.box.lt (R1.box.cell (j := 9) rfl)
    have f10 := lat_cell R1.box.lt (R1.box.cell (j := 10) rfl)
    have f11 := lat_cell R1.box.lt (R1.box.cell (j := 11) rfl)
    have HR1 := Lib.hid R1
    rcases hfin with rfl | ⟨nn, rfl⟩ | rfl | rfl
    · obtain ⟨e3, e4⟩ := HTRY.out.pass (by rw [HCN.out]; intro h; injection h with h; omega)
      subst e3 e4
      rw [show (((0 : Int), (0 : Int)).1 != 0) = false from rfl] at f11
      clear R1
      go_wp2_with fail
      refine wp_region_lat (by kernel_rfl) (by kernel_rfl) ?_
      repeat (go_big_quiet_step (fail))
      refine wpQuiet_nil ?_
      intro _ hw'
      obtain ⟨⟨wq, hwq⟩, hw''⟩ := hw'
      subst hw''
      have R1 := HR1.out
      have HD := Lib.hid (DONE.out _ oa (R1.below hwq))
      clear R1 f9 f10 f11 g2 DONE HSTOP HONE HTRY
      go_wp2
      go_roundw
      case rel => exact HD.out
      case measure => simp [intOf]; omega
    · rw [show (((1 : Int), nn).1 != 0) = true from rfl] at f11
      by_cases hnc : nn = y9
      · have HTK := Lib.hid (HTRY.out.take (by rw [HCN.out, hnc]))
        have kc : (nn == y9) = true := by simpa using hnc
        clear R1
        go_wp2_with fail
        refine wp_region_lat (by kernel_rfl) (by kernel_rfl) ?_
        repeat (go_big_quiet_step (fail))
        refine wpQuiet_nil ?_
        intro _ hw'
        obtain ⟨⟨wq, hwq⟩, hw''⟩ := hw'
        subst hw''
        have R2 := HR1.out.below hwq
        have f9' := R2.box.cell (j := 9) rfl
        have f10' := R2.box.cell (j := 10) rfl
        have f11' := R2.box.cell (j := 11) rfl
        have z9 := R2.box.frozen 9
        have z10 := R2.box.frozen 10
        have z11 := R2.box.frozen 11
        have HR3 := Lib.hid R2.clears
        clear R2 f9 f10 f11 g2 hnc kc HR1
        have HCL2 := Lib.hid (HI.out (m + 1) (by omega) e sb _ oa qa q1 r1 (by rw [HL.out]; omega) HR3.out HQA.out HLA.out HTK.out)
        rw [show ((m + 1 : Nat) : Int) = (m : Int) + 1 by omega] at HCL2
        go_wp2_with fail
        refine HCL2.out.mono ?_
        rintro e9 w2 ⟨rfl, ox, hr⟩
        have HD := Lib.hid (DONE.out w2 ox hr)
        clear hr HR3 HCL2 HTK DONE HSTOP HONE HTRY f9' f10' f11' z9 z10 z11
        go_wp2
        go_roundw
        case rel => exact HD.out
        case measure => simp [intOf]; omega
      · obtain ⟨e3, e4⟩ := HTRY.out.pass (by rw [HCN.out]; intro h; injection h with _ h; exact hnc h)
        subst e3 e4
        have kc : (nn == y9) = false := by simpa using hnc
        clear R1
        go_wp2_with fail
        refine wp_region_lat (by kernel_rfl) (by kernel_rfl) ?_
        repeat (go_big_quiet_step (fail))
        refine wpQuiet_nil ?_
        intro _ hw'
        obtain ⟨⟨wq, hwq⟩, hw''⟩ := hw'
        subst hw''
        have R1 := HR1.out
        have HD := Lib.hid (DONE.out _ oa (R1.below hwq))
        clear R1 f9 f10 f11 g2 DONE HSTOP HONE HTRY
        go_wp2
        go_roundw
        case rel => exact HD.out
        case measure => simp [intOf]; omega
    · obtain ⟨e3, e4⟩ := HTRY.out.pass (by rw [HCN.out]; intro h; injection h with h; omega)
      subst e3 e4
      rw [show (((2 : Int), (1 : Int)).1 != 0) = true from rfl] at f11
      clear R1
      go_wp2_with fail
      refine wp_region_lat (by kernel_rfl) (by kernel_rfl) ?_
      repeat (go_big_quiet_step (fail))
      refine wpQuiet_nil ?_
      intro _ hw'
      obtain ⟨⟨wq, hwq⟩, hw''⟩ := hw'
      subst hw''
      have R1 := HR1.out
      have HD := Lib.hid (DONE.out _ oa (R1.below hwq))
      clear R1 f9 f10 f11 g2 DONE HSTOP HONE HTRY
      go_wp2
      go_roundw
      case rel => exact HD.out
      case measure => simp [intOf]; omega
    · obtain ⟨e3, e4⟩ := HTRY.out.pass (by rw [HCN.out]; intro h; injection h with h; omega)
      subst e3 e4
      rw [show (((2 : Int), (2 : Int)).1 != 0) = true from rfl] at f11
      clear R1
      go_wp2_with fail
      refine wp_region_lat (by kernel_rfl) (by kernel_rfl) ?_
      repeat (go_big_quiet_step (fail))
      refine wpQuiet_nil ?_
      intro _ hw'
      obtain ⟨⟨wq, hwq⟩, hw''⟩ := hw'
      subst hw''
      have R1 := HR1.out
      have HD := Lib.hid (DONE.out _ oa (R1.below hwq))
      clear R1 f9 f10 f11 g2 DONE HSTOP HONE HTRY
      go_wp2
      go_roundw
      case rel => exact HD.out
      case measure => simp [intOf]; omega
theorem srun_all (p : Prg) (pr : PRow) (er : ERow) (b : Nat) (w0 : World) (hcode : codeB p = 0) (hp : ProgAt w0 pr p) : ∀ (d i : Nat), p.body.length - i ≤ d → SRunAt p pr er b w0 i
  | 0, i, hd => by
    refine srun_at p pr er b w0 i hcode hp (Lib.hid (fun k hk => ?_))
    intro j s w os q q' r hj _ _ _ hrun
    have := hrun.seq_le
    omega
  | d + 1, i, hd => srun_at p pr er b w0 i hcode hp (Lib.hid (fun k hk => srun_all p pr er b w0 hcode hp d k (by omega)))
end Go.Proofs.YtmooecbdpfhnlaaGreat
/- The contracts of the model's l6All, RunOf and AfterOf. -/
namespace Go.Proofs.YtmooecbdpfhnlaaGreat
open Go.RowKit

/-- What l6All leaves: the box of the run. -/
def AllTold (w : World) (b : Bool) (q : Sta) (rr : Rz) (e : Ending) (w' : World) : Prop :=
  Below w.heap.size w w' ∧ ∃ (k : Nat) (er : ERow) (os : Sl) (v0 v1 v2 v3 v4 v5 v6 : Value), e = .returned (.tuple #[.pointer (some ⟨k, 0, none⟩), .bool b]) ∧
    Blk w' k 109 [v0, v1, v2, v3, v4, v5, slV er.vars, slV er.cells, slV os, .int .i64 rr.1, .int .i64 rr.2, v6] ∧ EnvMem w' w.heap.size er os q
set_option maxRecDepth 20000 in
set_option maxHeartbeats 3200000 in
theorem l6All_any (r : PRow) (p : Prg) (a a' : Option Addr) (n c n' c' : Nat) (ls ss : List Int) (w : World) (h : ProgAt w r p) (h1 : Ints w a n ls) (h2 : Ints w a' n' ss) :
    Calls Tryz.prog 63 #[progV r, .slice a n c, .slice a' n' c'] w (AllTold w (startB p ls ss) (runX p ls ss).1 (runX p ls ss).2) := by
  have HP := Lib.hid h
  have HI1 := Lib.hid h1
  have HI2 := Lib.hid h2
  clear h h1 h2
  have HST : Hid (∀ w', Below w.heap.size w w' → Calls Tryz.prog 105 #[progV r, .slice a n c, .slice a' n' c'] w' (Started w' p ls ss)) := Lib.hid (fun w' hb => specStartOf_any r p a a' n c n' c' ls ss w' (HP.out.below hb) (HI1.out.below hb) (HI2.out.below hb))
  cases h0 : startB p ls ss with
  | false =>
    have HS : Hid (∀ w', Below w.heap.size w w' → Calls Tryz.prog 105 #[progV r, .slice a n c, .slice a' n' c'] w' fun e w'' => e = .returned (.tuple #[.agg #[.slice none 0 0, .slice none 0 0], .bool false]) ∧ Below w'.heap.size w' w'') := Lib.hid (fun w' hb => (HST.out w' hb).mono (fun e w'' hh => by
      obtain ⟨hb, ⟨hx, _⟩ | ⟨_, he⟩⟩ := hh
      · rw [h0] at hx; cases hx
      · exact ⟨he, hb⟩))
    rw [runX_no h0]
    clear HST HP HI1 HI2 h0
    obtain ⟨wd, ⟨a1, n1, c1⟩, ⟨a2, n2, c2⟩, tp, ⟨a3, n3, c3⟩, ⟨a4, n4, c4⟩, rows⟩ := r
    simp only [progV, slV] at HS
    show Calls Tryz.prog 63 #[.agg #[.int .i64 wd, .slice a1 n1 c1, .slice a2 n2 c2, .int .i64 tp, .slice a3 n3 c3, .slice a4 n4 c4], .slice a n c, .slice a' n' c'] w _
    obtain ⟨wa, HW⟩ : ∃ wa, Hid (wa = w.alloc (.cells #[.int .i64 wd, .slice a1 n1 c1, .slice a2 n2 c2, .int .i64 tp, .slice a3 n3 c3, .slice a4 n4 c4] 31)) := ⟨_, rfl⟩
    have B0 : Blk wa w.heap.size 31 [.int .i64 wd, .slice a1 n1 c1, .slice a2 n2 c2, .int .i64 tp, .slice a3 n3 c3, .slice a4 n4 c4] := by rw [HW.out]; exact Blk.new w _ _
    have HB : Below w.heap.size w wa := by rw [HW.out]; exact (Below.refl _ _).alloc (Nat.le_refl _) _
    go_enter Tryz.func63, Tryz.ntmps63
    go_wp2_with fail
    rw [← HW.out]
    refine (HS.out _ HB).mono ?_
    rintro e w1 ⟨rfl, hb1⟩
    obtain ⟨wb, HWB⟩ : ∃ wb, Hid (wb = w1.alloc (.cells #[.slice none 0 0, .slice none 0 0] 90)) := ⟨_, rfl⟩
    have hbw : Below w1.heap.size w1 wb := by rw [HWB.out]; exact (Below.refl _ _).alloc (Nat.le_refl _) _
    have B1 := (B0.below hb1 B0.lt).below hbw (B0.below hb1 B0.lt).lt
    have t0 := B1.cell (j := 0) rfl
    have t1 := B1.cell (j := 1) rfl
    have t2 := B1.cell (j := 2) rfl
    have t3 := B1.cell (j := 3) rfl
    have t4 := B1.cell (j := 4) rfl
    have t5 := B1.cell (j := 5) rfl
    have hab : Below w.heap.size w wb := (HB.trans (hb1.mono HB.size)).trans (hbw.mono (HB.trans (hb1.mono HB.size)).size)
    have HF : Hid (AllTold w false ⟨[], [], []⟩ (0, 0) (.returned (.tuple #[.pointer (some ⟨wb.heap.size, 0, none⟩), .bool false])) (wb.alloc (.cells #[.int .i64 wd, .slice a1 n1 c1, .slice a2 n2 c2, .int .i64 tp, .slice a3 n3 c3, .slice a4 n4 c4, .slice none 0 0, .slice none 0 0, .slice none 0 0, .int .i64 0, .int .i64 0, .bool false] 109))) := Lib.hid
      ⟨hab.alloc hab.size _, wb.heap.size, ⟨(none, 0, 0), (none, 0, 0), []⟩, (none, 0, 0), _, _, _, _, _, _, _, rfl, Blk.new wb _ _, envMem_none _ _⟩
    rw [HWB.out] at t0 t1 t2 t3 t4 t5 HF
    clear HWB hbw B0 B1 HB HS HW hb1 hab
    go_wp2
    go_ret2
    simpa using HF.out
  | true =>
    obtain ⟨s, hs, hrun⟩ := runX_spec h0
    have HS : Hid (∀ w', Below w.heap.size w w' → Calls Tryz.prog 105 #[progV r, .slice a n c, .slice a' n' c'] w' fun e w'' => ∃ er : ERow, e = .returned (.tuple #[envV er, .bool true]) ∧ EnvMem w'' w'.heap.size er (none, 0, 0) (startQ p ls ss) ∧ Below w'.heap.size w' w'') := Lib.hid (fun w' hb => (HST.out w' hb).mono (fun e w'' hh => by
      obtain ⟨hb, ⟨_, er, he, hm⟩ | ⟨hx, _⟩⟩ := hh
      · exact ⟨er, he, hm, hb⟩
      · rw [h0] at hx; cases hx))
    have hlen : p.body.length = r.body.2.1 := HP.out.body.2.1
    have HR : Hid (∀ (w0 w' : World) (b : Nat) (er : ERow), Below w.heap.size w w0 → SB w0 w' b r er (none, 0, 0) (startQ p ls ss) (0, 0) → Calls Tryz.prog 106 #[.pointer (some ⟨b, 0, none⟩), .int .i64 0, .int .i64 (r.body.2.1 : Int)] w' fun e w'' => e = .returned (.tuple #[]) ∧ ∃ os', SB w0 w'' b r er os' (runX p ls ss).1 (runX p ls ss).2) := Lib.hid (fun w0 w' b er hb hsb => by
      rw [← hlen]
      exact srun_all p r er b w0 (startB_ok h0) (HP.out.below hb) p.body.length 0 (by omega) p.body.length s w' (none, 0, 0) (startQ p ls ss) _ _ (Nat.le_refl _) hsb (start_ok h0) (by simp [startQ]; omega) hrun)
    clear HST HP HI1 HI2 h0 hs hrun hlen
    obtain ⟨Q, HQ⟩ : ∃ Q, Hid (runX p ls ss = Q) := ⟨_, Lib.hid rfl⟩
    obtain ⟨q0, HQ0⟩ : ∃ q, Hid (startQ p ls ss = q) := ⟨_, Lib.hid rfl⟩
    simp only [HQ.out, HQ0.out] at HR HS
    rw [HQ.out]
    obtain ⟨Q1, en, co⟩ := Q
    obtain ⟨wd, ⟨a1, n1, c1⟩, ⟨a2, n2, c2⟩, tp, ⟨a3, n3, c3⟩, ⟨a4, n4, c4⟩, rows⟩ := r
    simp only [progV, slV] at HS
    simp only [] at HR
    show Calls Tryz.prog 63 #[.agg #[.int .i64 wd, .slice a1 n1 c1, .slice a2 n2 c2, .int .i64 tp, .slice a3 n3 c3, .slice a4 n4 c4], .slice a n c, .slice a' n' c'] w _
    obtain ⟨wa, HW⟩ : ∃ wa, Hid (wa = w.alloc (.cells #[.int .i64 wd, .slice a1 n1 c1, .slice a2 n2 c2, .int .i64 tp, .slice a3 n3 c3, .slice a4 n4 c4] 31)) := ⟨_, rfl⟩
    have B0 : Blk wa w.heap.size 31 [.int .i64 wd, .slice a1 n1 c1, .slice a2 n2 c2, .int .i64 tp, .slice a3 n3 c3, .slice a4 n4 c4] := by rw [HW.out]; exact Blk.new w _ _
    have HB : Below w.heap.size w wa := by rw [HW.out]; exact (Below.refl _ _).alloc (Nat.le_refl _) _
    go_enter Tryz.func63, Tryz.ntmps63
    go_wp2_with fail
    rw [← HW.out]
    refine (HS.out _ HB).mono ?_
    rintro e w1 ⟨⟨⟨va, vn, vc⟩, ⟨ca, cn, cc⟩, rws⟩, rfl, hm, hb1⟩
    simp only [envV, slV]
    obtain ⟨wb, HWB⟩ : ∃ wb, Hid (wb = w1.alloc (.cells #[.slice va vn vc, .slice ca cn cc] 90)) := ⟨_, rfl⟩
    have hbw : Below w1.heap.size w1 wb := by rw [HWB.out]; exact (Below.refl _ _).alloc (Nat.le_refl _) _
    have B1 := (B0.below hb1 B0.lt).below hbw (B0.below hb1 B0.lt).lt
    have t0 := B1.cell (j := 0) rfl
    have t1 := B1.cell (j := 1) rfl
    have t2 := B1.cell (j := 2) rfl
    have t3 := B1.cell (j := 3) rfl
    have t4 := B1.cell (j := 4) rfl
    have t5 := B1.cell (j := 5) rfl
    have hab : Below wa.heap.size wa wb := hb1.trans (hbw.mono hb1.size)
    have hm := hm.below hbw
    obtain ⟨wc, HWC⟩ : ∃ wc, Hid (wc = wb.alloc (.cells #[.int .i64 wd, .slice a1 n1 c1, .slice a2 n2 c2, .int .i64 tp, .slice a3 n3 c3, .slice a4 n4 c4, .slice va vn vc, .slice ca cn cc, .slice none 0 0, .int .i64 0, .int .i64 0, .bool false] 109)) := ⟨_, rfl⟩
    have hbc : Below wb.heap.size wb wc := by rw [HWC.out]; exact (Below.refl _ _).alloc (Nat.le_refl _) _
    have hac : Below wa.heap.size wa wc := hab.trans (hbc.mono hab.size)
    have SX : SB wa wc wb.heap.size ⟨wd, (a1, n1, c1), (a2, n2, c2), tp, (a3, n3, c3), (a4, n4, c4), rows⟩ ⟨(va, vn, vc), (ca, cn, cc), rws⟩ (none, 0, 0) q0 (0, 0) := ⟨hac, hab.size, by rw [HWC.out]; exact Blk.new wb _ _, hm.below hbc⟩
    have HRC := Lib.hid (HR.out wa wc wb.heap.size _ HB SX)
    have u5 := (B1.below hbc B1.lt).cell (j := 5) rfl
    have HBW := Lib.hid HB
    rw [HWB.out] at t0 t1 t2 t3 t4 t5
    rw [HWC.out] at u5
    rw [HWB.out] at u5
    clear B0 B1 HB HS hbw hb1 hab hm hbc hac SX HR HW
    go_wp2_with fail
    rw [← HWB.out, ← HWC.out]
    rw [show w1.heap.size + 1 = wb.heap.size by rw [HWB.out]; simp]
    refine HRC.out.mono ?_
    rintro e w2 ⟨rfl, ⟨oa, on, oc⟩, hr⟩
    have HF : Hid (AllTold w true Q1 (en, co) (.returned (.tuple #[.pointer (some ⟨wb.heap.size, 0, none⟩), .bool true])) w2) := Lib.hid
      ⟨HBW.out.trans (hr.bel.mono HBW.out.size), wb.heap.size, _, _, _, _, _, _, _, _, _, rfl, hr.box, hr.mem.base HBW.out.size⟩
    clear hr HRC t0 t1 t2 t3 t4 t5 u5 HWB HWC
    go_wp2
    go_ret2
    exact HF.out
set_option maxRecDepth 20000 in
set_option maxHeartbeats 3200000 in
theorem specRunOf_ans (r : PRow) (p : Prg) (a a' : Option Addr) (n c n' c' : Nat) (ls ss : List Int) (w : World) (h : ProgAt w r p) (h1 : Ints w a n ls) (h2 : Ints w a' n' ss) :
    Calls Tryz.prog 19 #[progV r, .slice a n c, .slice a' n' c'] w (AnsOc w (startB p ls ss) (outR p ls ss) (endR p ls ss)) := by
  have HA : Hid (∀ w', Below w.heap.size w w' → Calls Tryz.prog 63 #[progV r, .slice a n c, .slice a' n' c'] w' (AllTold w' (startB p ls ss) (runX p ls ss).1 (runX p ls ss).2)) := Lib.hid (fun w' hb => l6All_any r p a a' n c n' c' ls ss w' (h.below hb) (h1.below hb) (h2.below hb))
  unfold outR endR
  obtain ⟨Q, HQ⟩ : ∃ Q, Hid (runX p ls ss = Q) := ⟨_, Lib.hid rfl⟩
  obtain ⟨Z, HZ⟩ : ∃ Z, Hid (startB p ls ss = Z) := ⟨_, Lib.hid rfl⟩
  rw [HQ.out, HZ.out] at HA ⊢
  obtain ⟨Q1, en, co⟩ := Q
  clear h h1 h2 HQ HZ
  obtain ⟨wd, ⟨a1, n1, c1⟩, ⟨a2, n2, c2⟩, tp, ⟨a3, n3, c3⟩, ⟨a4, n4, c4⟩, rows⟩ := r
  simp only [progV, slV] at HA
  show Calls Tryz.prog 19 #[.agg #[.int .i64 wd, .slice a1 n1 c1, .slice a2 n2 c2, .int .i64 tp, .slice a3 n3 c3, .slice a4 n4 c4], .slice a n c, .slice a' n' c'] w _
  obtain ⟨wa, HW⟩ : ∃ wa, Hid (wa = (w.alloc (.cells #[.int .i64 wd, .slice a1 n1 c1, .slice a2 n2 c2, .int .i64 tp, .slice a3 n3 c3, .slice a4 n4 c4] 31)).alloc (.cells #[.slice none 0 0, .int .i64 0, .int .i64 0] 43)) := ⟨_, rfl⟩
  have NX : TwoB w wa 31 [.int .i64 wd, .slice a1 n1 c1, .slice a2 n2 c2, .int .i64 tp, .slice a3 n3 c3, .slice a4 n4 c4] 43 [.slice none 0 0, .int .i64 0, .int .i64 0] := by rw [HW.out]; exact twob_new w _ _ _ _
  go_enter Tryz.func19, Tryz.ntmps19
  go_wp2_with fail
  rw [← HW.out]
  refine (HA.out _ NX.bel).mono ?_
  rintro e w1 ⟨hb1, k, er, ⟨oa, on, oc⟩, v0, v1, v2, v3, v4, v5, v6, rfl, hbk, hm⟩
  have N1 := NX.below hb1
  have hlt := NX.lt
  have k8 := hbk.cell (j := 8) rfl
  have k9 := hbk.cell (j := 9) rfl
  have k10 := hbk.cell (j := 10) rfl
  simp only [slV] at k8
  have q0 := N1.res.cell (j := 0) rfl
  have q1 := N1.res.cell (j := 1) rfl
  have q2 := N1.res.cell (j := 2) rfl
  have f0 := N1.res.frozen 0
  have f1 := N1.res.frozen 1
  have f2 := N1.res.frozen 2
  have N3 := (((N1.res.set (j := 0) (.slice oa on oc)).set (j := 1) (.int .i64 en)).set (j := 2) (.int .i64 co))
  have e0 := N3.cell (j := 0) rfl
  have e1 := N3.cell (j := 1) rfl
  have e2 := N3.cell (j := 2) rfl
  have HF := Lib.hid (below_set3 N1.bel (.slice oa on oc) (.int .i64 en) (.int .i64 co))
  have HO := Lib.hid ((((hm.outs.set (j := 0) hlt (.slice oa on oc)).set (j := 1) hlt (.int .i64 en)).set (j := 2) hlt (.int .i64 co)).base NX.bel.size)
  clear NX N1 N3 hb1 HW HA hm hbk
  go_wp2
  refine bodyPost_ret (v := .tuple #[.agg #[.slice oa on oc, .int .i64 en, .int .i64 co], .bool Z]) (by simp [results, Tryz.results19, go_sem, e0, e1, e2]) rfl ?_
  exact ⟨HF.out, (oa, on, oc), rfl, HO.out⟩
end Go.Proofs.YtmooecbdpfhnlaaGreat
/- Inputs in plain mathematics: how many there are, their numbers, their bits. -/
namespace Go.Proofs.YtmooecbdpfhnlaaGreat
open Go.RowKit

/-- The Maxes. -/
def maxesL (ts : List Tm) : List Int := ts.map (fun t => t.1)
def maxesP (p : Prg) : List Int := maxesL (p.lows ++ p.secrets)
/-- Right Maxes: at most six, of eight bits each. -/
def MaxOk (ms : List Int) : Prop := ms.length ≤ 6 ∧ ∀ i, i < ms.length → 0 ≤ ms.getD i 0 ∧ ms.getD i 0 ≤ 255
theorem tmAt_app_left {ts us : List Tm} {i : Nat} (h : i < ts.length) : tmAt (ts ++ us) i = tmAt ts i := by
  simp [tmAt, List.getD_eq_getElem?_getD, List.getElem?_append_left h]
theorem tmAt_app_right {ts us : List Tm} (i : Nat) : tmAt (ts ++ us) (ts.length + i) = tmAt us i := by
  simp only [tmAt, List.getD_eq_getElem?_getD]
  rw [List.getElem?_append_right (by omega), show ts.length + i - ts.length = i by omega]
theorem maxesL_getD {ts : List Tm} {i : Nat} (h : i < ts.length) : (maxesL ts).getD i 0 = (tmAt ts i).1 := by
  simp [maxesL, tmAt, List.getD_eq_getElem?_getD, List.getElem?_eq_getElem h]
theorem maxesL_len (ts : List Tm) : (maxesL ts).length = ts.length := by simp [maxesL]
theorem small_app {ts us : List Tm} (h1 : Small ts) (h2 : Small us) : Small (ts ++ us) := by
  intro i hi
  rcases Nat.lt_or_ge i ts.length with h | h
  · rw [tmAt_app_left h]; exact h1 i h
  · obtain ⟨j, rfl⟩ : ∃ j, i = ts.length + j := ⟨i - ts.length, by omega⟩
    rw [tmAt_app_right]
    exact h2 j (by simp at hi; omega)
theorem small_in {ts : List Tm} (h : Small ts) (hl : ts.length ≤ 6) : MaxOk (maxesL ts) :=
  ⟨by rw [maxesL_len]; exact hl, fun i hi => by rw [maxesL_len] at hi; rw [maxesL_getD hi]; exact h i hi⟩
/-- What a right program's inputs are. -/
theorem code_inputs {p : Prg} (h : codeB p = 0) : p.lows.length ≤ 3 ∧ p.secrets.length ≤ 3 ∧ Small (p.lows ++ p.secrets) ∧ bitsTo p.lows p.lows.length + bitsTo p.secrets p.secrets.length ≤ 10 := by
  obtain ⟨hi, hr⟩ := code_parts h
  simp only [inpB, Bool.and_eq_true] at hi
  have hw : 1 ≤ p.width ∧ p.width ≤ 8 := by
    unfold codeB at h
    split at h
    · exact absurd h (by decide)
    · rename_i h1; simpa using h1
  have hS : 2 ^ p.width.toNat ≤ 2 ^ 8 := Nat.pow_le_pow_right (by omega) (by omega)
  have h1 := small_of (by omega) hi.1.1
  have h2 := small_of (by omega) hi.1.2
  have h3 := hi.1.1
  have h4 := hi.1.2
  have h5 := hi.2
  simp only [inputsB, Bool.and_eq_true, decide_eq_true_eq] at h3 h4 h5
  exact ⟨h3.2, h4.2, small_app h1 h2, by omega⟩
theorem code_max {p : Prg} (h : codeB p = 0) : MaxOk (maxesP p) := by
  obtain ⟨h1, h2, h3, _⟩ := code_inputs h
  exact small_in h3 (by simp; omega)
/-- How many the first k make. -/
def countTo (ms : List Int) : Nat → Int
  | 0 => 1
  | k + 1 => countTo ms k * (ms.getD k 0 + 1)
theorem countTo_pos {ms : List Int} (h : MaxOk ms) : ∀ k, k ≤ ms.length → 1 ≤ countTo ms k ∧ countTo ms k ≤ ((256 ^ k : Nat) : Int)
  | 0, _ => by simp [countTo]
  | k + 1, hk => by
    obtain ⟨h1, h2⟩ := countTo_pos h k (by omega)
    obtain ⟨h3, h4⟩ := h.2 k (by omega)
    rw [countTo]
    generalize countTo ms k = c at h1 h2 ⊢
    generalize ms.getD k 0 = m at h3 h4 ⊢
    refine ⟨?_, ?_⟩
    · have : 1 * 1 ≤ c * (m + 1) := Int.mul_le_mul h1 (by omega) (by omega) (by omega)
      omega
    · have : c * (m + 1) ≤ ((256 ^ k : Nat) : Int) * 256 := Int.mul_le_mul h2 (by omega) (by omega) (by omega)
      rw [Nat.pow_succ, Int.natCast_mul]
      exact this
/-- Answers. -/
noncomputable def countB (p : Prg) : Int := if codeB p = 0 then countTo (maxesP p) (maxesP p).length else -1
noncomputable def bitsInB (p : Prg) : Int := if codeB p = 0 then ((bitsTo p.lows p.lows.length + bitsTo p.secrets p.secrets.length : Nat) : Int) else -1
theorem bitsTo_left {ts us : List Tm} : ∀ k, k ≤ ts.length → bitsTo (ts ++ us) k = bitsTo ts k
  | 0, _ => rfl
  | k + 1, hk => by rw [bitsTo, bitsTo, bitsTo_left k (by omega), tmAt_app_left (by omega)]
theorem bitsTo_right {ts us : List Tm} : ∀ k, bitsTo (ts ++ us) (ts.length + k) = bitsTo ts ts.length + bitsTo us k
  | 0 => by rw [Nat.add_zero, bitsTo_left _ (Nat.le_refl _)]; rfl
  | k + 1 => by rw [← Nat.add_assoc, bitsTo, bitsTo_right k, tmAt_app_right]; rw [bitsTo]; omega
theorem bitsTo_app (ts us : List Tm) : bitsTo (ts ++ us) (ts ++ us).length = bitsTo ts ts.length + bitsTo us us.length := by
  rw [List.length_append, bitsTo_right]
/-- The number of the values from the i-th on. -/
def numFrom (ms zs : List Int) : Nat → Int
  | 0 => 0
  | k + 1 => numFrom ms zs k * (ms.getD (ms.length - 1 - k) 0 + 1) + zs.getD (ms.length - 1 - k) 0
end Go.Proofs.YtmooecbdpfhnlaaGreat
/- The number of an input, its bits: plain mathematics. -/
namespace Go.Proofs.YtmooecbdpfhnlaaGreat
open Go.RowKit

theorem getD_app_left {zs ys : List Int} {i : Nat} (h : i < zs.length) : (zs ++ ys).getD i 0 = zs.getD i 0 := by
  simp [List.getD_eq_getElem?_getD, List.getElem?_append_left h]
theorem getD_app_right {zs ys : List Int} (i : Nat) : (zs ++ ys).getD (zs.length + i) 0 = ys.getD i 0 := by
  simp only [List.getD_eq_getElem?_getD]
  rw [List.getElem?_append_right (by omega), show zs.length + i - zs.length = i by omega]
theorem maxesP_len (p : Prg) : (maxesP p).length = p.lows.length + p.secrets.length := by rw [maxesP, maxesL_len, List.length_append]
/-- A start's values: each from 0 to its Max. -/
theorem start_in {p : Prg} {ls ss : List Int} (h : startB p ls ss = true) : (ls ++ ss).length = (maxesP p).length ∧ ∀ i, i < (maxesP p).length → 0 ≤ (ls ++ ss).getD i 0 ∧ (ls ++ ss).getD i 0 ≤ (maxesP p).getD i 0 := by
  have h' : (codeB p == 0 && (areB p.lows ls && areB p.secrets ss)) = true := h
  simp only [Bool.and_eq_true, beq_iff_eq] at h'
  obtain ⟨_, h1, h2⟩ := h'
  obtain ⟨l1, a1⟩ := areB_ok h1
  obtain ⟨l2, a2⟩ := areB_ok h2
  refine ⟨by rw [maxesP_len, List.length_append]; omega, fun i hi => ?_⟩
  rw [maxesP_len] at hi
  rw [maxesP, maxesL_getD (by rw [List.length_append]; exact hi)]
  rcases Nat.lt_or_ge i p.lows.length with hlt | hge
  · rw [tmAt_app_left hlt, getD_app_left (by omega)]
    exact a1 i (by omega)
  · obtain ⟨j, rfl⟩ : ∃ j, i = p.lows.length + j := ⟨i - p.lows.length, by omega⟩
    rw [tmAt_app_right, ← l1, getD_app_right]
    exact a2 j (by omega)
/-- What NumberOf tells. -/
noncomputable def numB (p : Prg) (ls ss : List Int) : Int := if startB p ls ss = true then numFrom (maxesP p) (ls ++ ss) (maxesP p).length else -1
end Go.Proofs.YtmooecbdpfhnlaaGreat
