/- Joined texts of this proof (ImplCopy, ImplSliced), in build order. -/
import Derived.Test.YtbnpoliogldohaaGreatS41
import Derived.Test.YtbnpoliogldohaaGreatS4
import Derived.Deep.RegionWith
import Derived.Test.YtbnpoliogldohaaGreatS30
/- The contracts of the program's copyOfStmt and copyWith. -/
namespace Go.Proofs.YtbnpoliogldohaaGreat
open Go.RowKit

/-- A statement of the call's own. -/
def MadeStm (w : World) (op n : Int) (ts us : List Tm) (e : Ending) (w' : World) : Prop := ∃ r : SRow, e = .returned (.agg (srowV r).toArray) ∧ r.op = op ∧ r.n = n ∧ OwnT w' w.heap.size r.at_.1 r.at_.2.1 r.at_.2.2 ts ∧ OwnT w' w.heap.size r.exp.1 r.exp.2.1 r.exp.2.2 us ∧ (∀ g, (slV r.at_).ownBlock = some g → (slV r.exp).ownBlock ≠ some g) ∧ Below w.heap.size w w'
set_option maxRecDepth 100000 in
set_option maxHeartbeats 3200000 in
theorem copyOfStmt_any (op n : Int) (a1 a2 : Option Addr) (n1 n2 c1 c2 : Nat) (ts us : List Tm) (w : World) (h1 : Terms w a1 n1 ts) (h2 : Terms w a2 n2 us) :
    Calls Tryz.prog 52 #[.agg #[.int .i64 op, .int .i64 n, .slice a1 n1 c1, .slice a2 n2 c2]] w (MadeStm w op n ts us) := by
  obtain ⟨wa, HW⟩ : ∃ wa, Hid (wa = (w.alloc (.cells #[.int .i64 op, .int .i64 n, .slice a1 n1 c1, .slice a2 n2 c2] 74)).alloc (.cells #[.int .i64 0, .int .i64 0, .slice none 0 0, .slice none 0 0] 74)) := ⟨_, rfl⟩
  have B0 : Blk wa w.heap.size 74 [.int .i64 op, .int .i64 n, .slice a1 n1 c1, .slice a2 n2 c2] := by rw [HW.out]; exact (Blk.new w _ _).alloc _
  have R0 : Blk wa (w.heap.size + 1) 74 [.int .i64 0, .int .i64 0, .slice none 0 0, .slice none 0 0] := by
    rw [HW.out]
    simpa using Blk.new (w.alloc (.cells #[.int .i64 op, .int .i64 n, .slice a1 n1 c1, .slice a2 n2 c2] 74)) 74 [.int .i64 0, .int .i64 0, .slice none 0 0, .slice none 0 0]
  have HB : Below w.heap.size w wa := by rw [HW.out]; exact ((Below.refl _ _).alloc (Nat.le_refl _) _).alloc (by simp) _
  have hd : Below wa.heap.size wa wa.drew := ⟨rfl, rfl, rfl, Nat.le_refl _, fun _ _ => rfl⟩
  have HC1 := Lib.hid (cloneTerms_any a1 n1 c1 ts wa.drew (h1.below (Nat.le_refl _) (HB.trans (hd.mono HB.size))))
  have HC2 : Hid (∀ w', Below wa.heap.size wa w' → Calls Tryz.prog 104 #[.slice a2 n2 c2] w' (MadeT w' us)) := Lib.hid (fun w' hw => cloneTerms_any a2 n2 c2 us w' (h2.below (Nat.le_refl _) (HB.trans (hw.mono HB.size))))
  have HBB := Lib.hid B0
  have HRR := Lib.hid R0
  have HBF := Lib.hid HB
  have t2 := B0.cell (j := 2) rfl
  have t3 := B0.cell (j := 3) rfl
  clear h1 h2
  go_enter Tryz.func52, Tryz.ntmps52
  go_wp2_with fail
  rw [← HW.out]
  clear HW B0 R0 HB
  go_region_with (first
    | (go_at_call 104; (with_reducible refine HC1.out.mono ?_); rintro e w1 ⟨p1, m1, d1, rfl, ho1, hb1⟩; have hb2 := hd.trans (hb1.mono hd.size); have HO1 := Lib.hid ho1; have B1 := HBB.out.below hb2 HBB.out.lt; have u3 := B1.cell (j := 3) rfl; have hb3 := hb2; clear hb1 B1 ho1)
    | (go_at_call 104; (with_reducible refine (HC2.out w1 hb3).mono ?_); rintro e w2 ⟨p2, m2, d2, rfl, ho2, hb4⟩; have HO2 := Lib.hid ho2; have HO3 := Lib.hid (HO1.out.below hb4); have HB5 := Lib.hid (hb3.trans (hb4.mono hb3.size)); have B2 := HBB.out.below HB5.out HBB.out.lt; have x0 := B2.cell (j := 0) rfl; have x1 := B2.cell (j := 1) rfl; have x2 := B2.cell (j := 2) rfl; have x3 := B2.cell (j := 3) rfl; have z2 := B2.frozen 2; have z3 := B2.frozen 3; clear hb4 ho2))
  all_goals
    have hlt1 := HBB.out.lt
    have hlt2 := HRR.out.lt
    obtain ⟨wz, HWZ⟩ : ∃ wz, Hid (wz = (w2.setCell ⟨w.heap.size, 2, none⟩ (.slice p1 m1 d1)).setCell ⟨w.heap.size, 3, none⟩ (.slice p2 m2 d2)) := ⟨_, rfl⟩
    have S2 : Blk wz w.heap.size 74 [.int .i64 op, .int .i64 n, .slice p1 m1 d1, .slice p2 m2 d2] := by
      rw [HWZ.out]; exact ((HBB.out.below HB5.out HBB.out.lt).set (j := 2) (.slice p1 m1 d1)).set (j := 3) (.slice p2 m2 d2)
    have R2 : Blk wz (w.heap.size + 1) 74 [.int .i64 0, .int .i64 0, .slice none 0 0, .slice none 0 0] := by
      rw [HWZ.out]; exact ((HRR.out.below HB5.out HRR.out.lt).other (by omega) _).other (by omega) _
    have HP1 : Hid (OwnT wz wa.drew.heap.size p1 m1 d1 ts) := Lib.hid (by rw [HWZ.out]; exact (HO3.out.set hlt1 _).set hlt1 _)
    have HP2 : Hid (OwnT wz w1.heap.size p2 m2 d2 us) := Lib.hid (by rw [HWZ.out]; exact (HO2.out.set (Nat.lt_of_lt_of_le hlt1 hb3.size) _).set (Nat.lt_of_lt_of_le hlt1 hb3.size) _)
    have HF : Hid (Below w.heap.size w wz) := Lib.hid (by rw [HWZ.out]; exact below_set (below_set (HBF.out.trans (HB5.out.mono HBF.out.size)) (Nat.le_refl _) _) (Nat.le_refl _) _)
    have HAP : Hid (∀ g, (Value.slice p1 m1 d1).ownBlock = some g → (Value.slice p2 m2 d2).ownBlock ≠ some g) := Lib.hid (fun g e1 e2 => by
      have := (HO1.out.block g e1).2
      have := (HO2.out.block g e2).1
      omega)
    rw [← HWZ.out]
    have y0 := S2.cell (j := 0) rfl
    have y1 := S2.cell (j := 1) rfl
    have y2 := S2.cell (j := 2) rfl
    have y3 := S2.cell (j := 3) rfl
    have r0 := R2.cell (j := 0) rfl
    have r1 := R2.cell (j := 1) rfl
    have r2 := R2.cell (j := 2) rfl
    have r3 := R2.cell (j := 3) rfl
    have f0 := R2.frozen 0
    have f1 := R2.frozen 1
    have f2 := R2.frozen 2
    have f3 := R2.frozen 3
    have hle := hb3.size
    clear t2 t3 u3 x0 x1 x2 x3 z2 z3 S2 R2 HWZ HO1 HO2 HO3 HB5
    go_wp2
    refine bodyPost_ret (v := .agg #[.int .i64 op, .int .i64 n, .slice p1 m1 d1, .slice p2 m2 d2]) (by simp [results, Tryz.results52, go_sem, r0, r1, r2, r3]) rfl ?_
    have hda : w.heap.size + 1 < wa.drew.heap.size := hlt2
    exact ⟨⟨op, n, (p1, m1, d1), (p2, m2, d2)⟩, rfl, rfl, rfl, ((((HP1.out.set hda _).set hda _).set hda _).set hda _).base (by omega), ((((HP2.out.set (by omega) _).set (by omega) _).set (by omega) _).set (by omega) _).base (by omega), HAP.out, below_set (below_set (below_set (below_set HF.out (by simp) _) (by simp) _) (by simp) _) (by simp) _⟩
set_option maxRecDepth 100000 in
set_option maxHeartbeats 6400000 in
theorem copyWith_any (r : PRow) (p : Prg) (a5 : Option Addr) (n5 c5 : Nat) (rs5 : List SRow) (w : World) (hl : Terms w r.lows.1 r.lows.2.1 p.lows) (hs : Terms w r.secrets.1 r.secrets.2.1 p.secrets) (har : Ints w r.arrays.1 r.arrays.2.1 p.arrays) :
    Calls Tryz.prog 53 #[progV r, .slice a5 n5 c5] w fun e w' => ∃ s1 s2 s3 : Sl, e = .returned (progV ⟨r.width, s1, s2, r.temps, s3, (a5, n5, c5), rs5⟩) ∧ OwnI w' w.heap.size s1.1 s1.2.1 s1.2.2 p.lows ∧ OwnI w' w.heap.size s2.1 s2.2.1 s2.2.2 p.secrets ∧ Own w' w.heap.size s3.1 s3.2.1 s3.2.2 p.arrays ∧ (∀ g, (slV s1).ownBlock = some g → (slV s2).ownBlock ≠ some g) ∧ Below w.heap.size w w' := by
  obtain ⟨wd, ⟨a1, n1, c1⟩, ⟨a2, n2, c2⟩, tp, ⟨a3, n3, c3⟩, ⟨a4, n4, c4⟩, rows⟩ := r
  simp only [] at hl hs har
  show Calls Tryz.prog 53 #[.agg #[.int .i64 wd, .slice a1 n1 c1, .slice a2 n2 c2, .int .i64 tp, .slice a3 n3 c3, .slice a4 n4 c4], .slice a5 n5 c5] w _
  obtain ⟨wa, HW⟩ : ∃ wa, Hid (wa = (w.alloc (.cells #[.int .i64 wd, .slice a1 n1 c1, .slice a2 n2 c2, .int .i64 tp, .slice a3 n3 c3, .slice a4 n4 c4] 28)).alloc (.cells #[.int .i64 0, .slice none 0 0, .slice none 0 0, .int .i64 0, .slice none 0 0, .slice none 0 0] 28)) := ⟨_, rfl⟩
  have B0 : Blk wa w.heap.size 28 [.int .i64 wd, .slice a1 n1 c1, .slice a2 n2 c2, .int .i64 tp, .slice a3 n3 c3, .slice a4 n4 c4] := by rw [HW.out]; exact (Blk.new w _ _).alloc _
  have R0 : Blk wa (w.heap.size + 1) 28 [.int .i64 0, .slice none 0 0, .slice none 0 0, .int .i64 0, .slice none 0 0, .slice none 0 0] := by
    rw [HW.out]
    simpa using Blk.new (w.alloc (.cells #[.int .i64 wd, .slice a1 n1 c1, .slice a2 n2 c2, .int .i64 tp, .slice a3 n3 c3, .slice a4 n4 c4] 28)) 28 [.int .i64 0, .slice none 0 0, .slice none 0 0, .int .i64 0, .slice none 0 0, .slice none 0 0]
  have HB : Below w.heap.size w wa := by rw [HW.out]; exact ((Below.refl _ _).alloc (Nat.le_refl _) _).alloc (by simp) _
  have hd : Below wa.heap.size wa wa.drew := ⟨rfl, rfl, rfl, Nat.le_refl _, fun _ _ => rfl⟩
  have HC1 := Lib.hid (cloneInputs_any a1 n1 c1 p.lows wa.drew (hl.below (Nat.le_refl _) (HB.trans (hd.mono HB.size))))
  have HC2 : Hid (∀ w', Below wa.heap.size wa w' → Calls Tryz.prog 105 #[.slice a2 n2 c2] w' (MadeI w' p.secrets)) := Lib.hid (fun w' hw => cloneInputs_any a2 n2 c2 p.secrets w' (hs.below (Nat.le_refl _) (HB.trans (hw.mono HB.size))))
  have HC3 : Hid (∀ w', Below w.heap.size w w' → Calls Tryz.prog 106 #[.slice a3 n3 c3] w' (MadeInts w' p.arrays)) := Lib.hid (fun w' hw => cloneInts_any a3 n3 c3 p.arrays w' (har.below hw))
  have HBB := Lib.hid B0
  have HRR := Lib.hid R0
  have HBF := Lib.hid HB
  have t1 := B0.cell (j := 1) rfl
  have t2 := B0.cell (j := 2) rfl
  clear hl hs har
  go_enter Tryz.func53, Tryz.ntmps53
  go_wp2_with fail
  rw [← HW.out]
  clear HW B0 R0 HB
  go_region_with (first
    | (go_at_call 105; (with_reducible refine HC1.out.mono ?_); rintro e w1 ⟨p1, m1, d1, rfl, ho1, hb1⟩; have hb2 := hd.trans (hb1.mono hd.size); have HO1 := Lib.hid ho1; have B1 := HBB.out.below hb2 HBB.out.lt; have u2 := B1.cell (j := 2) rfl; have hb3 := hb2; clear hb1 B1 ho1)
    | (go_at_call 105; (with_reducible refine (HC2.out w1 hb3).mono ?_); rintro e w2 ⟨p2, m2, d2, rfl, ho2, hb4⟩; have HO2 := Lib.hid ho2; have HO3 := Lib.hid (HO1.out.below hb4); have HB5 := Lib.hid (hb3.trans (hb4.mono hb3.size)); have B2 := HBB.out.below HB5.out HBB.out.lt; have x1 := B2.cell (j := 1) rfl; have x2 := B2.cell (j := 2) rfl; have z1 := B2.frozen 1; have z2 := B2.frozen 2; clear hb4 ho2))
  all_goals
    have hlt1 := HBB.out.lt
    have hlt2 := HRR.out.lt
    have hle1 := hb3.size
    obtain ⟨wz, HWZ⟩ : ∃ wz, Hid (wz = (w2.setCell ⟨w.heap.size, 1, none⟩ (.slice p1 m1 d1)).setCell ⟨w.heap.size, 2, none⟩ (.slice p2 m2 d2)) := ⟨_, rfl⟩
    have S2 : Blk wz w.heap.size 28 [.int .i64 wd, .slice p1 m1 d1, .slice p2 m2 d2, .int .i64 tp, .slice a3 n3 c3, .slice a4 n4 c4] := by
      rw [HWZ.out]; exact ((HBB.out.below HB5.out HBB.out.lt).set (j := 1) (.slice p1 m1 d1)).set (j := 2) (.slice p2 m2 d2)
    have R2 : Blk wz (w.heap.size + 1) 28 [.int .i64 0, .slice none 0 0, .slice none 0 0, .int .i64 0, .slice none 0 0, .slice none 0 0] := by
      rw [HWZ.out]; exact ((HRR.out.below HB5.out HRR.out.lt).other (by omega) _).other (by omega) _
    have hda : w.heap.size + 1 < wa.drew.heap.size := hlt2
    have HP1 : Hid (OwnI wz wa.drew.heap.size p1 m1 d1 p.lows) := Lib.hid (by rw [HWZ.out]; exact (HO3.out.set (by omega) _).set (by omega) _)
    have HP2 : Hid (OwnI wz w1.heap.size p2 m2 d2 p.secrets) := Lib.hid (by rw [HWZ.out]; exact (HO2.out.set (by omega) _).set (by omega) _)
    have HF : Hid (Below w.heap.size w wz) := Lib.hid (by rw [HWZ.out]; exact below_set (below_set (HBF.out.trans (HB5.out.mono HBF.out.size)) (Nat.le_refl _) _) (Nat.le_refl _) _)
    have HAP : Hid (∀ g, (Value.slice p1 m1 d1).ownBlock = some g → (Value.slice p2 m2 d2).ownBlock ≠ some g) := Lib.hid (fun g e1 e2 => by
      have := (HO1.out.block g e1).2
      have := (HO2.out.block g e2).1
      omega)
    rw [← HWZ.out]
    have HSL := Lib.hid S2
    have HRL := Lib.hid R2
    have q4 := S2.cell (j := 4) rfl
    clear t1 t2 u2 x1 x2 z1 z2 S2 R2 HWZ HO1 HO2 HO3 HB5
    go_wp2_with fail
    refine (HC3.out wz HF.out).mono ?_
    rintro e w3 ⟨p3, m3, d3, rfl, ho5, hb5⟩
    have HQ1 := Lib.hid (HP1.out.below hb5)
    have HQ2 := Lib.hid (HP2.out.below hb5)
    have HQ3 := Lib.hid ho5
    have HF3 := Lib.hid (HF.out.trans (hb5.mono HF.out.size))
    have S3 := HSL.out.below hb5 HSL.out.lt
    have R3 := HRL.out.below hb5 HRL.out.lt
    have hle3 := HSL.out.lt
    have hle4 := HRL.out.lt
    have y0 := S3.cell (j := 0) rfl
    have y1 := S3.cell (j := 1) rfl
    have y2 := S3.cell (j := 2) rfl
    have y3 := S3.cell (j := 3) rfl
    have y4 := S3.cell (j := 4) rfl
    have y5 := S3.cell (j := 5) rfl
    have r0 := R3.cell (j := 0) rfl
    have r1 := R3.cell (j := 1) rfl
    have r2 := R3.cell (j := 2) rfl
    have r3 := R3.cell (j := 3) rfl
    have r4 := R3.cell (j := 4) rfl
    have r5 := R3.cell (j := 5) rfl
    have f0 := R3.frozen 0
    have f1 := R3.frozen 1
    have f2 := R3.frozen 2
    have f3 := R3.frozen 3
    have f4 := R3.frozen 4
    have f5 := R3.frozen 5
    have g4 := S3.frozen 4
    have g5 := S3.frozen 5
    clear q4 hb5 ho5 S3 R3
    go_wp2
    refine bodyPost_ret (v := .agg #[.int .i64 wd, .slice p1 m1 d1, .slice p2 m2 d2, .int .i64 tp, .slice p3 m3 d3, .slice a5 n5 c5]) (by simp [results, Tryz.results53, go_sem, r0, r1, r2, r3, r4, r5]) rfl ?_
    exact ⟨(p1, m1, d1), (p2, m2, d2), (p3, m3, d3), rfl, ((((((((HQ1.out.set (by omega) _).set (by omega) _).set (by omega) _).set (by omega) _).set (by omega) _).set (by omega) _).set (by omega) _).set (by omega) _).base (by omega), ((((((((HQ2.out.set (by omega) _).set (by omega) _).set (by omega) _).set (by omega) _).set (by omega) _).set (by omega) _).set (by omega) _).set (by omega) _).base (by omega), ((((((((HQ3.out.set (by omega) _).set (by omega) _).set (by omega) _).set (by omega) _).set (by omega) _).set (by omega) _).set (by omega) _).set (by omega) _).base (by omega), HAP.out, (below_set (below_set (below_set (below_set (below_set (below_set (below_set (below_set HF3.out (by simp) _) (by simp) _) (by simp) _) (by simp) _) (by simp) _) (by simp) _) (by simp) _) (by simp) _)⟩
end Go.Proofs.YtbnpoliogldohaaGreat
/- The contract of the program's Sliced. -/
namespace Go.Proofs.YtbnpoliogldohaaGreat
open Go.RowKit

/-- The box of the program, the box of the answer. -/
structure SB (w wi : World) (cs : List Value) : Prop where
  box : Blk wi w.heap.size 28 cs
  res : Blk wi (w.heap.size + 1) 28 [.int .i64 0, .slice none 0 0, .slice none 0 0, .int .i64 0, .slice none 0 0, .slice none 0 0]
  bel : Below w.heap.size w wi
theorem SB.below {w wi wj : World} {cs : List Value} (h : SB w wi cs) (hb : Below wi.heap.size wi wj) : SB w wj cs := ⟨h.box.below hb h.box.lt, h.res.below hb h.res.lt, h.bel.trans (hb.mono h.bel.size)⟩
theorem SB.grow {w wi wj : World} {cs : List Value} (h : SB w wi cs) {v : Value} (hg : wi.grownBy wj v.ownBlock) (hv : ∀ g, v.ownBlock = some g → w.heap.size + 2 ≤ g) : SB w wj cs := by
  have hl := h.res.lt
  refine ⟨(hg.block _ h.box.lt (fun e => by have := hv _ e.symm; omega)).trans h.box, (hg.block _ h.res.lt (fun e => by have := hv _ e.symm; omega)).trans h.res, ⟨hg.os.trans h.bel.os, hg.tape.trans h.bel.tape, hg.output.trans h.bel.output, Nat.le_trans h.bel.size hg.size, fun i hi => (hg.block i (Nat.lt_of_lt_of_le hi h.bel.size) (fun e => by have := hv _ e.symm; omega)).trans (h.bel.block i hi)⟩⟩
set_option maxRecDepth 100000 in
set_option maxHeartbeats 6400000 in
theorem implSliced_any (r : PRow) (p : Prg) (w : World) (h : ProgAt w r p) (hcap : r.body.2.1 ≤ r.body.2.2) :
    Calls Tryz.prog 13 #[progV r] w (MadeProg w (sliceP p)) := by
  have HPO : Hid (∀ w', Below w.heap.size w w' → Calls Tryz.prog 16 #[progV r] w' fun e w'' => e = .returned (.bool (codeB p == 0)) ∧ Below w'.heap.size w' w'') := Lib.hid (fun w' hw => implProgOk_any r p w' (h.below hw) hcap)
  have HNH : Hid (codeB p = 0 → ∀ w', Below w.heap.size w w' → Calls Tryz.prog 50 #[progV r] w' fun e w'' => ∃ g H, e = .returned (.map (some g)) ∧ w'.heap.size ≤ g ∧ KSet holdV w'' g H ∧ Hid (NeedSet p H) ∧ Below w'.heap.size w' w'') := Lib.hid (fun hz w' hw => neededHolders_any r p w' (h.below hw) hz)
  have HCW : Hid (∀ (a5 : Option Addr) (n5 c5 : Nat) (rs5 : List SRow) (w' : World), Below w.heap.size w w' → Calls Tryz.prog 53 #[progV r, .slice a5 n5 c5] w' fun e w'' => ∃ s1 s2 s3 : Sl, e = .returned (progV ⟨r.width, s1, s2, r.temps, s3, (a5, n5, c5), rs5⟩) ∧ OwnI w'' w'.heap.size s1.1 s1.2.1 s1.2.2 p.lows ∧ OwnI w'' w'.heap.size s2.1 s2.2.1 s2.2.2 p.secrets ∧ Own w'' w'.heap.size s3.1 s3.2.1 s3.2.2 p.arrays ∧ (∀ g, (slV s1).ownBlock = some g → (slV s2).ownBlock ≠ some g) ∧ Below w'.heap.size w' w'') :=
    Lib.hid (fun a5 n5 c5 rs5 w' hw => copyWith_any r p a5 n5 c5 rs5 w' (h.lows.below (Nat.le_refl _) hw) (h.secrets.below (Nat.le_refl _) hw) (h.arrays.below hw))
  have HST : Hid (codeB p = 0 → ∀ (x y : Int) (b1 b2 : Option Addr) (m1 m2 d1 d2 : Nat) (ts us : List Tm) (b : Nat) (ks : List (Int × Int)) (w' : World), Below w.heap.size w w' → RightS p ⟨x, y, ts, us⟩ → Terms w' b1 m1 ts → Terms w' b2 m2 us → KSet holdV w' b ks → Calls Tryz.prog 51 #[progV r, .agg #[.int .i64 x, .int .i64 y, .slice b1 m1 d1, .slice b2 m2 d2], .map (some b)] w' fun e w'' => e = .returned (.bool (staysQ p ⟨x, y, ts, us⟩ ks)) ∧ Below w'.heap.size w' w'') :=
    Lib.hid (fun hz x y b1 b2 m1 m2 d1 d2 ts us b ks w' hw hs h1 h2 hk => stays_any r p x y b1 b2 m1 m2 d1 d2 ts us b ks w' (h.below hw) hz hs h1 h2 hk)
  have HBD := Lib.hid h.body
  have HL := Lib.hid h.body.2.1
  have HWT := Lib.hid (And.intro h.width h.temps)
  have HIT := Lib.hid (And.intro h.inW h.inT)
  have hn4 := h.body.2.2.1
  obtain ⟨wd, ⟨a1, n1, c1⟩, ⟨a2, n2, c2⟩, tp, ⟨a3, n3, c3⟩, ⟨a4, n4, c4⟩, rows⟩ := r
  simp only [] at HBD HL hn4 HWT HCW
  clear h hcap
  show Calls Tryz.prog 13 #[.agg #[.int .i64 wd, .slice a1 n1 c1, .slice a2 n2 c2, .int .i64 tp, .slice a3 n3 c3, .slice a4 n4 c4]] w _
  obtain ⟨wa, HW⟩ : ∃ wa, Hid (wa = (w.alloc (.cells #[.int .i64 wd, .slice a1 n1 c1, .slice a2 n2 c2, .int .i64 tp, .slice a3 n3 c3, .slice a4 n4 c4] 28)).alloc (.cells #[.int .i64 0, .slice none 0 0, .slice none 0 0, .int .i64 0, .slice none 0 0, .slice none 0 0] 28)) := ⟨_, rfl⟩
  have B0 : SB w wa [.int .i64 wd, .slice a1 n1 c1, .slice a2 n2 c2, .int .i64 tp, .slice a3 n3 c3, .slice a4 n4 c4] := by
    rw [HW.out]
    exact ⟨(Blk.new w _ _).alloc _, by simpa using Blk.new (w.alloc (.cells #[.int .i64 wd, .slice a1 n1 c1, .slice a2 n2 c2, .int .i64 tp, .slice a3 n3 c3, .slice a4 n4 c4] 28)) 28 [.int .i64 0, .slice none 0 0, .slice none 0 0, .int .i64 0, .slice none 0 0, .slice none 0 0], ((Below.refl _ _).alloc (Nat.le_refl _) _).alloc (by simp) _⟩
  have HB0 := Lib.hid B0
  have hfar0 := B0.res.lt
  clear B0
  by_cases hz : codeB p = 0
  · have hzz : (codeB p == 0) = true := by simpa using hz
    have HSP : Hid (sliceP p = { p with body := p.body.filter (keepB p) }) := Lib.hid (by rw [sliceP, if_pos hz])
    rw [hzz] at HPO
    rw [HSP.out]
    have HE := Lib.hid (HNH.out hz)
    have HS := Lib.hid (HST.out hz)
    have HZ := Lib.hid hz
    clear HNH HST hz hzz HSP
    go_enter Tryz.func13, Tryz.ntmps13
    go_wp2_with fail
    rw [← HW.out]
    refine (HPO.out _ HB0.out.bel).mono ?_
    rintro e w1 ⟨rfl, hb1⟩
    have HB1 := Lib.hid (HB0.out.below hb1)
    have B1 := HB1.out.box
    have t0 := B1.cell (j := 0) rfl
    have t1 := B1.cell (j := 1) rfl
    have t2 := B1.cell (j := 2) rfl
    have t3 := B1.cell (j := 3) rfl
    have t4 := B1.cell (j := 4) rfl
    have t5 := B1.cell (j := 5) rfl
    have hfar1 := HB1.out.res.lt
    clear hb1 B1 HB0
    go_wp2_with fail
    refine (HE.out _ HB1.out.bel).mono ?_
    rintro e w2 ⟨g, H, rfl, hg, hk, HN, hb2⟩
    have HB2 := Lib.hid (HB1.out.below hb2)
    have HK2 := Lib.hid hk
    have HKP : Hid (∀ s, staysQ p s H = keepB p s) := Lib.hid (fun s => keep_stays HZ.out HN.out s)
    have hgl := hk.lt
    have B2 := HB2.out.box
    clear t0 t1 t2 t3 t4 t5 hb2 hk
    have t0 := B2.cell (j := 0) rfl
    have t1 := B2.cell (j := 1) rfl
    have t2 := B2.cell (j := 2) rfl
    have t3 := B2.cell (j := 3) rfl
    have t4 := B2.cell (j := 4) rfl
    have t5 := B2.cell (j := 5) rfl
    clear B2
    go_wp2_with fail
    go_loopw [4, 16] (fun bv iv wr => ∃ (k : Nat) (a : Option Addr) (n c : Nat) (rs : List SRow), k ≤ n4 ∧ n ≤ k ∧ iv = .int .i64 (k : Int) ∧ bv = .slice a n c ∧ OwnStmts wr w2.heap.size a n c rs ((p.body.take k).filter (keepB p)) ∧ KSet holdV wr g H ∧ SB w wr [.int .i64 wd, .slice a1 n1 c1, .slice a2 n2 c2, .int .i64 tp, .slice a3 n3 c3, .slice a4 n4 c4] ∧ w2.heap.size ≤ wr.heap.size) (fun _ iv _ => n4 - (intOf iv).toNat)
    case atStart => exact ⟨0, none, 0, 0, [], Nat.zero_le _, Nat.le_refl _, rfl, rfl, ownStmts_nil _ _, HK2.out, HB2.out, Nat.le_refl _⟩
    case round =>
      obtain ⟨k, a, n, c, rs, hk, hnk, rfl, rfl, ho, hks, hB, hsz⟩ := hrel
      have HO := Lib.hid ho
      have HKS := Lib.hid hks
      have HBR := Lib.hid hB
      clear ho hks hB t0 t1 t2 t3 t4 t5
      by_cases hlt : k < n4
      · obtain ⟨sb, so, x, y, p1, m1, d1, p2, m2, d2, ts, us, rfl, hb, hz, hin1, hin2, hc1, hc2, hc3, hc4, hT1, hT2⟩ := HBD.out.at_ hlt
        have hc1 := (HBR.out.bel.cell hb).trans hc1
        have hc2 := (HBR.out.bel.cell hb).trans hc2
        have hc3 := (HBR.out.bel.cell hb).trans hc3
        have hc4 := (HBR.out.bel.cell hb).trans hc4
        obtain ⟨ws, HWS⟩ : ∃ ws, Hid (ws = wr.alloc (.cells #[.int .i64 x, .int .i64 y, .slice p1 m1 d1, .slice p2 m2 d2] 74)) := ⟨_, rfl⟩
        have hbs : Below wr.heap.size wr ws := by rw [HWS.out]; exact (Below.refl _ _).alloc (Nat.le_refl _) _
        have BS : Blk ws wr.heap.size 74 [.int .i64 x, .int .i64 y, .slice p1 m1 d1, .slice p2 m2 d2] := by rw [HWS.out]; exact Blk.new wr _ _
        have HBX := Lib.hid (HBR.out.below hbs)
        have HKX := Lib.hid (HKS.out.below hbs HKS.out.lt)
        have HOX := Lib.hid (HO.out.below hbs)
        have HBS := Lib.hid BS
        have hkl : k < p.body.length := by rw [HL.out]; exact hlt
        have HRS : Hid (RightS p ⟨x, y, ts, us⟩) := Lib.hid (by have := right_all HZ.out _ (stAt_mem hkl); rw [hz.out] at this; exact this)
        have HTT := Lib.hid (fun w' (hw : Below w.heap.size w w') => And.intro (hT1.below (Nat.le_refl _) hw) (hT2.below (Nat.le_refl _) hw))
        have HC := Lib.hid (HS.out x y p1 p2 m1 m2 d1 d2 ts us g H ws HBX.out.bel HRS.out (HTT.out ws HBX.out.bel).1 (HTT.out ws HBX.out.bel).2 HKX.out)
        rw [HKP.out] at HC
        obtain ⟨q, HQ⟩ : ∃ q, Hid (keepB p ⟨x, y, ts, us⟩ = q) := ⟨_, rfl⟩
        rw [HQ.out] at HC
        have B3 := HBX.out.box
        have t0 := B3.cell (j := 0) rfl
        have t1 := B3.cell (j := 1) rfl
        have t2 := B3.cell (j := 2) rfl
        have t3 := B3.cell (j := 3) rfl
        have t4 := B3.cell (j := 4) rfl
        have t5 := B3.cell (j := 5) rfl
        rw [HWS.out] at t0 t1 t2 t3 t4 t5
        have hss := hbs.size
        clear BS hbs hT1 hT2 HKS HO HBR B3
        go_wp2_with fail
        rw [← HWS.out]
        refine HC.out.mono ?_
        rintro e w3 ⟨rfl, hb3⟩
        have HB3 := Lib.hid (HBX.out.below hb3)
        have HK3 := Lib.hid (HKX.out.below hb3 HKX.out.lt)
        have HO3 := Lib.hid (HOX.out.below hb3)
        have S3 := HBS.out.below hb3 HBS.out.lt
        have h3s := hb3.size
        clear t0 t1 t2 t3 t4 t5 hc1 hc2 hc3 hc4 hb3 HC HKX HOX HBX
        cases q with
        | false =>
          have HFN : Hid ((p.body.take (k + 1)).filter (keepB p) = (p.body.take k).filter (keepB p)) := Lib.hid (filter_no hkl hz HQ.out)
          rw [← HFN.out] at HO3
          clear S3
          go_wp2
          go_roundw
          case rel => exact ⟨k + 1, a, n, c, rs, by omega, by omega, by go_num, rfl, HO3.out, HK3.out, HB3.out, by omega⟩
          case measure => simp [intOf]; omega
        | true =>
          have HFY : Hid ((p.body.take (k + 1)).filter (keepB p) = (p.body.take k).filter (keepB p) ++ [⟨x, y, ts, us⟩]) := Lib.hid (filter_yes hkl hz HQ.out)
          have u0 := S3.cell (j := 0) rfl
          have u1 := S3.cell (j := 1) rfl
          have u2 := S3.cell (j := 2) rfl
          have u3 := S3.cell (j := 3) rfl
          clear S3
          go_wp2_with fail
          refine (copyOfStmt_any x y p1 p2 m1 m2 d1 d2 ts us w3 (HTT.out w3 HB3.out.bel).1 (HTT.out w3 HB3.out.bel).2).mono ?_
          rintro e w4 ⟨⟨rop, rn, ⟨q1, l1, j1⟩, ⟨q2, l2, j2⟩⟩, rfl, e1, e2, o1, o2, hap, hb4⟩
          simp only [] at e1 e2 o1 o2
          subst e1 e2
          have HO4 := Lib.hid ((HO3.out.below hb4).below ((Below.refl w4.heap.size w4).alloc (Nat.le_refl _) (.cells #[.int .i64 rop, .int .i64 rn, .slice q1 l1 j1, .slice q2 l2 j2] 74)))
          have HN4 : Hid (∀ g ∈ blks rs, g < w3.heap.size) := Lib.hid (fun g hg => (HO3.out.blks_lt hg).2)
          have HB4 := Lib.hid ((HB3.out.below hb4).below ((Below.refl w4.heap.size w4).alloc (Nat.le_refl _) (.cells #[.int .i64 rop, .int .i64 rn, .slice q1 l1 j1, .slice q2 l2 j2] 74)))
          have HK4 := Lib.hid ((HK3.out.below hb4 HK3.out.lt).alloc (.cells #[.int .i64 rop, .int .i64 rn, .slice q1 l1 j1, .slice q2 l2 j2] 74))
          have HR4 : Hid (OwnStm (w4.alloc (.cells #[.int .i64 rop, .int .i64 rn, .slice q1 l1 j1, .slice q2 l2 j2] 74)) w3.heap.size ⟨rop, rn, (q1, l1, j1), (q2, l2, j2)⟩ ⟨rop, rn, ts, us⟩) := Lib.hid ⟨rfl, rfl, hin1, hin2, o1.alloc _, o2.alloc _⟩
          have HX4 : Hid (Blk (w4.alloc (.cells #[.int .i64 rop, .int .i64 rn, .slice q1 l1 j1, .slice q2 l2 j2] 74)) w4.heap.size 74 (srowV ⟨rop, rn, (q1, l1, j1), (q2, l2, j2)⟩)) := Lib.hid (Blk.new w4 _ _)
          have HAP := Lib.hid hap
          have h4s := hb4.size
          simp only [srowV, slV]
          clear u0 u1 u2 u3 o1 o2 hap hb4
          go_wp2_with (at_builtin; refine wpList_pushSt _ rfl _ _ rfl w2.heap.size w3.heap.size _ _ _ rs _ rfl HO4.out HN4.out (by omega) w4.heap.size _ _ HR4.out HAP.out rfl HX4.out (by omega) (by simp; omega) ?_; intro a5 c5 w5 ho5 hg5)
          have HB5 := Lib.hid (HB4.out.grow hg5.1 (fun g hg => by have := (HO4.out.block g hg).1; have := HB2.out.res.lt; omega))
          have HK5 := Lib.hid (HK4.out.kept hg5.1 (fun e => by have := (HO4.out.block _ e).1; omega))
          have h5s := hg5.1.size
          have h5t : w4.heap.size ≤ w5.heap.size := by simp at h5s; omega
          rw [← HFY.out] at ho5
          have HO5 := Lib.hid ho5
          clear hg5 ho5 h5s
          go_wp2
          go_roundw
          case rel => exact ⟨k + 1, a5, n + 1, c5, _, by omega, by omega, by go_num, rfl, HO5.out, HK5.out, HB5.out, by omega⟩
          case measure => simp [intOf]; omega
      · obtain rfl : n4 = k := by omega
        have HFA : Hid ((p.body.take n4).filter (keepB p) = p.body.filter (keepB p)) := Lib.hid (by rw [← HL.out, List.take_length])
        rw [HFA.out] at HO
        have B3 := HBR.out.box
        have t0 := B3.cell (j := 0) rfl
        have t1 := B3.cell (j := 1) rfl
        have t2 := B3.cell (j := 2) rfl
        have t3 := B3.cell (j := 3) rfl
        have t4 := B3.cell (j := 4) rfl
        have t5 := B3.cell (j := 5) rfl
        clear B3
        go_wp2_with fail
        refine (HCW.out a n c rs wr HBR.out.bel).mono ?_
        rintro e w3 ⟨⟨e1, e2, e3⟩, ⟨f1, f2, f3⟩, ⟨g1, g2, g3⟩, rfl, o1, o2, o3, hap, hb3⟩
        have HB3 := Lib.hid (HBR.out.below hb3)
        have HO3 := Lib.hid (HO.out.below hb3)
        have HO1 := Lib.hid o1
        have HO2 := Lib.hid o2
        have HOA := Lib.hid o3
        have R3 := HB3.out.res
        have hrl := HBR.out.res.lt
        have hrl2 := HB2.out.res.lt
        have r0 := R3.cell (j := 0) rfl
        have r1 := R3.cell (j := 1) rfl
        have r2 := R3.cell (j := 2) rfl
        have r3 := R3.cell (j := 3) rfl
        have r4 := R3.cell (j := 4) rfl
        have r5 := R3.cell (j := 5) rfl
        have z0 := R3.frozen 0
        have z1 := R3.frozen 1
        have z2 := R3.frozen 2
        have z3 := R3.frozen 3
        have z4 := R3.frozen 4
        have z5 := R3.frozen 5
        simp only [progV, slV]
        clear t0 t1 t2 t3 t4 t5 o1 o2 o3 hb3 R3
        go_wp2
        refine bodyPost_ret (v := .agg #[.int .i64 wd, .slice e1 e2 e3, .slice f1 f2 f3, .int .i64 tp, .slice g1 g2 g3, .slice a n c]) (by simp [results, Tryz.results13, go_sem, r0, r1, r2, r3, r4, r5]) rfl ?_
        exact ⟨⟨wd, (e1, e2, e3), (f1, f2, f3), tp, (g1, g2, g3), (a, n, c), rs⟩, rfl, ⟨HWT.out.1, HWT.out.2, HIT.out.1, HIT.out.2, ((((((HO1.out.set (by omega) _).set (by omega) _).set (by omega) _).set (by omega) _).set (by omega) _).set (by omega) _).base (by omega), ((((((HO2.out.set (by omega) _).set (by omega) _).set (by omega) _).set (by omega) _).set (by omega) _).set (by omega) _).base (by omega), ((((((HOA.out.set (by omega) _).set (by omega) _).set (by omega) _).set (by omega) _).set (by omega) _).set (by omega) _).base (by omega), ((((((HO3.out.set (by omega) _).set (by omega) _).set (by omega) _).set (by omega) _).set (by omega) _).set (by omega) _).base (by omega), hap⟩, (below_set (below_set (below_set (below_set (below_set (below_set HB3.out.bel (by simp) _) (by simp) _) (by simp) _) (by simp) _) (by simp) _) (by simp) _)⟩
  · have hzz : (codeB p == 0) = false := by simpa using hz
    have HSP : Hid (sliceP p = ⟨0, [], [], 0, [], []⟩) := Lib.hid (by rw [sliceP, if_neg hz])
    rw [hzz] at HPO
    rw [HSP.out]
    clear HNH HST hz hzz HSP
    go_enter Tryz.func13, Tryz.ntmps13
    go_wp2_with fail
    rw [← HW.out]
    refine (HPO.out _ HB0.out.bel).mono ?_
    rintro e w1 ⟨rfl, hb1⟩
    have HB1 := Lib.hid (HB0.out.below hb1)
    have R1 := HB1.out.res
    have r0 := R1.cell (j := 0) rfl
    have r1 := R1.cell (j := 1) rfl
    have r2 := R1.cell (j := 2) rfl
    have r3 := R1.cell (j := 3) rfl
    have r4 := R1.cell (j := 4) rfl
    have r5 := R1.cell (j := 5) rfl
    have f0 := R1.frozen 0
    have f1 := R1.frozen 1
    have f2 := R1.frozen 2
    have f3 := R1.frozen 3
    have f4 := R1.frozen 4
    have f5 := R1.frozen 5
    clear hb1 R1
    go_wp2
    refine bodyPost_ret (v := .agg #[.int .i64 0, .slice none 0 0, .slice none 0 0, .int .i64 0, .slice none 0 0, .slice none 0 0]) (by simp [results, Tryz.results13, go_sem, r0, r1, r2, r3, r4, r5]) rfl ?_
    exact ⟨⟨0, (none, 0, 0), (none, 0, 0), 0, (none, 0, 0), (none, 0, 0), []⟩, rfl, ⟨rfl, rfl, show In64 0 from ⟨by omega, by omega⟩, show In64 0 from ⟨by omega, by omega⟩, ownI_nil _ _, ownI_nil _ _, own_nil _ _, ownStmts_nil _ _, fun g hg => by simp [slV, Value.ownBlock] at hg⟩, (below_set (below_set (below_set (below_set (below_set (below_set HB1.out.bel (by simp) _) (by simp) _) (by simp) _) (by simp) _) (by simp) _) (by simp) _)⟩
end Go.Proofs.YtbnpoliogldohaaGreat
