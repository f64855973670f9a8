/- Joined texts of this proof (SpecSliced, HeldProg, SliceAns), in build order. -/
import Derived.Test.YtbnpoliogldohaaGreatS30
import Derived.Test.YtbnpoliogldohaaGreatS34
import Derived.Test.YtbnpoliogldohaaGreatS42
import Derived.Deep.RegionLaw
import Derived.Test.YtbnpoliogldohaaGreatS14
import Derived.Test.YtbnpoliogldohaaGreatS4
/- The contract of the model's Sliced (written by tools/gen_specsliced.py). -/
namespace Go.Proofs.YtbnpoliogldohaaGreat
open Go.RowKit

/-- The three lists beside the body. -/
structure Sides (w : World) (B : Nat) (p : Prg) (s1 s2 s3 : Sl) : Prop where
  lows : OwnI w B s1.1 s1.2.1 s1.2.2 p.lows
  secrets : OwnI w B s2.1 s2.2.1 s2.2.2 p.secrets
  arrays : Own w B s3.1 s3.2.1 s3.2.2 p.arrays
theorem Sides.below {w w' : World} {B : Nat} {p : Prg} {s1 s2 s3 : Sl} (h : Sides w B p s1 s2 s3) (hb : Below w.heap.size w w') : Sides w' B p s1 s2 s3 := ⟨h.lows.below hb, h.secrets.below hb, h.arrays.below hb⟩
theorem Sides.set {w : World} {B : Nat} {p : Prg} {s1 s2 s3 : Sl} (h : Sides w B p s1 s2 s3) {b j : Nat} (hb : b < B) (v : Value) : Sides (w.setCell ⟨b, j, none⟩ v) B p s1 s2 s3 := ⟨h.lows.set hb v, h.secrets.set hb v, h.arrays.set hb v⟩
/-- One statement of a program, as a slice. -/
theorem one_stmts {w : World} {r : PRow} {p : Prg} (h : ProgAt w r p) {k b o : Nat} (hk : k < p.body.length) (hb : r.body.1 = some ⟨b, o, none⟩) : Stmts w (some ⟨b, o + k * 4, none⟩) 1 [srAt r.rows k] [stAt p.body k] := by
  obtain ⟨h1, h2, h3, h4, h5⟩ := h.body
  have hkn : k < r.body.2.1 := by omega
  obtain ⟨b', o', e, hbl, hcell⟩ := h4 (by omega)
  rw [hb] at e
  cases e
  refine ⟨rfl, rfl, by omega, fun _ => ⟨b, o + k * 4, rfl, hbl, fun i hi => ?_⟩, fun i hi => ?_⟩
  · obtain rfl : i = 0 := by omega
    have := hcell k hkn
    simpa [srAt] using this
  · obtain rfl : i = 0 := by omega
    have := h5 k hkn
    simpa [srAt, stAt] using this
theorem caps_of {w : World} {B : Nat} {a : Option Addr} {n c : Nat} {rs : List SRow} {ss : List Stm} {wd tp : Int} {s1 s2 s3 : Sl} (h : OwnStmts w B a n c rs ss) : Caps ⟨wd, s1, s2, tp, s3, (a, n, c), rs⟩ := by
  have hl := h.len
  exact ⟨own_cap h.1, fun i hi => own_cap (h.2.2.2.1 i (by simp only [] at hi; omega)).2.2.2.2.1.1, fun i hi => own_cap (h.2.2.2.1 i (by simp only [] at hi; omega)).2.2.2.2.2.1⟩
/-- One statement of one's own. -/
theorem made_one {w : World} {B : Nat} {a : Option Addr} {n c : Nat} {rs : List SRow} {st : Stm} (h : OwnStmts w B a n c rs [st]) : ∃ (b o : Nat) (op num : Int) (q1 : Option Addr) (l1 j1 : Nat) (q2 : Option Addr) (l2 j2 : Nat), a = some ⟨b, o, none⟩ ∧ n = 1 ∧ w.cell? ⟨b, o, none⟩ = some (.int .i64 op) ∧ w.cell? ⟨b, o + 1, none⟩ = some (.int .i64 num) ∧ w.cell? ⟨b, o + 2, none⟩ = some (.slice q1 l1 j1) ∧ w.cell? ⟨b, o + 3, none⟩ = some (.slice q2 l2 j2) ∧ OwnStm w B ⟨op, num, (q1, l1, j1), (q2, l2, j2)⟩ st ∧ ∀ g, (slV (q1, l1, j1)).ownBlock = some g → (slV (q2, l2, j2)).ownBlock ≠ some g := by
  obtain rfl : n = 1 := by have := h.2.2.1; simp at this; omega
  have hl := h.len
  obtain ⟨⟨op, num, ⟨q1, l1, j1⟩, ⟨q2, l2, j2⟩⟩, rfl⟩ : ∃ r, rs = [r] := by
    match rs, hl with
    | [r], _ => exact ⟨r, rfl⟩
  obtain ⟨_, _, _, h4, _⟩ := h.reads
  obtain ⟨b, o, e, hbl, hcell⟩ := h4 (by omega)
  have hc := hcell 0 (by omega)
  have ho := h.2.2.2.1 0 (by omega)
  have hn := h.2.2.2.2
  simp [srAt, slV] at hc
  refine ⟨b, o, op, num, q1, l1, j1, q2, l2, j2, e, rfl, hc.1, hc.2.1, hc.2.2.1, hc.2.2.2, by simpa [srAt, stAt] using ho, fun g h1 h2 => ?_⟩
  have h3 : blks [(⟨op, num, (q1, l1, j1), (q2, l2, j2)⟩ : SRow)] = [g, g] := by simp [blks, blksOf, h1, h2]
  rw [h3] at hn
  simp at hn
set_option maxRecDepth 100000 in
set_option maxHeartbeats 12800000 in
theorem specSliced_any (r : PRow) (p : Prg) (w : World) (h : ProgAt w r p) (hcap : Caps r) :
    Calls Tryz.prog 15 #[progV r] w fun e w' => ∃ r' : PRow, e = .returned (progV r') ∧ ProgAt w' r' (sliceP p) ∧ Caps r' ∧ Below w.heap.size w w' := by
  have HPO : Hid (∀ w', Below w.heap.size w w' → Calls Tryz.prog 48 #[progV r] w' fun e w'' => e = .returned (.bool (codeB p == 0)) ∧ Below w'.heap.size w' w'') := Lib.hid (fun w' hw => specProgOk_any r p w' (h.below hw))
  have HNE : Hid (codeB p = 0 → ∀ w', Below w.heap.size w w' → Calls Tryz.prog 56 #[progV r] w' fun e w'' => ∃ g1 m1 d1 g2 m2 d2, e = .returned (.tuple #[.slice (some ⟨g1, 0, none⟩) m1 d1, .slice (some ⟨g2, 0, none⟩) m2 d2]) ∧ Ints w'' (some ⟨g1, 0, none⟩) m1 (needP p).1 ∧ Ints w'' (some ⟨g2, 0, none⟩) m2 (needP p).2 ∧ Below w'.heap.size w' w'') := Lib.hid (fun hz w' hw => l10Needed_any r p w' (h.below hw) hcap hz)
  have HCP : Hid (∀ w', Below w.heap.size w w' → Calls Tryz.prog 57 #[progV r] w' fun e w'' => ∃ (s1 s2 s3 s4 : Sl) (rs : List SRow), e = .returned (.agg #[.int .i64 r.width, slV s1, slV s2, .int .i64 r.temps, slV s3, slV s4]) ∧ OwnI w'' w'.heap.size s1.1 s1.2.1 s1.2.2 p.lows ∧ OwnI w'' w'.heap.size s2.1 s2.2.1 s2.2.2 p.secrets ∧ Own w'' w'.heap.size s3.1 s3.2.1 s3.2.2 p.arrays ∧ OwnStmts w'' w'.heap.size s4.1 s4.2.1 s4.2.2 rs p.body ∧ Below w'.heap.size w' w'') := Lib.hid (fun w' hw => l3Copy_any r p w' (h.below hw))
  have HST : Hid (codeB p = 0 → ∀ (x y : Int) (b1 b2 : Option Addr) (m1 m2 d1 d2 : Nat) (ts us : List Tm) (w' : World), Below w.heap.size w w' → RightS p ⟨x, y, ts, us⟩ → Terms w' b1 m1 ts → Terms w' b2 m2 us → m1 ≤ d1 → m2 ≤ d2 → Calls Tryz.prog 58 #[progV r, .agg #[.int .i64 x, .int .i64 y, .slice b1 m1 d1, .slice b2 m2 d2]] w' fun e w'' => e = .returned (.bool (mayStm p ⟨x, y, ts, us⟩)) ∧ Below w'.heap.size w' w'') :=
    Lib.hid (fun hz x y b1 b2 m1 m2 d1 d2 ts us w' hw hs h1 h2 hd1 hd2 => l9Stmt_any r p x y b1 b2 m1 m2 d1 d2 ts us w' (h.below hw) hz hs h1 h2 hd1 hd2)
  have HRW : Hid (∀ k, k < p.body.length → ∃ b o x y ba m1 d1 bb m2 d2 ts us, r.body.1 = some ⟨b, o, none⟩ ∧ b < w.heap.size ∧ Hid (stAt p.body k = ⟨x, y, ts, us⟩) ∧ w.cell? ⟨b, o + k * 4, none⟩ = some (.int .i64 x) ∧ w.cell? ⟨b, o + k * 4 + 1, none⟩ = some (.int .i64 y) ∧ w.cell? ⟨b, o + k * 4 + 2, none⟩ = some (.slice ba m1 d1) ∧ w.cell? ⟨b, o + k * 4 + 3, none⟩ = some (.slice bb m2 d2) ∧ m1 ≤ d1 ∧ m2 ≤ d2 ∧ Terms w ba m1 ts ∧ Terms w bb m2 us) := Lib.hid (fun k hk => stmt_row h hcap hk)
  have HON : Hid (∀ k b o w', Below w.heap.size w w' → k < p.body.length → r.body.1 = some ⟨b, o, none⟩ → Stmts w' (some ⟨b, o + k * 4, none⟩) 1 [srAt r.rows k] [stAt p.body k]) := Lib.hid (fun k b o w' hw hk hb => one_stmts (h.below hw) hk hb)
  have HBD := Lib.hid h.body
  have HL := Lib.hid h.body.2.1
  have HWT := Lib.hid (And.intro h.width h.temps)
  have HIT := Lib.hid (And.intro h.inW h.inT)
  have hn4 := h.body.2.2.1
  have hcb := hcap.body
  obtain ⟨wd, ⟨a1, n1, c1⟩, ⟨a2, n2, c2⟩, tp, ⟨a3, n3, c3⟩, ⟨a4, n4, c4⟩, rows⟩ := r
  simp only [] at HBD HL hn4 HWT HCP HRW hcb HON
  clear h hcap
  show Calls Tryz.prog 15 #[.agg #[.int .i64 wd, .slice a1 n1 c1, .slice a2 n2 c2, .int .i64 tp, .slice a3 n3 c3, .slice a4 n4 c4]] w _
  obtain ⟨wa, HW⟩ : ∃ wa, Hid (wa = (w.alloc (.cells #[.int .i64 wd, .slice a1 n1 c1, .slice a2 n2 c2, .int .i64 tp, .slice a3 n3 c3, .slice a4 n4 c4] 28)).alloc (.cells #[.int .i64 0, .slice none 0 0, .slice none 0 0, .int .i64 0, .slice none 0 0, .slice none 0 0] 28)) := ⟨_, rfl⟩
  have B0 : SB w wa [.int .i64 wd, .slice a1 n1 c1, .slice a2 n2 c2, .int .i64 tp, .slice a3 n3 c3, .slice a4 n4 c4] := by
    rw [HW.out]
    exact ⟨(Blk.new w _ _).alloc _, by simpa using Blk.new (w.alloc (.cells #[.int .i64 wd, .slice a1 n1 c1, .slice a2 n2 c2, .int .i64 tp, .slice a3 n3 c3, .slice a4 n4 c4] 28)) 28 [.int .i64 0, .slice none 0 0, .slice none 0 0, .int .i64 0, .slice none 0 0, .slice none 0 0], ((Below.refl _ _).alloc (Nat.le_refl _) _).alloc (by simp) _⟩
  have HB0 := Lib.hid B0
  have hfar0 := B0.res.lt
  clear B0
  by_cases hz : codeB p = 0
  · have hzz : (codeB p == 0) = true := by simpa using hz
    have HSP : Hid (sliceP p = { p with body := p.body.filter (keepB p) }) := Lib.hid (by rw [sliceP, if_pos hz])
    rw [hzz] at HPO
    rw [HSP.out]
    have HE := Lib.hid (HNE.out hz)
    have HS := Lib.hid (HST.out hz)
    have HZ := Lib.hid hz
    clear HNE HST hz hzz HSP
    go_enter Tryz.func15, Tryz.ntmps15
    go_wp2_with fail
    rw [← HW.out]
    refine (HPO.out _ HB0.out.bel).mono ?_
    rintro e w1 ⟨rfl, hb1⟩
    have HB1 := Lib.hid (HB0.out.below hb1)
    have B1 := HB1.out.box
    have t0 := B1.cell (j := 0) rfl
    have t1 := B1.cell (j := 1) rfl
    have t2 := B1.cell (j := 2) rfl
    have t3 := B1.cell (j := 3) rfl
    have t4 := B1.cell (j := 4) rfl
    have t5 := B1.cell (j := 5) rfl
    have hfar1 := HB1.out.res.lt
    clear hb1 B1 HB0
    go_wp2_with fail
    refine (HE.out _ HB1.out.bel).mono ?_
    rintro e w2 ⟨v1, v2, v3, x1, x2, x3, rfl, hV, hA, hb2⟩
    have HB2 := Lib.hid (HB1.out.below hb2)
    have HV2 := Lib.hid hV
    have HA2 := Lib.hid hA
    have B2 := HB2.out.box
    have hfar2 := HB2.out.res.lt
    clear t0 t1 t2 t3 t4 t5 hb2 hV hA
    have t0 := B2.cell (j := 0) rfl
    have t1 := B2.cell (j := 1) rfl
    have t2 := B2.cell (j := 2) rfl
    have t3 := B2.cell (j := 3) rfl
    have t4 := B2.cell (j := 4) rfl
    have t5 := B2.cell (j := 5) rfl
    clear B2
    go_wp2_with fail
    refine (HCP.out _ HB2.out.bel).mono ?_
    rintro e w3 ⟨⟨e1, e2, e3⟩, ⟨f1, f2, f3⟩, ⟨g1, g2, g3⟩, ⟨h1, h2, h3⟩, rs0, rfl, o1, o2, o3, _, hb3⟩
    have HB3 := Lib.hid (HB2.out.below hb3)
    have HV3 := Lib.hid (HV2.out.below hb3)
    have HA3 := Lib.hid (HA2.out.below hb3)
    have HSD : Hid (Sides w3 w2.heap.size p (e1, e2, e3) (f1, f2, f3) (g1, g2, g3)) := Lib.hid ⟨o1, o2, o3⟩
    have h23 := hb3.size
    simp only [slV]
    clear t0 t1 t2 t3 t4 t5 hb3 o1 o2 o3
    go_wp2_with fail
    obtain ⟨wi, HWI⟩ : ∃ wi, Hid (wi = (w3.alloc (.cells #[.int .i64 wd, .slice e1 e2 e3, .slice f1 f2 f3, .int .i64 tp, .slice g1 g2 g3, .slice (some ⟨w3.heap.size + 1, 0, none⟩) 0 0] 28)).alloc (.cells #[] 74)) := ⟨_, rfl⟩
    have BI : Below w3.heap.size w3 wi := by rw [HWI.out]; exact ((Below.refl _ _).alloc (Nat.le_refl _) _).alloc (by simp) _
    have OI : Blk wi w3.heap.size 28 [.int .i64 wd, .slice e1 e2 e3, .slice f1 f2 f3, .int .i64 tp, .slice g1 g2 g3, .slice (some ⟨w3.heap.size + 1, 0, none⟩) 0 0] := by rw [HWI.out]; exact (Blk.new w3 _ _).alloc _
    have SI : OwnStmts wi (w3.heap.size + 1) (some ⟨w3.heap.size + 1, 0, none⟩) 0 0 [] [] := by
      have := ownStmts_empty (w3.alloc (.cells #[.int .i64 wd, .slice e1 e2 e3, .slice f1 f2 f3, .int .i64 tp, .slice g1 g2 g3, .slice (some ⟨w3.heap.size + 1, 0, none⟩) 0 0] 28)) (w3.heap.size + 1) (by simp)
      rw [HWI.out]
      simpa using this
    rw [← HWI.out]
    have HBI := Lib.hid BI
    have HOI := Lib.hid OI
    have HSI := Lib.hid SI
    clear BI OI SI
    go_loopw [6] (fun iv wr => ∃ (k : Nat) (a : Option Addr) (n c : Nat) (rs : List SRow), k ≤ n4 ∧ n ≤ k ∧ iv = .int .i64 (k : Int) ∧ Blk wr w3.heap.size 28 [.int .i64 wd, .slice e1 e2 e3, .slice f1 f2 f3, .int .i64 tp, .slice g1 g2 g3, .slice a n c] ∧ OwnStmts wr (w3.heap.size + 1) a n c rs ((p.body.take k).filter (keepB p)) ∧ Below w3.heap.size w3 wr) (fun iv _ => n4 - (intOf iv).toNat)
    case atStart => exact ⟨0, _, 0, 0, [], Nat.zero_le _, Nat.le_refl _, rfl, HOI.out, HSI.out, HBI.out⟩
    case round =>
      obtain ⟨k, a, n, c, rs, hk, hnk, rfl, hb, ho, hB⟩ := hrel
      have HO := Lib.hid ho
      have HOB := Lib.hid hb
      have HBW := Lib.hid hB
      have HBR := Lib.hid (HB3.out.below hB)
      clear ho hb hB
      have B4 := HBR.out.box
      have t0 := B4.cell (j := 0) rfl
      have t1 := B4.cell (j := 1) rfl
      have t2 := B4.cell (j := 2) rfl
      have t3 := B4.cell (j := 3) rfl
      have t4 := B4.cell (j := 4) rfl
      have t5 := B4.cell (j := 5) rfl
      clear B4
      by_cases hlt : k < n4
      · have hkl : k < p.body.length := by rw [HL.out]; exact hlt
        obtain ⟨b, o, x, y, p1, m1, d1, p2, m2, d2, ts, us, rfl, hbl, hst, hc1, hc2, hc3, hc4, hm1, hm2, hT1, hT2⟩ := HRW.out k hkl
        have hc1 := (HBR.out.bel.cell hbl).trans hc1
        have hc2 := (HBR.out.bel.cell hbl).trans hc2
        have hc3 := (HBR.out.bel.cell hbl).trans hc3
        have hc4 := (HBR.out.bel.cell hbl).trans hc4
        obtain ⟨ws, HWS⟩ : ∃ ws, Hid (ws = wr.alloc (.cells #[.int .i64 x, .int .i64 y, .slice p1 m1 d1, .slice p2 m2 d2] 74)) := ⟨_, rfl⟩
        have hbs : Below wr.heap.size wr ws := by rw [HWS.out]; exact (Below.refl _ _).alloc (Nat.le_refl _) _
        have HBSS := Lib.hid hbs
        have BS : Blk ws wr.heap.size 74 [.int .i64 x, .int .i64 y, .slice p1 m1 d1, .slice p2 m2 d2] := by rw [HWS.out]; exact Blk.new wr _ _
        have HBX := Lib.hid (HBR.out.below hbs)
        have HBS := Lib.hid BS
        have HRS : Hid (RightS p ⟨x, y, ts, us⟩) := Lib.hid (by have := right_all HZ.out _ (stAt_mem hkl); rw [hst.out] at this; exact this)
        have HTT := Lib.hid (fun w' (hw : Below w.heap.size w w') => And.intro (hT1.below (Nat.le_refl _) hw) (hT2.below (Nat.le_refl _) hw))
        have HCM := Lib.hid (fun w' (hw : Below w.heap.size w w') => HS.out x y p1 p2 m1 m2 d1 d2 ts us w' hw HRS.out (HTT.out w' hw).1 (HTT.out w' hw).2 hm1 hm2)
        have HIV := Lib.hid (fun w' (hw : Below w3.heap.size w3 w') => l2In_any _ _ v3 (needP p).1 y w' (HV3.out.below hw))
        have HIA := Lib.hid (fun w' (hw : Below w3.heap.size w3 w') => l2In_any _ _ x3 (needP p).2 y w' (HA3.out.below hw))
        have HBWX := Lib.hid (HBW.out.trans (hbs.mono HBW.out.size))
        have hss := hbs.size
        clear BS hbs hT1 hT2
        go_upto_region 10 with fail
        rw [← HWS.out]
        have t0 := HBS.out.cell (j := 0) rfl
        have t1 := HBS.out.cell (j := 1) rfl
        have t2 := HBS.out.cell (j := 2) rfl
        have t3 := HBS.out.cell (j := 3) rfl
        have B5 := HBX.out.box
        have u0 := B5.cell (j := 0) rfl
        have u1 := B5.cell (j := 1) rfl
        have u2 := B5.cell (j := 2) rfl
        have u3 := B5.cell (j := 3) rfl
        have u4 := B5.cell (j := 4) rfl
        have u5 := B5.cell (j := 5) rfl
        clear B5
        go_cut [66] (fun s wx => s = .bool (!keepB p ⟨x, y, ts, us⟩) ∧ Below w3.heap.size w3 wx ∧ Below ws.heap.size ws wx)
        case first =>
          by_cases hx0 : x = 0
          · subst hx0
            obtain ⟨mx, HM⟩ : ∃ mx, Hid (mayStm p ⟨0, y, ts, us⟩ = mx) := ⟨_, rfl⟩
            obtain ⟨q, HQ⟩ : ∃ q, Hid (decide (y ∈ (needP p).1) = q) := ⟨_, rfl⟩
            have HKQ : Hid (keepB p ⟨0, y, ts, us⟩ = (q || mx)) := Lib.hid (by rw [← HM.out, ← HQ.out]; rfl)
            rw [HM.out] at HCM
            rw [HQ.out] at HIV
            clear HM HQ
            go_wp2_with fail
            refine (HCM.out _ HBX.out.bel).mono ?_
            rintro e w5 ⟨rfl, hb5⟩
            have HB5 := Lib.hid hb5
            have HW5 := Lib.hid (HBWX.out.trans (hb5.mono HBWX.out.size))
            have S5 := HBS.out.below hb5 HBS.out.lt
            clear t0 t1 t2 t3 u0 u1 u2 u3 u4 u5 hb5
            have t0 := S5.cell (j := 0) rfl
            have t1 := S5.cell (j := 1) rfl
            clear S5
            cases mx with
            | true =>
              go_wp2_with fail
              go_meet
              exact ⟨by rw [HKQ.out]; simp, HW5.out, HB5.out⟩
            | false =>
              go_wp2_with fail
              refine (HIV.out _ HW5.out).mono ?_
              rintro e w6 ⟨rfl, rfl⟩
              cases q with
              | true =>
                go_wp2_with fail
                go_meet
                exact ⟨by rw [HKQ.out]; simp, HW5.out, HB5.out⟩
              | false =>
                go_wp2_with fail
                go_meet
                exact ⟨by rw [HKQ.out]; simp, HW5.out, HB5.out⟩
          · by_cases hx1 : x = 1
            · subst hx1
              obtain ⟨mx, HM⟩ : ∃ mx, Hid (mayStm p ⟨1, y, ts, us⟩ = mx) := ⟨_, rfl⟩
              obtain ⟨q, HQ⟩ : ∃ q, Hid (decide (y ∈ (needP p).2) = q) := ⟨_, rfl⟩
              have HKQ : Hid (keepB p ⟨1, y, ts, us⟩ = (q || mx)) := Lib.hid (by rw [← HM.out, ← HQ.out]; rfl)
              rw [HM.out] at HCM
              rw [HQ.out] at HIA
              clear HM HQ
              go_wp2_with fail
              refine (HCM.out _ HBX.out.bel).mono ?_
              rintro e w5 ⟨rfl, hb5⟩
              have HB5 := Lib.hid hb5
              have HW5 := Lib.hid (HBWX.out.trans (hb5.mono HBWX.out.size))
              have S5 := HBS.out.below hb5 HBS.out.lt
              clear t0 t1 t2 t3 u0 u1 u2 u3 u4 u5 hb5
              have t0 := S5.cell (j := 0) rfl
              have t1 := S5.cell (j := 1) rfl
              clear S5
              cases mx with
              | true =>
                go_wp2_with fail
                go_meet
                exact ⟨by rw [HKQ.out]; simp, HW5.out, HB5.out⟩
              | false =>
                go_wp2_with fail
                refine (HIA.out _ HW5.out).mono ?_
                rintro e w6 ⟨rfl, rfl⟩
                cases q with
                | true =>
                  go_wp2_with fail
                  go_meet
                  exact ⟨by rw [HKQ.out]; simp, HW5.out, HB5.out⟩
                | false =>
                  go_wp2_with fail
                  go_meet
                  exact ⟨by rw [HKQ.out]; simp, HW5.out, HB5.out⟩
            · have HKQ : Hid (keepB p ⟨x, y, ts, us⟩ = true) := Lib.hid (by rw [keepB, if_neg hx0, if_neg hx1])
              go_wp2_with fail
              go_meet
              exact ⟨by rw [HKQ.out]; rfl, HBWX.out, Below.refl _ _⟩
        case rest =>
          obtain ⟨rfl, hbc, hbc2⟩ := hcut
          obtain ⟨q, HQ⟩ : ∃ q, Hid (keepB p ⟨x, y, ts, us⟩ = q) := ⟨_, rfl⟩
          rw [HQ.out]
          have HBC := Lib.hid hbc
          have HB3C := Lib.hid (HB3.out.below hbc)
          have HWC := Lib.hid (HBSS.out.trans (hbc2.mono HBSS.out.size))
          have HOC := Lib.hid (HO.out.below HWC.out)
          have HOBC := Lib.hid (HOB.out.below HWC.out HOB.out.lt)
          have hsc := HWC.out.size
          clear t0 t1 t2 t3 u0 u1 u2 u3 u4 u5 hbc hbc2 hc1 hc2 hc3 hc4
          have B6 := HB3C.out.box
          have t0 := B6.cell (j := 0) rfl
          have t1 := B6.cell (j := 1) rfl
          have t2 := B6.cell (j := 2) rfl
          have t3 := B6.cell (j := 3) rfl
          have t4 := B6.cell (j := 4) rfl
          have t5 := B6.cell (j := 5) rfl
          clear B6
          cases q with
          | false =>
            have HFN : Hid ((p.body.take (k + 1)).filter (keepB p) = (p.body.take k).filter (keepB p)) := Lib.hid (filter_no hkl hst HQ.out)
            rw [← HFN.out] at HOC
            go_wp2
            go_roundw
            case rel => exact ⟨k + 1, a, n, c, rs, by omega, by omega, by go_num, HOBC.out, HOC.out, HBC.out⟩
            case measure => simp [intOf]; omega
          | true =>
            have HFY : Hid ((p.body.take (k + 1)).filter (keepB p) = (p.body.take k).filter (keepB p) ++ [⟨x, y, ts, us⟩]) := Lib.hid (filter_yes hkl hst HQ.out)
            have hd : Below wc.heap.size wc wc.drew := ⟨rfl, rfl, rfl, Nat.le_refl _, fun _ _ => rfl⟩
            have HND := Lib.hid (HON.out k b o wc.drew (HB3C.out.bel.trans (hd.mono HB3C.out.bel.size)) hkl rfl)
            rw [hst.out] at HND
            have HBLK : Hid (∀ g ∈ blks rs, g < wc.heap.size) := Lib.hid (fun g hg => (HOC.out.blks_lt hg).2)
            have o5 := HOBC.out.cell (j := 5) rfl
            have hol := HOBC.out.lt
            have hol3 := HBC.out.size
            have hwk : IntKind.i64.wrap ((k : Int) + 1) = (k : Int) + 1 := wrapI _ (by omega) (by omega)
            have hkc : (k : Int) + 1 ≤ (c4 : Int) := by omega
            have hk0 : (0 : Int) ≤ (k : Int) + 1 := by omega
            have hck : ¬ c4 = k := by omega
            go_wp2_with fail
            go_region_law (first
              | (refine step_pushSt _ (by rfl) _ _ (by rfl) (w3.heap.size + 1) wc.heap.size _ _ _ rs _ (by rfl) (by exact HO6.out) HBLK.out (by omega) w5.heap.size _ _ HR6.out HAP.out (by rfl) HX6.out (by omega) (by simp; omega) ?_; intro a6 c6 w6 ho6 hg6; have HG6 := Lib.hid hg6; have HO7 := Lib.hid ho6; have OB6 : Blk w6 w3.heap.size 28 [.int .i64 wd, .slice e1 e2 e3, .slice f1 f2 f3, .int .i64 tp, .slice g1 g2 g3, .slice a n c] := (hg6.1.block _ HOB6.out.lt (fun e => by have := (HO6.out.block _ e.symm).1; omega)).trans HOB6.out; have x0 := OB6.cell (j := 5) rfl; have xf := OB6.frozen 5; have HOB7 := Lib.hid OB6; have HBF : Hid (Below w3.heap.size w3 w6) := Lib.hid ((HBC.out.trans ((HB5.out.trans (HAL.out.mono HB5.out.size)).mono HBC.out.size)).trans (hg6.below (by simp; omega) (fun g hg => by have := (HO6.out.block g hg).1; omega))); clear ho6 hg6 OB6)
              | (go_simp; refine (l3CopyBody_any _ 1 _ [srAt rows k] [⟨x, y, ts, us⟩] wc.drew HND.out).mono ?_; rintro e w5 ⟨aa, nn, cc, rs5, rfl, ho5, hb5⟩; obtain ⟨bb, oo, op, num, q1, l1, j1, q2, l2, j2, rfl, rfl, u0, u1, u2, u3, hr5, hap⟩ := made_one ho5; have HB5 : Hid (Below wc.heap.size wc w5) := Lib.hid (hd.trans (hb5.mono hd.size)); have v5 := (HOBC.out.below HB5.out HOBC.out.lt).cell (j := 5) rfl; have HAL : Hid (Below w5.heap.size w5 (w5.alloc (.cells #[.int .i64 op, .int .i64 num, .slice q1 l1 j1, .slice q2 l2 j2] 74))) := Lib.hid ((Below.refl w5.heap.size w5).alloc (Nat.le_refl _) _); have HO6 := Lib.hid ((HOC.out.below HB5.out).below HAL.out); have HR6 : Hid (OwnStm (w5.alloc (.cells #[.int .i64 op, .int .i64 num, .slice q1 l1 j1, .slice q2 l2 j2] 74)) wc.heap.size ⟨op, num, (q1, l1, j1), (q2, l2, j2)⟩ ⟨x, y, ts, us⟩) := Lib.hid (hr5.below HAL.out); have HX6 : Hid (Blk (w5.alloc (.cells #[.int .i64 op, .int .i64 num, .slice q1 l1 j1, .slice q2 l2 j2] 74)) w5.heap.size 74 (srowV ⟨op, num, (q1, l1, j1), (q2, l2, j2)⟩)) := Lib.hid (Blk.new w5 _ _); have HAP := Lib.hid hap; have h5s := HB5.out.size; have HOB6 := Lib.hid ((HOBC.out.below HB5.out HOBC.out.lt).below HAL.out (HOBC.out.below HB5.out HOBC.out.lt).lt); have v6 := HOB6.out.cell (j := 5) rfl; clear ho5 hb5 hr5 hap; dsimp only))
            all_goals
              rw [← HFY.out] at HO7
              go_wp2
              go_roundw
              case rel => exact ⟨k + 1, a6, n + 1, c6, _, by omega, by omega, by go_num, HOB7.out.set _, HO7.out.set (by omega) _, below_set HBF.out (by simp) _⟩
              case measure => simp [intOf]; omega
      · obtain rfl : n4 = k := by omega
        have HFA : Hid ((p.body.take n4).filter (keepB p) = p.body.filter (keepB p)) := Lib.hid (by rw [← HL.out, List.take_length])
        rw [HFA.out] at HO
        have HSD2 := Lib.hid (HSD.out.below ((Below.refl _ _).trans HBW.out))
        have R3 := HBR.out.res
        have O3 := HOB.out
        have r0 := R3.cell (j := 0) rfl
        have r1 := R3.cell (j := 1) rfl
        have r2 := R3.cell (j := 2) rfl
        have r3 := R3.cell (j := 3) rfl
        have r4 := R3.cell (j := 4) rfl
        have r5 := R3.cell (j := 5) rfl
        have o0 := O3.cell (j := 0) rfl
        have o1 := O3.cell (j := 1) rfl
        have o2 := O3.cell (j := 2) rfl
        have o3 := O3.cell (j := 3) rfl
        have o4 := O3.cell (j := 4) rfl
        have o5 := O3.cell (j := 5) rfl
        have z0 := R3.frozen 0
        have z1 := R3.frozen 1
        have z2 := R3.frozen 2
        have z3 := R3.frozen 3
        have z4 := R3.frozen 4
        have z5 := R3.frozen 5
        have hrl := HBR.out.res.lt
        have hol := HOB.out.lt
        have hrl2 := HB2.out.res.lt
        clear R3 O3
        go_wp2
        refine bodyPost_ret (v := .agg #[.int .i64 wd, .slice e1 e2 e3, .slice f1 f2 f3, .int .i64 tp, .slice g1 g2 g3, .slice a n c]) (by simp [results, Tryz.results15, go_sem, r0, r1, r2, r3, r4, r5]) rfl ?_
        exact ⟨⟨wd, (e1, e2, e3), (f1, f2, f3), tp, (g1, g2, g3), (a, n, c), rs⟩, rfl, ⟨HWT.out.1, HWT.out.2, HIT.out.1, HIT.out.2, ((((((HSD2.out.set (by omega) _).set (by omega) _).set (by omega) _).set (by omega) _).set (by omega) _).set (by omega) _).lows.terms, ((((((HSD2.out.set (by omega) _).set (by omega) _).set (by omega) _).set (by omega) _).set (by omega) _).set (by omega) _).secrets.terms, ((((((HSD2.out.set (by omega) _).set (by omega) _).set (by omega) _).set (by omega) _).set (by omega) _).set (by omega) _).arrays.ints, ((((((HO.out.set (by omega) _).set (by omega) _).set (by omega) _).set (by omega) _).set (by omega) _).set (by omega) _).reads⟩, caps_of HO.out, (below_set (below_set (below_set (below_set (below_set (below_set HBR.out.bel (by simp) _) (by simp) _) (by simp) _) (by simp) _) (by simp) _) (by simp) _)⟩
  · have hzz : (codeB p == 0) = false := by simpa using hz
    have HSP : Hid (sliceP p = ⟨0, [], [], 0, [], []⟩) := Lib.hid (by rw [sliceP, if_neg hz])
    rw [hzz] at HPO
    rw [HSP.out]
    clear HNE HST hz hzz HSP
    go_enter Tryz.func15, Tryz.ntmps15
    go_wp2_with fail
    rw [← HW.out]
    refine (HPO.out _ HB0.out.bel).mono ?_
    rintro e w1 ⟨rfl, hb1⟩
    have HB1 := Lib.hid (HB0.out.below hb1)
    have R1 := HB1.out.res
    have r0 := R1.cell (j := 0) rfl
    have r1 := R1.cell (j := 1) rfl
    have r2 := R1.cell (j := 2) rfl
    have r3 := R1.cell (j := 3) rfl
    have r4 := R1.cell (j := 4) rfl
    have r5 := R1.cell (j := 5) rfl
    have f0 := R1.frozen 0
    have f1 := R1.frozen 1
    have f2 := R1.frozen 2
    have f3 := R1.frozen 3
    have f4 := R1.frozen 4
    have f5 := R1.frozen 5
    clear hb1 R1
    go_wp2
    refine bodyPost_ret (v := .agg #[.int .i64 0, .slice none 0 0, .slice none 0 0, .int .i64 0, .slice none 0 0, .slice none 0 0]) (by simp [results, Tryz.results15, go_sem, r0, r1, r2, r3, r4, r5]) rfl ?_
    exact ⟨⟨0, (none, 0, 0), (none, 0, 0), 0, (none, 0, 0), (none, 0, 0), []⟩, rfl, ⟨rfl, rfl, show In64 0 from ⟨by omega, by omega⟩, show In64 0 from ⟨by omega, by omega⟩, (ownI_nil _ 0).terms, (ownI_nil _ 0).terms, (own_nil _ 0).ints, (ownStmts_nil _ 0).reads⟩, caps_of (ownStmts_nil wa 0), (below_set (below_set (below_set (below_set (below_set (below_set HB1.out.bel (by simp) _) (by simp) _) (by simp) _) (by simp) _) (by simp) _) (by simp) _)⟩
end Go.Proofs.YtbnpoliogldohaaGreat
/- The laws' marks on programs, and what they hold (markStmtS, heldStmtS, markProg, heldProg): what was written is told. -/
namespace Go.Proofs.YtbnpoliogldohaaGreat
open Go.RowKit

/-- Only blocks of D turn. -/
structure Turned (D : Nat → Prop) (w w' : World) : Prop where
  os : w'.os = w.os
  tape : w'.tape = w.tape
  output : w'.output = w.output
  size : w.heap.size ≤ w'.heap.size
  block : ∀ g, g < w.heap.size → ¬ D g → w'.heap[g]? = w.heap[g]?
section
variable {D : Nat → Prop} {w w' w'' : World} {B n c : Nat} {a : Option Addr}
theorem Turned.refl (D : Nat → Prop) (w : World) : Turned D w w := ⟨rfl, rfl, rfl, Nat.le_refl _, fun _ _ _ => rfl⟩
theorem Turned.grown {row : Option Nat} (h : Turned D w w') (hg : w'.grownBy w'' row) (hr : ∀ g, row = some g → D g) : Turned D w w'' :=
  ⟨hg.os.trans h.os, hg.tape.trans h.tape, hg.output.trans h.output, Nat.le_trans h.size hg.size, fun i hi hd => (hg.block i (Nat.lt_of_lt_of_le hi h.size) (fun e => hd (hr i e.symm))).trans (h.block i hi hd)⟩
theorem Turned.row {t : TypeId} {size : Nat} {v : Value} {xs : List Value} (h : w.ownsRow B t size v n xs) (hs : Turned D w w') (hv : ∀ g, v.ownBlock = some g → ¬ D g) : w'.ownsRow B t size v n xs := by
  refine ⟨h.1, ?_⟩
  rcases h.2 with hn | ⟨g, cap, cur, hv', hb, hg, rest⟩
  · exact .inl hn
  · exact .inr ⟨g, cap, cur, hv', hb, (hs.block g (Array.getElem?_eq_some_iff.1 hg).1 (hv g (by rw [hv']; rfl))).trans hg, rest⟩
end
def StD (a : Option Addr) (n c : Nat) (rs : List SRow) (g : Nat) : Prop := (slV (a, n, c)).ownBlock = some g ∨ g ∈ blks rs
theorem std_row {rs : List SRow} {n c g : Nat} : StD (some ⟨g, 0, none⟩) n c rs g := .inl rfl
theorem std_at {a : Option Addr} {n c j : Nat} {rs : List SRow} (hl : rs.length = n) (hj : j < n) {g : Nat} (h : g ∈ blksOf (srAt rs j)) : StD a n c rs g := .inr (List.mem_flatMap.2 ⟨srAt rs j, by simp [srAt, List.getD_eq_getElem?_getD, hl, hj], h⟩)
/-- The mark at a statement. -/
def posS (rs : List SRow) (k : Nat) : Nat → Nat
  | 0 => k
  | j + 1 => posS rs k j + 2 + 2 * (srAt rs j).at_.2.1 + 2 * (srAt rs j).exp.2.1
theorem posS_le {rs : List SRow} {k n : Nat} (h : ∀ i, i < n → (srAt rs i).at_.2.1 ≤ 1048576 ∧ (srAt rs i).exp.2.1 ≤ 1048576) : ∀ j, j ≤ n → posS rs k j ≤ k + j * 4194306
  | 0, _ => by simp [posS]
  | j + 1, hj => by
    have h1 := posS_le (k := k) h j (by omega)
    have h2 := h j (by omega)
    rw [posS, Nat.add_mul]
    omega
theorem posS_succ {rs : List SRow} {k j p : Nat} {a1 a2 : Option Addr} {n1 c1 n2 c2 : Nat} (hp : posS rs k j = p) (h1 : (srAt rs j).at_ = (a1, n1, c1)) (h2 : (srAt rs j).exp = (a2, n2, c2)) : posS rs k (j + 1) = p + 2 + 2 * n1 + 2 * n2 := by rw [posS, hp, h1, h2]
/-- The first j statements are marked. -/
structure HeldS (w : World) (B : Nat) (rs rs' : List SRow) (k j : Nat) : Prop where
  nums : ∀ i, i < j → (srAt rs' i).op = ((posS rs k i : Nat) : Int) ∧ (srAt rs' i).n = ((posS rs k i : Nat) : Int) + 1
  ats : ∀ i, i < j → OwnT w B (srAt rs i).at_.1 (srAt rs i).at_.2.1 (srAt rs i).at_.2.2 (marksT ((posS rs k i + 2 : Nat) : Int) (srAt rs i).at_.2.1)
  exps : ∀ i, i < j → OwnT w B (srAt rs i).exp.1 (srAt rs i).exp.2.1 (srAt rs i).exp.2.2 (marksT ((posS rs k i + 2 + 2 * (srAt rs i).at_.2.1 : Nat) : Int) (srAt rs i).exp.2.1)
theorem HeldS.start (w : World) (B : Nat) (rs rs' : List SRow) (k : Nat) : HeldS w B rs rs' k 0 := ⟨fun i hi => absurd hi (by omega), fun i hi => absurd hi (by omega), fun i hi => absurd hi (by omega)⟩
section
variable {w0 w w' : World} {lo hi B n c g k j : Nat} {a : Option Addr} {rs rs' : List SRow}
theorem HeldS.below (h : HeldS w B rs rs' k j) (hb : Below w.heap.size w w') : HeldS w' B rs rs' k j := ⟨h.nums, fun i hi => (h.ats i hi).below hb, fun i hi => (h.exps i hi).below hb⟩
theorem HeldS.nums_ (h : HeldS w B rs rs' k j) (hr : MarkRel w0 w lo hi B (some ⟨g, 0, none⟩) n c rs rs') (x y : Int) :
    HeldS ((w.setCell ⟨g, j * 4, none⟩ (.int .i64 x)).setCell ⟨g, j * 4 + 1, none⟩ (.int .i64 y)) B rs (rs'.set j ⟨x, y, (srAt rs' j).at_, (srAt rs' j).exp⟩) k j := by
  have s1 := hr.row.stored (j * 4) (.int .i64 x)
  have kt : ∀ {s : Sl} {ts : List Tm}, OwnT w B s.1 s.2.1 s.2.2 ts → OwnT ((w.setCell ⟨g, j * 4, none⟩ (.int .i64 x)).setCell ⟨g, j * 4 + 1, none⟩ (.int .i64 y)) B s.1 s.2.1 s.2.2 ts := fun {s ts} ho => by
    have h1 : OwnT (w.setCell ⟨g, j * 4, none⟩ (.int .i64 x)) B s.1 s.2.1 s.2.2 ts := ho.apart (grown_set _ _ _ _) (fun g' hg' e => by injection e with e; subst e; exact own_kinds ho.1 hr.row (by decide) hg' rfl)
    exact h1.apart (grown_set _ _ _ _) (fun g' hg' e => by injection e with e; subst e; exact own_kinds h1.1 s1.1 (by decide) hg' rfl)
  refine ⟨fun i hi => ?_, fun i hi => kt (h.ats i hi), fun i hi => kt (h.exps i hi)⟩
  rw [show srAt (rs'.set j ⟨x, y, (srAt rs' j).at_, (srAt rs' j).exp⟩) i = srAt rs' i by rw [srAt, List.getD_eq_getElem?_getD, List.getElem?_set_ne (by omega), srAt, List.getD_eq_getElem?_getD]]
  exact h.nums i hi
theorem HeldS.at_ (h : HeldS w B rs rs' k j) (_hr : MarkRel w0 w lo hi B a n c rs rs') (hj : j < n) (hl : rs.length = n) (hn : (blks rs).Nodup) (hg : w.grownBy w' (slV (srAt rs j).at_).ownBlock) : HeldS w' B rs rs' k j :=
  ⟨h.nums, fun i hi => (h.ats i hi).apart hg (fun g hgg e' => blks_apart hn (by omega) (by omega) (show i ≠ j by omega) (at_mem hgg) (at_mem e')), fun i hi => (h.exps i hi).apart hg (fun g hgg e' => blks_apart hn (by omega) (by omega) (show i ≠ j by omega) (exp_mem hgg) (at_mem e'))⟩
theorem HeldS.exp (h : HeldS w B rs rs' k j) (_hr : MarkRel w0 w lo hi B a n c rs rs') (hj : j < n) (hl : rs.length = n) (hn : (blks rs).Nodup) (hg : w.grownBy w' (slV (srAt rs j).exp).ownBlock) : HeldS w' B rs rs' k j :=
  ⟨h.nums, fun i hi => (h.ats i hi).apart hg (fun g hgg e' => blks_apart hn (by omega) (by omega) (show i ≠ j by omega) (at_mem hgg) (exp_mem e')), fun i hi => (h.exps i hi).apart hg (fun g hgg e' => blks_apart hn (by omega) (by omega) (show i ≠ j by omega) (exp_mem hgg) (exp_mem e'))⟩
theorem HeldS.more {p : Nat} {a1 a2 : Option Addr} {n1 c1 n2 c2 : Nat} (h : HeldS w B rs (rs'.set j ⟨(p : Int), (p : Int) + 1, (srAt rs' j).at_, (srAt rs' j).exp⟩) k j) (hp : posS rs k j = p) (h1 : (srAt rs j).at_ = (a1, n1, c1)) (h2 : (srAt rs j).exp = (a2, n2, c2)) (hl : j < rs'.length)
    (o1 : OwnT w B a1 n1 c1 (marksT ((p + 2 : Nat) : Int) n1)) (o2 : OwnT w B a2 n2 c2 (marksT ((p + 2 + 2 * n1 : Nat) : Int) n2)) : HeldS w B rs (rs'.set j ⟨(p : Int), (p : Int) + 1, (srAt rs' j).at_, (srAt rs' j).exp⟩) k (j + 1) := by
  refine ⟨fun i hi => ?_, fun i hi => ?_, fun i hi => ?_⟩ <;> by_cases e : i = j
  · subst e
    rw [hp]
    simp [srAt, List.getD_eq_getElem?_getD, hl]
  · exact h.nums i (by omega)
  · subst e; rw [hp, h1]; exact o1
  · exact h.ats i (by omega)
  · subst e; rw [hp, h1, h2]; exact o2
  · exact h.exps i (by omega)
end
set_option maxHeartbeats 1600000 in
theorem markStmtS_held (a : Option Addr) (n c : Nat) (rs : List SRow) (ss : List Stm) (k : Nat) (w : World) (B lo hi : Nat) (h : OwnStmts w B a n c rs ss) (hb : SlIn lo hi (a, n, c)) (hin : ∀ g ∈ blks rs, lo ≤ g ∧ g < hi) (hk : k ≤ 1125899906842624) :
    Calls Tryz.prog 79 #[.slice a n c, .int .i64 (k : Int)] w fun e w' => ∃ rs' : List SRow, e = .returned (.int .i64 ((posS rs k n : Nat) : Int)) ∧ MarkRel w w' lo hi B a n c rs rs' ∧ HeldS w' B rs rs' k n ∧ Turned (StD a n c rs) w w' := by
  have HL := Lib.hid h.len
  have hbd := h.2.1
  have HN := Lib.hid h.2.2.2.2
  have HIN := Lib.hid hin
  have HSB := Lib.hid hb
  have HREL : Hid (MarkRel w w lo hi B a n c rs rs) := Lib.hid ⟨h.1, fun i hi => ⟨rfl, rfl⟩, fun i hi => ⟨_, (h.2.2.2.1 i hi).2.2.2.2.1⟩, fun i hi => ⟨_, (h.2.2.2.1 i hi).2.2.2.2.2⟩, Span.refl _ _ _⟩
  have HLE : Hid (∀ j, j ≤ n → posS rs k j ≤ k + j * 4194306) := Lib.hid (posS_le (fun i hi => ⟨(h.2.2.2.1 i hi).2.2.2.2.1.2.1, (h.2.2.2.1 i hi).2.2.2.2.2.2.1⟩))
  clear h hb hin
  go_enter Tryz.func79, Tryz.ntmps79
  go_wp2
  go_loopw [1, 5] (fun q i wr => ∃ (j p : Nat) (rs' : List SRow), j ≤ n ∧ i = .int .i64 j ∧ q = .int .i64 (p : Int) ∧ Hid (posS rs k j = p) ∧ MarkRel w wr lo hi B a n c rs rs' ∧ HeldS wr B rs rs' k j ∧ Turned (StD a n c rs) w wr) (fun _ i _ => n - (intOf i).toNat)
  case atStart => exact ⟨0, k, rs, Nat.zero_le _, rfl, rfl, Lib.hid rfl, HREL.out, HeldS.start _ _ _ _ _, Turned.refl _ _⟩
  case round =>
    clear HREL
    obtain ⟨j, p, rs', hj, rfl, rfl, HP, hrel, hheld, htur⟩ := hrel
    have HTU := Lib.hid htur
    clear htur
    by_cases hlt : j < n
    · obtain ⟨g, x, y, a1, a2, n1, c1, n2, c2, rfl, _, hs1, hs2, hc0, hc1, hc2, hc3⟩ := hrel.at_k hlt
      have hf0 := hrel.row.frozenAt (j * 4)
      have HLEN : Hid (j < rs'.length) := Lib.hid (by rw [hrel.len]; exact hlt)
      have hf1 := hrel.row.frozenAt (j * 4 + 1)
      have HT1 := Lib.hid ((HTU.out.grown (grown_set wr g (j * 4) (.int .i64 p)) (fun g' e => by injection e with e; subst e; exact std_row)).grown (grown_set _ g (j * 4 + 1) (.int .i64 ((p : Int) + 1))) (fun g' e => by injection e with e; subst e; exact std_row))
      have HH1 := Lib.hid (hheld.nums_ hrel (p : Int) ((p : Int) + 1))
      have hR1 := hrel.nums hlt (p : Int) ((p : Int) + 1) (HSB.out g rfl)
      have hp60 : p ≤ 1125904304889344 + 1125899906842624 := by
        have : j * 4194306 ≤ 1048576 * 4194306 := Nat.mul_le_mul_right _ (by omega)
        have := HLE.out j hj
        have := HP.out
        omega
      clear hrel hheld
      go_wp2_with fail
      obtain ⟨wx, HW⟩ : ∃ wx, Hid (wx = (wr.setCell ⟨g, j * 4, none⟩ (.int .i64 p)).setCell ⟨g, j * 4 + 1, none⟩ (.int .i64 ((p : Int) + 1))) := ⟨_, rfl⟩
      rw [← HW.out]
      rw [← HW.out] at hR1 HH1 HT1
      clear hc0 hc1 hc2 hc3 hf0 hf1
      obtain ⟨g', x', y', a1', a2', n1', c1', n2', c2', eg, _, hs1', hs2', _, _, hd2, hd3⟩ := hR1.at_k hlt
      have eg' : g = g' := by injection eg with eg; injection eg with eg
      have e1 := hs1.out.symm.trans hs1'.out
      have e2 := hs2.out.symm.trans hs2'.out
      injection e1 with e11 e12; injection e12 with e12 e13
      injection e2 with e21 e22; injection e22 with e22 e23
      subst eg' e11 e12 e13 e21 e22 e23
      clear hs1' hs2' eg HW
      obtain ⟨ts, hts⟩ := hR1.one j hlt
      have hts' := hts
      rw [hs1.out] at hts'
      have HN1 := hts'.2.1
      go_wp2_with fail
      refine (markTermS_w _ _ _ ts (p + 2) _ B hts' (by omega)).mono ?_
      rintro e w2 ⟨rfl, hot, hg2⟩
      have hR2 := hR1.at_ hlt HL.out HN.out HIN.out (ts := marksT ((p + 2 : Nat) : Int) n1) (by rw [hs1.out]; exact hot) (by rw [hs1.out]; exact hg2)
      have HH2 := Lib.hid (HH1.out.at_ hR1 hlt HL.out HN.out (by rw [hs1.out]; exact hg2))
      have HT2 := Lib.hid (HT1.out.grown hg2 (fun g' e => std_at HL.out hlt (at_mem (by rw [hs1.out]; exact e))))
      have HO1 : Hid (OwnT w2 B a1 n1 c1 (marksT ((p + 2 : Nat) : Int) n1)) := Lib.hid hot
      clear hot hg2 hts hts' hd2 hd3 hR1
      obtain ⟨g', x'', y'', a1', a2', n1', c1', n2', c2', eg, _, hs1', hs2', _, _, hd2, hd3⟩ := hR2.at_k hlt
      have eg' : g = g' := by injection eg with eg; injection eg with eg
      have e1 := hs1.out.symm.trans hs1'.out
      have e2 := hs2.out.symm.trans hs2'.out
      injection e1 with e11 e12; injection e12 with e12 e13
      injection e2 with e21 e22; injection e22 with e22 e23
      subst eg' e11 e12 e13 e21 e22 e23
      clear hs1' hs2' eg
      obtain ⟨us, hus⟩ := hR2.two j hlt
      have hus' := hus
      rw [hs2.out] at hus'
      have HN2 := hus'.2.1
      go_wp2_with fail
      refine (markTermS_w _ _ _ us (p + 2 + 2 * n1) _ B hus' (by omega)).mono ?_
      rintro e w3 ⟨rfl, hot, hg2⟩
      have hR3 := Lib.hid (hR2.exp hlt HL.out HN.out HIN.out (ts := marksT ((p + 2 + 2 * n1 : Nat) : Int) n2) (by rw [hs2.out]; exact hot) (by rw [hs2.out]; exact hg2))
      have HO2 : Hid (OwnT w3 B a1 n1 c1 (marksT ((p + 2 : Nat) : Int) n1)) := Lib.hid (HO1.out.apart hg2 (fun g hgg e' => blks_self (rs := rs) (i := j) HN.out (by rw [HL.out]; exact hlt) (by rw [hs1.out]; exact hgg) (by rw [hs2.out]; exact e')))
      have HT3 := Lib.hid (HT2.out.grown hg2 (fun g' e => std_at HL.out hlt (exp_mem (by rw [hs2.out]; exact e))))
      have HH3 := Lib.hid ((HH2.out.exp hR2 hlt HL.out HN.out (by rw [hs2.out]; exact hg2)).more HP.out hs1.out hs2.out HLEN.out HO2.out hot)
      clear hot hg2 hus hus' hd2 hd3 hR2
      go_wp2
      go_roundw
      case rel => exact ⟨j + 1, p + 2 + 2 * n1 + 2 * n2, _, by omega, by go_num, by go_num, Lib.hid (posS_succ HP.out hs1.out hs2.out), hR3.out, HH3.out, HT3.out⟩
      case measure => simp [intOf]; omega
    · obtain rfl : n = j := by omega
      have HR := Lib.hid hrel
      have HH := Lib.hid hheld
      clear hrel hheld
      go_wp2
      go_ret
      exact ⟨rs', by rw [HP.out]; rfl, HR.out, HH.out, HTU.out⟩
/-- A marked body. -/
structure HeldB (w : World) (B : Nat) (a : Option Addr) (n c : Nat) (rs : List SRow) (k : Nat) : Prop where
  row : ∃ rs' : List SRow, w.ownsRow B 74 4 (.slice a n c) n (flatS rs') ∧ (∀ i, i < n → (srAt rs' i).at_ = (srAt rs i).at_ ∧ (srAt rs' i).exp = (srAt rs i).exp) ∧ HeldS w B rs rs' k n
  small : ∀ j, j ≤ n → posS rs k j ≤ k + j * 4194306
  few : n ≤ 1048576
theorem HeldB.below {w w' : World} {B n c k : Nat} {a : Option Addr} {rs : List SRow} (h : HeldB w B a n c rs k) (hb : Below w.heap.size w w') : HeldB w' B a n c rs k := by
  obtain ⟨⟨rs', h1, h2, h3⟩, h4, h5⟩ := h
  exact ⟨⟨rs', h1.kept (row := none) ⟨hb.os, hb.tape, hb.output, hb.size, fun k hk _ => hb.block k hk⟩ (by cases a <;> simp [Value.ownBlock]), h2, h3.below hb⟩, h4, h5⟩
theorem HeldB.at_ {w : World} {B n c k j : Nat} {a : Option Addr} {rs : List SRow} (h : HeldB w B a n c rs k) (hj : j < n) : ∃ (g : Nat) (a1 a2 : Option Addr) (n1 c1 n2 c2 : Nat), a = some ⟨g, 0, none⟩ ∧ w.cell? ⟨g, j * 4, none⟩ = some (.int .i64 ((posS rs k j : Nat) : Int)) ∧ w.cell? ⟨g, j * 4 + 1, none⟩ = some (.int .i64 (((posS rs k j : Nat) : Int) + 1)) ∧ w.cell? ⟨g, j * 4 + 2, none⟩ = some (.slice a1 n1 c1) ∧ w.cell? ⟨g, j * 4 + 3, none⟩ = some (.slice a2 n2 c2) ∧ Terms w a1 n1 (marksT ((posS rs k j + 2 : Nat) : Int) n1) ∧ Terms w a2 n2 (marksT ((posS rs k j + 2 + 2 * n1 : Nat) : Int) n2) ∧ posS rs k (j + 1) = posS rs k j + 2 + 2 * n1 + 2 * n2 ∧ n1 ≤ 1048576 ∧ n2 ≤ 1048576 := by
  obtain ⟨⟨rs', h1, h2, h3⟩, h4, h5⟩ := h
  have hl : rs'.length = n := by have := h1.1; rw [flatS_len] at this; omega
  have hrow := h1
  rcases hrow.2 with ⟨_, h0⟩ | ⟨g, cap, cur, e, _⟩
  · omega
  have ea : a = some ⟨g, 0, none⟩ := by injection e
  subst ea
  have e0 := flatS_at rs' j 0 (by omega) (by omega)
  have e1 := flatS_at rs' j 1 (by omega) (by omega)
  have e2 := flatS_at rs' j 2 (by omega) (by omega)
  have e3 := flatS_at rs' j 3 (by omega) (by omega)
  obtain ⟨s1, s2⟩ := h2 j hj
  obtain ⟨m1, m2⟩ := h3.nums j hj
  have q0 := h1.cellAt (j * 4) (by omega)
  have q1 := h1.cellAt (j * 4 + 1) (by omega)
  have q2 := h1.cellAt (j * 4 + 2) (by omega)
  have q3 := h1.cellAt (j * 4 + 3) (by omega)
  rw [Nat.add_zero] at e0
  rw [e0] at q0
  rw [e1] at q1
  rw [e2] at q2
  rw [e3] at q3
  refine ⟨g, (srAt rs j).at_.1, (srAt rs j).exp.1, (srAt rs j).at_.2.1, (srAt rs j).at_.2.2, (srAt rs j).exp.2.1, (srAt rs j).exp.2.2, rfl, ?_, ?_, ?_, ?_, (h3.ats j hj).terms, (h3.exps j hj).terms, rfl, (h3.ats j hj).2.1, (h3.exps j hj).2.1⟩
  · rw [q0]; show some (Value.int .i64 (srAt rs' j).op) = _; rw [m1]
  · rw [q1]; show some (Value.int .i64 (srAt rs' j).n) = _; rw [m2]
  · rw [q2]; show some (slV (srAt rs' j).at_) = _; rw [s1]; rfl
  · rw [q3]; show some (slV (srAt rs' j).exp) = _; rw [s2]; rfl
set_option maxHeartbeats 1600000 in
theorem heldStmtS_any (a : Option Addr) (n c : Nat) (rs : List SRow) (k : Nat) (w : World) (B : Nat) (h : HeldB w B a n c rs k) (hk : k ≤ 1125899906842624) :
    Calls Tryz.prog 81 #[.slice a n c, .int .i64 (k : Int)] w fun e w' => e = .returned (.int .i64 ((posS rs k n : Nat) : Int)) ∧ w = w' := by
  have hbd := h.few
  have HB := Lib.hid h
  clear h
  go_enter Tryz.func81, Tryz.ntmps81
  go_wp2
  go_loop [1, 5] (fun q i => ∃ j p : Nat, j ≤ n ∧ i = .int .i64 j ∧ q = .int .i64 (p : Int) ∧ Hid (posS rs k j = p)) (fun _ i => n - (intOf i).toNat)
  case atStart => exact ⟨0, k, Nat.zero_le _, rfl, rfl, Lib.hid rfl⟩
  case round =>
    obtain ⟨j, p, hj, rfl, rfl, HP⟩ := hrel
    by_cases hlt : j < n
    · obtain ⟨g, a1, a2, n1, c1, n2, c2, rfl, hc0, hc1, hc2, hc3, hT1, hT2, hps, hn1, hn2⟩ := HB.out.at_ hlt
      have hpk : p ≤ 1125904304889344 + 1125899906842624 := by
        have : j * 4194306 ≤ 1048576 * 4194306 := Nat.mul_le_mul_right _ (by omega)
        have := HB.out.small j hj
        have := HP.out
        omega
      rw [HP.out] at hc0 hc1 hT1 hT2 hps
      have HPS := Lib.hid hps
      have HT2 := Lib.hid hT2
      clear hps hT2
      go_wp2_with fail
      refine (heldTermS_wide _ _ _ (p + 2) _ hT1 (by omega)).mono ?_
      rintro e w2 ⟨rfl, rfl⟩
      go_wp2_with fail
      refine (heldTermS_wide _ _ _ (p + 2 + 2 * n1) _ HT2.out (by omega)).mono ?_
      rintro e w2 ⟨rfl, rfl⟩
      clear hT1
      go_wp2
      go_round
      case rel => exact ⟨j + 1, p + 2 + 2 * n1 + 2 * n2, by omega, by go_num, by go_num, HPS⟩
      case measure => simp [intOf]; omega
    · obtain rfl : n = j := by omega
      go_wp2
      go_ret
      exact ⟨by rw [HP.out]; rfl, rfl⟩
/-- A marked program. -/
structure HeldP (w : World) (B : Nat) (r : PRow) (k : Nat) : Prop where
  lows : Terms w r.lows.1 r.lows.2.1 (marksT (k : Int) r.lows.2.1)
  secrets : Terms w r.secrets.1 r.secrets.2.1 (marksT ((k + 2 * r.lows.2.1 : Nat) : Int) r.secrets.2.1)
  arrays : Ints w r.arrays.1 r.arrays.2.1 (marks ((k + 2 * r.lows.2.1 + 2 * r.secrets.2.1 : Nat) : Int) r.arrays.2.1)
  body : HeldB w B r.body.1 r.body.2.1 r.body.2.2 r.rows (k + 2 * r.lows.2.1 + 2 * r.secrets.2.1 + r.arrays.2.1)
def endP (r : PRow) (k : Nat) : Nat := posS r.rows (k + 2 * r.lows.2.1 + 2 * r.secrets.2.1 + r.arrays.2.1) r.body.2.1
theorem HeldP.below {w w' : World} {B k : Nat} {r : PRow} (h : HeldP w B r k) (hb : Below w.heap.size w w') : HeldP w' B r k := ⟨h.lows.below (Nat.le_refl _) hb, h.secrets.below (Nat.le_refl _) hb, h.arrays.below hb, h.body.below hb⟩
theorem kinds_out {w : World} {B B' n c m size : Nat} {t : TypeId} {v : Value} {xs : List Value} {a : Option Addr} {rs : List SRow} {ss : List Stm} (h : w.ownsRow B t size v m xs) (ho : OwnStmts w B' a n c rs ss) (h1 : t ≠ 74) (h2 : t ≠ 138) : ∀ g, v.ownBlock = some g → ¬ StD a n c rs g := by
  rintro g hg (e | e)
  · exact own_kinds h ho.1 h1 hg e
  · obtain ⟨i, hi, hm⟩ := blks_mem e
    obtain ⟨_, _, _, _, o1, o2⟩ := ho.2.2.2.1 i (by have := ho.len; omega)
    rcases List.mem_append.1 hm with hm | hm
    · exact own_kinds h o1.1 h2 hg (show (slV (srAt rs i).at_).ownBlock = some g by simpa using hm)
    · exact own_kinds h o2.1 h2 hg (show (slV (srAt rs i).exp).ownBlock = some g by simpa using hm)
set_option maxRecDepth 20000 in
set_option maxHeartbeats 3200000 in
theorem markProg_held (r : PRow) (p : Prg) (k : Nat) (w : World) (B lo hi : Nat) (h : OwnProg w B r p) (hin : ProgIn lo hi r) (hk : k ≤ 4194304) :
    Calls Tryz.prog 29 #[progV r, .int .i64 (k : Int)] w fun e w' => e = .returned (.int .i64 ((endP r k : Nat) : Int)) ∧ HeldP w' B r k ∧ Span lo hi w w' := by
  obtain ⟨wd, ⟨a1, n1, c1⟩, ⟨a2, n2, c2⟩, tp, ⟨a3, n3, c3⟩, ⟨a4, n4, c4⟩, rows⟩ := r
  have H1 := Lib.hid h.lows
  have H2 := Lib.hid h.secrets
  have H3 := Lib.hid h.arrays
  have H4 := Lib.hid h.body
  have HAP := Lib.hid h.apart
  have HIN := Lib.hid hin
  have b1 := h.lows.2.1
  have b2 := h.secrets.2.1
  have b3 := h.arrays.2.1
  have b4 := h.body.2.1
  clear h hin
  show Calls Tryz.prog 29 #[.agg #[.int .i64 wd, .slice a1 n1 c1, .slice a2 n2 c2, .int .i64 tp, .slice a3 n3 c3, .slice a4 n4 c4], .int .i64 (k : Int)] w _
  obtain ⟨wa, HW⟩ : ∃ wa, Hid (wa = w.alloc (.cells #[.int .i64 wd, .slice a1 n1 c1, .slice a2 n2 c2, .int .i64 tp, .slice a3 n3 c3, .slice a4 n4 c4] 28)) := ⟨_, rfl⟩
  have BX : Blk wa w.heap.size 28 [.int .i64 wd, .slice a1 n1 c1, .slice a2 n2 c2, .int .i64 tp, .slice a3 n3 c3, .slice a4 n4 c4] := by rw [HW.out]; exact Blk.new w _ _
  have HBA : Below w.heap.size w wa := by rw [HW.out]; exact (Below.refl _ _).alloc (Nat.le_refl _) _
  have HS : Span lo hi w wa := Span.of_below HBA
  have hbx := BX.lt
  simp only [] at H1 H2 H3 H4 HAP b1 b2 b3 b4
  have G1 := H1.out.below HBA
  have G2 := H2.out.below HBA
  have G3 := H3.out.below HBA
  have G4 := H4.out.below HBA
  clear H1 H2 H3 H4
  have t1 := BX.cell (j := 1) rfl
  rw [HW.out] at t1
  go_enter Tryz.func29, Tryz.ntmps29
  go_wp2_with fail
  rw [← HW.out]
  refine (markInputS_w a1 n1 c1 _ k _ B G1 (by omega)).mono ?_
  rintro e w1 ⟨rfl, M1, hg⟩
  have G2 := G2.apart hg (fun g hgg e => HAP.out g e hgg)
  have G3 := G3.keep hg (fun g hgg e => own_kinds G3.1 G1.1 (by decide) hgg e)
  have G4 := OwnStmts.kept G4 hg (fun g hgg e => own_kinds G4.1 G1.1 (by decide) hgg e) (fun i hi => ⟨fun g hgg e => own_kinds (G4.2.2.2.1 i hi).2.2.2.2.1.1 G1.1 (by decide) hgg e, fun g hgg e => own_kinds (G4.2.2.2.1 i hi).2.2.2.2.2.1 G1.1 (by decide) hgg e⟩)
  have BX := blk_stay BX hg (fun e => blk_apart BX G1.1 (by decide) _ e rfl)
  have HS := HS.trans (Span.of_grown hg (fun g e => HIN.out.lows g e))
  clear G1 hg t1 HW HBA
  have t2 := BX.cell (j := 2) rfl
  go_wp2_with fail
  refine (markInputS_w a2 n2 c2 _ (k + 2 * n1) _ B G2 (by omega)).mono ?_
  rintro e w2 ⟨rfl, M2, hg⟩
  have M1 := M1.apart hg (fun g hgg e => HAP.out g hgg e)
  have G3 := G3.keep hg (fun g hgg e => own_kinds G3.1 G2.1 (by decide) hgg e)
  have G4 := OwnStmts.kept G4 hg (fun g hgg e => own_kinds G4.1 G2.1 (by decide) hgg e) (fun i hi => ⟨fun g hgg e => own_kinds (G4.2.2.2.1 i hi).2.2.2.2.1.1 G2.1 (by decide) hgg e, fun g hgg e => own_kinds (G4.2.2.2.1 i hi).2.2.2.2.2.1 G2.1 (by decide) hgg e⟩)
  have BX := blk_stay BX hg (fun e => blk_apart BX G2.1 (by decide) _ e rfl)
  have HS := HS.trans (Span.of_grown hg (fun g e => HIN.out.secrets g e))
  clear G2 hg t2
  have t3 := BX.cell (j := 4) rfl
  go_wp2_with fail
  refine (markInt64S_w a3 n3 c3 _ (k + 2 * n1 + 2 * n2) _ B G3 (by omega)).mono ?_
  rintro e w3 ⟨rfl, M3, hg⟩
  have M1 := M1.apart hg (fun g hgg e => own_kinds M1.1 G3.1 (by decide) hgg e)
  have M2 := M2.apart hg (fun g hgg e => own_kinds M2.1 G3.1 (by decide) hgg e)
  have G4 := OwnStmts.kept G4 hg (fun g hgg e => own_kinds G4.1 G3.1 (by decide) hgg e) (fun i hi => ⟨fun g hgg e => own_kinds (G4.2.2.2.1 i hi).2.2.2.2.1.1 G3.1 (by decide) hgg e, fun g hgg e => own_kinds (G4.2.2.2.1 i hi).2.2.2.2.2.1 G3.1 (by decide) hgg e⟩)
  have BX := blk_stay BX hg (fun e => blk_apart BX G3.1 (by decide) _ e rfl)
  have HS := HS.trans (Span.of_grown hg (fun g e => HIN.out.arrays g e))
  clear G3 hg t3
  have t4 := BX.cell (j := 5) rfl
  go_wp2_with fail
  have HSM := Lib.hid (posS_le (k := k + 2 * n1 + 2 * n2 + n3) (fun i hi => ⟨(G4.2.2.2.1 i hi).2.2.2.2.1.2.1, (G4.2.2.2.1 i hi).2.2.2.2.2.2.1⟩))
  have HG4 := Lib.hid G4
  have HM1 := Lib.hid M1
  have HM2 := Lib.hid M2
  have HM3 := Lib.hid M3
  clear M1 M2 M3
  refine (markStmtS_held a4 n4 c4 rows _ (k + 2 * n1 + 2 * n2 + n3) _ B lo hi G4 HIN.out.body HIN.out.rows (by omega)).mono ?_
  rintro e w4 ⟨rs', rfl, hr, hh, ht⟩
  have HS := Lib.hid (HS.trans hr.span)
  have HHB : Hid (HeldB w4 B a4 n4 c4 rows (k + 2 * n1 + 2 * n2 + n3)) := Lib.hid ⟨⟨rs', hr.row, hr.same, hh⟩, HSM.out, b4⟩
  have HT1 : Hid (OwnI w4 B a1 n1 c1 (marksT (k : Int) n1)) := Lib.hid ⟨Turned.row HM1.out.1 ht (kinds_out HM1.out.1 HG4.out (by decide) (by decide)), HM1.out.2⟩
  have HT2 : Hid (OwnI w4 B a2 n2 c2 (marksT ((k + 2 * n1 : Nat) : Int) n2)) := Lib.hid ⟨Turned.row HM2.out.1 ht (kinds_out HM2.out.1 HG4.out (by decide) (by decide)), HM2.out.2⟩
  have HT3 : Hid (Own w4 B a3 n3 c3 (marks ((k + 2 * n1 + 2 * n2 : Nat) : Int) n3)) := Lib.hid ⟨Turned.row HM3.out.1 ht (kinds_out HM3.out.1 HG4.out (by decide) (by decide)), HM3.out.2⟩
  clear hr hh ht t4 G4
  go_wp2
  go_ret
  exact ⟨rfl, ⟨HT1.out.terms, HT2.out.terms, HT3.out.ints, HHB.out⟩, HS.out⟩
set_option maxRecDepth 20000 in
set_option maxHeartbeats 3200000 in
theorem heldProg_any (r : PRow) (k : Nat) (w : World) (B : Nat) (h : HeldP w B r k) (hk : k ≤ 4194304) :
    Calls Tryz.prog 32 #[progV r, .int .i64 (k : Int)] w fun e w' => e = .returned (.int .i64 ((endP r k : Nat) : Int)) ∧ Below w.heap.size w w' := by
  obtain ⟨wd, ⟨a1, n1, c1⟩, ⟨a2, n2, c2⟩, tp, ⟨a3, n3, c3⟩, ⟨a4, n4, c4⟩, rows⟩ := r
  have b1 := h.lows.2.1
  have b2 := h.secrets.2.1
  have b3 := h.arrays.2.1
  have b4 := h.body.few
  simp only [] at b1 b2 b3 b4
  show Calls Tryz.prog 32 #[.agg #[.int .i64 wd, .slice a1 n1 c1, .slice a2 n2 c2, .int .i64 tp, .slice a3 n3 c3, .slice a4 n4 c4], .int .i64 (k : Int)] w _
  obtain ⟨wa, HW⟩ : ∃ wa, Hid (wa = w.alloc (.cells #[.int .i64 wd, .slice a1 n1 c1, .slice a2 n2 c2, .int .i64 tp, .slice a3 n3 c3, .slice a4 n4 c4] 28)) := ⟨_, rfl⟩
  have BX : Blk wa w.heap.size 28 [.int .i64 wd, .slice a1 n1 c1, .slice a2 n2 c2, .int .i64 tp, .slice a3 n3 c3, .slice a4 n4 c4] := by rw [HW.out]; exact Blk.new w _ _
  have HBA : Below w.heap.size w wa := by rw [HW.out]; exact (Below.refl _ _).alloc (Nat.le_refl _) _
  have HF := Lib.hid HBA
  have G := h.below HBA
  have H1 := Lib.hid G.lows
  have H2 := Lib.hid G.secrets
  have H3 := Lib.hid G.arrays
  have H4 := Lib.hid G.body
  clear h G HBA
  have t1 := BX.cell (j := 1) rfl
  have t2 := BX.cell (j := 2) rfl
  have t3 := BX.cell (j := 4) rfl
  have t4 := BX.cell (j := 5) rfl
  have HBX := Lib.hid BX
  clear BX
  rw [HW.out] at t1
  go_enter Tryz.func32, Tryz.ntmps32
  go_wp2_with fail
  rw [← HW.out]
  refine (heldInputS_wide a1 n1 c1 k _ H1.out (by omega)).mono ?_
  rintro e w1 ⟨rfl, rfl⟩
  clear t1
  go_wp2_with fail
  refine (heldInputS_wide a2 n2 c2 (k + 2 * n1) _ H2.out (by omega)).mono ?_
  rintro e w1 ⟨rfl, rfl⟩
  go_wp2_with fail
  refine (heldInt64S_wide a3 n3 c3 (k + 2 * n1 + 2 * n2) _ H3.out (by omega)).mono ?_
  rintro e w1 ⟨rfl, rfl⟩
  go_wp2_with fail
  refine (heldStmtS_any a4 n4 c4 rows (k + 2 * n1 + 2 * n2 + n3) _ B H4.out (by omega)).mono ?_
  rintro e w1 ⟨rfl, rfl⟩
  clear t2 t3 t4
  go_wp2
  go_ret
  exact ⟨rfl, HF.out⟩
end Go.Proofs.YtbnpoliogldohaaGreat
/- Sliced on both sides, as its law asks. -/
namespace Go.Proofs.YtbnpoliogldohaaGreat
open Go.RowKit

theorem OwnProg.span {w w' : World} {B lo hi : Nat} {r : PRow} {p : Prg} (h : OwnProg w B r p) (hs : Span lo hi w w') (hB : hi ≤ B) : OwnProg w' B r p := by
  have kt : ∀ {s : Sl} {ts : List Tm}, OwnT w B s.1 s.2.1 s.2.2 ts → OwnT w' B s.1 s.2.1 s.2.2 ts := fun {s ts} ho => ⟨ownsRow_span ho.1 hs (fun g hg => .inr (Nat.le_trans hB (ho.1.lt g hg).1)), ho.2⟩
  have ki : ∀ {s : Sl} {ts : List Tm}, OwnI w B s.1 s.2.1 s.2.2 ts → OwnI w' B s.1 s.2.1 s.2.2 ts := fun {s ts} ho => ⟨ownsRow_span ho.1 hs (fun g hg => .inr (Nat.le_trans hB (ho.1.lt g hg).1)), ho.2⟩
  refine ⟨h.width, h.temps, h.inW, h.inT, ki h.lows, ki h.secrets, h.arrays.span hs hB, ⟨ownsRow_span h.body.1 hs (fun g hg => .inr (Nat.le_trans hB (h.body.1.lt g hg).1)), h.body.2.1, h.body.2.2.1, fun i hi => ?_, h.body.2.2.2.2⟩, h.apart⟩
  obtain ⟨h1, h2, h3, h4, h5, h6⟩ := h.body.2.2.2.1 i hi
  exact ⟨h1, h2, h3, h4, kt h5, kt h6⟩
theorem eqProg_same (r q : PRow) (p : Prg) (w : World) (h : ProgAt w r p) (h' : ProgAt w q p) :
    Calls Tryz.prog 28 #[progV r, progV q] w fun e w' => e = .returned (.bool true) ∧ Below w.heap.size w w' :=
  (eqProg_any r q p p w h h').mono fun e w' h => by simpa using h
theorem specSliced_ans (r : PRow) (p : Prg) (w : World) (h : ProgAt w r p) (hcap : Caps r) :
    Calls Tryz.prog 15 #[progV r] w fun e w' => Below w.heap.size w w' ∧ ∃ r' : PRow, e = .returned (progV r') ∧ ProgAt w' r' (sliceP p) :=
  (specSliced_any r p w h hcap).mono fun _ _ ⟨r', h1, h2, _, h4⟩ => ⟨h4, r', h1, h2⟩
theorem implSliced_ans (r : PRow) (p : Prg) (w : World) (h : ProgAt w r p) (hcap : r.body.2.1 ≤ r.body.2.2) :
    Calls Tryz.prog 13 #[progV r] w fun e w' => Below w.heap.size w w' ∧ ∃ r' : PRow, e = .returned (progV r') ∧ OwnProg w' w.heap.size r' (sliceP p) :=
  (implSliced_any r p w h hcap).mono fun _ _ ⟨r', h1, h2, h3⟩ => ⟨h3, r', h1, h2⟩
end Go.Proofs.YtbnpoliogldohaaGreat
