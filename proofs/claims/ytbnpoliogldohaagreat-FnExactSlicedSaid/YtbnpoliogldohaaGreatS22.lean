/- Joined texts of this proof (SpecTrap2, MayMath, ImplMay), in build order. -/
import Derived.Test.YtbnpoliogldohaaGreatS21
import Derived.Test.YtbnpoliogldohaaGreatS14
/- The contract of the model's MayTrap. -/
namespace Go.Proofs.YtbnpoliogldohaaGreat
open Go.RowKit

end Go.Proofs.YtbnpoliogldohaaGreat
/- Which statements may trap; what a right statement is. -/
namespace Go.Proofs.YtbnpoliogldohaaGreat
open Go.RowKit

/-- A right statement of a program. -/
def RightS (p : Prg) (s : Stm) : Prop := stmtB (2 ^ p.width.toNat) (p.lows.length + p.secrets.length) p.temps.toNat p.arrays.length s = true
/-- May it trap? -/
def mayStm (p : Prg) (s : Stm) : Bool := Tr.traps p.arrays (stackOf s.at_) || Tr.traps p.arrays (stackOf s.exp) || (decide (s.op = 1) && !knownB s.at_ (p.arrays.getD s.n.toNat 0) false)
theorem right_all {p : Prg} (h : codeB p = 0) : ∀ s ∈ p.body, RightS p s := by
  unfold codeB at h
  split at h
  · exact absurd h (by decide)
  split at h
  · exact absurd h (by decide)
  split at h
  · exact absurd h (by decide)
  split at h
  · exact absurd h (by decide)
  rename_i h4
  have hr : stmtsB p = true := by simpa using h4
  exact List.all_eq_true.1 hr
structure RightF (p : Prg) (s : Stm) : Prop where
  op : 0 ≤ s.op ∧ s.op ≤ 9
  exp : bears s.op = true → standQ p s.exp = true
  noexp : bears s.op = false → s.exp = []
  at1 : s.op = 1 → standQ p s.at_ = true
  noat : s.op ≠ 1 → s.at_ = []
  put : s.op = 1 → 0 ≤ s.n ∧ s.n < (p.arrays.length : Int)
  set : s.op = 0 → 0 ≤ s.n ∧ s.n < ((p.lows.length + p.secrets.length + p.temps.toNat : Nat) : Int) ∧ ((p.lows.length + p.secrets.length : Nat) : Int) ≤ s.n
theorem right_f {p : Prg} {s : Stm} (h : RightS p s) : RightF p s := by
  unfold RightS at h
  simp only [stmtB, Bool.and_eq_true, decide_eq_true_eq, beq_iff_eq, Bool.or_eq_true, Bool.not_eq_true'] at h
  obtain ⟨⟨⟨⟨⟨⟨h1, h2⟩, h3⟩, h4⟩, h5⟩, h6⟩, h7⟩ := h
  refine ⟨⟨h1, h2⟩, fun hb => ?_, fun hb => ?_, fun ho => ?_, fun ho => ?_, fun ho => ?_, fun ho => ?_⟩
  · rcases h5 with h5 | h5
    · rw [hb] at h5; cases h5
    · exact h5
  · rw [hb] at h3
    have : ¬ 0 < s.exp.length := by simpa using h3.symm
    exact List.eq_nil_of_length_eq_zero (by omega)
  · rcases h6 with h6 | h6
    · rw [ho] at h6; cases h6
    · exact h6
  · have : ¬ 0 < s.at_.length := by
      intro hc
      rw [decide_eq_true hc] at h4
      exact ho (by simpa using h4)
    exact List.eq_nil_of_length_eq_zero (by omega)
  · simp only [numOk, ho] at h7
    simp at h7
    omega
  · simp only [numOk, ho] at h7
    simp at h7
    omega
theorem traps_nil (sz : List Int) : Tr.traps sz (stackOf []) = false := rfl
/-- What the program's way of asking comes to. -/
theorem may_other {p : Prg} {s : Stm} (h : RightF p s) (h1 : s.op ≠ 1) : (standQ p s.exp && Tr.traps p.arrays (stackOf s.exp)) = mayStm p s := by
  rw [mayStm, h.noat h1, traps_nil, decide_eq_false h1]
  simp only [Bool.false_or, Bool.false_and, Bool.or_false]
  cases hb : bears s.op with
  | true => rw [h.exp hb, Bool.true_and]
  | false => rw [h.noexp hb, traps_nil, Bool.and_false]
theorem may_put {p : Prg} {s : Stm} (h : RightF p s) (h1 : s.op = 1) {T : Tr} (hT : stackOf s.at_ = [T]) (hok : T.okT) (hfl : s.at_ = T.flat) :
    ((!isNumB 0 (p.arrays.getD s.n.toNat 0 - 1) T) = true → mayStm p s = true) ∧ ((!isNumB 0 (p.arrays.getD s.n.toNat 0 - 1) T) = false → mayStm p s = (standQ p s.exp && Tr.traps p.arrays (stackOf s.exp))) := by
  have hk := known_cell T hok (p.arrays.getD s.n.toNat 0)
  rw [← hfl] at hk
  rw [hk, mayStm, decide_eq_true h1]
  constructor
  · intro hn
    rw [Bool.true_and, hn, Bool.or_true]
  · intro hn
    rw [Bool.true_and, hn, Bool.or_false]
    have hb : bears s.op = true := by rw [h1]; rfl
    rw [h.exp hb, Bool.true_and, hT]
    -- one number does not trap
    have hkn : isNumB 0 (p.arrays.getD s.n.toNat 0 - 1) T = true := by rw [hk]; simpa using hn
    have : Tr.traps p.arrays [T] = false := by
      cases T with
      | node op n kids =>
        simp only [isNumB, Bool.and_eq_true, decide_eq_true_eq] at hkn
        obtain ⟨h0, _⟩ := hkn
        subst h0
        simp only [Tr.okT] at hok
        have hkl : kids = [] := by
          have h5 := hok.2.1
          have h4 : takesI 0 = 0 := rfl
          exact List.eq_nil_of_length_eq_zero (by omega)
        subst hkl
        simp [Tr.traps, Tr.trap, headT]
    rw [this, Bool.false_or]
end Go.Proofs.YtbnpoliogldohaaGreat
/- The contract of the program's stmtMayTrap. -/
namespace Go.Proofs.YtbnpoliogldohaaGreat
open Go.RowKit

set_option maxRecDepth 100000 in
set_option maxHeartbeats 3200000 in
theorem stmtMayTrap_any (r : PRow) (p : Prg) (x y : Int) (b1 b2 : Option Addr) (m1 m2 d1 d2 : Nat) (ts us : List Tm) (w : World) (h : ProgAt w r p) (hz : codeB p = 0) (hs : RightS p ⟨x, y, ts, us⟩) (h1 : Terms w b1 m1 ts) (h2 : Terms w b2 m2 us) :
    Calls Tryz.prog 103 #[progV r, .agg #[.int .i64 x, .int .i64 y, .slice b1 m1 d1, .slice b2 m2 d2]] w fun e w' => e = .returned (.bool (mayStm p ⟨x, y, ts, us⟩)) ∧ Below w.heap.size w w' := by
  have hR := right_f hs
  have HEX : Hid (∀ w', Below w.heap.size w w' → Calls Tryz.prog 166 #[progV r, .slice b2 m2 d2] w' fun e w'' => e = .returned (.bool (standQ p us && Tr.traps p.arrays (stackOf us))) ∧ Below w'.heap.size w' w'') := Lib.hid (fun w' hw => expMayTrap_any r p _ _ _ us w' (h.below hw) hz (h2.below (Nat.le_refl _) hw))
  have HTR : Hid (x = 1 → ∃ (T : Tr) (bq : Bool) (b o j : Nat) (z : Int), (∀ w', Below w.heap.size w w' → Calls Tryz.prog 165 #[.slice b1 m1 d1] w' fun e w'' => ∃ u z, e = .returned (.iface u z) ∧ IsTree w'' (fun _ => True) (.iface u z) T ∧ Below w'.heap.size w' w'') ∧ Hid (isNumB 0 (z - 1) T = bq) ∧ Hid (bq = false → mayStm p ⟨x, y, ts, us⟩ = true) ∧ Hid (bq = true → mayStm p ⟨x, y, ts, us⟩ = (standQ p us && Tr.traps p.arrays (stackOf us))) ∧
      y = (j : Int) ∧ j < r.arrays.2.1 ∧ r.arrays.1 = some ⟨b, o, none⟩ ∧ b < w.heap.size ∧ In64 z ∧ 0 ≤ z ∧ w.cell? ⟨b, o + j, none⟩ = some (.int .i64 z)) := by
    refine Lib.hid fun hx => ?_
    obtain ⟨T, t1, t2, t3, t4, t5, t6⟩ := standQ_tree (hR.at1 hx)
    have hp := hR.put hx
    simp only [] at hp t1 t2 t4 t5
    have ha := h.arrays
    have hal := ha.1
    obtain ⟨b, o, z, e1, hb, hzz, hin, hc⟩ := ha.at_ (k := y.toNat) (by omega)
    have hpos : 0 ≤ z := code_arrays hz z (by rw [hzz.out]; exact getD_mem (by omega))
    have hm := may_put hR hx t1 t3 t2
    simp only [] at hm
    rw [← hzz.out] at hm
    refine ⟨T, _, b, o, y.toNat, z, fun w' hw => treeOf_any _ _ _ ts T w' (h1.below (Nat.le_refl _) hw) (by have := h1.1; omega) (Lib.hid t5) (Lib.hid t1), Lib.hid rfl, Lib.hid (fun e => hm.1 (by rw [e]; rfl)), Lib.hid (fun e => hm.2 (by rw [e]; rfl)), by omega, by omega, e1, hb, hin, hpos, hc⟩
  have HOT : Hid (x ≠ 1 → (standQ p us && Tr.traps p.arrays (stackOf us)) = mayStm p ⟨x, y, ts, us⟩) := Lib.hid (fun hx => may_other hR hx)
  obtain ⟨ex, HE⟩ : ∃ ex, Hid ((standQ p us && Tr.traps p.arrays (stackOf us)) = ex) := ⟨_, rfl⟩
  obtain ⟨mx, HM⟩ : ∃ mx, Hid (mayStm p ⟨x, y, ts, us⟩ = mx) := ⟨_, rfl⟩
  rw [HM.out] at HTR HOT ⊢
  rw [HE.out] at HTR HOT HEX
  obtain ⟨wd, ⟨a1, n1, c1⟩, ⟨a2, n2, c2⟩, tp, ⟨a3, n3, c3⟩, ⟨a4, n4, c4⟩, rows⟩ := r
  have hn3 := h.arrays.2.1
  clear h hz hs h1 h2 hR HM HE
  show Calls Tryz.prog 103 #[.agg #[.int .i64 wd, .slice a1 n1 c1, .slice a2 n2 c2, .int .i64 tp, .slice a3 n3 c3, .slice a4 n4 c4], .agg #[.int .i64 x, .int .i64 y, .slice b1 m1 d1, .slice b2 m2 d2]] w _
  obtain ⟨wa, HW⟩ : ∃ wa, Hid (wa = (w.alloc (.cells #[.int .i64 wd, .slice a1 n1 c1, .slice a2 n2 c2, .int .i64 tp, .slice a3 n3 c3, .slice a4 n4 c4] 28)).alloc (.cells #[.int .i64 x, .int .i64 y, .slice b1 m1 d1, .slice b2 m2 d2] 74)) := ⟨_, rfl⟩
  have B : Blk wa w.heap.size 28 [.int .i64 wd, .slice a1 n1 c1, .slice a2 n2 c2, .int .i64 tp, .slice a3 n3 c3, .slice a4 n4 c4] := by rw [HW.out]; exact (Blk.new w _ _).alloc _
  have BS : Blk wa (w.heap.size + 1) 74 [.int .i64 x, .int .i64 y, .slice b1 m1 d1, .slice b2 m2 d2] := by
    have := Blk.new (w.alloc (.cells #[.int .i64 wd, .slice a1 n1 c1, .slice a2 n2 c2, .int .i64 tp, .slice a3 n3 c3, .slice a4 n4 c4] 28)) 74 [.int .i64 x, .int .i64 y, .slice b1 m1 d1, .slice b2 m2 d2]
    rw [HW.out]
    simpa using this
  have HB : Below w.heap.size w wa := by rw [HW.out]; exact ((Below.refl _ _).alloc (Nat.le_refl _) _).alloc (by simp) _
  have HBB := Lib.hid B
  have HSS := Lib.hid BS
  have HBF := Lib.hid HB
  have HD : Below wa.heap.size wa wa.drew := ⟨rfl, rfl, rfl, Nat.le_refl _, fun _ _ => rfl⟩
  by_cases hx : x = 1
  · obtain ⟨T, bq, b, o, j, z, hTR, HNQ, HQ0, HQ1, rfl, hj, hae, hb, hzin, hz0, hc⟩ := HTR.out hx
    simp only [] at hj hae
    subst hae
    have HTR1 := Lib.hid hTR
    have HXX := Lib.hid hx
    have HZW : IntKind.i64.wrap (z - 1) = z - 1 := by rw [IntKind.wrap_i64]; unfold In64 at hzin; omega
    have HCC : Hid (∀ w', Below w.heap.size w w' → w'.cell? ⟨b, o + j, none⟩ = some (.int .i64 z)) := Lib.hid (fun w' hw => (hw.cell hb).trans hc)
    clear HTR HOT hTR hx
    have t0 := B.cell (j := 0) rfl
    have t1 := B.cell (j := 1) rfl
    have t2 := B.cell (j := 2) rfl
    have t3 := B.cell (j := 3) rfl
    have t4 := B.cell (j := 4) rfl
    have t5 := B.cell (j := 5) rfl
    have s0 := BS.cell (j := 0) rfl
    have s1 := BS.cell (j := 1) rfl
    have s2 := BS.cell (j := 2) rfl
    have s3 := BS.cell (j := 3) rfl
    have z0 := HCC.out wa HB
    rw [HXX.out] at s0
    clear B BS
    have HNI : Hid (∀ (w' : World) (u : TypeId) (zz : Value), IsTree w' (fun _ => True) (.iface u zz) T → Calls Tryz.prog 164 #[.iface u zz, .int .i64 0, .int .i64 (z - 1)] w' fun e w'' => e = .returned (.bool bq) ∧ Below w'.heap.size w' w'') := Lib.hid (fun w' u zz hI => by rw [← HNQ.out]; exact isNumWithin_any _ _ T 0 (z - 1) w' hI)
    clear HNQ
    cases bq with
    | false =>
      have HM0 := Lib.hid (HQ0.out rfl)
      rw [HM0.out]
      clear HQ0 HQ1 HM0
      go_enter Tryz.func103, Tryz.ntmps103
      go_wp2_with fail
      rw [← HW.out]
      go_region_held3 (fun w' => w'.cell? ⟨w.heap.size + 1, 0, none⟩ = some (.int .i64 1) ∧ w'.cell? ⟨w.heap.size + 1, 1, none⟩ = some (.int .i64 (j : Int)) ∧ w'.cell? ⟨w.heap.size + 1, 2, none⟩ = some (.slice b1 m1 d1) ∧ w'.cell? ⟨w.heap.size, 4, none⟩ = some (.slice (some ⟨b, o, none⟩) n3 c3) ∧ w'.cell? ⟨b, o + j, none⟩ = some (.int .i64 z)) (first | (refine ⟨?_, ?_, ?_, ?_, ?_⟩ <;> assumption) | go_keep | (refine ⟨?_, ?_, ?_, ?_, ?_⟩ <;> go_keep)) (first
      | (go_at_call 165; refine (HTR1.out _ (HB.trans (HD.mono HB.size))).mono ?_; rintro e w4 ⟨u, zz, rfl, hI, hb4⟩; have HB4 : Below wa.heap.size wa w4 := HD.trans (hb4.mono HD.size); have Bv := HBB.out.below HB4 HBB.out.lt; have Sv := HSS.out.below HB4 HSS.out.lt; rw [HXX.out] at Sv; have v0 := Sv.cell (j := 0) rfl; have v1 := Sv.cell (j := 1) rfl; have v2 := Sv.cell (j := 2) rfl; have v4 := Bv.cell (j := 4) rfl; have v5 := HCC.out w4 (HB.trans (HB4.mono HB.size)); clear Bv Sv; have HI := Lib.hid hI; clear hb4 hI)
      | (go_at_call 164; refine (HNI.out w4 u zz HI.out).mono ?_; rintro e w5 ⟨rfl, hb5⟩; have HB5 : Below wa.heap.size wa w5 := HB4.trans (hb5.mono HB4.size); have Bu := HBB.out.below HB5 HBB.out.lt; have Su := HSS.out.below HB5 HSS.out.lt; rw [HXX.out] at Su; have u0 := Su.cell (j := 0) rfl; have u1 := Su.cell (j := 1) rfl; have u2 := Su.cell (j := 2) rfl; have u4 := Bu.cell (j := 4) rfl; have u5 := HCC.out w5 (HB.trans (HB5.mono HB.size)); clear Bu Su; clear hb5))
      all_goals
        have HF := Lib.hid (HBF.out.trans (HB5.mono HBF.out.size))
        go_wp2
        go_ret
        exact ⟨rfl, HF.out⟩
    | true =>
      have HM1 := Lib.hid (HQ1.out rfl)
      rw [HM1.out]
      clear HQ0 HQ1 HM1
      go_enter Tryz.func103, Tryz.ntmps103
      go_wp2_with fail
      rw [← HW.out]
      go_region_held3 (fun w' => w'.cell? ⟨w.heap.size + 1, 0, none⟩ = some (.int .i64 1) ∧ w'.cell? ⟨w.heap.size + 1, 1, none⟩ = some (.int .i64 (j : Int)) ∧ w'.cell? ⟨w.heap.size + 1, 2, none⟩ = some (.slice b1 m1 d1) ∧ w'.cell? ⟨w.heap.size, 4, none⟩ = some (.slice (some ⟨b, o, none⟩) n3 c3) ∧ w'.cell? ⟨b, o + j, none⟩ = some (.int .i64 z)) (first | (refine ⟨?_, ?_, ?_, ?_, ?_⟩ <;> assumption) | go_keep | (refine ⟨?_, ?_, ?_, ?_, ?_⟩ <;> go_keep)) (first
      | (go_at_call 165; refine (HTR1.out _ (HB.trans (HD.mono HB.size))).mono ?_; rintro e w4 ⟨u, zz, rfl, hI, hb4⟩; have HB4 : Below wa.heap.size wa w4 := HD.trans (hb4.mono HD.size); have Bv := HBB.out.below HB4 HBB.out.lt; have Sv := HSS.out.below HB4 HSS.out.lt; rw [HXX.out] at Sv; have v0 := Sv.cell (j := 0) rfl; have v1 := Sv.cell (j := 1) rfl; have v2 := Sv.cell (j := 2) rfl; have v4 := Bv.cell (j := 4) rfl; have v5 := HCC.out w4 (HB.trans (HB4.mono HB.size)); clear Bv Sv; have HI := Lib.hid hI; clear hb4 hI)
      | (go_at_call 164; refine (HNI.out w4 u zz HI.out).mono ?_; rintro e w5 ⟨rfl, hb5⟩; have HB5 : Below wa.heap.size wa w5 := HB4.trans (hb5.mono HB4.size); have Bu := HBB.out.below HB5 HBB.out.lt; have Su := HSS.out.below HB5 HSS.out.lt; rw [HXX.out] at Su; have u0 := Su.cell (j := 0) rfl; have u1 := Su.cell (j := 1) rfl; have u2 := Su.cell (j := 2) rfl; have u4 := Bu.cell (j := 4) rfl; have u5 := HCC.out w5 (HB.trans (HB5.mono HB.size)); clear Bu Su; clear hb5))
      all_goals
        have HF := Lib.hid (HBF.out.trans (HB5.mono HBF.out.size))
        have B5 := HBB.out.below HB5 HBB.out.lt
        have S5 := HSS.out.below HB5 HSS.out.lt
        have y0 := B5.cell (j := 0) rfl
        have y1 := B5.cell (j := 1) rfl
        have y2 := B5.cell (j := 2) rfl
        have y3 := B5.cell (j := 3) rfl
        have y5 := B5.cell (j := 5) rfl
        have y6 := S5.cell (j := 3) rfl
        go_wp2_with fail
        refine (HEX.out _ HF.out).mono ?_
        rintro e w6 ⟨rfl, hb6⟩
        have HF2 := Lib.hid (HF.out.trans (hb6.mono HF.out.size))
        clear hb6
        go_wp2
        go_ret
        exact ⟨rfl, HF2.out⟩
  · have HO := Lib.hid (HOT.out hx)
    have HXN : (x == 1) = false := by simpa using hx
    clear HTR HOT hx
    rw [HO.out] at HEX
    go_enter Tryz.func103, Tryz.ntmps103
    go_wp2_with fail
    rw [← HW.out]
    have g0 := lat_cell BS.lt (BS.cell (j := 0) rfl)
    have g1 := lat_cell BS.lt (BS.cell (j := 1) rfl)
    have g2 := lat_cell BS.lt (BS.cell (j := 2) rfl)
    have g4 := lat_cell B.lt (B.cell (j := 4) rfl)
    clear B BS
    refine wp_region_lat (by kernel_rfl) (by kernel_rfl) ?_
    repeat (go_big_quiet_step (fail))
    refine wpQuiet_nil ?_
    intro _ hw'
    obtain ⟨⟨wq, hwq⟩, hw''⟩ := hw'
    subst hw''
    have hbq := HBF.out.trans (hwq.mono HBF.out.size)
    have B := HBB.out.below hwq HBB.out.lt
    have BS := HSS.out.below hwq HSS.out.lt
    have t0 := B.cell (j := 0) rfl
    have t1 := B.cell (j := 1) rfl
    have t2 := B.cell (j := 2) rfl
    have t3 := B.cell (j := 3) rfl
    have t4 := B.cell (j := 4) rfl
    have t5 := B.cell (j := 5) rfl
    have s3 := BS.cell (j := 3) rfl
    have HBQ := Lib.hid hbq
    clear g0 g1 g2 g4 hwq B BS hbq
    go_wp2_with fail
    refine (HEX.out _ HBQ.out).mono ?_
    rintro e w3 ⟨rfl, hb3⟩
    have HF := Lib.hid (HBQ.out.trans (hb3.mono HBQ.out.size))
    clear hb3
    go_wp2
    go_ret
    exact ⟨rfl, HF.out⟩
end Go.Proofs.YtbnpoliogldohaaGreat
