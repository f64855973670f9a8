/- Joined texts of this proof (SpecTrap2, MayMath, Caps, SpecNeed0, AppNames), in build order. -/
import Derived.Test.YtbnpoliogldohaaGreatJ28
import Derived.Test.YtbnpoliogldohaaGreatJ20
import Derived.Test.YtbnpoliogldohaaGreatJ25
/- The contract of the model's MayTrap. -/
namespace Go.Proofs.YtbnpoliogldohaaGreat
open Go.RowKit

end Go.Proofs.YtbnpoliogldohaaGreat
/- Which statements may trap; what a right statement is. -/
namespace Go.Proofs.YtbnpoliogldohaaGreat
open Go.RowKit

/-- A right statement of a program. -/
def RightS (p : Prg) (s : Stm) : Prop := stmtB (2 ^ p.width.toNat) (p.lows.length + p.secrets.length) p.temps.toNat p.arrays.length s = true
/-- May it trap? -/
def mayStm (p : Prg) (s : Stm) : Bool := Tr.traps p.arrays (stackOf s.at_) || Tr.traps p.arrays (stackOf s.exp) || (decide (s.op = 1) && !knownB s.at_ (p.arrays.getD s.n.toNat 0) false)
theorem right_all {p : Prg} (h : codeB p = 0) : ∀ s ∈ p.body, RightS p s := by
  unfold codeB at h
  split at h
  · exact absurd h (by decide)
  split at h
  · exact absurd h (by decide)
  split at h
  · exact absurd h (by decide)
  split at h
  · exact absurd h (by decide)
  rename_i h4
  have hr : stmtsB p = true := by simpa using h4
  exact List.all_eq_true.1 hr
structure RightF (p : Prg) (s : Stm) : Prop where
  op : 0 ≤ s.op ∧ s.op ≤ 9
  exp : bears s.op = true → standQ p s.exp = true
  noexp : bears s.op = false → s.exp = []
  at1 : s.op = 1 → standQ p s.at_ = true
  noat : s.op ≠ 1 → s.at_ = []
  put : s.op = 1 → 0 ≤ s.n ∧ s.n < (p.arrays.length : Int)
  set : s.op = 0 → 0 ≤ s.n ∧ s.n < ((p.lows.length + p.secrets.length + p.temps.toNat : Nat) : Int) ∧ ((p.lows.length + p.secrets.length : Nat) : Int) ≤ s.n
theorem right_f {p : Prg} {s : Stm} (h : RightS p s) : RightF p s := by
  unfold RightS at h
  simp only [stmtB, Bool.and_eq_true, decide_eq_true_eq, beq_iff_eq, Bool.or_eq_true, Bool.not_eq_true'] at h
  obtain ⟨⟨⟨⟨⟨⟨h1, h2⟩, h3⟩, h4⟩, h5⟩, h6⟩, h7⟩ := h
  refine ⟨⟨h1, h2⟩, fun hb => ?_, fun hb => ?_, fun ho => ?_, fun ho => ?_, fun ho => ?_, fun ho => ?_⟩
  · rcases h5 with h5 | h5
    · rw [hb] at h5; cases h5
    · exact h5
  · rw [hb] at h3
    have : ¬ 0 < s.exp.length := by simpa using h3.symm
    exact List.eq_nil_of_length_eq_zero (by omega)
  · rcases h6 with h6 | h6
    · rw [ho] at h6; cases h6
    · exact h6
  · have : ¬ 0 < s.at_.length := by
      intro hc
      rw [decide_eq_true hc] at h4
      exact ho (by simpa using h4)
    exact List.eq_nil_of_length_eq_zero (by omega)
  · simp only [numOk, ho] at h7
    simp at h7
    omega
  · simp only [numOk, ho] at h7
    simp at h7
    omega
theorem traps_nil (sz : List Int) : Tr.traps sz (stackOf []) = false := rfl
/-- What the program's way of asking comes to. -/
theorem may_other {p : Prg} {s : Stm} (h : RightF p s) (h1 : s.op ≠ 1) : (standQ p s.exp && Tr.traps p.arrays (stackOf s.exp)) = mayStm p s := by
  rw [mayStm, h.noat h1, traps_nil, decide_eq_false h1]
  simp only [Bool.false_or, Bool.false_and, Bool.or_false]
  cases hb : bears s.op with
  | true => rw [h.exp hb, Bool.true_and]
  | false => rw [h.noexp hb, traps_nil, Bool.and_false]
theorem may_put {p : Prg} {s : Stm} (h : RightF p s) (h1 : s.op = 1) {T : Tr} (hT : stackOf s.at_ = [T]) (hok : T.okT) (hfl : s.at_ = T.flat) :
    ((!isNumB 0 (p.arrays.getD s.n.toNat 0 - 1) T) = true → mayStm p s = true) ∧ ((!isNumB 0 (p.arrays.getD s.n.toNat 0 - 1) T) = false → mayStm p s = (standQ p s.exp && Tr.traps p.arrays (stackOf s.exp))) := by
  have hk := known_cell T hok (p.arrays.getD s.n.toNat 0)
  rw [← hfl] at hk
  rw [hk, mayStm, decide_eq_true h1]
  constructor
  · intro hn
    rw [Bool.true_and, hn, Bool.or_true]
  · intro hn
    rw [Bool.true_and, hn, Bool.or_false]
    have hb : bears s.op = true := by rw [h1]; rfl
    rw [h.exp hb, Bool.true_and, hT]
    -- one number does not trap
    have hkn : isNumB 0 (p.arrays.getD s.n.toNat 0 - 1) T = true := by rw [hk]; simpa using hn
    have : Tr.traps p.arrays [T] = false := by
      cases T with
      | node op n kids =>
        simp only [isNumB, Bool.and_eq_true, decide_eq_true_eq] at hkn
        obtain ⟨h0, _⟩ := hkn
        subst h0
        simp only [Tr.okT] at hok
        have hkl : kids = [] := by
          have h5 := hok.2.1
          have h4 : takesI 0 = 0 := rfl
          exact List.eq_nil_of_length_eq_zero (by omega)
        subst hkl
        simp [Tr.traps, Tr.trap, headT]
    rw [this, Bool.false_or]
end Go.Proofs.YtbnpoliogldohaaGreat
/- No slice of a program is longer than its room; a statement of a program: its cells, what they read as. -/
namespace Go.Proofs.YtbnpoliogldohaaGreat
open Go.RowKit

/-- No slice of the program is longer than its room. -/
structure Caps (r : PRow) : Prop where
  body : r.body.2.1 ≤ r.body.2.2
  ats : ∀ i, i < r.rows.length → (srAt r.rows i).at_.2.1 ≤ (srAt r.rows i).at_.2.2
  exps : ∀ i, i < r.rows.length → (srAt r.rows i).exp.2.1 ≤ (srAt r.rows i).exp.2.2
theorem OwnProg.caps {w : World} {B : Nat} {r : PRow} {p : Prg} (h : OwnProg w B r p) : Caps r := by
  have hl : r.rows.length = r.body.2.1 := h.body.reads.1
  refine ⟨h.cap, fun i hi => ?_, fun i hi => ?_⟩
  · exact own_cap (h.body.2.2.2.1 i (by omega)).2.2.2.2.1.1
  · exact own_cap (h.body.2.2.2.1 i (by omega)).2.2.2.2.2.1
/-- A statement of a program: its cells, what they read as. -/
theorem stmt_row {w : World} {r : PRow} {p : Prg} {k : Nat} (h : ProgAt w r p) (hc : Caps r) (hk : k < p.body.length) :
    ∃ b o x y ba m1 d1 bb m2 d2 ts us, r.body.1 = some ⟨b, o, none⟩ ∧ b < w.heap.size ∧ Hid (stAt p.body k = ⟨x, y, ts, us⟩) ∧ w.cell? ⟨b, o + k * 4, none⟩ = some (.int .i64 x) ∧ w.cell? ⟨b, o + k * 4 + 1, none⟩ = some (.int .i64 y) ∧ w.cell? ⟨b, o + k * 4 + 2, none⟩ = some (.slice ba m1 d1) ∧ w.cell? ⟨b, o + k * 4 + 3, none⟩ = some (.slice bb m2 d2) ∧ m1 ≤ d1 ∧ m2 ≤ d2 ∧ Terms w ba m1 ts ∧ Terms w bb m2 us := by
  obtain ⟨h1, h2, h3, h4, h5⟩ := h.body
  obtain ⟨b, o, e, hb, hcell⟩ := h4 (by omega)
  obtain ⟨s1, s2, s3, s4, s5, s6⟩ := h5 k (by omega)
  obtain ⟨k1, k2, k3, k4⟩ := hcell k (by omega)
  rw [s1] at k1
  rw [s2] at k2
  exact ⟨b, o, _, _, _, _, _, _, _, _, _, _, e, hb, rfl, k1, k2, k3, k4, hc.ats k (by omega), hc.exps k (by omega), s5, s6⟩
end Go.Proofs.YtbnpoliogldohaaGreat
/- The contract of the model's l9Stmt. -/
namespace Go.Proofs.YtbnpoliogldohaaGreat
open Go.RowKit

set_option maxHeartbeats 800000 in
theorem l9May_nil (r : PRow) (a : Option Addr) (c : Nat) (w : World) :
    Calls Tryz.prog 111 #[progV r, .slice a 0 c] w fun e w' => e = .returned (.bool false) ∧ Below w.heap.size w w' := by
  obtain ⟨wd, ⟨a1, n1, c1⟩, ⟨a2, n2, c2⟩, tp, ⟨a3, n3, c3⟩, ⟨a4, n4, c4⟩, rows⟩ := r
  show Calls Tryz.prog 111 #[.agg #[.int .i64 wd, .slice a1 n1 c1, .slice a2 n2 c2, .int .i64 tp, .slice a3 n3 c3, .slice a4 n4 c4], .slice a 0 c] w _
  have HB := Lib.hid ((Below.refl w.heap.size w).alloc (Nat.le_refl _) (.cells #[.int .i64 wd, .slice a1 n1 c1, .slice a2 n2 c2, .int .i64 tp, .slice a3 n3 c3, .slice a4 n4 c4] 28))
  go_enter Tryz.func111, Tryz.ntmps111
  go_wp2
  refine wp_loop_rounds 1 ?_
  rw [rounds_succ]
  go_wp2
  go_ret
  exact ⟨rfl, HB.out⟩
theorem l9May_all (r : PRow) (p : Prg) (a : Option Addr) (n c : Nat) (ts : List Tm) (w : World) (h : ProgAt w r p) (hz : codeB p = 0) (hs : standQ p ts = true ∨ ts = []) (ht : Terms w a n ts) (hc : n ≤ c) :
    Calls Tryz.prog 111 #[progV r, .slice a n c] w fun e w' => e = .returned (.bool (Tr.traps p.arrays (stackOf ts))) ∧ Below w.heap.size w w' := by
  rcases hs with hs | hs
  · exact l9May_any r p a n c ts w h hz hs ht hc
  · subst hs
    have : n = 0 := by have := ht.1; simpa using this.symm
    subst this
    exact l9May_nil r a c w
theorem right_stand {p : Prg} {s : Stm} (h : RightF p s) : (standQ p s.at_ = true ∨ s.at_ = []) ∧ (standQ p s.exp = true ∨ s.exp = []) := by
  constructor
  · by_cases h1 : s.op = 1
    · exact .inl (h.at1 h1)
    · exact .inr (h.noat h1)
  · cases hb : bears s.op with
    | true => exact .inl (h.exp hb)
    | false => exact .inr (h.noexp hb)
set_option maxRecDepth 100000 in
set_option maxHeartbeats 6400000 in
theorem l9Stmt_any (r : PRow) (p : Prg) (x y : Int) (b1 b2 : Option Addr) (m1 m2 d1 d2 : Nat) (ts us : List Tm) (w : World) (h : ProgAt w r p) (hz : codeB p = 0) (hs : RightS p ⟨x, y, ts, us⟩) (h1 : Terms w b1 m1 ts) (h2 : Terms w b2 m2 us) (hd1 : m1 ≤ d1) (hd2 : m2 ≤ d2) :
    Calls Tryz.prog 58 #[progV r, .agg #[.int .i64 x, .int .i64 y, .slice b1 m1 d1, .slice b2 m2 d2]] w fun e w' => e = .returned (.bool (mayStm p ⟨x, y, ts, us⟩)) ∧ Below w.heap.size w w' := by
  have hR := right_f hs
  have hst := right_stand hR
  simp only [] at hst
  have HMA : Hid (∀ w', Below w.heap.size w w' → Calls Tryz.prog 111 #[progV r, .slice b1 m1 d1] w' fun e w'' => e = .returned (.bool (Tr.traps p.arrays (stackOf ts))) ∧ Below w'.heap.size w' w'') := Lib.hid (fun w' hw => l9May_all r p _ _ _ ts w' (h.below hw) hz hst.1 (h1.below (Nat.le_refl _) hw) hd1)
  have HME : Hid (∀ w', Below w.heap.size w w' → Calls Tryz.prog 111 #[progV r, .slice b2 m2 d2] w' fun e w'' => e = .returned (.bool (Tr.traps p.arrays (stackOf us))) ∧ Below w'.heap.size w' w'') := Lib.hid (fun w' hw => l9May_all r p _ _ _ us w' (h.below hw) hz hst.2 (h2.below (Nat.le_refl _) hw) hd2)
  have HKN : Hid (x = 1 → ∃ (b o j : Nat) (z : Int), y = (j : Int) ∧ j < r.arrays.2.1 ∧ r.arrays.1 = some ⟨b, o, none⟩ ∧ b < w.heap.size ∧ Hid (z = p.arrays.getD j 0) ∧ w.cell? ⟨b, o + j, none⟩ = some (.int .i64 z) ∧ ∀ w', Below w.heap.size w w' → Calls Tryz.prog 112 #[.slice b1 m1 d1, .int .i64 z, .bool false] w' fun e w'' => e = .returned (.bool (knownB ts z false)) ∧ Below w'.heap.size w' w'') := Lib.hid (fun hx => by
    have hp := hR.put hx
    simp only [] at hp
    have ha := h.arrays
    have hal := ha.1
    obtain ⟨b, o, z, e1, hb, hzz, hin, hc⟩ := ha.at_ (k := y.toNat) (by omega)
    exact ⟨b, o, y.toNat, z, by omega, by omega, e1, hb, hzz, hc, fun w' hw => l9Known_any _ _ _ ts z false w' (h1.below (Nat.le_refl _) hw)⟩)
  have HMS : Hid (mayStm p ⟨x, y, ts, us⟩ = (Tr.traps p.arrays (stackOf ts) || Tr.traps p.arrays (stackOf us) || (decide (x = 1) && !knownB ts (p.arrays.getD y.toNat 0) false))) := Lib.hid rfl
  obtain ⟨ma, HA⟩ : ∃ ma, Hid (Tr.traps p.arrays (stackOf ts) = ma) := ⟨_, rfl⟩
  obtain ⟨me, HE⟩ : ∃ me, Hid (Tr.traps p.arrays (stackOf us) = me) := ⟨_, rfl⟩
  rw [HA.out] at HMA
  rw [HE.out] at HME
  rw [HA.out, HE.out] at HMS
  rw [HMS.out]
  obtain ⟨wd, ⟨a1, n1, c1⟩, ⟨a2, n2, c2⟩, tp, ⟨a3, n3, c3⟩, ⟨a4, n4, c4⟩, rows⟩ := r
  have hn3 := h.arrays.2.1
  clear h hz hs h1 h2 hR hst HA HE HMS hd1 hd2
  show Calls Tryz.prog 58 #[.agg #[.int .i64 wd, .slice a1 n1 c1, .slice a2 n2 c2, .int .i64 tp, .slice a3 n3 c3, .slice a4 n4 c4], .agg #[.int .i64 x, .int .i64 y, .slice b1 m1 d1, .slice b2 m2 d2]] w _
  obtain ⟨wa, HW⟩ : ∃ wa, Hid (wa = (w.alloc (.cells #[.int .i64 wd, .slice a1 n1 c1, .slice a2 n2 c2, .int .i64 tp, .slice a3 n3 c3, .slice a4 n4 c4] 28)).alloc (.cells #[.int .i64 x, .int .i64 y, .slice b1 m1 d1, .slice b2 m2 d2] 74)) := ⟨_, rfl⟩
  have B : Blk wa w.heap.size 28 [.int .i64 wd, .slice a1 n1 c1, .slice a2 n2 c2, .int .i64 tp, .slice a3 n3 c3, .slice a4 n4 c4] := by rw [HW.out]; exact (Blk.new w _ _).alloc _
  have BS : Blk wa (w.heap.size + 1) 74 [.int .i64 x, .int .i64 y, .slice b1 m1 d1, .slice b2 m2 d2] := by
    have := Blk.new (w.alloc (.cells #[.int .i64 wd, .slice a1 n1 c1, .slice a2 n2 c2, .int .i64 tp, .slice a3 n3 c3, .slice a4 n4 c4] 28)) 74 [.int .i64 x, .int .i64 y, .slice b1 m1 d1, .slice b2 m2 d2]
    rw [HW.out]
    simpa using this
  have HB : Below w.heap.size w wa := by rw [HW.out]; exact ((Below.refl _ _).alloc (Nat.le_refl _) _).alloc (by simp) _
  have HBF := Lib.hid HB
  have g0 := lat_cell B.lt (B.cell (j := 0) rfl)
  have g1 := lat_cell B.lt (B.cell (j := 1) rfl)
  have g2 := lat_cell B.lt (B.cell (j := 2) rfl)
  have g3 := lat_cell B.lt (B.cell (j := 3) rfl)
  have g4 := lat_cell B.lt (B.cell (j := 4) rfl)
  have g5 := lat_cell B.lt (B.cell (j := 5) rfl)
  have f0 := lat_cell BS.lt (BS.cell (j := 0) rfl)
  have f1 := lat_cell BS.lt (BS.cell (j := 1) rfl)
  have f2 := lat_cell BS.lt (BS.cell (j := 2) rfl)
  have f3 := lat_cell BS.lt (BS.cell (j := 3) rfl)
  have HC1 : Hid (∀ q : Lat wa, Calls Tryz.prog 111 #[.agg #[.int .i64 wd, .slice a1 n1 c1, .slice a2 n2 c2, .int .i64 tp, .slice a3 n3 c3, .slice a4 n4 c4], .slice b1 m1 d1] q.wd fun e w' => e = .returned (.bool ma) ∧ Below q.wd.heap.size q.wd w') := Lib.hid (fun q => HMA.out q.wd (HBF.out.trans (q.ok.mono HBF.out.size)))
  have HC2 : Hid (∀ q : Lat wa, Calls Tryz.prog 111 #[.agg #[.int .i64 wd, .slice a1 n1 c1, .slice a2 n2 c2, .int .i64 tp, .slice a3 n3 c3, .slice a4 n4 c4], .slice b2 m2 d2] q.wd fun e w' => e = .returned (.bool me) ∧ Below q.wd.heap.size q.wd w') := Lib.hid (fun q => HME.out q.wd (HBF.out.trans (q.ok.mono HBF.out.size)))
  clear HMA HME B BS HB
  have tail : ∀ (b : Bool), Hid (b = b) := fun b => Lib.hid rfl
  clear tail
  cases ma with
  | true =>
    clear HKN
    go_enter Tryz.func58, Tryz.ntmps58
    go_wp2_with fail
    rw [← HW.out]
    refine wp_region_lat (by kernel_rfl) (by kernel_rfl) ?_
    repeat (go_big_quiet_step ((go_at_call 111; first | with_reducible exact lat_calls (HC1.out _) | with_reducible exact lat_calls (HC2.out _))))
    refine wpQuiet_nil ?_
    intro _ hw'
    obtain ⟨⟨wq, hwq⟩, hw''⟩ := hw'
    subst hw''
    have HF := Lib.hid (HBF.out.trans (hwq.mono HBF.out.size))
    clear g0 g1 g2 g3 g4 g5 f0 f1 f2 f3 HC1 HC2 hwq
    go_wp2
    go_ret
    exact ⟨rfl, HF.out⟩
  | false =>
    cases me with
    | true =>
      clear HKN
      go_enter Tryz.func58, Tryz.ntmps58
      go_wp2_with fail
      rw [← HW.out]
      refine wp_region_lat (by kernel_rfl) (by kernel_rfl) ?_
      repeat (go_big_quiet_step ((go_at_call 111; first | with_reducible exact lat_calls (HC1.out _) | with_reducible exact lat_calls (HC2.out _))))
      refine wpQuiet_nil ?_
      intro _ hw'
      obtain ⟨⟨wq, hwq⟩, hw''⟩ := hw'
      subst hw''
      have HF := Lib.hid (HBF.out.trans (hwq.mono HBF.out.size))
      clear g0 g1 g2 g3 g4 g5 f0 f1 f2 f3 HC1 HC2 hwq
      go_wp2
      go_ret
      exact ⟨rfl, HF.out⟩
    | false =>
      by_cases hx : x = 1
      · obtain ⟨b, o, j, z, rfl, hj, hae, hb, hzz, hc, hkn⟩ := HKN.out hx
        simp only [] at hj hae
        subst hae
        have HR : Hid ((false || false || (decide (x = 1) && !knownB ts (p.arrays.getD ((j : Nat) : Int).toNat 0) false)) = !knownB ts z false) := Lib.hid (by rw [decide_eq_true hx, hzz.out]; rfl)
        rw [HR.out]
        obtain ⟨kn, HK⟩ : ∃ kn, Hid (knownB ts z false = kn) := ⟨_, rfl⟩
        rw [HK.out] at hkn ⊢
        have HC3 : Hid (∀ q : Lat wa, Calls Tryz.prog 112 #[.slice b1 m1 d1, .int .i64 z, .bool false] q.wd fun e w' => e = .returned (.bool kn) ∧ Below q.wd.heap.size q.wd w') := Lib.hid (fun q => hkn q.wd (HBF.out.trans (q.ok.mono HBF.out.size)))
        have ga := lat_cell (Nat.lt_of_lt_of_le hb HBF.out.size) ((HBF.out.cell hb).trans hc)
        rw [hx] at f0
        clear HR HK hkn hzz hc HKN hx
        go_enter Tryz.func58, Tryz.ntmps58
        go_wp2_with fail
        rw [← HW.out]
        refine wp_region_lat (by kernel_rfl) (by kernel_rfl) ?_
        repeat (go_big_quiet_step (first | (go_at_call 112; exact lat_calls (HC3.out _)) | (go_at_call 111; first | with_reducible exact lat_calls (HC1.out _) | with_reducible exact lat_calls (HC2.out _))))
        refine wpQuiet_nil ?_
        intro _ hw'
        obtain ⟨⟨wq, hwq⟩, hw''⟩ := hw'
        subst hw''
        have HF := Lib.hid (HBF.out.trans (hwq.mono HBF.out.size))
        clear g0 g1 g2 g3 g4 g5 f0 f1 f2 f3 HC1 HC2 HC3 hwq ga
        go_wp2
        go_ret
        exact ⟨rfl, HF.out⟩
      · have HR : Hid ((false || false || (decide (x = 1) && !knownB ts (p.arrays.getD y.toNat 0) false)) = false) := Lib.hid (by rw [decide_eq_false hx]; rfl)
        rw [HR.out]
        have HXN : (x == 1) = false := by simpa using hx
        clear HR hx HKN
        go_enter Tryz.func58, Tryz.ntmps58
        go_wp2_with fail
        rw [← HW.out]
        refine wp_region_lat (by kernel_rfl) (by kernel_rfl) ?_
        repeat (go_big_quiet_step ((go_at_call 111; first | with_reducible exact lat_calls (HC1.out _) | with_reducible exact lat_calls (HC2.out _))))
        refine wpQuiet_nil ?_
        intro _ hw'
        obtain ⟨⟨wq, hwq⟩, hw''⟩ := hw'
        subst hw''
        have HF := Lib.hid (HBF.out.trans (hwq.mono HBF.out.size))
        clear g0 g1 g2 g3 g4 g5 f0 f1 f2 f3 HC1 HC2 hwq
        go_wp2
        go_ret
        exact ⟨rfl, HF.out⟩
end Go.Proofs.YtbnpoliogldohaaGreat
/- The contract of the program's appendNames: the names of a tree behind what was there, in two slices of the call's own. (Four walks of one text, one for each kind of tree.) -/
namespace Go.Proofs.YtbnpoliogldohaaGreat
open Go.RowKit

/-- The names of one Op in a tree, each ahead of those below it. -/
def nameIf (op op' n : Int) : List Int := if op' = op then [n] else []
mutual
def Tr.pre (op : Int) : Tr → List Int
  | .node op' n kids => nameIf op op' n ++ Tr.pres op kids
def Tr.pres (op : Int) : List Tr → List Int
  | [] => []
  | t :: r => t.pre op ++ Tr.pres op r
end
mutual
theorem mem_pre (op x : Int) : ∀ T : Tr, x ∈ T.pre op ↔ (op, x) ∈ T.flat
  | .node op' n kids => by
    simp only [Tr.pre, Tr.flat, List.mem_append, List.mem_singleton]
    rw [mem_pres op x kids]
    unfold nameIf
    by_cases h : op' = op
    · subst h
      rw [if_pos rfl, List.mem_singleton]
      constructor
      · rintro (h | h)
        · exact .inr (by rw [h])
        · exact .inl h
      · rintro (h | h)
        · exact .inr h
        · injection h with _ h; exact .inl h
    · rw [if_neg h]
      constructor
      · rintro (h' | h')
        · simp at h'
        · exact .inl h'
      · rintro (h' | h')
        · exact .inr h'
        · injection h' with h' _; exact absurd h'.symm h
theorem mem_pres (op x : Int) : ∀ Ts : List Tr, x ∈ Tr.pres op Ts ↔ (op, x) ∈ Tr.flats Ts
  | [] => by simp [Tr.pres, Tr.flats]
  | t :: r => by simp only [Tr.pres, Tr.flats, List.mem_append]; rw [mem_pre op x t, mem_pres op x r]
end
mutual
theorem pre_len (op : Int) : ∀ T : Tr, (T.pre op).length ≤ T.flat.length
  | .node op' n kids => by
    simp only [Tr.pre, Tr.flat, List.length_append, List.length_singleton]
    have := pres_len op kids
    have : (nameIf op op' n).length ≤ 1 := by unfold nameIf; split <;> simp
    omega
theorem pres_len (op : Int) : ∀ Ts : List Tr, (Tr.pres op Ts).length ≤ (Tr.flats Ts).length
  | [] => by simp [Tr.pres]
  | t :: r => by
    simp only [Tr.pres, Tr.flats, List.length_append]
    have := pre_len op t
    have := pres_len op r
    omega
end
theorem pres_append (op : Int) (a b : List Tr) : Tr.pres op (a ++ b) = Tr.pres op a ++ Tr.pres op b := by
  induction a with
  | nil => simp [Tr.pres]
  | cons t r ih => simp [Tr.pres, ih]
theorem pres_take_succ (op : Int) (kids : List Tr) (i : Nat) (h : i < kids.length) : Tr.pres op (kids.take (i + 1)) = Tr.pres op (kids.take i) ++ (kids.getD i default).pre op := by
  rw [List.take_succ_eq_append_getElem h, pres_append, List.getD_eq_getElem?_getD, List.getElem?_eq_getElem h]
  simp [Tr.pres]
theorem pres_take_len (op : Int) (kids : List Tr) (i : Nat) : (Tr.pres op (kids.take i)).length ≤ (Tr.flats (kids.take i)).length := pres_len op _

/-- Two slices in different blocks. -/
def Apart2 (v u : Value) : Prop := ∀ g, v.ownBlock = some g → u.ownBlock ≠ some g
/-- From w on, the blocks of v and u alone may have turned; v' lies in v's or a new one, u' in u's or a new one. -/
structure Two (w : World) (v u : Value) (w' : World) (v' u' : Value) : Prop where
  os : w'.os = w.os
  tape : w'.tape = w.tape
  output : w'.output = w.output
  size : w.heap.size ≤ w'.heap.size
  block : ∀ k, k < w.heap.size → some k ≠ v.ownBlock → some k ≠ u.ownBlock → w'.heap[k]? = w.heap[k]?
  left : ∀ g, v'.ownBlock = some g → v.ownBlock = some g ∨ w.heap.size ≤ g
  right : ∀ g, u'.ownBlock = some g → u.ownBlock = some g ∨ w.heap.size ≤ g
theorem Two.refl (w : World) (v u : Value) : Two w v u w v u := ⟨rfl, rfl, rfl, Nat.le_refl _, fun _ _ _ _ => rfl, fun _ h => .inl h, fun _ h => .inl h⟩
theorem Two.trans {w w1 w2 : World} {v u v1 u1 v2 u2 : Value} (h : Two w v u w1 v1 u1) (k : Two w1 v1 u1 w2 v2 u2) : Two w v u w2 v2 u2 := by
  refine ⟨k.os.trans h.os, k.tape.trans h.tape, k.output.trans h.output, Nat.le_trans h.size k.size, fun b hb h1 h2 => ?_, fun g hg => ?_, fun g hg => ?_⟩
  · refine (k.block b (Nat.lt_of_lt_of_le hb h.size) (fun e => ?_) (fun e => ?_)).trans (h.block b hb h1 h2)
    · rcases h.left b e.symm with h' | h'
      · exact h1 h'.symm
      · omega
    · rcases h.right b e.symm with h' | h'
      · exact h2 h'.symm
      · omega
  · rcases k.left g hg with h' | h'
    · exact h.left g h'
    · exact .inr (Nat.le_trans h.size h')
  · rcases k.right g hg with h' | h'
    · exact h.right g h'
    · exact .inr (Nat.le_trans h.size h')
theorem Two.of_left {w w1 : World} {v v1 u : Value} (h : GrowsTo w v w1 v1) : Two w v u w1 v1 u := ⟨h.1.os, h.1.tape, h.1.output, h.1.size, fun b hb h1 _ => h.1.block b hb h1, h.2, fun _ h => .inl h⟩
theorem Two.of_right {w w1 : World} {v u u1 : Value} (h : GrowsTo w u w1 u1) : Two w v u w1 v u1 := ⟨h.1.os, h.1.tape, h.1.output, h.1.size, fun b hb _ h2 => h.1.block b hb h2, fun _ h => .inl h, h.2⟩
theorem Two.of_below {w w1 : World} {v u : Value} (h : Below w.heap.size w w1) : Two w v u w1 v u := ⟨h.os, h.tape, h.output, h.size, fun b hb _ _ => h.block b hb, fun _ h => .inl h, fun _ h => .inl h⟩
theorem Two.below {w w' : World} {v u v' u' : Value} {B : Nat} (h : Two w v u w' v' u') (hB : B ≤ w.heap.size) (hv : ∀ g, v.ownBlock = some g → B ≤ g) (hu : ∀ g, u.ownBlock = some g → B ≤ g) : Below B w w' :=
  ⟨h.os, h.tape, h.output, h.size, fun k hk => h.block k (by omega) (fun e => by have := hv k e.symm; omega) (fun e => by have := hu k e.symm; omega)⟩

/-- Two slices of numbers of the call's own, in different blocks. -/
def Own2 (w : World) (B : Nat) (r s : Sl) (zs ys : List Int) : Prop := Own w B r.1 r.2.1 r.2.2 zs ∧ Own w B s.1 s.2.1 s.2.2 ys ∧ Apart2 (slV r) (slV s)
theorem Own2.below {w w' : World} {B : Nat} {r s : Sl} {zs ys : List Int} (h : Own2 w B r s zs ys) (hb : Below w.heap.size w w') : Own2 w' B r s zs ys := ⟨h.1.below hb, h.2.1.below hb, h.2.2⟩
theorem Own2.left {w w' : World} {B : Nat} {r r' s : Sl} {zs zs' ys : List Int} (h : Own2 w B r s zs ys) (hg : GrowsTo w (slV r) w' (slV r')) (ho : Own w' B r'.1 r'.2.1 r'.2.2 zs') : Own2 w' B r' s zs' ys := by
  refine ⟨ho, ⟨h.2.1.1.kept hg.1 ?_, h.2.1.2⟩, fun g hgr e => ?_⟩
  · cases hv : (Value.slice s.1 s.2.1 s.2.2).ownBlock with
    | none => exact .inl rfl
    | some g => exact .inr (fun e => h.2.2 g e.symm hv)
  · rcases hg.2 g hgr with h' | h'
    · exact h.2.2 g h' e
    · have := (h.2.1.block g e).2; omega
theorem Own2.right {w w' : World} {B : Nat} {r s s' : Sl} {zs ys ys' : List Int} (h : Own2 w B r s zs ys) (hg : GrowsTo w (slV s) w' (slV s')) (ho : Own w' B s'.1 s'.2.1 s'.2.2 ys') : Own2 w' B r s' zs ys' := by
  refine ⟨⟨h.1.1.kept hg.1 ?_, h.1.2⟩, ho, fun g hgr e => ?_⟩
  · cases hv : (Value.slice r.1 r.2.1 r.2.2).ownBlock with
    | none => exact .inl rfl
    | some g => exact .inr (fun e => h.2.2 g hv e.symm)
  · rcases hg.2 g e with h' | h'
    · exact h.2.2 g hgr h'
    · have := (h.1.block g hgr).2; omega
theorem keeps_two {w w' : World} {F : Nat → Prop} {B : Nat} {r s r' s' : Sl} {zs ys : List Int} (ho : Own2 w B r s zs ys) (h : Two w (slV r) (slV s) w' (slV r') (slV s')) : Keeps w F w' F := by
  refine fun b cur fz hF hh => ⟨h.block b (Array.getElem?_eq_some_iff.1 hh).1 (fun e => ?_) (fun e => ?_), hF⟩
  · obtain ⟨c', fz', h'⟩ := Go.Lib.ownsRow_kind ho.1.1 b e.symm
    rw [hh] at h'
    injection h' with h'
    injection h' with _ h'
    exact absurd h' (by decide)
  · obtain ⟨c', fz', h'⟩ := Go.Lib.ownsRow_kind ho.2.1.1 b e.symm
    rw [hh] at h'
    injection h' with h'
    injection h' with _ h'
    exact absurd h' (by decide)
theorem Own.alloc2 {w : World} {B : Nat} {a : Option Addr} {n c : Nat} {zs : List Int} (h : Own w B a n c zs) (o : Obj) : Own (w.alloc o) B a n c zs := ⟨h.1.alloc o, h.2⟩
theorem own_nil2 (w : World) (B : Nat) : Own w B none 0 0 [] := ⟨World.ownsRow_nil _ _ _ _, by omega, fun z hz => by simp at hz⟩
theorem info_i64' : (Tryz.prog.info? 2).map (fun i => (i.zero, i.size, i.bytes)) = some (some (.int .i64 0), 1, 8) := by kernel_rfl

/-- 'append(out, z)' of one number, and where the new slice lies. -/
theorem wpList_pushI {ops : Array Oper} {rest : List Oper} {o : Oper} {ac : Act} {Q : Exit → Act → World → Prop} (w : World) (hgd : o.guard = none) (s x : Operand)
    (ho : o.op = .call { callee := .builtin .append, args := #[s, x], argTypes := #[25, 25] })
    (B : Nat) (a : Option Addr) (n c : Nat) (zs : List Int) (hs : ac.eval s = .slice a n c) (hown : Own w B a n c zs)
    (g : Nat) (z : Int) (hx : ac.eval x = .slice (some ⟨g, 0, none⟩) 1 1) (hc : w.cell? ⟨g, 0, none⟩ = some (.int .i64 z)) (hz : In64 z) (hn : n < 1048576) (hB : B ≤ w.heap.size)
    (h : ∀ a1 c1 w', Own w' B a1 (n + 1) c1 (zs ++ [z]) → GrowsTo w (.slice a n c) w' (.slice a1 (n + 1) c1) → wpList Tryz.prog ops Q rest (ac.put o.dst (.slice a1 (n + 1) c1)) w') : wpList Tryz.prog ops Q (o :: rest) ac w := by
  refine wpList_pushG w hgd s x 25 2 (.int .i64 0) 1 8 ho Tryz.underlying25 info_i64' rfl (by omega) B a n c (zs.map (Value.int .i64)) hs hown.1 ⟨g, 0, none⟩ 1 1 [.int .i64 z] hx rfl ?_ ?_ ?_ ?_ hB ?_
  · intro j u hj
    match j, hj with
    | 0, hj => simp at hj; subst hj; simpa [Addr.add] using hc
  · intro u hu; simp at hu; subst hu; rfl
  · unfold maxLen; omega
  · omega
  · intro a1 c1 w' r1 r2
    refine h a1 c1 w' ⟨by simpa using r1, by omega, fun y hy => ?_⟩ r2
    rcases List.mem_append.1 hy with hy | hy
    · exact hown.2.2 y hy
    · rw [List.mem_singleton] at hy; subst hy; exact hz

/-! ### Which kind it is -/
theorem as_num_var (x : Value) (w : World) : (Instr.typeAssert (.iface 242 x) 202 269 true).run Tryz.prog w = .ok (.tuple #[.agg #[.int .i64 0], .bool false]) w := by kernel_rfl
theorem as_num_cell (x : Value) (w : World) : (Instr.typeAssert (.iface 242 x) 202 271 true).run Tryz.prog w = .ok (.tuple #[.agg #[.int .i64 0, .nilIface], .bool false]) w := by kernel_rfl
theorem as_var_var (x : Value) (w : World) : (Instr.typeAssert (.iface 269 x) 202 269 true).run Tryz.prog w = .ok (.tuple #[x, .bool true]) w := by kernel_rfl
theorem as_cell_var (x : Value) (w : World) : (Instr.typeAssert (.iface 271 x) 202 269 true).run Tryz.prog w = .ok (.tuple #[.agg #[.int .i64 0], .bool false]) w := by kernel_rfl
theorem as_cell_cell (x : Value) (w : World) : (Instr.typeAssert (.iface 271 x) 202 271 true).run Tryz.prog w = .ok (.tuple #[x, .bool true]) w := by kernel_rfl
theorem as_op_var (x : Value) (w : World) : (Instr.typeAssert (.iface 273 x) 202 269 true).run Tryz.prog w = .ok (.tuple #[.agg #[.int .i64 0], .bool false]) w := by kernel_rfl
theorem as_op_cell (x : Value) (w : World) : (Instr.typeAssert (.iface 273 x) 202 271 true).run Tryz.prog w = .ok (.tuple #[.agg #[.int .i64 0, .nilIface], .bool false]) w := by kernel_rfl

/-- What appendNames leaves. -/
def AppN (w : World) (B : Nat) (r s : Sl) (zs ys : List Int) (T : Tr) (e : Ending) (w' : World) : Prop :=
  ∃ r' s' : Sl, e = .returned (.tuple #[slV r', slV s']) ∧ Own2 w' B r' s' (zs ++ T.pre 1) (ys ++ T.pre 2) ∧ Two w (slV r) (slV s) w' (slV r') (slV s')
def AppNSaid (N : Nat) : Prop := ∀ (T : Tr) (v : Value) (w : World) (B : Nat) (a b : Option Addr) (n m c d : Nat) (zs ys : List Int), T.flat.length ≤ N → T.okT → IsTree w (fun _ => True) v T → Own2 w B (a, n, c) (b, m, d) zs ys → B ≤ w.heap.size → zs.length + T.flat.length ≤ 3000 → ys.length + T.flat.length ≤ 3000 →
  Calls Tryz.prog 229 #[.slice a n c, .slice b m d, v] w (AppN w B (a, n, c) (b, m, d) zs ys T)

set_option maxRecDepth 100000 in
set_option maxHeartbeats 2400000 in
theorem appN_num (N : Nat) (_ih : Hid (AppNSaid N)) (x : Int) (w : World) (B : Nat) (a b : Option Addr) (n m0 c d : Nat) (zs ys : List Int) (_hN : (Tr.node 0 x []).flat.length ≤ N + 1) (hok : (Tr.node 0 x []).okT) (ho : Own2 w B (a, n, c) (b, m0, d) zs ys) (hB : B ≤ w.heap.size) (hbz : zs.length + (Tr.node 0 x []).flat.length ≤ 3000) (hby : ys.length + (Tr.node 0 x []).flat.length ≤ 3000) :
    Calls Tryz.prog 229 #[.slice a n c, .slice b m0 d, .iface 242 (.agg #[.int .i64 x])] w (AppN w B (a, n, c) (b, m0, d) zs ys (Tr.node 0 x [])) := by
  have m1 := m_num_under (.int .i64 x)
  have q1 := as_num_var (.agg #[.int .i64 x])
  have q2 := as_num_cell (.agg #[.int .i64 x])
  have HL := Lib.hid ho.1.len
  have HM := Lib.hid ho.2.1.len
  have hin := okT_in hok
  simp only [Tr.okT] at hok
  clear hok
  simp only [Tr.flat, List.length_append, List.length_singleton] at hbz hby
  have hn1 : n ≤ 3000 := by have := HL.out; simp only [] at this; omega
  have hm1 : m0 ≤ 3000 := by have := HM.out; simp only [] at this; omega
  go_enter Tryz.func229, Tryz.ntmps229
  have hoA : Own2 w B (a, n, c) (b, m0, d) (zs ++ []) (ys ++ []) := by simpa using ho
  have htwA : Two w (slV (a, n, c)) (slV (b, m0, d)) w (slV (a, n, c)) (slV (b, m0, d)) := Two.refl _ _ _
  have hBA := hB
  clear ho
  go_wp2_with fail
  refine (num_under _ _).mono ?_
  rintro e w1 ⟨rfl, hb1⟩
  have ho1 := hoA.below hb1
  have hB1 : B ≤ w1.heap.size := Nat.le_trans hBA hb1.size
  skip
  obtain ⟨zs1, HZ1⟩ : ∃ zs1, Hid (zs ++ ([] : List Int) = zs1) := ⟨_, rfl⟩
  obtain ⟨ys1, HY1⟩ : ∃ ys1, Hid (ys ++ ([] : List Int) = ys1) := ⟨_, rfl⟩
  rw [HZ1.out, HY1.out] at ho1
  have hlz1 : zs1.length ≤ zs.length + 1 := by rw [← HZ1.out]; simp
  have hly1 : ys1.length ≤ ys.length + 1 := by rw [← HY1.out]; simp
  clear hoA
  go_wp2
  go_loopw [0, 1, 32] (fun ev eu i wr => ∃ (k : Nat) (a1 b1 : Option Addr) (n1 m1 c1 d1 : Nat), k ≤ 0 ∧ i = .int .i64 k ∧ ev = .slice a1 n1 c1 ∧ eu = .slice b1 m1 d1 ∧ Own2 wr B (a1, n1, c1) (b1, m1, d1) (zs1 ++ Tr.pres 1 (([]).take k)) (ys1 ++ Tr.pres 2 (([]).take k)) ∧ Two w1 (slV (a, n, c)) (slV (b, m0, d)) wr (slV (a1, n1, c1)) (slV (b1, m1, d1))) (fun _ _ i _ => 0 - (intOf i).toNat)
  case atStart => exact ⟨0, _, _, _, _, _, _, Nat.zero_le _, rfl, rfl, rfl, by simpa [Tr.pres] using ho1, Two.refl _ _ _⟩
  case round =>
    obtain ⟨k, a1, b1, n1, m1, c1, d1, hk, rfl, rfl, rfl, hown, htw⟩ := hrel
    have hBr : B ≤ wr.heap.size := Nat.le_trans hB1 htw.size
    by_cases hlt : k < 0
    · omega
    · obtain rfl : 0 = k := by omega
      have hall1 : Tr.pres 1 (([]).take (0)) = Tr.pres 1 ([]) := by rw [List.take_of_length_le (by simp)]
      have hall2 : Tr.pres 2 (([]).take (0)) = Tr.pres 2 ([]) := by rw [List.take_of_length_le (by simp)]
      rw [hall1, hall2] at hown
      have htw6 := (htwA.trans (Two.of_below hb1)).trans htw
      clear hall1 hall2 htw
      go_wp2
      go_ret2
      exact ⟨(a1, n1, c1), (b1, m1, d1), rfl, by rw [← HZ1.out, ← HY1.out] at hown; simp only [Tr.pre, nameIf]; simpa using hown, htw6⟩

set_option maxRecDepth 100000 in
set_option maxHeartbeats 2400000 in
theorem appN_var (N : Nat) (_ih : Hid (AppNSaid N)) (x : Int) (w : World) (B : Nat) (a b : Option Addr) (n m0 c d : Nat) (zs ys : List Int) (_hN : (Tr.node 1 x []).flat.length ≤ N + 1) (hok : (Tr.node 1 x []).okT) (ho : Own2 w B (a, n, c) (b, m0, d) zs ys) (hB : B ≤ w.heap.size) (hbz : zs.length + (Tr.node 1 x []).flat.length ≤ 3000) (hby : ys.length + (Tr.node 1 x []).flat.length ≤ 3000) :
    Calls Tryz.prog 229 #[.slice a n c, .slice b m0 d, .iface 269 (.agg #[.int .i64 x])] w (AppN w B (a, n, c) (b, m0, d) zs ys (Tr.node 1 x [])) := by
  have m1 := m_var_under (.int .i64 x)
  have q1 := as_var_var (.agg #[.int .i64 x])
  have HL := Lib.hid ho.1.len
  have HM := Lib.hid ho.2.1.len
  have hin := okT_in hok
  simp only [Tr.okT] at hok
  clear hok
  simp only [Tr.flat, List.length_append, List.length_singleton] at hbz hby
  have hn1 : n ≤ 3000 := by have := HL.out; simp only [] at this; omega
  have hm1 : m0 ≤ 3000 := by have := HM.out; simp only [] at this; omega
  go_enter Tryz.func229, Tryz.ntmps229
  have hs1 : B ≤ w.heap.size := hB
  go_wp2_with (at_builtin; refine wpList_pushI _ rfl _ _ rfl B _ _ _ zs rfl ((ho.1.alloc2 _).alloc2 _) (w.heap.size + 1) x rfl (by simp) hin.2 (by omega) (by simp; omega) ?_)
  intro a5 c5 w5 hown5 hgr5
  have hbA : Below w.heap.size w ((w.alloc (.cells #[.int .i64 x] 269)).alloc (.cells #[.int .i64 x] 2)) := ((Below.refl _ _).alloc (Nat.le_refl _) _).alloc (by simp) _
  have hoA := (ho.below hbA).left (r' := (a5, n + 1, c5)) hgr5 hown5
  have htwA : Two w (slV (a, n, c)) (slV (b, m0, d)) w5 (slV ((a5, n + 1, c5))) (slV ((b, m0, d))) := (Two.of_below hbA).trans (Two.of_left hgr5)
  have hBA : B ≤ w5.heap.size := by have := hgr5.size; simp at this; omega
  rw [← List.append_nil ys] at hoA
  clear ho hown5 hgr5 hbA
  go_wp2_with fail
  refine (var_under _ _).mono ?_
  rintro e w1 ⟨rfl, hb1⟩
  have ho1 := hoA.below hb1
  have hB1 : B ≤ w1.heap.size := Nat.le_trans hBA hb1.size
  skip
  obtain ⟨zs1, HZ1⟩ : ∃ zs1, Hid (zs ++ [x] = zs1) := ⟨_, rfl⟩
  obtain ⟨ys1, HY1⟩ : ∃ ys1, Hid (ys ++ ([] : List Int) = ys1) := ⟨_, rfl⟩
  rw [HZ1.out, HY1.out] at ho1
  have hlz1 : zs1.length ≤ zs.length + 1 := by rw [← HZ1.out]; simp
  have hly1 : ys1.length ≤ ys.length + 1 := by rw [← HY1.out]; simp
  clear hoA
  go_wp2
  go_loopw [0, 1, 32] (fun ev eu i wr => ∃ (k : Nat) (a1 b1 : Option Addr) (n1 m1 c1 d1 : Nat), k ≤ 0 ∧ i = .int .i64 k ∧ ev = .slice a1 n1 c1 ∧ eu = .slice b1 m1 d1 ∧ Own2 wr B (a1, n1, c1) (b1, m1, d1) (zs1 ++ Tr.pres 1 (([]).take k)) (ys1 ++ Tr.pres 2 (([]).take k)) ∧ Two w1 (slV (a5, n + 1, c5)) (slV (b, m0, d)) wr (slV (a1, n1, c1)) (slV (b1, m1, d1))) (fun _ _ i _ => 0 - (intOf i).toNat)
  case atStart => exact ⟨0, _, _, _, _, _, _, Nat.zero_le _, rfl, rfl, rfl, by simpa [Tr.pres] using ho1, Two.refl _ _ _⟩
  case round =>
    obtain ⟨k, a1, b1, n1, m1, c1, d1, hk, rfl, rfl, rfl, hown, htw⟩ := hrel
    have hBr : B ≤ wr.heap.size := Nat.le_trans hB1 htw.size
    by_cases hlt : k < 0
    · omega
    · obtain rfl : 0 = k := by omega
      have hall1 : Tr.pres 1 (([]).take (0)) = Tr.pres 1 ([]) := by rw [List.take_of_length_le (by simp)]
      have hall2 : Tr.pres 2 (([]).take (0)) = Tr.pres 2 ([]) := by rw [List.take_of_length_le (by simp)]
      rw [hall1, hall2] at hown
      have htw6 := (htwA.trans (Two.of_below hb1)).trans htw
      clear hall1 hall2 htw
      go_wp2
      go_ret2
      exact ⟨(a1, n1, c1), (b1, m1, d1), rfl, by rw [← HZ1.out, ← HY1.out] at hown; simp only [Tr.pre, nameIf]; simpa using hown, htw6⟩

set_option maxRecDepth 100000 in
set_option maxHeartbeats 2400000 in
theorem appN_cell (N : Nat) (ih : Hid (AppNSaid N)) (x : Int) (u0 : TypeId) (x0 : Value) (T0 : Tr) (w : World) (B : Nat) (a b : Option Addr) (n m0 c d : Nat) (zs ys : List Int) (hN : (Tr.node 2 x [T0]).flat.length ≤ N + 1) (hok : (Tr.node 2 x [T0]).okT) (hT0 : IsTree w (fun _ => True) (.iface u0 x0) T0) (ho : Own2 w B (a, n, c) (b, m0, d) zs ys) (hB : B ≤ w.heap.size) (hbz : zs.length + (Tr.node 2 x [T0]).flat.length ≤ 3000) (hby : ys.length + (Tr.node 2 x [T0]).flat.length ≤ 3000) :
    Calls Tryz.prog 229 #[.slice a n c, .slice b m0 d, .iface 271 (.agg #[.int .i64 x, .iface u0 x0])] w (AppN w B (a, n, c) (b, m0, d) zs ys (Tr.node 2 x [T0])) := by
  have m1 := m_cell_under (.int .i64 x) (.iface u0 x0)
  have q1 := as_cell_var (.agg #[.int .i64 x, .iface u0 x0])
  have q2 := as_cell_cell (.agg #[.int .i64 x, .iface u0 x0])
  have HL := Lib.hid ho.1.len
  have HM := Lib.hid ho.2.1.len
  have hin := okT_in hok
  simp only [Tr.okT] at hok
  have hok3 := hok.2.2; clear hok
  simp only [Tr.flat, List.length_append, List.length_singleton] at hN hbz hby
  have hn1 : n ≤ 3000 := by have := HL.out; simp only [] at this; omega
  have hm1 : m0 ≤ 3000 := by have := HM.out; simp only [] at this; omega
  go_enter Tryz.func229, Tryz.ntmps229
  have hs1 : B ≤ w.heap.size := hB
  go_wp2_with (at_builtin; refine wpList_pushI _ rfl _ _ rfl B _ _ _ ys rfl ((ho.2.1.alloc2 _).alloc2 _) (w.heap.size + 1) x rfl (by simp) hin.2 (by omega) (by simp; omega) ?_)
  intro a5 c5 w5 hown5 hgr5
  have hbA : Below w.heap.size w ((w.alloc (.cells #[.int .i64 x, .iface u0 x0] 271)).alloc (.cells #[.int .i64 x] 2)) := ((Below.refl _ _).alloc (Nat.le_refl _) _).alloc (by simp) _
  have hoA := (ho.below hbA).right (s' := (a5, m0 + 1, c5)) hgr5 hown5
  have htwA : Two w (slV (a, n, c)) (slV (b, m0, d)) w5 (slV ((a, n, c))) (slV ((a5, m0 + 1, c5))) := (Two.of_below hbA).trans (Two.of_right hgr5)
  have hBA : B ≤ w5.heap.size := by have := hgr5.size; simp at this; omega
  rw [← List.append_nil zs] at hoA
  have hT5 := hT0.keep ((keeps_below hbA).trans (keeps_own ((ho.2.1.alloc2 _).alloc2 _).1 hgr5.1 (by decide)))
  clear hT0 ho hown5 hgr5 hbA
  go_wp2_with fail
  refine (cell_under _ _ _ _).mono ?_
  rintro e w1 ⟨g, rfl, hg1, hg2, hb1⟩
  have ho1 := hoA.below hb1
  have hB1 : B ≤ w1.heap.size := Nat.le_trans hBA hb1.size
  have hrow : RowV w1 (fun _ => True) (some ⟨g, 0, none⟩) 1 [.iface u0 x0] := row_one hg2
  have HKIDS : Hid (∀ i, i < 1 → IsTree w1 (fun _ => True) (([.iface u0 x0] : List Value).getD i .nilIface) (([T0] : List Tr).getD i default)) := fun i hi => by
    obtain rfl : i = 0 := by omega
    exact hT5.keep (keeps_below hb1)
  clear hT5 hg2
  obtain ⟨zs1, HZ1⟩ : ∃ zs1, Hid (zs ++ ([] : List Int) = zs1) := ⟨_, rfl⟩
  obtain ⟨ys1, HY1⟩ : ∃ ys1, Hid (ys ++ [x] = ys1) := ⟨_, rfl⟩
  rw [HZ1.out, HY1.out] at ho1
  have hlz1 : zs1.length ≤ zs.length + 1 := by rw [← HZ1.out]; simp
  have hly1 : ys1.length ≤ ys.length + 1 := by rw [← HY1.out]; simp
  clear hoA
  go_wp2
  go_loopw [0, 1, 32] (fun ev eu i wr => ∃ (k : Nat) (a1 b1 : Option Addr) (n1 m1 c1 d1 : Nat), k ≤ 1 ∧ i = .int .i64 k ∧ ev = .slice a1 n1 c1 ∧ eu = .slice b1 m1 d1 ∧ Own2 wr B (a1, n1, c1) (b1, m1, d1) (zs1 ++ Tr.pres 1 (([T0]).take k)) (ys1 ++ Tr.pres 2 (([T0]).take k)) ∧ Two w1 (slV (a, n, c)) (slV (a5, m0 + 1, c5)) wr (slV (a1, n1, c1)) (slV (b1, m1, d1))) (fun _ _ i _ => 1 - (intOf i).toNat)
  case atStart => exact ⟨0, _, _, _, _, _, _, Nat.zero_le _, rfl, rfl, rfl, by simpa [Tr.pres] using ho1, Two.refl _ _ _⟩
  case round =>
    obtain ⟨k, a1, b1, n1, m1, c1, d1, hk, rfl, rfl, rfl, hown, htw⟩ := hrel
    have hBr : B ≤ wr.heap.size := Nat.le_trans hB1 htw.size
    by_cases hlt : k < 1
    · obtain ⟨kb, ko, hka, hbl, hcell⟩ := (hrow.keep (keeps_two ho1 htw)).at_ hlt
      have hkid := (HKIDS.out k hlt).keep (keeps_two ho1 htw)
      injection hka with hka; injection hka with e1 e2; subst e1 e2
      obtain ⟨u, y, hv⟩ := hkid.iface
      rw [hv] at hcell hkid
      clear hv
      simp only [Nat.zero_add] at hcell
      have hkl := flats_take_le ([T0]) k (by simp; omega)
      have hko := oks_getD hok3 (i := k) (by simp; omega)
      have HS1 := Lib.hid (pres_take_succ 1 ([T0]) k (by simp; omega))
      have HS2 := Lib.hid (pres_take_succ 2 ([T0]) k (by simp; omega))
      have hp1 := pres_take_len 1 ([T0]) k
      have hp2 := pres_take_len 2 ([T0]) k
      have hq1 : (zs1 ++ Tr.pres 1 (([T0]).take k)).length + (([T0]).getD k default).flat.length ≤ 3000 := by rw [List.length_append]; omega
      have hq2 : (ys1 ++ Tr.pres 2 (([T0]).take k)).length + (([T0]).getD k default).flat.length ≤ 3000 := by rw [List.length_append]; omega
      have hq3 : (([T0]).getD k default).flat.length ≤ N := by omega
      generalize ([T0]).getD k default = T1 at *
      go_wp2_with fail
      refine (ih.out _ _ wr B _ _ _ _ _ _ _ _ hq3 hko hkid hown hBr hq1 hq2).mono ?_
      rintro e w4 ⟨⟨a4, n4, c4⟩, ⟨b4, m4, d4⟩, rfl, hown4, htw4⟩
      simp only [slV] at htw4 ⊢
      have htw5 := htw.trans htw4
      clear hown htw htw4 hkid hcell hq1 hq2 hq3 hkl hko hp1 hp2
      go_wp2
      go_roundw
      case rel => exact ⟨k + 1, a4, b4, n4, m4, c4, d4, by omega, by go_num, rfl, rfl, by rw [HS1.out, HS2.out, ← List.append_assoc, ← List.append_assoc]; exact hown4, htw5⟩
      case measure => simp [intOf]; omega
    · obtain rfl : 1 = k := by omega
      have hall1 : Tr.pres 1 (([T0]).take (1)) = Tr.pres 1 ([T0]) := by rw [List.take_of_length_le (by simp)]
      have hall2 : Tr.pres 2 (([T0]).take (1)) = Tr.pres 2 ([T0]) := by rw [List.take_of_length_le (by simp)]
      rw [hall1, hall2] at hown
      have htw6 := (htwA.trans (Two.of_below hb1)).trans htw
      clear hall1 hall2 htw
      go_wp2
      go_ret2
      exact ⟨(a1, n1, c1), (b1, m1, d1), rfl, by rw [← HZ1.out, ← HY1.out] at hown; simp only [Tr.pre, nameIf]; simpa using hown, htw6⟩

set_option maxRecDepth 100000 in
set_option maxHeartbeats 2400000 in
theorem appN_op (N : Nat) (ih : Hid (AppNSaid N)) (k0 : Int) (ka : Option Addr) (m kc : Nat) (vs : List Value) (kids : List Tr) (w : World) (B : Nat) (a b : Option Addr) (n m0 c d : Nat) (zs ys : List Int) (hN : (Tr.node k0 0 kids).flat.length ≤ N + 1) (hok : (Tr.node k0 0 kids).okT) (h3 : 3 ≤ k0) (hm3 : m ≤ 3) (hkl0 : Hid (kids.length = m)) (hrow0 : RowV w (fun _ => True) ka m vs) (hkids0 : Hid (∀ i, i < m → IsTree w (fun _ => True) (vs.getD i .nilIface) (kids.getD i default))) (ho : Own2 w B (a, n, c) (b, m0, d) zs ys) (hB : B ≤ w.heap.size) (hbz : zs.length + (Tr.node k0 0 kids).flat.length ≤ 3000) (hby : ys.length + (Tr.node k0 0 kids).flat.length ≤ 3000) :
    Calls Tryz.prog 229 #[.slice a n c, .slice b m0 d, .iface 273 (.agg #[.int .i64 k0, .slice ka m kc])] w (AppN w B (a, n, c) (b, m0, d) zs ys (Tr.node k0 0 kids)) := by
  have m1 := m_op_under (.int .i64 k0) (.slice ka m kc)
  have q1 := as_op_var (.agg #[.int .i64 k0, .slice ka m kc])
  have q2 := as_op_cell (.agg #[.int .i64 k0, .slice ka m kc])
  have HL := Lib.hid ho.1.len
  have HM := Lib.hid ho.2.1.len
  have hin := okT_in hok
  simp only [Tr.okT] at hok
  have hok3 := hok.2.2; clear hok
  simp only [Tr.flat, List.length_append, List.length_singleton] at hN hbz hby
  have hn1 : n ≤ 3000 := by have := HL.out; simp only [] at this; omega
  have hm1 : m0 ≤ 3000 := by have := HM.out; simp only [] at this; omega
  go_enter Tryz.func229, Tryz.ntmps229
  have hoA : Own2 w B (a, n, c) (b, m0, d) (zs ++ []) (ys ++ []) := by simpa using ho
  have htwA : Two w (slV (a, n, c)) (slV (b, m0, d)) w (slV (a, n, c)) (slV (b, m0, d)) := Two.refl _ _ _
  have hBA := hB
  clear ho
  go_wp2_with fail
  refine (op_under _ _ _ _ _).mono ?_
  rintro e w1 ⟨rfl, hb1⟩
  have ho1 := hoA.below hb1
  have hB1 : B ≤ w1.heap.size := Nat.le_trans hBA hb1.size
  have hrow := hrow0.keep (keeps_below hb1)
  have HKIDS := Lib.hid (show ∀ i, i < m → IsTree w1 (fun _ => True) (vs.getD i .nilIface) (kids.getD i default) from fun i hi => (hkids0.out i hi).keep (keeps_below hb1))
  clear hkids0 hrow0
  obtain ⟨zs1, HZ1⟩ : ∃ zs1, Hid (zs ++ ([] : List Int) = zs1) := ⟨_, rfl⟩
  obtain ⟨ys1, HY1⟩ : ∃ ys1, Hid (ys ++ ([] : List Int) = ys1) := ⟨_, rfl⟩
  rw [HZ1.out, HY1.out] at ho1
  have hlz1 : zs1.length ≤ zs.length + 1 := by rw [← HZ1.out]; simp
  have hly1 : ys1.length ≤ ys.length + 1 := by rw [← HY1.out]; simp
  clear hoA
  go_wp2
  go_loopw [0, 1, 32] (fun ev eu i wr => ∃ (k : Nat) (a1 b1 : Option Addr) (n1 m1 c1 d1 : Nat), k ≤ m ∧ i = .int .i64 k ∧ ev = .slice a1 n1 c1 ∧ eu = .slice b1 m1 d1 ∧ Own2 wr B (a1, n1, c1) (b1, m1, d1) (zs1 ++ Tr.pres 1 ((kids).take k)) (ys1 ++ Tr.pres 2 ((kids).take k)) ∧ Two w1 (slV (a, n, c)) (slV (b, m0, d)) wr (slV (a1, n1, c1)) (slV (b1, m1, d1))) (fun _ _ i _ => m - (intOf i).toNat)
  case atStart => exact ⟨0, _, _, _, _, _, _, Nat.zero_le _, rfl, rfl, rfl, by simpa [Tr.pres] using ho1, Two.refl _ _ _⟩
  case round =>
    obtain ⟨k, a1, b1, n1, m1, c1, d1, hk, rfl, rfl, rfl, hown, htw⟩ := hrel
    have hBr : B ≤ wr.heap.size := Nat.le_trans hB1 htw.size
    by_cases hlt : k < m
    · obtain ⟨kb, ko, hka, hbl, hcell⟩ := (hrow.keep (keeps_two ho1 htw)).at_ hlt
      have hkid := (HKIDS.out k hlt).keep (keeps_two ho1 htw)
      subst hka
      obtain ⟨u, y, hv⟩ := hkid.iface
      rw [hv] at hcell hkid
      clear hv
      skip
      have hkl := flats_take_le (kids) k (by rw [hkl0.out]; omega)
      have hko := oks_getD hok3 (i := k) (by rw [hkl0.out]; omega)
      have HS1 := Lib.hid (pres_take_succ 1 (kids) k (by rw [hkl0.out]; omega))
      have HS2 := Lib.hid (pres_take_succ 2 (kids) k (by rw [hkl0.out]; omega))
      have hp1 := pres_take_len 1 (kids) k
      have hp2 := pres_take_len 2 (kids) k
      have hq1 : (zs1 ++ Tr.pres 1 ((kids).take k)).length + ((kids).getD k default).flat.length ≤ 3000 := by rw [List.length_append]; omega
      have hq2 : (ys1 ++ Tr.pres 2 ((kids).take k)).length + ((kids).getD k default).flat.length ≤ 3000 := by rw [List.length_append]; omega
      have hq3 : ((kids).getD k default).flat.length ≤ N := by omega
      generalize (kids).getD k default = T1 at *
      go_wp2_with fail
      refine (ih.out _ _ wr B _ _ _ _ _ _ _ _ hq3 hko hkid hown hBr hq1 hq2).mono ?_
      rintro e w4 ⟨⟨a4, n4, c4⟩, ⟨b4, m4, d4⟩, rfl, hown4, htw4⟩
      simp only [slV] at htw4 ⊢
      have htw5 := htw.trans htw4
      clear hown htw htw4 hkid hcell hq1 hq2 hq3 hkl hko hp1 hp2
      go_wp2
      go_roundw
      case rel => exact ⟨k + 1, a4, b4, n4, m4, c4, d4, by omega, by go_num, rfl, rfl, by rw [HS1.out, HS2.out, ← List.append_assoc, ← List.append_assoc]; exact hown4, htw5⟩
      case measure => simp [intOf]; omega
    · obtain rfl : m = k := by omega
      have hall1 : Tr.pres 1 ((kids).take (m)) = Tr.pres 1 (kids) := by rw [List.take_of_length_le (by rw [hkl0.out]; omega)]
      have hall2 : Tr.pres 2 ((kids).take (m)) = Tr.pres 2 (kids) := by rw [List.take_of_length_le (by rw [hkl0.out]; omega)]
      rw [hall1, hall2] at hown
      have htw6 := (htwA.trans (Two.of_below hb1)).trans htw
      clear hall1 hall2 htw
      go_wp2
      go_ret2
      exact ⟨(a1, n1, c1), (b1, m1, d1), rfl, by rw [← HZ1.out, ← HY1.out] at hown; simp only [Tr.pre, nameIf]; rw [if_neg (by omega), if_neg (by omega)]; simpa using hown, htw6⟩

theorem appN_all : ∀ N, AppNSaid N := by
  intro N
  induction N with
  | zero => intro T v w B a b n m c d zs ys hN; have := flat_pos T; omega
  | succ N ih =>
    have IH := Lib.hid ih
    clear ih
    intro T v w B a b n m c d zs ys hN hok hT ho hB hbz hby
    cases hT with
    | num x => exact appN_num N IH _ w B a b n m c d zs ys hN hok ho hB hbz hby
    | var x => exact appN_var N IH _ w B a b n m c d zs ys hN hok ho hB hbz hby
    | cell x v0 T0 h0 =>
      obtain ⟨u0, x0, rfl⟩ := h0.iface
      exact appN_cell N IH _ u0 x0 T0 w B a b n m c d zs ys hN hok h0 ho hB hbz hby
    | op k ka m' kc vs kids h1 h2 h3 h4 h5 h6 => exact appN_op N IH _ ka m' kc vs kids w B a b n m c d zs ys hN hok h1 h3 h4 h5 h6 ho hB hbz hby
theorem appendNames_any (T : Tr) (v : Value) (w : World) (hok : T.okT) (hT : IsTree w (fun _ => True) v T) (hbd : T.flat.length ≤ 3000) :
    Calls Tryz.prog 229 #[.slice none 0 0, .slice none 0 0, v] w (AppN w w.heap.size (none, 0, 0) (none, 0, 0) [] [] T) :=
  appN_all _ T v w w.heap.size none none 0 0 0 0 [] [] (Nat.le_refl _) hok hT ⟨own_nil2 _ _, own_nil2 _ _, fun g hg => by simp [slV, Value.ownBlock] at hg⟩ (Nat.le_refl _) (by simpa using hbd) (by simpa using hbd)
end Go.Proofs.YtbnpoliogldohaaGreat
