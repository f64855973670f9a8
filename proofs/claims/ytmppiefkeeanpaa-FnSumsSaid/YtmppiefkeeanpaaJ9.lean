/- Joined texts of this proof (SpecStmts, SpecCode, SpecCodeOf, SpecProgOk, CodeHead, SpecVal1), in build order. -/
import Derived.Test.YtmppiefkeeanpaaJ8
import Derived.Test.YtmppiefkeeanpaaJ5
import Derived.Test.YtmppiefkeeanpaaJ2
/- The contracts of the model's l3Stmt (all kinds together) and l3Stmts. -/
namespace Go.Proofs.Ytmppiefkeeanpaa
open Go.RowKit

theorem l3Stmt_any (r : PRow) (W I T A : Nat) (x y : Int) (b1 b2 : Option Addr) (m1 m2 d1 d2 : Nat) (ts us : List Tm) (w : World) (hr : Lim r W I T A) (h1 : Terms w b1 m1 ts) (h2 : Terms w b2 m2 us) :
    Calls Try.prog 98 #[progV r, .agg #[.int .i64 x, .int .i64 y, .slice b1 m1 d1, .slice b2 m2 d2]] w fun e w' => e = .returned (.bool (stmtB (2 ^ W) I T A ⟨x, y, ts, us⟩)) ∧ Below w.heap.size w w' := by
  obtain ⟨wd, ⟨a1, n1, c1⟩, ⟨a2, n2, c2⟩, tp, ⟨a3, n3, c3⟩, ⟨a4, n4, c4⟩, rows⟩ := r
  have e1 := hr.inputs
  have e2 := hr.temps
  have e3 := hr.arrays
  simp only [] at e1 e2 e3
  subst e1 e2 e3
  by_cases h0 : x < 0 ∨ 9 < x
  · exact l3Stmt_out x h0 y wd a1 a2 a3 a4 b1 b2 n1 n2 n4 m1 m2 c1 c2 c3 c4 d1 d2 W T n3 rows ts us w hr h1 h2
  by_cases k : x = 3 ∨ x = 4 ∨ x = 8
  · exact l3Stmt_plain x k y wd a1 a2 a3 a4 b1 b2 n1 n2 n4 m1 m2 c1 c2 c3 c4 d1 d2 W T n3 rows ts us w hr h1 h2
  have hx : x = 0 ∨ x = 1 ∨ x = 2 ∨ x = 5 ∨ x = 6 ∨ x = 7 ∨ x = 9 := by omega
  rcases hx with rfl | rfl | rfl | rfl | rfl | rfl | rfl
  · exact l3Stmt_0 y wd a1 a2 a3 a4 b1 b2 n1 n2 n4 m1 m2 c1 c2 c3 c4 d1 d2 W T n3 rows ts us w hr h1 h2
  · exact l3Stmt_1 y wd a1 a2 a3 a4 b1 b2 n1 n2 n4 m1 m2 c1 c2 c3 c4 d1 d2 W T n3 rows ts us w hr h1 h2
  · exact l3Stmt_2 y wd a1 a2 a3 a4 b1 b2 n1 n2 n4 m1 m2 c1 c2 c3 c4 d1 d2 W T n3 rows ts us w hr h1 h2
  · exact l3Stmt_5 y wd a1 a2 a3 a4 b1 b2 n1 n2 n4 m1 m2 c1 c2 c3 c4 d1 d2 W T n3 rows ts us w hr h1 h2
  · exact l3Stmt_6 y wd a1 a2 a3 a4 b1 b2 n1 n2 n4 m1 m2 c1 c2 c3 c4 d1 d2 W T n3 rows ts us w hr h1 h2
  · exact l3Stmt_7 y wd a1 a2 a3 a4 b1 b2 n1 n2 n4 m1 m2 c1 c2 c3 c4 d1 d2 W T n3 rows ts us w hr h1 h2
  · exact l3Stmt_9 y wd a1 a2 a3 a4 b1 b2 n1 n2 n4 m1 m2 c1 c2 c3 c4 d1 d2 W T n3 rows ts us w hr h1 h2
def StTo (f : Stm → Bool) (ss : List Stm) (k : Nat) : Prop := ∀ i, i < k → f (stAt ss i) = true
theorem StTo.zero (f : Stm → Bool) (ss : List Stm) : StTo f ss 0 := fun i hi => absurd hi (by omega)
theorem StTo.succ {f : Stm → Bool} {ss : List Stm} {k : Nat} {t : Stm} (h : StTo f ss k) (hz : Hid (stAt ss k = t)) (ht : f t = true) : StTo f ss (k + 1) := by
  intro i hi
  rcases Nat.lt_or_ge i k with hlt | hge
  · exact h i hlt
  · have : i = k := by omega
    subst this; rw [hz.out]; exact ht
theorem stAt_mem {ss : List Stm} {k : Nat} (h : k < ss.length) : stAt ss k ∈ ss := by
  rw [stAt, List.getD_eq_getElem?_getD, List.getElem?_eq_getElem h]; exact List.getElem_mem h
theorem stTo_all {f : Stm → Bool} {ss : List Stm} (h : StTo f ss ss.length) : ss.all f = true := by
  rw [List.all_eq_true]
  intro z hz
  obtain ⟨i, hi, rfl⟩ := List.getElem_of_mem hz
  have := h i hi
  rw [stAt, List.getD_eq_getElem?_getD, List.getElem?_eq_getElem hi] at this
  simpa using this
theorem st_bad {f : Stm → Bool} {ss : List Stm} {k : Nat} {t : Stm} (hk : k < ss.length) (hz : Hid (stAt ss k = t)) (ht : f t = false) : ss.all f = false := by
  rw [← Bool.not_eq_true, List.all_eq_true]
  intro h
  have := h _ (stAt_mem hk)
  rw [hz.out, ht] at this
  exact absurd this (by simp)
set_option maxHeartbeats 3200000 in
theorem l3Stmts_any (r : PRow) (p : Prg) (W I T A : Nat) (w : World) (h : ProgAt w r p) (hr : Lim r W I T A) :
    Calls Try.prog 81 #[progV r] w fun e w' => e = .returned (.bool (p.body.all (stmtB (2 ^ W) I T A))) ∧ Below w.heap.size w w' := by
  have HX : Hid (∀ (x y : Int) (b1 b2 : Option Addr) (m1 m2 d1 d2 : Nat) (ts us : List Tm) (w' : World), Terms w' b1 m1 ts → Terms w' b2 m2 us → Calls Try.prog 98 #[progV r, .agg #[.int .i64 x, .int .i64 y, .slice b1 m1 d1, .slice b2 m2 d2]] w' fun e w'' => e = .returned (.bool (stmtB (2 ^ W) I T A ⟨x, y, ts, us⟩)) ∧ Below w'.heap.size w' w'') :=
    Lib.hid (fun x y b1 b2 m1 m2 d1 d2 ts us w' h1 h2 => l3Stmt_any r W I T A x y b1 b2 m1 m2 d1 d2 ts us w' hr h1 h2)
  have h4 := h.body
  clear h hr
  obtain ⟨wd, ⟨a1, n1, c1⟩, ⟨a2, n2, c2⟩, tp, ⟨a3, n3, c3⟩, ⟨a4, n4, c4⟩, rows⟩ := r
  obtain ⟨pw, pl, ps, pt, pa, pb⟩ := p
  simp only [] at h4
  obtain ⟨f, HF⟩ : ∃ f, Hid (stmtB (2 ^ W) I T A = f) := ⟨_, rfl⟩
  simp only [HF.out] at HX ⊢
  clear HF
  show Calls Try.prog 81 #[.agg #[.int .i64 wd, .slice a1 n1 c1, .slice a2 n2 c2, .int .i64 tp, .slice a3 n3 c3, .slice a4 n4 c4]] w _
  have HL := Lib.hid h4.2.1
  have hbd := h4.2.2.1
  obtain ⟨wa, HW⟩ : ∃ wa, Hid (wa = w.alloc (.cells #[.int .i64 wd, .slice a1 n1 c1, .slice a2 n2 c2, .int .i64 tp, .slice a3 n3 c3, .slice a4 n4 c4] 31)) := ⟨_, rfl⟩
  have BX : Blk wa w.heap.size 31 [.int .i64 wd, .slice a1 n1 c1, .slice a2 n2 c2, .int .i64 tp, .slice a3 n3 c3, .slice a4 n4 c4] := by rw [HW.out]; exact Blk.new w _ _
  have HB : Below w.heap.size w wa := by rw [HW.out]; exact (Below.refl _ _).alloc (Nat.le_refl _) _
  go_enter Try.func81, Try.ntmps81
  go_wp2
  rw [← HW.out]
  go_loopw [3] (fun i wr => ∃ k : Nat, k ≤ n4 ∧ i = .int .i64 (k : Int) ∧ StTo f pb k ∧ Below wa.heap.size wa wr) (fun i _ => n4 - (intOf i).toNat)
  case atStart => exact ⟨0, Nat.zero_le _, rfl, StTo.zero _ _, Below.refl _ _⟩
  case round =>
    obtain ⟨k, hk, rfl, hg, hbl⟩ := hrel
    have hbel := HB.trans (hbl.mono HB.size)
    have B1 := BX.below hbl BX.lt
    have t5 := B1.cell (j := 5) rfl
    by_cases hlt : k < n4
    · obtain ⟨b, o, x, y, p1, m1, d1, p2, m2, d2, ts, us, rfl, hb, hz, hin1, hin2, hc1, hc2, hc3, hc4, hT1, hT2⟩ := (h4.below hbel).at_ hlt
      have f1 := lat_cell hb hc1
      have f2 := lat_cell hb hc2
      have f3 := lat_cell hb hc3
      have f4 := lat_cell hb hc4
      have g0 := lat_cell B1.lt (B1.cell (j := 0) rfl)
      have g1 := lat_cell B1.lt (B1.cell (j := 1) rfl)
      have g2 := lat_cell B1.lt (B1.cell (j := 2) rfl)
      have g3 := lat_cell B1.lt (B1.cell (j := 3) rfl)
      have g4 := lat_cell B1.lt (B1.cell (j := 4) rfl)
      have g5 := lat_cell B1.lt (B1.cell (j := 5) rfl)
      clear hc1 hc2 hc3 hc4
      obtain ⟨q, HQ⟩ : ∃ q, Hid (f ⟨x, y, ts, us⟩ = q) := ⟨_, rfl⟩
      have HC : Hid (∀ p : Lat wr, Calls Try.prog 98 #[.agg #[.int .i64 wd, .slice a1 n1 c1, .slice a2 n2 c2, .int .i64 tp, .slice a3 n3 c3, .slice (some ⟨b, o, none⟩) n4 c4], .agg #[.int .i64 x, .int .i64 y, .slice p1 m1 d1, .slice p2 m2 d2]] p.wd fun e w' => e = .returned (.bool q) ∧ Below p.wd.heap.size p.wd w') := Lib.hid (fun p => by
        rw [← HQ.out]; exact HX.out _ _ _ _ _ _ _ _ _ _ _ (hT1.below (Nat.le_refl _) p.ok) (hT2.below (Nat.le_refl _) p.ok))
      clear hT1 hT2
      cases q with
      | true =>
        go_wp2
        refine wp_region_lat (by kernel_rfl) (by kernel_rfl) ?_
        repeat (go_big_quiet_step ((go_at_call 98; exact lat_calls (HC.out _))))
        refine wpQuiet_nil ?_
        intro _ hw'
        obtain ⟨⟨wq, hwq⟩, hw''⟩ := hw'
        subst hw''
        have ht := hbl.trans (hwq.mono hbl.size)
        clear f1 f2 f3 f4 g0 g1 g2 g3 g4 g5 HC t5
        go_wp2
        go_roundw
        case rel => exact ⟨k + 1, by omega, by go_num, hg.succ hz HQ.out, ht⟩
        case measure => simp [intOf]; omega
      | false =>
        go_wp2
        refine wp_region_lat (by kernel_rfl) (by kernel_rfl) ?_
        repeat (go_big_quiet_step ((go_at_call 98; exact lat_calls (HC.out _))))
        refine wpQuiet_nil ?_
        intro _ hw'
        obtain ⟨⟨wq, hwq⟩, hw''⟩ := hw'
        subst hw''
        have ht := hbl.trans (hwq.mono hbl.size)
        have ht2 := HB.trans (ht.mono HB.size)
        clear f1 f2 f3 f4 g0 g1 g2 g3 g4 g5 HC t5
        go_wp2
        go_ret
        exact ⟨ret_bool (st_bad (by rw [HL.out]; exact hlt) hz HQ.out).symm, ht2⟩
    · obtain rfl : n4 = k := by omega
      go_wp2
      go_ret
      exact ⟨ret_bool (stTo_all (by rw [HL.out]; exact hg)).symm, hbel⟩
end Go.Proofs.Ytmppiefkeeanpaa
/- The contract of the model's CodeOf. -/
namespace Go.Proofs.Ytmppiefkeeanpaa
open Go.RowKit

open Classical in
/-- The steps of a whole body. -/
noncomputable def stepsN (ss : List Stm) : Nat := if h : ∃ s, Steps ss 0 ss.length s then h.choose else 0
theorem stepsN_spec {ss : List Stm} (h : ∃ s, Steps ss 0 ss.length s) : Steps ss 0 ss.length (stepsN ss) := by
  unfold stepsN
  rw [dif_pos h]
  exact h.choose_spec
def inpB (p : Prg) : Bool := (inputsB (2 ^ p.width.toNat) true p.lows && inputsB (2 ^ p.width.toNat) false p.secrets) && decide (bitsTo p.lows p.lows.length + bitsTo p.secrets p.secrets.length ≤ 10)
def stmtsB (p : Prg) : Bool := p.body.all (stmtB (2 ^ p.width.toNat) (p.lows.length + p.secrets.length) p.temps.toNat p.arrays.length)
/-- What CodeOf answers. -/
noncomputable def codeB (p : Prg) : Int :=
  if ¬ (1 ≤ p.width ∧ p.width ≤ 8) then 1
  else if inpB p = false then 2
  else if roomB p = false then 3
  else if stmtsB p = false then 4
  else if blockOf p.body 0 ≠ (p.body.length : Int) then 5
  else if 400 < stepsN p.body then 6 else 0
theorem loops_ok {S I T A : Nat} {ss : List Stm} (h : ss.all (stmtB S I T A) = true) : LoopsOk ss := by
  intro i hi h5
  have := List.all_eq_true.1 h _ (stAt_mem hi)
  unfold opAt at h5
  simp only [stmtB, Bool.and_eq_true] at this
  have hn := this.2
  rw [h5] at hn
  simp only [numOk] at hn
  simp at hn
  exact ⟨(stAt ss i).n.toNat, by omega, by omega⟩
end Go.Proofs.Ytmppiefkeeanpaa
/- The contract of the model's CodeOf. -/
namespace Go.Proofs.Ytmppiefkeeanpaa
open Go.RowKit

set_option maxRecDepth 20000 in
set_option maxHeartbeats 3200000 in
theorem specCodeOf_any (r : PRow) (p : Prg) (w : World) (h : ProgAt w r p) :
    Calls Try.prog 60 #[progV r] w fun e w' => e = .returned (.int .i64 (codeB p)) ∧ Below w.heap.size w w' := by
  obtain ⟨Z, HZ⟩ : ∃ Z, Hid (codeB p = Z) := ⟨_, rfl⟩
  rw [HZ.out]
  have hZ := HZ.out
  unfold codeB at hZ
  by_cases hw : 1 ≤ p.width ∧ p.width ≤ 8
  case neg =>
    rw [if_pos hw] at hZ
    subst hZ
    have hin : (decide (1 ≤ p.width) && decide (p.width ≤ 8)) = false := by rw [← Bool.not_eq_true]; simpa using hw
    obtain ⟨wd, ⟨a1, n1, c1⟩, ⟨a2, n2, c2⟩, tp, ⟨a3, n3, c3⟩, ⟨a4, n4, c4⟩, rows⟩ := r
    have e1 := h.width
    simp only [] at e1
    rw [← e1] at hin
    clear e1 h hw HZ
    show Calls Try.prog 60 #[.agg #[.int .i64 wd, .slice a1 n1 c1, .slice a2 n2 c2, .int .i64 tp, .slice a3 n3 c3, .slice a4 n4 c4]] w _
    go_enter Try.func60, Try.ntmps60
    go_wp2_with (go_at_call 73; refine (in_any _ _ _ _).mono ?_; rintro e w' ⟨rfl, rfl⟩; rw [hin])
    go_ret
    exact ⟨rfl, (Below.refl _ _).alloc (Nat.le_refl _) _⟩
  rw [if_neg (by simpa using hw)] at hZ
  obtain ⟨wd, ⟨a1, n1, c1⟩, ⟨a2, n2, c2⟩, tp, ⟨a3, n3, c3⟩, ⟨a4, n4, c4⟩, rows⟩ := r
  obtain ⟨pw, pl, ps, pt, pa, pb⟩ := p
  have HPA := h
  obtain ⟨e1, e2, i1, i2, h1, h2, h3, h4⟩ := h
  simp only [] at e1 e2 i1 i2 h1 h2 h3 h4 hw
  subst e1 e2
  obtain ⟨W, rfl⟩ : ∃ W : Nat, wd = (W : Int) := ⟨wd.toNat, by omega⟩
  have hin : (decide (1 ≤ (W : Int)) && decide ((W : Int) ≤ 8)) = true := by simpa using hw
  have HIN := Lib.hid hin
  have hW8 : W ≤ 8 := by omega
  have HP := Lib.hid HPA
  have L1 := Lib.hid h1.1
  have L2 := Lib.hid h2.1
  have L3 := Lib.hid h3.1
  have L4 := Lib.hid h4.2.1
  have hm4 := h4.2.2.1
  clear HPA hin h1 h2 h3 h4 HZ
  have HZ := Lib.hid hZ
  clear hZ
  show Calls Try.prog 60 #[.agg #[.int .i64 (W : Int), .slice a1 n1 c1, .slice a2 n2 c2, .int .i64 tp, .slice a3 n3 c3, .slice a4 n4 c4]] w _
  obtain ⟨wa, HW⟩ : ∃ wa, Hid (wa = w.alloc (.cells #[.int .i64 (W : Int), .slice a1 n1 c1, .slice a2 n2 c2, .int .i64 tp, .slice a3 n3 c3, .slice a4 n4 c4] 31)) := ⟨_, rfl⟩
  have B : Blk wa w.heap.size 31 [.int .i64 (W : Int), .slice a1 n1 c1, .slice a2 n2 c2, .int .i64 tp, .slice a3 n3 c3, .slice a4 n4 c4] := by rw [HW.out]; exact Blk.new w _ _
  have HB : Below w.heap.size w wa := by rw [HW.out]; exact (Below.refl _ _).alloc (Nat.le_refl _) _
  go_enter Try.func60, Try.ntmps60
  go_wp2_with (go_at_call 73; refine (in_any _ _ _ _).mono ?_; rintro e w' ⟨rfl, rfl⟩; rw [HIN.out])
  obtain ⟨X1, H1⟩ : ∃ X1, Hid (inputsB (2 ^ W) true pl = X1) := ⟨_, rfl⟩
  obtain ⟨X2, H2⟩ : ∃ X2, Hid (inputsB (2 ^ W) false ps = X2) := ⟨_, rfl⟩
  obtain ⟨N, HN⟩ : ∃ N, Hid (bitsTo pl pl.length + bitsTo ps ps.length = N) := ⟨_, rfl⟩
  have HI : Hid (inpB ⟨(W : Int), pl, ps, tp, pa, pb⟩ = ((X1 && X2) && decide (N ≤ 10))) := Lib.hid (by simp only [inpB, Int.toNat_natCast, H1.out, H2.out, HN.out])
  rw [HI.out] at HZ
  rw [← HW.out]
  refine (l3Inputs_any ⟨(W : Int), (a1, n1, c1), (a2, n2, c2), tp, (a3, n3, c3), (a4, n4, c4), rows⟩ W _ _ _ _ _ _ rfl hW8 (HP.out.lows.below (Nat.le_refl _) HB)).mono ?_
  rintro e w1 ⟨rfl, hb1⟩
  simp only [H1.out]
  have B := B.below hb1 B.lt
  have HB := HB.trans (hb1.mono HB.size)
  clear hb1 HW
  have t0 := B.cell (j := 0) rfl
  have t1 := B.cell (j := 1) rfl
  have t2 := B.cell (j := 2) rfl
  have t3 := B.cell (j := 3) rfl
  have t4 := B.cell (j := 4) rfl
  have t5 := B.cell (j := 5) rfl
  cases X1 with
  | false =>
    have hz := HZ.out
    rw [Bool.false_and, Bool.false_and, if_pos rfl] at hz
    subst hz
    go_wp2
    go_ret
    exact ⟨rfl, HB⟩
  | true =>
  go_wp2_with fail
  refine (l3Inputs_any ⟨(W : Int), (a1, n1, c1), (a2, n2, c2), tp, (a3, n3, c3), (a4, n4, c4), rows⟩ W _ _ _ _ _ _ rfl hW8 (HP.out.secrets.below (Nat.le_refl _) HB)).mono ?_
  rintro e w2 ⟨rfl, hb2⟩
  simp only [H2.out]
  clear t0 t1 t2 t3 t4 t5
  have B := B.below hb2 B.lt
  have HB := HB.trans (hb2.mono HB.size)
  clear hb2
  have t0 := B.cell (j := 0) rfl
  have t1 := B.cell (j := 1) rfl
  have t2 := B.cell (j := 2) rfl
  have t3 := B.cell (j := 3) rfl
  have t4 := B.cell (j := 4) rfl
  have t5 := B.cell (j := 5) rfl
  cases X2 with
  | false =>
    have hz := HZ.out
    rw [Bool.and_false, Bool.false_and, if_pos rfl] at hz
    subst hz
    go_wp2
    go_ret
    exact ⟨rfl, HB⟩
  | true =>
  go_wp2_with fail
  refine (l3AllBits_any ⟨(W : Int), (a1, n1, c1), (a2, n2, c2), tp, (a3, n3, c3), (a4, n4, c4), rows⟩ ⟨(W : Int), pl, ps, tp, pa, pb⟩ _ (HP.out.below HB)).mono ?_
  rintro e w3 ⟨rfl, hb3⟩
  simp only [HN.out]
  clear t0 t1 t2 t3 t4 t5
  have B := B.below hb3 B.lt
  have HB := HB.trans (hb3.mono HB.size)
  clear hb3
  have t0 := B.cell (j := 0) rfl
  have t1 := B.cell (j := 1) rfl
  have t2 := B.cell (j := 2) rfl
  have t3 := B.cell (j := 3) rfl
  have t4 := B.cell (j := 4) rfl
  have t5 := B.cell (j := 5) rfl
  rw [Bool.and_self, Bool.true_and] at HZ
  by_cases hN : N ≤ 10
  case neg =>
    have hz := HZ.out
    rw [decide_eq_false hN, if_pos rfl] at hz
    subst hz
    have hd : decide ((N : Int) > 10) = true := by simp; omega
    go_wp2
    go_ret
    exact ⟨rfl, HB⟩
  have hd : decide ((N : Int) > 10) = false := by simp; omega
  rw [decide_eq_true hN, if_neg (by simp)] at HZ
  obtain ⟨X3, H3⟩ : ∃ X3, Hid (roomB ⟨(W : Int), pl, ps, tp, pa, pb⟩ = X3) := ⟨_, rfl⟩
  rw [H3.out] at HZ
  go_wp2_with fail
  refine (l3Room_any ⟨(W : Int), (a1, n1, c1), (a2, n2, c2), tp, (a3, n3, c3), (a4, n4, c4), rows⟩ ⟨(W : Int), pl, ps, tp, pa, pb⟩ _ (HP.out.below HB)).mono ?_
  rintro e w4 ⟨rfl, hb4⟩
  rw [H3.out]
  clear t0 t1 t2 t3 t4 t5 hd
  have B := B.below hb4 B.lt
  have HB := HB.trans (hb4.mono HB.size)
  clear hb4
  have t0 := B.cell (j := 0) rfl
  have t1 := B.cell (j := 1) rfl
  have t2 := B.cell (j := 2) rfl
  have t3 := B.cell (j := 3) rfl
  have t4 := B.cell (j := 4) rfl
  have t5 := B.cell (j := 5) rfl
  cases X3 with
  | false =>
    have hz := HZ.out
    rw [if_pos rfl] at hz
    subst hz
    go_wp2
    go_ret
    exact ⟨rfl, HB⟩
  | true =>
  rw [if_neg (by simp)] at HZ
  have hroom := H3.out
  simp only [roomB, Bool.and_eq_true, decide_eq_true_eq] at hroom
  have hl1 : n1 ≤ 3 := by have q := H1.out; simp only [inputsB, Bool.and_eq_true, decide_eq_true_eq] at q; have := L1.out; omega
  have hl2 : n2 ≤ 3 := by have q := H2.out; simp only [inputsB, Bool.and_eq_true, decide_eq_true_eq] at q; have := L2.out; omega
  have hl3 : n3 ≤ 2 := by have := L3.out; omega
  have hl4 : n4 ≤ 40 := by have := L4.out; omega
  obtain ⟨T, rfl⟩ : ∃ T : Nat, tp = (T : Int) := ⟨tp.toNat, by omega⟩
  have hT : T ≤ 6 := by omega
  have HLim := Lib.hid (show Lim ⟨(W : Int), (a1, n1, c1), (a2, n2, c2), (T : Int), (a3, n3, c3), (a4, n4, c4), rows⟩ W (n1 + n2) T n3 from ⟨rfl, hW8, rfl, by omega, rfl, by omega, rfl, by omega⟩)
  clear hroom
  obtain ⟨X4, H4⟩ : ∃ X4, Hid (pb.all (stmtB (2 ^ W) (n1 + n2) T n3) = X4) := ⟨_, rfl⟩
  have HS : Hid (stmtsB ⟨(W : Int), pl, ps, (T : Int), pa, pb⟩ = X4) := Lib.hid (by simp only [stmtsB, Int.toNat_natCast, L1.out, L2.out, L3.out, H4.out])
  rw [HS.out] at HZ
  go_wp2_with fail
  refine (l3Stmts_any _ ⟨(W : Int), pl, ps, (T : Int), pa, pb⟩ W (n1 + n2) T n3 _ (HP.out.below HB) HLim.out).mono ?_
  rintro e w5 ⟨rfl, hb5⟩
  simp only [H4.out]
  clear t0 t1 t2 t3 t4 t5
  have B := B.below hb5 B.lt
  have HB := HB.trans (hb5.mono HB.size)
  clear hb5
  have t0 := B.cell (j := 0) rfl
  have t1 := B.cell (j := 1) rfl
  have t2 := B.cell (j := 2) rfl
  have t3 := B.cell (j := 3) rfl
  have t4 := B.cell (j := 4) rfl
  have t5 := B.cell (j := 5) rfl
  cases X4 with
  | false =>
    have hz := HZ.out
    rw [if_pos rfl] at hz
    subst hz
    go_wp2
    go_ret
    exact ⟨rfl, HB⟩
  | true =>
  rw [if_neg (by simp)] at HZ
  have hlo := loops_ok H4.out
  obtain ⟨K, HK⟩ : ∃ K, Hid (blockOf pb 0 = K) := ⟨_, rfl⟩
  simp only [HK.out, L4.out] at HZ
  have hblk := l3Block_any a4 n4 c4 rows pb 0 w5 (HP.out.body.below HB) (Nat.zero_le _)
  rw [HK.out] at hblk
  have HC := Lib.hid hblk
  clear hblk
  by_cases hK : K = (n4 : Int)
  case neg =>
    have hz := HZ.out
    rw [if_pos hK] at hz
    subst hz
    have hd : (K != (n4 : Int)) = true := by simpa using hK
    go_wp2_with (go_at_call 82; refine HC.out.mono ?_; rintro e w' ⟨rfl, rfl⟩)
    go_ret
    exact ⟨rfl, HB⟩
  rw [if_neg (by simpa using hK)] at HZ
  have hex := part_steps hlo _ 0 pb.length (Nat.le_refl _) (Nat.zero_le _) (by rw [HK.out, hK, L4.out])
  have hst := stepsN_spec hex
  obtain ⟨Q, HQ⟩ : ∃ Q, Hid (stepsN pb = Q) := ⟨_, rfl⟩
  rw [HQ.out] at hst
  rw [HQ.out] at HZ
  rw [L4.out] at hst
  have HD : Hid (∀ w', Below w.heap.size w w' → Calls Try.prog 83 #[.slice a4 n4 c4, .int .i64 0, .int .i64 (n4 : Int)] w' fun e w'' => e = .returned (.int .i64 (Q : Int)) ∧ Still w' w'') := Lib.hid (fun w' hw' => l3Steps_any a4 n4 c4 rows pb 0 n4 Q w' (HP.out.body.below hw') hl4 (Nat.le_refl _) hst)
  clear hex hst hlo
  have hd : (K != (n4 : Int)) = false := by simpa using hK
  go_wp2_with (go_at_call 82; refine HC.out.mono ?_; rintro e w' ⟨rfl, rfl⟩)
  refine (HD.out _ HB).mono ?_
  rintro e w6 ⟨rfl, hs6⟩
  have HB := HB.trans (hs6.below _)
  by_cases hQ : 400 < Q
  · have hz := HZ.out
    rw [if_pos hQ] at hz
    subst hz
    have hd2 : decide ((Q : Int) > 400) = true := by simp; omega
    go_wp2
    go_ret
    exact ⟨rfl, HB⟩
  · have hz := HZ.out
    rw [if_neg hQ] at hz
    subst hz
    have hd2 : decide ((Q : Int) > 400) = false := by simp; omega
    go_wp2
    go_ret
    exact ⟨rfl, HB⟩
end Go.Proofs.Ytmppiefkeeanpaa
/- The contracts of the model's ProgOk and StepsOf. -/
namespace Go.Proofs.Ytmppiefkeeanpaa
open Go.RowKit

/-- What StepsOf answers. -/
noncomputable def stepsB (p : Prg) : Int := if codeB p = 0 then (stepsN p.body : Int) else -1
theorem codeB_ok {p : Prg} (h : codeB p = 0) : p.body.length ≤ 40 ∧ Steps p.body 0 p.body.length (stepsN p.body) := by
  unfold codeB at h
  split at h
  · exact absurd h (by decide)
  split at h
  · exact absurd h (by decide)
  split at h
  · exact absurd h (by decide)
  split at h
  · exact absurd h (by decide)
  split at h
  · exact absurd h (by decide)
  rename_i h3 h4 h5
  have hs : stmtsB p = true := by simpa using h4
  have hr : roomB p = true := by simpa using h3
  have hb : blockOf p.body 0 = (p.body.length : Int) := by simpa using h5
  simp only [roomB, Bool.and_eq_true, decide_eq_true_eq] at hr
  exact ⟨by omega, stepsN_spec (part_steps (loops_ok hs) _ 0 _ (Nat.le_refl _) (Nat.zero_le _) hb)⟩
set_option maxHeartbeats 800000 in
theorem specProgOk_any (r : PRow) (p : Prg) (w : World) (h : ProgAt w r p) :
    Calls Try.prog 32 #[progV r] w fun e w' => e = .returned (.bool (codeB p == 0)) ∧ Below w.heap.size w w' := by
  have HC : Hid (∀ w', Below w.heap.size w w' → Calls Try.prog 60 #[progV r] w' fun e w'' => e = .returned (.int .i64 (codeB p)) ∧ Below w'.heap.size w' w'') := Lib.hid (fun w' hw => specCodeOf_any r p w' (h.below hw))
  obtain ⟨Z, HZ⟩ : ∃ Z, Hid (codeB p = Z) := ⟨_, rfl⟩
  rw [HZ.out] at HC ⊢
  obtain ⟨wd, ⟨a1, n1, c1⟩, ⟨a2, n2, c2⟩, tp, ⟨a3, n3, c3⟩, ⟨a4, n4, c4⟩, rows⟩ := r
  clear h HZ
  show Calls Try.prog 32 #[.agg #[.int .i64 wd, .slice a1 n1 c1, .slice a2 n2 c2, .int .i64 tp, .slice a3 n3 c3, .slice a4 n4 c4]] w _
  have HB : Below w.heap.size w (w.alloc (.cells #[.int .i64 wd, .slice a1 n1 c1, .slice a2 n2 c2, .int .i64 tp, .slice a3 n3 c3, .slice a4 n4 c4] 31)) := (Below.refl _ _).alloc (Nat.le_refl _) _
  go_enter Try.func32, Try.ntmps32
  go_wp2_with fail
  refine (HC.out _ HB).mono ?_
  rintro e w1 ⟨rfl, hb1⟩
  have HB := HB.trans (hb1.mono HB.size)
  go_wp2
  go_ret
  exact ⟨ret_bool (by cases hz : (Z == 0) <;> simp_all), HB⟩
end Go.Proofs.Ytmppiefkeeanpaa
/- What a right program's head is. -/
namespace Go.Proofs.Ytmppiefkeeanpaa
open Go.RowKit

theorem code_head {p : Prg} (h : codeB p = 0) : 1 ≤ p.width ∧ p.width ≤ 8 ∧ p.lows.length ≤ 3 ∧ p.secrets.length ≤ 3 ∧ 0 ≤ p.temps ∧ p.temps ≤ 6 ∧ p.arrays.length ≤ 2 ∧ p.body.length ≤ 40 := by
  unfold codeB at h
  split at h
  · exact absurd h (by decide)
  split at h
  · exact absurd h (by decide)
  split at h
  · exact absurd h (by decide)
  rename_i h1 h2 h3
  have hr : roomB p = true := by simpa using h3
  have hi : inpB p = true := by simpa using h2
  have hw : 1 ≤ p.width ∧ p.width ≤ 8 := by simpa using h1
  simp only [roomB, Bool.and_eq_true, decide_eq_true_eq] at hr
  simp only [inpB, inputsB, Bool.and_eq_true, decide_eq_true_eq] at hi
  exact ⟨hw.1, hw.2, hi.1.1.2, hi.1.2.2, hr.1.1.1.1, hr.1.1.1.2, hr.1.1.2, hr.1.2⟩
theorem code_lim {w : World} {r : PRow} {p : Prg} (hp : ProgAt w r p) (h : codeB p = 0) : Lim r p.width.toNat (p.lows.length + p.secrets.length) p.temps.toNat p.arrays.length := by
  obtain ⟨h1, h2, h3, h4, h5, h6, h7, h8⟩ := code_head h
  have e1 := hp.lows.1
  have e2 := hp.secrets.1
  have e3 := hp.arrays.1
  have e4 := hp.width
  have e5 := hp.temps
  exact ⟨by omega, by omega, by omega, by omega, by omega, by omega, by omega, by omega⟩
end Go.Proofs.Ytmppiefkeeanpaa
/- Words for environments (two cells: a slice of numbers, a slice of slices of numbers); the contracts of the model's l5Values and EnvOk. -/
namespace Go.Proofs.Ytmppiefkeeanpaa
open Go.RowKit

structure Envr where
  vars : List Int
  cells : List (List Int)
deriving DecidableEq
structure ERow where
  vars : Sl
  cells : Sl
  rows : List Sl
def envV (r : ERow) : Value := .agg #[slV r.vars, slV r.cells]
def intsAt (css : List (List Int)) (i : Nat) : List Int := css.getD i []
/-- The slice '.slice a n c' of slices of numbers reads az css; rs are its slices. -/
def IntsSS (w : World) (a : Option Addr) (n : Nat) (rs : List Sl) (css : List (List Int)) : Prop :=
  rs.length = n ∧ css.length = n ∧ n ≤ 1048576 ∧ (0 < n → ∃ b o, a = some ⟨b, o, none⟩ ∧ b < w.heap.size ∧ ∀ i, i < n → w.cell? ⟨b, o + i, none⟩ = some (slV (slAt rs i))) ∧
  ∀ i, i < n → Ints w (slAt rs i).1 (slAt rs i).2.1 (intsAt css i)
theorem IntsSS.at_ {w : World} {a : Option Addr} {n : Nat} {rs : List Sl} {css : List (List Int)} (h : IntsSS w a n rs css) {k : Nat} (hk : k < n) :
    ∃ b o a1 n1 c1, a = some ⟨b, o, none⟩ ∧ b < w.heap.size ∧ Hid (slAt rs k = (a1, n1, c1)) ∧ w.cell? ⟨b, o + k, none⟩ = some (.slice a1 n1 c1) ∧ Ints w a1 n1 (intsAt css k) := by
  obtain ⟨_, _, _, h3, h4⟩ := h
  obtain ⟨b, o, rfl, hb, hc⟩ := h3 (by omega)
  exact ⟨b, o, _, _, _, rfl, hb, rfl, hc k hk, h4 k hk⟩
theorem IntsSS.below {w w' : World} {a : Option Addr} {n : Nat} {rs : List Sl} {css : List (List Int)} (h : IntsSS w a n rs css) (hb : Below w.heap.size w w') : IntsSS w' a n rs css := by
  obtain ⟨h1, h2, h0, h3, h4⟩ := h
  refine ⟨h1, h2, h0, fun hp => ?_, fun i hi => (h4 i hi).below hb⟩
  obtain ⟨b, o, rfl, hbl, hc⟩ := h3 hp
  exact ⟨b, o, rfl, Nat.lt_of_lt_of_le hbl hb.size, fun i hi => (hb.cell hbl).trans (hc i hi)⟩
structure EnvAt (w : World) (r : ERow) (v : Envr) : Prop where
  vars : Ints w r.vars.1 r.vars.2.1 v.vars
  cells : IntsSS w r.cells.1 r.cells.2.1 r.rows v.cells
theorem EnvAt.below {w w' : World} {r : ERow} {v : Envr} (h : EnvAt w r v) (hb : Below w.heap.size w w') : EnvAt w' r v := ⟨h.vars.below hb, h.cells.below hb⟩

def valB (S : Nat) (m : Int) (zs : List Int) : Bool := decide ((zs.length : Int) = m) && valsB S zs
def cellsB (S : Nat) (az : List Int) (css : List (List Int)) : Bool := (List.range css.length).all (fun i => valB S (az.getD i 0) (intsAt css i))
/-- What EnvOk answers. -/
noncomputable def envB (p : Prg) (v : Envr) : Bool :=
  ((codeB p == 0) && valB (2 ^ p.width.toNat) ((p.lows.length : Int) + (p.secrets.length : Int) + p.temps) v.vars) && (decide (v.cells.length = p.arrays.length) && cellsB (2 ^ p.width.toNat) p.arrays v.cells)

def okZ (S : Nat) (z : Int) : Bool := decide (0 ≤ z) && decide (z < (S : Int))
def AllI (f : Int → Bool) (zs : List Int) (k : Nat) : Prop := ∀ i, i < k → f (zs.getD i 0) = true
theorem AllI.zero (f : Int → Bool) (zs : List Int) : AllI f zs 0 := fun i hi => absurd hi (by omega)
theorem AllI.succ {f : Int → Bool} {zs : List Int} {k : Nat} {z : Int} (h : AllI f zs k) (hz : Hid (z = zs.getD k 0)) (ht : f z = true) : AllI f zs (k + 1) := by
  intro i hi
  rcases Nat.lt_or_ge i k with hlt | hge
  · exact h i hlt
  · have : i = k := by omega
    subst this; rw [← hz.out]; exact ht
theorem allI_all {S : Nat} {zs : List Int} (h : AllI (okZ S) zs zs.length) : valsB S zs = true := by
  unfold valsB
  rw [List.all_eq_true]
  intro z hz
  obtain ⟨i, hi, rfl⟩ := List.getElem_of_mem hz
  have := h i hi
  rw [List.getD_eq_getElem?_getD, List.getElem?_eq_getElem hi] at this
  exact this
theorem allI_bad {S : Nat} {zs : List Int} {k : Nat} {z : Int} (hk : k < zs.length) (hz : Hid (z = zs.getD k 0)) (ht : okZ S z = false) : valsB S zs = false := by
  rw [← Bool.not_eq_true]
  unfold valsB
  rw [List.all_eq_true]
  intro h
  have := h _ (getD_mem hk)
  rw [← hz.out] at this
  have e : okZ S z = true := this
  rw [ht] at e
  exact absurd e (by simp)
def AllC (S : Nat) (az : List Int) (css : List (List Int)) (k : Nat) : Prop := ∀ i, i < k → valB S (az.getD i 0) (intsAt css i) = true
theorem AllC.succ {S : Nat} {az : List Int} {css : List (List Int)} {k : Nat} {z : Int} (h : AllC S az css k) (hz : Hid (z = az.getD k 0)) (ht : valB S z (intsAt css k) = true) : AllC S az css (k + 1) := by
  intro i hi
  rcases Nat.lt_or_ge i k with hlt | hge
  · exact h i hlt
  · have : i = k := by omega
    subst this; rw [← hz.out]; exact ht
theorem allC_all {S : Nat} {az : List Int} {css : List (List Int)} (h : AllC S az css css.length) : cellsB S az css = true := by
  unfold cellsB
  rw [List.all_eq_true]
  intro i hi
  exact h i (List.mem_range.1 hi)
theorem allC_bad {S : Nat} {az : List Int} {css : List (List Int)} {k : Nat} {z : Int} (hk : k < css.length) (hz : Hid (z = az.getD k 0)) (ht : valB S z (intsAt css k) = false) : cellsB S az css = false := by
  rw [← Bool.not_eq_true]
  unfold cellsB
  rw [List.all_eq_true]
  intro h
  have := h k (List.mem_range.2 hk)
  rw [← hz.out, ht] at this
  exact absurd this (by simp)

set_option maxHeartbeats 1600000 in
theorem l5Values_any (a : Option Addr) (n c : Nat) (zs : List Int) (m : Int) (S : Nat) (w : World) (hS : S ≤ 256) (h : Ints w a n zs) :
    Calls Try.prog 47 #[.slice a n c, .int .i64 m, .int .i64 (S : Int)] w fun e w' => e = .returned (.bool (valB S m zs)) ∧ Below w.heap.size w w' := by
  have HL := Lib.hid h.1
  have hbd := h.2.1
  obtain ⟨R, HR⟩ : ∃ R, Hid (valB S m zs = R) := ⟨_, rfl⟩
  rw [HR.out]
  by_cases hm : (n : Int) = m
  · have hne : ((n : Int) != m) = false := by simpa using hm
    have HR2 : Hid (R = valsB S zs) := Lib.hid (by rw [← HR.out, valB, HL.out, decide_eq_true hm, Bool.true_and])
    clear HR hm
    go_enter Try.func47, Try.ntmps47
    go_wp2
    go_loopw [7] (fun i wr => ∃ k : Nat, k ≤ n ∧ i = .int .i64 (k : Int) ∧ AllI (okZ S) zs k ∧ Below w.heap.size w wr) (fun i _ => n - (intOf i).toNat)
    case atStart => exact ⟨0, Nat.zero_le _, rfl, AllI.zero _ _, Below.refl _ _⟩
    case round =>
      obtain ⟨k, hk, rfl, hg, hbl⟩ := hrel
      by_cases hlt : k < n
      · obtain ⟨b, o, z, rfl, hb, hz, hin, hc⟩ := (h.below hbl).at_ hlt
        by_cases hok : 0 ≤ z ∧ z < (S : Int)
        · have hv : (decide ((0 : Int) ≤ z) && decide (z ≤ (S : Int) - 1)) = true := by simp; omega
          have HQ := Lib.hid (show okZ S z = true by unfold okZ; simp; omega)
          clear hok
          go_wp2_with fail
          refine (in_any _ _ _ _).mono ?_
          rintro e w1 ⟨rfl, rfl⟩
          rw [hv]
          go_wp2
          go_roundw
          case rel => exact ⟨k + 1, by omega, by go_num, hg.succ hz HQ.out, hbl⟩
          case measure => simp [intOf]; omega
        · have hv : (decide ((0 : Int) ≤ z) && decide (z ≤ (S : Int) - 1)) = false := by
            rw [← Bool.not_eq_true]; simp; omega
          have HQ := Lib.hid (show okZ S z = false by rw [← Bool.not_eq_true]; unfold okZ; simp; omega)
          clear hok
          go_wp2_with fail
          refine (in_any _ _ _ _).mono ?_
          rintro e w1 ⟨rfl, rfl⟩
          rw [hv]
          go_wp2
          go_ret
          exact ⟨ret_bool (by rw [HR2.out, allI_bad (by rw [HL.out]; exact hlt) hz HQ.out]), hbl⟩
      · obtain rfl : n = k := by omega
        go_wp2
        go_ret
        exact ⟨ret_bool (by rw [HR2.out, allI_all (by rw [HL.out]; exact hg)]), hbl⟩
  · have hne : ((n : Int) != m) = true := by simpa using hm
    have hR : R = false := by rw [← HR.out, valB, HL.out, decide_eq_false hm, Bool.false_and]
    subst hR
    clear hm
    go_enter Try.func47, Try.ntmps47
    go_wp2
    go_ret
    exact ⟨rfl, Below.refl _ _⟩
/-- The two blocks of a call over a program and an environment. -/
structure VBox (w wi : World) (c0 c1 : List Value) : Prop where
  prg : Blk wi w.heap.size 31 c0
  env : Blk wi (w.heap.size + 1) 35 c1
  bel : Below w.heap.size w wi
theorem VBox.below {w wi wj : World} {c0 c1 : List Value} (h : VBox w wi c0 c1) (hb : Below wi.heap.size wi wj) : VBox w wj c0 c1 :=
  ⟨h.prg.below hb h.prg.lt, h.env.below hb h.env.lt, h.bel.trans (hb.mono h.bel.size)⟩
theorem vbox_new (w : World) (c0 c1 : List Value) : VBox w ((w.alloc (.cells c0.toArray 31)).alloc (.cells c1.toArray 35)) c0 c1 :=
  ⟨(Blk.new w _ _).alloc _, by simpa using Blk.new (w.alloc _) 35 c1, ((Below.refl _ _).alloc (Nat.le_refl _) _).alloc (by simp) _⟩
set_option maxRecDepth 20000 in
set_option maxHeartbeats 3200000 in
theorem specEnvOk_any (r : PRow) (p : Prg) (er : ERow) (v : Envr) (w : World) (h : ProgAt w r p) (he : EnvAt w er v) :
    Calls Try.prog 23 #[progV r, envV er] w fun e w' => e = .returned (.bool (envB p v)) ∧ Below w.heap.size w w' := by
  obtain ⟨R, HR⟩ : ∃ R, Hid (envB p v = R) := ⟨_, rfl⟩
  rw [HR.out]
  have HP0 : Hid (∀ w', Below w.heap.size w w' → Calls Try.prog 32 #[progV r] w' fun e w'' => e = .returned (.bool (codeB p == 0)) ∧ Below w'.heap.size w' w'') := Lib.hid (fun w' hw => specProgOk_any r p w' (h.below hw))
  have HE := Lib.hid he
  by_cases hz : codeB p = 0
  · have hzz : (codeB p == 0) = true := by simpa using hz
    obtain ⟨c1, c2, c3, c4, c5, c6, c7, c8⟩ := code_head hz
    have hlim := code_lim h hz
    obtain ⟨W, HWd⟩ : ∃ W : Nat, Hid (p.width.toNat = W) := ⟨_, Lib.hid rfl⟩
    have HS0 : Hid (∀ w' : World, Calls Try.prog 49 #[progV r] w' fun e w'' => e = .returned (.int .i64 ((2 ^ W : Nat) : Int)) ∧ Below w'.heap.size w' w'') := Lib.hid (fun w' => by rw [← HWd.out]; exact l3Size_any r _ w' hlim.width hlim.small)
    have HV0 : Hid (∀ w' : World, Calls Try.prog 48 #[progV r] w' fun e w'' => e = .returned (.int .i64 ((p.lows.length : Int) + (p.secrets.length : Int) + p.temps)) ∧ Below w'.heap.size w' w'') := Lib.hid (fun w' => by
      have q := l3Vars_any r w' (by have := h.lows.1; omega) (by have := h.secrets.1; omega) (by rw [h.temps]; omega) (by rw [h.temps]; omega)
      rw [← h.lows.1, ← h.secrets.1, h.temps] at q
      exact q)
    have hW8 : W ≤ 8 := by have := HWd.out; omega
    have hS : 2 ^ W ≤ 2 ^ 8 := Nat.pow_le_pow_right (by omega) hW8
    rw [hzz] at HP0
    have HR1 : Hid (R = (valB (2 ^ W) ((p.lows.length : Int) + (p.secrets.length : Int) + p.temps) v.vars && (decide (v.cells.length = p.arrays.length) && cellsB (2 ^ W) p.arrays v.cells))) := Lib.hid (by rw [← HR.out, envB, hzz, HWd.out, Bool.true_and])
    have HA := Lib.hid h.arrays
    obtain ⟨S, HS⟩ : ∃ S : Nat, Hid (2 ^ W = S) := ⟨_, Lib.hid rfl⟩
    obtain ⟨M, HM⟩ : ∃ M : Int, Hid ((p.lows.length : Int) + (p.secrets.length : Int) + p.temps = M) := ⟨_, Lib.hid rfl⟩
    simp only [HS.out, HM.out] at hS HS0 HV0 HR1
    clear HR HWd hlim c1 c2 c3 c4 c5 c6 c8 hzz hz h he hW8 HS HM
    obtain ⟨wd, ⟨a1, n1, d1⟩, ⟨a2, n2, d2⟩, tp, ⟨a3, n3, d3⟩, ⟨a4, n4, d4⟩, rows⟩ := r
    obtain ⟨⟨b1, m1, e1⟩, ⟨b2, m2, e2⟩, rws⟩ := er
    simp only [] at HA
    have HL3 := Lib.hid HA.out.1
    have HEV := Lib.hid HE.out.vars
    have HEC := Lib.hid HE.out.cells
    simp only [] at HEV HEC
    have HL2 := Lib.hid HEC.out.2.1
    have hb2 := HEC.out.2.2.1
    have hb3 := HA.out.2.1
    show Calls Try.prog 23 #[.agg #[.int .i64 wd, .slice a1 n1 d1, .slice a2 n2 d2, .int .i64 tp, .slice a3 n3 d3, .slice a4 n4 d4], .agg #[.slice b1 m1 e1, .slice b2 m2 e2]] w _
    have HP1 : Hid (∀ w', Below w.heap.size w w' → Calls Try.prog 32 #[.agg #[.int .i64 wd, .slice a1 n1 d1, .slice a2 n2 d2, .int .i64 tp, .slice a3 n3 d3, .slice a4 n4 d4]] w' fun e w'' => e = .returned (.bool true) ∧ Below w'.heap.size w' w'') := HP0
    have HS1 : Hid (∀ w' : World, Calls Try.prog 49 #[.agg #[.int .i64 wd, .slice a1 n1 d1, .slice a2 n2 d2, .int .i64 tp, .slice a3 n3 d3, .slice a4 n4 d4]] w' fun e w'' => e = .returned (.int .i64 (S : Int)) ∧ Below w'.heap.size w' w'') := HS0
    have HV1 : Hid (∀ w' : World, Calls Try.prog 48 #[.agg #[.int .i64 wd, .slice a1 n1 d1, .slice a2 n2 d2, .int .i64 tp, .slice a3 n3 d3, .slice a4 n4 d4]] w' fun e w'' => e = .returned (.int .i64 M) ∧ Below w'.heap.size w' w'') := HV0
    clear HP0 HS0 HV0 HE
    obtain ⟨wa, HW⟩ : ∃ wa, Hid (wa = ((w.alloc (.cells #[.int .i64 wd, .slice a1 n1 d1, .slice a2 n2 d2, .int .i64 tp, .slice a3 n3 d3, .slice a4 n4 d4] 31)).alloc (.cells #[.slice b1 m1 e1, .slice b2 m2 e2] 35))) := ⟨_, rfl⟩
    have BX : VBox w wa [.int .i64 wd, .slice a1 n1 d1, .slice a2 n2 d2, .int .i64 tp, .slice a3 n3 d3, .slice a4 n4 d4] [.slice b1 m1 e1, .slice b2 m2 e2] := by rw [HW.out]; exact vbox_new w _ _
    obtain ⟨Q, HQ⟩ : ∃ Q, Hid (valB S M v.vars = Q) := ⟨_, rfl⟩
    have HQ1 : Hid (∀ p' : Lat wa, Calls Try.prog 47 #[.slice b1 m1 e1, .int .i64 M, .int .i64 (S : Int)] p'.wd fun e w'' => e = .returned (.bool Q) ∧ Below p'.wd.heap.size p'.wd w'') := Lib.hid (fun p' => by rw [← HQ.out]; exact l5Values_any _ _ _ _ _ _ _ hS (HEV.out.below (BX.bel.trans (p'.ok.mono BX.bel.size))))
    have HP2 : Hid (∀ p' : Lat wa, Calls Try.prog 32 #[.agg #[.int .i64 wd, .slice a1 n1 d1, .slice a2 n2 d2, .int .i64 tp, .slice a3 n3 d3, .slice a4 n4 d4]] p'.wd fun e w'' => e = .returned (.bool true) ∧ Below p'.wd.heap.size p'.wd w'') := Lib.hid (fun p' => HP1.out _ (BX.bel.trans (p'.ok.mono BX.bel.size)))
    have HS2 : Hid (∀ p' : Lat wa, Calls Try.prog 49 #[.agg #[.int .i64 wd, .slice a1 n1 d1, .slice a2 n2 d2, .int .i64 tp, .slice a3 n3 d3, .slice a4 n4 d4]] p'.wd fun e w'' => e = .returned (.int .i64 (S : Int)) ∧ Below p'.wd.heap.size p'.wd w'') := Lib.hid (fun p' => HS1.out p'.wd)
    have HV2 : Hid (∀ p' : Lat wa, Calls Try.prog 48 #[.agg #[.int .i64 wd, .slice a1 n1 d1, .slice a2 n2 d2, .int .i64 tp, .slice a3 n3 d3, .slice a4 n4 d4]] p'.wd fun e w'' => e = .returned (.int .i64 M) ∧ Below p'.wd.heap.size p'.wd w'') := Lib.hid (fun p' => HV1.out p'.wd)
    have g0 := lat_cell BX.prg.lt (BX.prg.cell (j := 0) rfl)
    have g1 := lat_cell BX.prg.lt (BX.prg.cell (j := 1) rfl)
    have g2 := lat_cell BX.prg.lt (BX.prg.cell (j := 2) rfl)
    have g3 := lat_cell BX.prg.lt (BX.prg.cell (j := 3) rfl)
    have g4 := lat_cell BX.prg.lt (BX.prg.cell (j := 4) rfl)
    have g5 := lat_cell BX.prg.lt (BX.prg.cell (j := 5) rfl)
    have k0 := lat_cell BX.env.lt (BX.env.cell (j := 0) rfl)
    have k1 := lat_cell BX.env.lt (BX.env.cell (j := 1) rfl)
    cases Q with
    | false =>
      have hR : R = false := by rw [HR1.out, HQ.out, Bool.false_and]
      subst hR
      go_enter Try.func23, Try.ntmps23
      go_wp2_with fail
      rw [← HW.out]
      refine wp_region_lat (by kernel_rfl) (by kernel_rfl) ?_
      repeat (go_big_quiet_step (first | (go_at_call 32; exact lat_calls (HP2.out _)) | (go_at_call 49; exact lat_calls (HS2.out _)) | (go_at_call 48; exact lat_calls (HV2.out _)) | (go_at_call 47; exact lat_calls (HQ1.out _))))
      refine wpQuiet_nil ?_
      intro _ hw'
      obtain ⟨⟨wq, hwq⟩, hw''⟩ := hw'
      subst hw''
      have B1 := BX.below hwq
      clear g0 g1 g2 g3 g4 g5 k0 k1 HQ1 HP2 HS2 HV2 HW
      go_wp2
      go_ret
      exact ⟨rfl, B1.bel⟩
    | true =>
      by_cases hnn : m2 = n3
      case neg =>
        have hne : ((m2 : Int) != (n3 : Int)) = true := by simp; omega
        have hR : R = false := by rw [HR1.out, decide_eq_false (by rw [HL2.out, HL3.out]; exact hnn), Bool.false_and, Bool.and_false]
        subst hR
        go_enter Try.func23, Try.ntmps23
        go_wp2_with fail
        rw [← HW.out]
        refine wp_region_lat (by kernel_rfl) (by kernel_rfl) ?_
        repeat (go_big_quiet_step (first | (go_at_call 32; exact lat_calls (HP2.out _)) | (go_at_call 49; exact lat_calls (HS2.out _)) | (go_at_call 48; exact lat_calls (HV2.out _)) | (go_at_call 47; exact lat_calls (HQ1.out _))))
        refine wpQuiet_nil ?_
        intro _ hw'
        obtain ⟨⟨wq, hwq⟩, hw''⟩ := hw'
        subst hw''
        have B1 := BX.below hwq
        clear g0 g1 g2 g3 g4 g5 k0 k1 HQ1 HP2 HS2 HV2 HW
        go_wp2
        go_ret
        exact ⟨rfl, B1.bel⟩
      subst hnn
      have hne : ((m2 : Int) != (m2 : Int)) = false := by simp
      have HR2 : Hid (R = cellsB S p.arrays v.cells) := Lib.hid (by rw [HR1.out, HQ.out, decide_eq_true (by rw [HL2.out, HL3.out]), Bool.true_and, Bool.true_and])
      clear HR1
      go_enter Try.func23, Try.ntmps23
      go_wp2_with fail
      rw [← HW.out]
      refine wp_region_lat (by kernel_rfl) (by kernel_rfl) ?_
      repeat (go_big_quiet_step (first | (go_at_call 32; exact lat_calls (HP2.out _)) | (go_at_call 49; exact lat_calls (HS2.out _)) | (go_at_call 48; exact lat_calls (HV2.out _)) | (go_at_call 47; exact lat_calls (HQ1.out _))))
      refine wpQuiet_nil ?_
      intro wq hw'
      obtain ⟨⟨w9, hwq⟩, hw''⟩ := hw'
      subst hw''
      have B1 := BX.below hwq
      clear g0 g1 g2 g3 g4 g5 k0 k1 HQ1 HP2 HS2 HV2 HW BX hwq hne
      go_wp2
      go_loopw [5] (fun i wr => ∃ k : Nat, k ≤ m2 ∧ i = .int .i64 (k : Int) ∧ AllC S p.arrays v.cells k ∧ Below wq.heap.size wq wr) (fun i _ => m2 - (intOf i).toNat)
      case atStart => exact ⟨0, Nat.zero_le _, rfl, fun i hi => absurd hi (by omega), Below.refl _ _⟩
      case round =>
        obtain ⟨k, hk, rfl, hg, hbl⟩ := hrel
        have B2 := B1.below hbl
        have k1 := B2.env.cell (j := 1) rfl
        by_cases hlt : k < m2
        · have HS2 : Hid (∀ p' : Lat wr, Calls Try.prog 49 #[.agg #[.int .i64 wd, .slice a1 n1 d1, .slice a2 n2 d2, .int .i64 tp, .slice a3 m2 d3, .slice a4 n4 d4]] p'.wd fun e w'' => e = .returned (.int .i64 (S : Int)) ∧ Below p'.wd.heap.size p'.wd w'') := Lib.hid (fun p' => HS1.out p'.wd)
          obtain ⟨b, o, a5, n5, c5, rfl, hb, hy, hc, hI⟩ := (HEC.out.below B2.bel).at_ hlt
          obtain ⟨b', o', z, rfl, hb', hz, hin, hc'⟩ := (HA.out.below B2.bel).at_ hlt
          have f1 := lat_cell hb hc
          have f2 := lat_cell hb' hc'
          have g0 := lat_cell B2.prg.lt (B2.prg.cell (j := 0) rfl)
          have g1 := lat_cell B2.prg.lt (B2.prg.cell (j := 1) rfl)
          have g2 := lat_cell B2.prg.lt (B2.prg.cell (j := 2) rfl)
          have g3 := lat_cell B2.prg.lt (B2.prg.cell (j := 3) rfl)
          have g4 := lat_cell B2.prg.lt (B2.prg.cell (j := 4) rfl)
          have g5 := lat_cell B2.prg.lt (B2.prg.cell (j := 5) rfl)
          have l1 := lat_cell B2.env.lt (B2.env.cell (j := 1) rfl)
          obtain ⟨Q, HQ2⟩ : ∃ Q, Hid (valB S z (intsAt v.cells k) = Q) := ⟨_, rfl⟩
          have HQ1 : Hid (∀ p' : Lat wr, Calls Try.prog 47 #[.slice a5 n5 c5, .int .i64 z, .int .i64 (S : Int)] p'.wd fun e w'' => e = .returned (.bool Q) ∧ Below p'.wd.heap.size p'.wd w'') := Lib.hid (fun p' => by rw [← HQ2.out]; exact l5Values_any _ _ _ _ _ _ _ hS (hI.below p'.ok))
          clear hI hc hc'
          cases Q with
          | true =>
            go_wp2
            refine wp_region_lat (by kernel_rfl) (by kernel_rfl) ?_
            repeat (go_big_quiet_step (first | (go_at_call 49; exact lat_calls (HS2.out _)) | (go_at_call 47; exact lat_calls (HQ1.out _))))
            refine wpQuiet_nil ?_
            intro _ hw'
            obtain ⟨⟨ws, hws⟩, hw''⟩ := hw'
            subst hw''
            have ht := hbl.trans (hws.mono hbl.size)
            clear f1 f2 g0 g1 g2 g3 g4 g5 l1 HQ1 HS2 k1
            go_wp2
            go_roundw
            case rel => exact ⟨k + 1, by omega, by go_num, hg.succ hz HQ2.out, ht⟩
            case measure => simp [intOf]; omega
          | false =>
            go_wp2
            refine wp_region_lat (by kernel_rfl) (by kernel_rfl) ?_
            repeat (go_big_quiet_step (first | (go_at_call 49; exact lat_calls (HS2.out _)) | (go_at_call 47; exact lat_calls (HQ1.out _))))
            refine wpQuiet_nil ?_
            intro _ hw'
            obtain ⟨⟨ws, hws⟩, hw''⟩ := hw'
            subst hw''
            have ht := B2.below hws
            clear f1 f2 g0 g1 g2 g3 g4 g5 l1 HQ1 HS2 k1
            go_wp2
            go_ret
            exact ⟨ret_bool (by rw [HR2.out, allC_bad (by rw [HL2.out]; exact hlt) hz HQ2.out]), ht.bel⟩
        · obtain rfl : m2 = k := by omega
          go_wp2
          go_ret
          exact ⟨ret_bool (by rw [HR2.out, allC_all (by rw [HL2.out]; exact hg)]), B2.bel⟩
  · have hzz : (codeB p == 0) = false := by simpa using hz
    have hR : R = false := by rw [← HR.out, envB, hzz, Bool.false_and, Bool.false_and]
    subst hR
    rw [hzz] at HP0
    clear HR hz hzz h he HE
    obtain ⟨wd, ⟨a1, n1, d1⟩, ⟨a2, n2, d2⟩, tp, ⟨a3, n3, d3⟩, ⟨a4, n4, d4⟩, rows⟩ := r
    obtain ⟨⟨b1, m1, e1⟩, ⟨b2, m2, e2⟩, rws⟩ := er
    show Calls Try.prog 23 #[.agg #[.int .i64 wd, .slice a1 n1 d1, .slice a2 n2 d2, .int .i64 tp, .slice a3 n3 d3, .slice a4 n4 d4], .agg #[.slice b1 m1 e1, .slice b2 m2 e2]] w _
    have HP1 : Hid (∀ w', Below w.heap.size w w' → Calls Try.prog 32 #[.agg #[.int .i64 wd, .slice a1 n1 d1, .slice a2 n2 d2, .int .i64 tp, .slice a3 n3 d3, .slice a4 n4 d4]] w' fun e w'' => e = .returned (.bool false) ∧ Below w'.heap.size w' w'') := HP0
    clear HP0
    obtain ⟨wa, HW⟩ : ∃ wa, Hid (wa = ((w.alloc (.cells #[.int .i64 wd, .slice a1 n1 d1, .slice a2 n2 d2, .int .i64 tp, .slice a3 n3 d3, .slice a4 n4 d4] 31)).alloc (.cells #[.slice b1 m1 e1, .slice b2 m2 e2] 35))) := ⟨_, rfl⟩
    have BX : VBox w wa [.int .i64 wd, .slice a1 n1 d1, .slice a2 n2 d2, .int .i64 tp, .slice a3 n3 d3, .slice a4 n4 d4] [.slice b1 m1 e1, .slice b2 m2 e2] := by rw [HW.out]; exact vbox_new w _ _
    have HP2 : Hid (∀ p' : Lat wa, Calls Try.prog 32 #[.agg #[.int .i64 wd, .slice a1 n1 d1, .slice a2 n2 d2, .int .i64 tp, .slice a3 n3 d3, .slice a4 n4 d4]] p'.wd fun e w'' => e = .returned (.bool false) ∧ Below p'.wd.heap.size p'.wd w'') := Lib.hid (fun p' => HP1.out _ (BX.bel.trans (p'.ok.mono BX.bel.size)))
    have g0 := lat_cell BX.prg.lt (BX.prg.cell (j := 0) rfl)
    have g1 := lat_cell BX.prg.lt (BX.prg.cell (j := 1) rfl)
    have g2 := lat_cell BX.prg.lt (BX.prg.cell (j := 2) rfl)
    have g3 := lat_cell BX.prg.lt (BX.prg.cell (j := 3) rfl)
    have g4 := lat_cell BX.prg.lt (BX.prg.cell (j := 4) rfl)
    have g5 := lat_cell BX.prg.lt (BX.prg.cell (j := 5) rfl)
    go_enter Try.func23, Try.ntmps23
    go_wp2_with fail
    rw [← HW.out]
    refine wp_region_lat (by kernel_rfl) (by kernel_rfl) ?_
    repeat (go_big_quiet_step (first | (go_at_call 32; exact lat_calls (HP2.out _))))
    refine wpQuiet_nil ?_
    intro _ hw'
    obtain ⟨⟨wq, hwq⟩, hw''⟩ := hw'
    subst hw''
    have B1 := BX.below hwq
    clear g0 g1 g2 g3 g4 g5 HP2 HW
    go_wp2
    go_ret
    exact ⟨rfl, B1.bel⟩
end Go.Proofs.Ytmppiefkeeanpaa
