/- Joined texts of this proof (SpecStmts, SpecCode, SpecCodeOf, SpecProgOk, ImplSmall), in build order. -/
import Derived.Test.YtmooecbdpfhnlaaT9
import Derived.Test.YtmooecbdpfhnlaaT6
/- The contracts of the model's l3Stmt (all kinds together) and l3Stmts. -/
namespace Go.Proofs.Ytmooecbdpfhnlaa
open Go.RowKit

theorem l3Stmt_any (r : PRow) (W I T A : Nat) (x y : Int) (b1 b2 : Option Addr) (m1 m2 d1 d2 : Nat) (ts us : List Tm) (w : World) (hr : Lim r W I T A) (h1 : Terms w b1 m1 ts) (h2 : Terms w b2 m2 us) :
    Calls Try.prog 95 #[progV r, .agg #[.int .i64 x, .int .i64 y, .slice b1 m1 d1, .slice b2 m2 d2]] w fun e w' => e = .returned (.bool (stmtB (2 ^ W) I T A ⟨x, y, ts, us⟩)) ∧ Below w.heap.size w w' := by
  obtain ⟨wd, ⟨a1, n1, c1⟩, ⟨a2, n2, c2⟩, tp, ⟨a3, n3, c3⟩, ⟨a4, n4, c4⟩, rows⟩ := r
  have e1 := hr.inputs
  have e2 := hr.temps
  have e3 := hr.arrays
  simp only [] at e1 e2 e3
  subst e1 e2 e3
  by_cases h0 : x < 0 ∨ 9 < x
  · exact l3Stmt_out x h0 y wd a1 a2 a3 a4 b1 b2 n1 n2 n4 m1 m2 c1 c2 c3 c4 d1 d2 W T n3 rows ts us w hr h1 h2
  by_cases k : x = 3 ∨ x = 4 ∨ x = 8
  · exact l3Stmt_plain x k y wd a1 a2 a3 a4 b1 b2 n1 n2 n4 m1 m2 c1 c2 c3 c4 d1 d2 W T n3 rows ts us w hr h1 h2
  have hx : x = 0 ∨ x = 1 ∨ x = 2 ∨ x = 5 ∨ x = 6 ∨ x = 7 ∨ x = 9 := by omega
  rcases hx with rfl | rfl | rfl | rfl | rfl | rfl | rfl
  · exact l3Stmt_0 y wd a1 a2 a3 a4 b1 b2 n1 n2 n4 m1 m2 c1 c2 c3 c4 d1 d2 W T n3 rows ts us w hr h1 h2
  · exact l3Stmt_1 y wd a1 a2 a3 a4 b1 b2 n1 n2 n4 m1 m2 c1 c2 c3 c4 d1 d2 W T n3 rows ts us w hr h1 h2
  · exact l3Stmt_2 y wd a1 a2 a3 a4 b1 b2 n1 n2 n4 m1 m2 c1 c2 c3 c4 d1 d2 W T n3 rows ts us w hr h1 h2
  · exact l3Stmt_5 y wd a1 a2 a3 a4 b1 b2 n1 n2 n4 m1 m2 c1 c2 c3 c4 d1 d2 W T n3 rows ts us w hr h1 h2
  · exact l3Stmt_6 y wd a1 a2 a3 a4 b1 b2 n1 n2 n4 m1 m2 c1 c2 c3 c4 d1 d2 W T n3 rows ts us w hr h1 h2
  · exact l3Stmt_7 y wd a1 a2 a3 a4 b1 b2 n1 n2 n4 m1 m2 c1 c2 c3 c4 d1 d2 W T n3 rows ts us w hr h1 h2
  · exact l3Stmt_9 y wd a1 a2 a3 a4 b1 b2 n1 n2 n4 m1 m2 c1 c2 c3 c4 d1 d2 W T n3 rows ts us w hr h1 h2
def StTo (f : Stm → Bool) (ss : List Stm) (k : Nat) : Prop := ∀ i, i < k → f (stAt ss i) = true
theorem StTo.zero (f : Stm → Bool) (ss : List Stm) : StTo f ss 0 := fun i hi => absurd hi (by omega)
theorem StTo.succ {f : Stm → Bool} {ss : List Stm} {k : Nat} {t : Stm} (h : StTo f ss k) (hz : Hid (stAt ss k = t)) (ht : f t = true) : StTo f ss (k + 1) := by
  intro i hi
  rcases Nat.lt_or_ge i k with hlt | hge
  · exact h i hlt
  · have : i = k := by omega
    subst this; rw [hz.out]; exact ht
theorem stAt_mem {ss : List Stm} {k : Nat} (h : k < ss.length) : stAt ss k ∈ ss := by
  rw [stAt, List.getD_eq_getElem?_getD, List.getElem?_eq_getElem h]; exact List.getElem_mem h
theorem stTo_all {f : Stm → Bool} {ss : List Stm} (h : StTo f ss ss.length) : ss.all f = true := by
  rw [List.all_eq_true]
  intro z hz
  obtain ⟨i, hi, rfl⟩ := List.getElem_of_mem hz
  have := h i hi
  rw [stAt, List.getD_eq_getElem?_getD, List.getElem?_eq_getElem hi] at this
  simpa using this
theorem st_bad {f : Stm → Bool} {ss : List Stm} {k : Nat} {t : Stm} (hk : k < ss.length) (hz : Hid (stAt ss k = t)) (ht : f t = false) : ss.all f = false := by
  rw [← Bool.not_eq_true, List.all_eq_true]
  intro h
  have := h _ (stAt_mem hk)
  rw [hz.out, ht] at this
  exact absurd this (by simp)
set_option maxHeartbeats 3200000 in
theorem l3Stmts_any (r : PRow) (p : Prg) (W I T A : Nat) (w : World) (h : ProgAt w r p) (hr : Lim r W I T A) :
    Calls Try.prog 49 #[progV r] w fun e w' => e = .returned (.bool (p.body.all (stmtB (2 ^ W) I T A))) ∧ Below w.heap.size w w' := by
  have HX : Hid (∀ (x y : Int) (b1 b2 : Option Addr) (m1 m2 d1 d2 : Nat) (ts us : List Tm) (w' : World), Terms w' b1 m1 ts → Terms w' b2 m2 us → Calls Try.prog 95 #[progV r, .agg #[.int .i64 x, .int .i64 y, .slice b1 m1 d1, .slice b2 m2 d2]] w' fun e w'' => e = .returned (.bool (stmtB (2 ^ W) I T A ⟨x, y, ts, us⟩)) ∧ Below w'.heap.size w' w'') :=
    Lib.hid (fun x y b1 b2 m1 m2 d1 d2 ts us w' h1 h2 => l3Stmt_any r W I T A x y b1 b2 m1 m2 d1 d2 ts us w' hr h1 h2)
  have h4 := h.body
  clear h hr
  obtain ⟨wd, ⟨a1, n1, c1⟩, ⟨a2, n2, c2⟩, tp, ⟨a3, n3, c3⟩, ⟨a4, n4, c4⟩, rows⟩ := r
  obtain ⟨pw, pl, ps, pt, pa, pb⟩ := p
  simp only [] at h4
  obtain ⟨f, HF⟩ : ∃ f, Hid (stmtB (2 ^ W) I T A = f) := ⟨_, rfl⟩
  simp only [HF.out] at HX ⊢
  clear HF
  show Calls Try.prog 49 #[.agg #[.int .i64 wd, .slice a1 n1 c1, .slice a2 n2 c2, .int .i64 tp, .slice a3 n3 c3, .slice a4 n4 c4]] w _
  have HL := Lib.hid h4.2.1
  have hbd := h4.2.2.1
  obtain ⟨wa, HW⟩ : ∃ wa, Hid (wa = w.alloc (.cells #[.int .i64 wd, .slice a1 n1 c1, .slice a2 n2 c2, .int .i64 tp, .slice a3 n3 c3, .slice a4 n4 c4] 28)) := ⟨_, rfl⟩
  have BX : Blk wa w.heap.size 28 [.int .i64 wd, .slice a1 n1 c1, .slice a2 n2 c2, .int .i64 tp, .slice a3 n3 c3, .slice a4 n4 c4] := by rw [HW.out]; exact Blk.new w _ _
  have HB : Below w.heap.size w wa := by rw [HW.out]; exact (Below.refl _ _).alloc (Nat.le_refl _) _
  go_enter Try.func49, Try.ntmps49
  go_wp2
  rw [← HW.out]
  go_loopw [3] (fun i wr => ∃ k : Nat, k ≤ n4 ∧ i = .int .i64 (k : Int) ∧ StTo f pb k ∧ Below wa.heap.size wa wr) (fun i _ => n4 - (intOf i).toNat)
  case atStart => exact ⟨0, Nat.zero_le _, rfl, StTo.zero _ _, Below.refl _ _⟩
  case round =>
    obtain ⟨k, hk, rfl, hg, hbl⟩ := hrel
    have hbel := HB.trans (hbl.mono HB.size)
    have B1 := BX.below hbl BX.lt
    have t5 := B1.cell (j := 5) rfl
    by_cases hlt : k < n4
    · obtain ⟨b, o, x, y, p1, m1, d1, p2, m2, d2, ts, us, rfl, hb, hz, hin1, hin2, hc1, hc2, hc3, hc4, hT1, hT2⟩ := (h4.below hbel).at_ hlt
      have f1 := lat_cell hb hc1
      have f2 := lat_cell hb hc2
      have f3 := lat_cell hb hc3
      have f4 := lat_cell hb hc4
      have g0 := lat_cell B1.lt (B1.cell (j := 0) rfl)
      have g1 := lat_cell B1.lt (B1.cell (j := 1) rfl)
      have g2 := lat_cell B1.lt (B1.cell (j := 2) rfl)
      have g3 := lat_cell B1.lt (B1.cell (j := 3) rfl)
      have g4 := lat_cell B1.lt (B1.cell (j := 4) rfl)
      have g5 := lat_cell B1.lt (B1.cell (j := 5) rfl)
      clear hc1 hc2 hc3 hc4
      obtain ⟨q, HQ⟩ : ∃ q, Hid (f ⟨x, y, ts, us⟩ = q) := ⟨_, rfl⟩
      have HC : Hid (∀ p : Lat wr, Calls Try.prog 95 #[.agg #[.int .i64 wd, .slice a1 n1 c1, .slice a2 n2 c2, .int .i64 tp, .slice a3 n3 c3, .slice (some ⟨b, o, none⟩) n4 c4], .agg #[.int .i64 x, .int .i64 y, .slice p1 m1 d1, .slice p2 m2 d2]] p.wd fun e w' => e = .returned (.bool q) ∧ Below p.wd.heap.size p.wd w') := Lib.hid (fun p => by
        rw [← HQ.out]; exact HX.out _ _ _ _ _ _ _ _ _ _ _ (hT1.below (Nat.le_refl _) p.ok) (hT2.below (Nat.le_refl _) p.ok))
      clear hT1 hT2
      cases q with
      | true =>
        go_wp2
        refine wp_region_lat (by kernel_rfl) (by kernel_rfl) ?_
        repeat (go_big_quiet_step ((go_at_call 95; exact lat_calls (HC.out _))))
        refine wpQuiet_nil ?_
        intro _ hw'
        obtain ⟨⟨wq, hwq⟩, hw''⟩ := hw'
        subst hw''
        have ht := hbl.trans (hwq.mono hbl.size)
        clear f1 f2 f3 f4 g0 g1 g2 g3 g4 g5 HC t5
        go_wp2
        go_roundw
        case rel => exact ⟨k + 1, by omega, by go_num, hg.succ hz HQ.out, ht⟩
        case measure => simp [intOf]; omega
      | false =>
        go_wp2
        refine wp_region_lat (by kernel_rfl) (by kernel_rfl) ?_
        repeat (go_big_quiet_step ((go_at_call 95; exact lat_calls (HC.out _))))
        refine wpQuiet_nil ?_
        intro _ hw'
        obtain ⟨⟨wq, hwq⟩, hw''⟩ := hw'
        subst hw''
        have ht := hbl.trans (hwq.mono hbl.size)
        have ht2 := HB.trans (ht.mono HB.size)
        clear f1 f2 f3 f4 g0 g1 g2 g3 g4 g5 HC t5
        go_wp2
        go_ret
        exact ⟨ret_bool (st_bad (by rw [HL.out]; exact hlt) hz HQ.out).symm, ht2⟩
    · obtain rfl : n4 = k := by omega
      go_wp2
      go_ret
      exact ⟨ret_bool (stTo_all (by rw [HL.out]; exact hg)).symm, hbel⟩
end Go.Proofs.Ytmooecbdpfhnlaa
/- The contract of the model's CodeOf. -/
namespace Go.Proofs.Ytmooecbdpfhnlaa
open Go.RowKit

open Classical in
/-- The steps of a whole body. -/
noncomputable def stepsN (ss : List Stm) : Nat := if h : ∃ s, Steps ss 0 ss.length s then h.choose else 0
theorem stepsN_spec {ss : List Stm} (h : ∃ s, Steps ss 0 ss.length s) : Steps ss 0 ss.length (stepsN ss) := by
  unfold stepsN
  rw [dif_pos h]
  exact h.choose_spec
def inpB (p : Prg) : Bool := (inputsB (2 ^ p.width.toNat) true p.lows && inputsB (2 ^ p.width.toNat) false p.secrets) && decide (bitsTo p.lows p.lows.length + bitsTo p.secrets p.secrets.length ≤ 10)
def stmtsB (p : Prg) : Bool := p.body.all (stmtB (2 ^ p.width.toNat) (p.lows.length + p.secrets.length) p.temps.toNat p.arrays.length)
/-- What CodeOf answers. -/
noncomputable def codeB (p : Prg) : Int :=
  if ¬ (1 ≤ p.width ∧ p.width ≤ 8) then 1
  else if inpB p = false then 2
  else if roomB p = false then 3
  else if stmtsB p = false then 4
  else if blockOf p.body 0 ≠ (p.body.length : Int) then 5
  else if 400 < stepsN p.body then 6 else 0
theorem loops_ok {S I T A : Nat} {ss : List Stm} (h : ss.all (stmtB S I T A) = true) : LoopsOk ss := by
  intro i hi h5
  have := List.all_eq_true.1 h _ (stAt_mem hi)
  unfold opAt at h5
  simp only [stmtB, Bool.and_eq_true] at this
  have hn := this.2
  rw [h5] at hn
  simp only [numOk] at hn
  simp at hn
  exact ⟨(stAt ss i).n.toNat, by omega, by omega⟩
end Go.Proofs.Ytmooecbdpfhnlaa
/- The contract of the model's CodeOf. -/
namespace Go.Proofs.Ytmooecbdpfhnlaa
open Go.RowKit

set_option maxRecDepth 20000 in
set_option maxHeartbeats 3200000 in
theorem specCodeOf_any (r : PRow) (p : Prg) (w : World) (h : ProgAt w r p) :
    Calls Try.prog 11 #[progV r] w fun e w' => e = .returned (.int .i64 (codeB p)) ∧ Below w.heap.size w w' := by
  obtain ⟨Z, HZ⟩ : ∃ Z, Hid (codeB p = Z) := ⟨_, rfl⟩
  rw [HZ.out]
  have hZ := HZ.out
  unfold codeB at hZ
  by_cases hw : 1 ≤ p.width ∧ p.width ≤ 8
  case neg =>
    rw [if_pos hw] at hZ
    subst hZ
    have hin : (decide (1 ≤ p.width) && decide (p.width ≤ 8)) = false := by rw [← Bool.not_eq_true]; simpa using hw
    obtain ⟨wd, ⟨a1, n1, c1⟩, ⟨a2, n2, c2⟩, tp, ⟨a3, n3, c3⟩, ⟨a4, n4, c4⟩, rows⟩ := r
    have e1 := h.width
    simp only [] at e1
    rw [← e1] at hin
    clear e1 h hw HZ
    show Calls Try.prog 11 #[.agg #[.int .i64 wd, .slice a1 n1 c1, .slice a2 n2 c2, .int .i64 tp, .slice a3 n3 c3, .slice a4 n4 c4]] w _
    go_enter Try.func11, Try.ntmps11
    go_wp2_with (go_at_call 45; refine (in_any _ _ _ _).mono ?_; rintro e w' ⟨rfl, rfl⟩; rw [hin])
    go_ret
    exact ⟨rfl, (Below.refl _ _).alloc (Nat.le_refl _) _⟩
  rw [if_neg (by simpa using hw)] at hZ
  obtain ⟨wd, ⟨a1, n1, c1⟩, ⟨a2, n2, c2⟩, tp, ⟨a3, n3, c3⟩, ⟨a4, n4, c4⟩, rows⟩ := r
  obtain ⟨pw, pl, ps, pt, pa, pb⟩ := p
  have HPA := h
  obtain ⟨e1, e2, i1, i2, h1, h2, h3, h4⟩ := h
  simp only [] at e1 e2 i1 i2 h1 h2 h3 h4 hw
  subst e1 e2
  obtain ⟨W, rfl⟩ : ∃ W : Nat, wd = (W : Int) := ⟨wd.toNat, by omega⟩
  have hin : (decide (1 ≤ (W : Int)) && decide ((W : Int) ≤ 8)) = true := by simpa using hw
  have HIN := Lib.hid hin
  have hW8 : W ≤ 8 := by omega
  have HP := Lib.hid HPA
  have L1 := Lib.hid h1.1
  have L2 := Lib.hid h2.1
  have L3 := Lib.hid h3.1
  have L4 := Lib.hid h4.2.1
  have hm4 := h4.2.2.1
  clear HPA hin h1 h2 h3 h4 HZ
  have HZ := Lib.hid hZ
  clear hZ
  show Calls Try.prog 11 #[.agg #[.int .i64 (W : Int), .slice a1 n1 c1, .slice a2 n2 c2, .int .i64 tp, .slice a3 n3 c3, .slice a4 n4 c4]] w _
  obtain ⟨wa, HW⟩ : ∃ wa, Hid (wa = w.alloc (.cells #[.int .i64 (W : Int), .slice a1 n1 c1, .slice a2 n2 c2, .int .i64 tp, .slice a3 n3 c3, .slice a4 n4 c4] 28)) := ⟨_, rfl⟩
  have B : Blk wa w.heap.size 28 [.int .i64 (W : Int), .slice a1 n1 c1, .slice a2 n2 c2, .int .i64 tp, .slice a3 n3 c3, .slice a4 n4 c4] := by rw [HW.out]; exact Blk.new w _ _
  have HB : Below w.heap.size w wa := by rw [HW.out]; exact (Below.refl _ _).alloc (Nat.le_refl _) _
  go_enter Try.func11, Try.ntmps11
  go_wp2_with (go_at_call 45; refine (in_any _ _ _ _).mono ?_; rintro e w' ⟨rfl, rfl⟩; rw [HIN.out])
  obtain ⟨X1, H1⟩ : ∃ X1, Hid (inputsB (2 ^ W) true pl = X1) := ⟨_, rfl⟩
  obtain ⟨X2, H2⟩ : ∃ X2, Hid (inputsB (2 ^ W) false ps = X2) := ⟨_, rfl⟩
  obtain ⟨N, HN⟩ : ∃ N, Hid (bitsTo pl pl.length + bitsTo ps ps.length = N) := ⟨_, rfl⟩
  have HI : Hid (inpB ⟨(W : Int), pl, ps, tp, pa, pb⟩ = ((X1 && X2) && decide (N ≤ 10))) := Lib.hid (by simp only [inpB, Int.toNat_natCast, H1.out, H2.out, HN.out])
  rw [HI.out] at HZ
  rw [← HW.out]
  refine (l3Inputs_any ⟨(W : Int), (a1, n1, c1), (a2, n2, c2), tp, (a3, n3, c3), (a4, n4, c4), rows⟩ W _ _ _ _ _ _ rfl hW8 (HP.out.lows.below (Nat.le_refl _) HB)).mono ?_
  rintro e w1 ⟨rfl, hb1⟩
  simp only [H1.out]
  have B := B.below hb1 B.lt
  have HB := HB.trans (hb1.mono HB.size)
  clear hb1 HW
  have t0 := B.cell (j := 0) rfl
  have t1 := B.cell (j := 1) rfl
  have t2 := B.cell (j := 2) rfl
  have t3 := B.cell (j := 3) rfl
  have t4 := B.cell (j := 4) rfl
  have t5 := B.cell (j := 5) rfl
  cases X1 with
  | false =>
    have hz := HZ.out
    rw [Bool.false_and, Bool.false_and, if_pos rfl] at hz
    subst hz
    go_wp2
    go_ret
    exact ⟨rfl, HB⟩
  | true =>
  go_wp2_with fail
  refine (l3Inputs_any ⟨(W : Int), (a1, n1, c1), (a2, n2, c2), tp, (a3, n3, c3), (a4, n4, c4), rows⟩ W _ _ _ _ _ _ rfl hW8 (HP.out.secrets.below (Nat.le_refl _) HB)).mono ?_
  rintro e w2 ⟨rfl, hb2⟩
  simp only [H2.out]
  clear t0 t1 t2 t3 t4 t5
  have B := B.below hb2 B.lt
  have HB := HB.trans (hb2.mono HB.size)
  clear hb2
  have t0 := B.cell (j := 0) rfl
  have t1 := B.cell (j := 1) rfl
  have t2 := B.cell (j := 2) rfl
  have t3 := B.cell (j := 3) rfl
  have t4 := B.cell (j := 4) rfl
  have t5 := B.cell (j := 5) rfl
  cases X2 with
  | false =>
    have hz := HZ.out
    rw [Bool.and_false, Bool.false_and, if_pos rfl] at hz
    subst hz
    go_wp2
    go_ret
    exact ⟨rfl, HB⟩
  | true =>
  go_wp2_with fail
  refine (l3AllBits_any ⟨(W : Int), (a1, n1, c1), (a2, n2, c2), tp, (a3, n3, c3), (a4, n4, c4), rows⟩ ⟨(W : Int), pl, ps, tp, pa, pb⟩ _ (HP.out.below HB)).mono ?_
  rintro e w3 ⟨rfl, hb3⟩
  simp only [HN.out]
  clear t0 t1 t2 t3 t4 t5
  have B := B.below hb3 B.lt
  have HB := HB.trans (hb3.mono HB.size)
  clear hb3
  have t0 := B.cell (j := 0) rfl
  have t1 := B.cell (j := 1) rfl
  have t2 := B.cell (j := 2) rfl
  have t3 := B.cell (j := 3) rfl
  have t4 := B.cell (j := 4) rfl
  have t5 := B.cell (j := 5) rfl
  rw [Bool.and_self, Bool.true_and] at HZ
  by_cases hN : N ≤ 10
  case neg =>
    have hz := HZ.out
    rw [decide_eq_false hN, if_pos rfl] at hz
    subst hz
    have hd : decide ((N : Int) > 10) = true := by simp; omega
    go_wp2
    go_ret
    exact ⟨rfl, HB⟩
  have hd : decide ((N : Int) > 10) = false := by simp; omega
  rw [decide_eq_true hN, if_neg (by simp)] at HZ
  obtain ⟨X3, H3⟩ : ∃ X3, Hid (roomB ⟨(W : Int), pl, ps, tp, pa, pb⟩ = X3) := ⟨_, rfl⟩
  rw [H3.out] at HZ
  go_wp2_with fail
  refine (l3Room_any ⟨(W : Int), (a1, n1, c1), (a2, n2, c2), tp, (a3, n3, c3), (a4, n4, c4), rows⟩ ⟨(W : Int), pl, ps, tp, pa, pb⟩ _ (HP.out.below HB)).mono ?_
  rintro e w4 ⟨rfl, hb4⟩
  rw [H3.out]
  clear t0 t1 t2 t3 t4 t5 hd
  have B := B.below hb4 B.lt
  have HB := HB.trans (hb4.mono HB.size)
  clear hb4
  have t0 := B.cell (j := 0) rfl
  have t1 := B.cell (j := 1) rfl
  have t2 := B.cell (j := 2) rfl
  have t3 := B.cell (j := 3) rfl
  have t4 := B.cell (j := 4) rfl
  have t5 := B.cell (j := 5) rfl
  cases X3 with
  | false =>
    have hz := HZ.out
    rw [if_pos rfl] at hz
    subst hz
    go_wp2
    go_ret
    exact ⟨rfl, HB⟩
  | true =>
  rw [if_neg (by simp)] at HZ
  have hroom := H3.out
  simp only [roomB, Bool.and_eq_true, decide_eq_true_eq] at hroom
  have hl1 : n1 ≤ 3 := by have q := H1.out; simp only [inputsB, Bool.and_eq_true, decide_eq_true_eq] at q; have := L1.out; omega
  have hl2 : n2 ≤ 3 := by have q := H2.out; simp only [inputsB, Bool.and_eq_true, decide_eq_true_eq] at q; have := L2.out; omega
  have hl3 : n3 ≤ 2 := by have := L3.out; omega
  have hl4 : n4 ≤ 40 := by have := L4.out; omega
  obtain ⟨T, rfl⟩ : ∃ T : Nat, tp = (T : Int) := ⟨tp.toNat, by omega⟩
  have hT : T ≤ 6 := by omega
  have HLim := Lib.hid (show Lim ⟨(W : Int), (a1, n1, c1), (a2, n2, c2), (T : Int), (a3, n3, c3), (a4, n4, c4), rows⟩ W (n1 + n2) T n3 from ⟨rfl, hW8, rfl, by omega, rfl, by omega, rfl, by omega⟩)
  clear hroom
  obtain ⟨X4, H4⟩ : ∃ X4, Hid (pb.all (stmtB (2 ^ W) (n1 + n2) T n3) = X4) := ⟨_, rfl⟩
  have HS : Hid (stmtsB ⟨(W : Int), pl, ps, (T : Int), pa, pb⟩ = X4) := Lib.hid (by simp only [stmtsB, Int.toNat_natCast, L1.out, L2.out, L3.out, H4.out])
  rw [HS.out] at HZ
  go_wp2_with fail
  refine (l3Stmts_any _ ⟨(W : Int), pl, ps, (T : Int), pa, pb⟩ W (n1 + n2) T n3 _ (HP.out.below HB) HLim.out).mono ?_
  rintro e w5 ⟨rfl, hb5⟩
  simp only [H4.out]
  clear t0 t1 t2 t3 t4 t5
  have B := B.below hb5 B.lt
  have HB := HB.trans (hb5.mono HB.size)
  clear hb5
  have t0 := B.cell (j := 0) rfl
  have t1 := B.cell (j := 1) rfl
  have t2 := B.cell (j := 2) rfl
  have t3 := B.cell (j := 3) rfl
  have t4 := B.cell (j := 4) rfl
  have t5 := B.cell (j := 5) rfl
  cases X4 with
  | false =>
    have hz := HZ.out
    rw [if_pos rfl] at hz
    subst hz
    go_wp2
    go_ret
    exact ⟨rfl, HB⟩
  | true =>
  rw [if_neg (by simp)] at HZ
  have hlo := loops_ok H4.out
  obtain ⟨K, HK⟩ : ∃ K, Hid (blockOf pb 0 = K) := ⟨_, rfl⟩
  simp only [HK.out, L4.out] at HZ
  have hblk := l3Block_any a4 n4 c4 rows pb 0 w5 (HP.out.body.below HB) (Nat.zero_le _)
  rw [HK.out] at hblk
  have HC := Lib.hid hblk
  clear hblk
  by_cases hK : K = (n4 : Int)
  case neg =>
    have hz := HZ.out
    rw [if_pos hK] at hz
    subst hz
    have hd : (K != (n4 : Int)) = true := by simpa using hK
    go_wp2_with (go_at_call 50; refine HC.out.mono ?_; rintro e w' ⟨rfl, rfl⟩)
    go_ret
    exact ⟨rfl, HB⟩
  rw [if_neg (by simpa using hK)] at HZ
  have hex := part_steps hlo _ 0 pb.length (Nat.le_refl _) (Nat.zero_le _) (by rw [HK.out, hK, L4.out])
  have hst := stepsN_spec hex
  obtain ⟨Q, HQ⟩ : ∃ Q, Hid (stepsN pb = Q) := ⟨_, rfl⟩
  rw [HQ.out] at hst
  rw [HQ.out] at HZ
  rw [L4.out] at hst
  have HD : Hid (∀ w', Below w.heap.size w w' → Calls Try.prog 51 #[.slice a4 n4 c4, .int .i64 0, .int .i64 (n4 : Int)] w' fun e w'' => e = .returned (.int .i64 (Q : Int)) ∧ Still w' w'') := Lib.hid (fun w' hw' => l3Steps_any a4 n4 c4 rows pb 0 n4 Q w' (HP.out.body.below hw') hl4 (Nat.le_refl _) hst)
  clear hex hst hlo
  have hd : (K != (n4 : Int)) = false := by simpa using hK
  go_wp2_with (go_at_call 50; refine HC.out.mono ?_; rintro e w' ⟨rfl, rfl⟩)
  refine (HD.out _ HB).mono ?_
  rintro e w6 ⟨rfl, hs6⟩
  have HB := HB.trans (hs6.below _)
  by_cases hQ : 400 < Q
  · have hz := HZ.out
    rw [if_pos hQ] at hz
    subst hz
    have hd2 : decide ((Q : Int) > 400) = true := by simp; omega
    go_wp2
    go_ret
    exact ⟨rfl, HB⟩
  · have hz := HZ.out
    rw [if_neg hQ] at hz
    subst hz
    have hd2 : decide ((Q : Int) > 400) = false := by simp; omega
    go_wp2
    go_ret
    exact ⟨rfl, HB⟩
end Go.Proofs.Ytmooecbdpfhnlaa
/- The contracts of the model's ProgOk and StepsOf. -/
namespace Go.Proofs.Ytmooecbdpfhnlaa
open Go.RowKit

/-- What StepsOf answers. -/
noncomputable def stepsB (p : Prg) : Int := if codeB p = 0 then (stepsN p.body : Int) else -1
set_option maxHeartbeats 800000 in
theorem specProgOk_any (r : PRow) (p : Prg) (w : World) (h : ProgAt w r p) :
    Calls Try.prog 21 #[progV r] w fun e w' => e = .returned (.bool (codeB p == 0)) ∧ Below w.heap.size w w' := by
  have HC : Hid (∀ w', Below w.heap.size w w' → Calls Try.prog 11 #[progV r] w' fun e w'' => e = .returned (.int .i64 (codeB p)) ∧ Below w'.heap.size w' w'') := Lib.hid (fun w' hw => specCodeOf_any r p w' (h.below hw))
  obtain ⟨Z, HZ⟩ : ∃ Z, Hid (codeB p = Z) := ⟨_, rfl⟩
  rw [HZ.out] at HC ⊢
  obtain ⟨wd, ⟨a1, n1, c1⟩, ⟨a2, n2, c2⟩, tp, ⟨a3, n3, c3⟩, ⟨a4, n4, c4⟩, rows⟩ := r
  clear h HZ
  show Calls Try.prog 21 #[.agg #[.int .i64 wd, .slice a1 n1 c1, .slice a2 n2 c2, .int .i64 tp, .slice a3 n3 c3, .slice a4 n4 c4]] w _
  have HB : Below w.heap.size w (w.alloc (.cells #[.int .i64 wd, .slice a1 n1 c1, .slice a2 n2 c2, .int .i64 tp, .slice a3 n3 c3, .slice a4 n4 c4] 28)) := (Below.refl _ _).alloc (Nat.le_refl _) _
  go_enter Try.func21, Try.ntmps21
  go_wp2_with fail
  refine (HC.out _ HB).mono ?_
  rintro e w1 ⟨rfl, hb1⟩
  have HB := HB.trans (hb1.mono HB.size)
  go_wp2
  go_ret
  exact ⟨ret_bool (by cases hz : (Z == 0) <;> simp_all), HB⟩
end Go.Proofs.Ytmooecbdpfhnlaa
/- The contracts of the program's small helpers of chapter 3. -/
namespace Go.Proofs.Ytmooecbdpfhnlaa
open Go.RowKit

def opensB (x : Int) : Bool := (x == 2 || x == 5) || x == 8
def secondB (x : Int) : Bool := x == 3 || x == 9
def takesB (op sec s : Int) : Bool := decide (sec < 0) && ((op == 2 && s == 3) || (op == 8 && s == 9))
def mayEndB (op sec : Int) : Bool := op != 8 || decide (0 ≤ sec)
/-- The program's head as a value. -/
def headV (wd tp : Int) (a1 a2 a3 a4 : Option Addr) (n1 n2 n3 n4 c1 c2 c3 c4 : Nat) : Value := .agg #[.int .i64 wd, .slice a1 n1 c1, .slice a2 n2 c2, .int .i64 tp, .slice a3 n3 c3, .slice a4 n4 c4]

theorem isWithin_any (x lo hi : Int) (w : World) :
    Calls Try.prog 39 #[.int .i64 x, .int .i64 lo, .int .i64 hi] w fun e w' => e = .returned (.bool (decide (lo ≤ x) && decide (x ≤ hi))) ∧ w = w' := by
  by_cases h1 : lo ≤ x
  · by_cases h2 : x ≤ hi
    · go_enter Try.func39, Try.ntmps39
      go_wp2
      go_ret
      exact ⟨ret_bool (by simp [h1, h2]), rfl⟩
    · go_enter Try.func39, Try.ntmps39
      go_wp2
      go_ret
      exact ⟨ret_bool (by rw [decide_eq_false (p := x ≤ hi) (by omega)]), rfl⟩
  · go_enter Try.func39, Try.ntmps39
    go_wp2
    go_ret
    exact ⟨ret_bool (by rw [decide_eq_false (p := lo ≤ x) (by omega), Bool.false_and]), rfl⟩
theorem isWithin_lat {w : World} (x lo hi : Int) {v : Bool} (hv : (decide (lo ≤ x) && decide (x ≤ hi)) = v) (p : Lat w) :
    Calls Try.prog 39 #[.int .i64 x, .int .i64 lo, .int .i64 hi] p.wd fun e w' => e = .returned (.bool v) ∧ Below p.wd.heap.size p.wd w' :=
  (isWithin_any x lo hi p.wd).mono fun _ _ ⟨he, hw⟩ => ⟨by rw [he, hv], by rw [← hw]; exact Below.refl _ _⟩
theorem opensBlock_any (x : Int) (w : World) : Calls Try.prog 89 #[.int .i64 x] w fun e w' => e = .returned (.bool (opensB x)) ∧ w = w' := by
  obtain ⟨R, HR⟩ : ∃ R, Hid (opensB x = R) := ⟨_, rfl⟩
  rw [HR.out]
  by_cases h : x = 2 ∨ x = 5 ∨ x = 8
  · have hR : R = true := by rw [← HR.out]; rcases h with rfl | rfl | rfl <;> rfl
    subst hR
    rcases h with rfl | rfl | rfl
    all_goals
      go_enter Try.func89, Try.ntmps89
      go_wp2
      go_ret
      exact ⟨rfl, rfl⟩
  · have k2 : (x == 2) = false := by simp; omega
    have k5 : (x == 5) = false := by simp; omega
    have k8 : (x == 8) = false := by simp; omega
    have hR : R = false := by rw [← HR.out]; simp [opensB, k2, k5, k8]
    subst hR
    go_enter Try.func89, Try.ntmps89
    go_wp2
    go_ret
    exact ⟨rfl, rfl⟩
theorem startsSecond_any (x : Int) (w : World) : Calls Try.prog 88 #[.int .i64 x] w fun e w' => e = .returned (.bool (secondB x)) ∧ w = w' := by
  obtain ⟨R, HR⟩ : ∃ R, Hid (secondB x = R) := ⟨_, rfl⟩
  rw [HR.out]
  by_cases h : x = 3 ∨ x = 9
  · have hR : R = true := by rw [← HR.out]; rcases h with rfl | rfl <;> rfl
    subst hR
    rcases h with rfl | rfl
    all_goals
      go_enter Try.func88, Try.ntmps88
      go_wp2
      go_ret
      exact ⟨rfl, rfl⟩
  · have k3 : (x == 3) = false := by simp; omega
    have k9 : (x == 9) = false := by simp; omega
    have hR : R = false := by rw [← HR.out]; simp [secondB, k3, k9]
    subst hR
    go_enter Try.func88, Try.ntmps88
    go_wp2
    go_ret
    exact ⟨rfl, rfl⟩
theorem takesLabel_any (x s y : Int) (w : World) : Calls Try.prog 132 #[.agg #[.int .i64 x, .int .i64 s], .int .i64 y] w fun e w' => e = .returned (.bool (takesB x s y)) ∧ Below w.heap.size w w' := by
  obtain ⟨R, HR⟩ : ∃ R, Hid (takesB x s y = R) := ⟨_, rfl⟩
  rw [HR.out]
  by_cases hs : 0 ≤ s
  · have hR : R = false := by rw [← HR.out, takesB, decide_eq_false (by omega)]; rfl
    subst hR
    go_enter Try.func132, Try.ntmps132
    go_wp2
    go_ret
    exact ⟨rfl, (Below.refl _ _).alloc (Nat.le_refl _) _⟩
  have hR : R = ((x == 2 && y == 3) || (x == 8 && y == 9)) := by rw [← HR.out, takesB, decide_eq_true (by omega)]; rfl
  have HR := Lib.hid hR
  clear hR
  by_cases h2 : x = 2
  · subst h2
    by_cases h3 : y = 3
    · subst h3
      have hR : R = true := HR.out
      subst hR
      go_enter Try.func132, Try.ntmps132
      go_wp2
      go_ret
      exact ⟨rfl, (Below.refl _ _).alloc (Nat.le_refl _) _⟩
    · have k3 : (y == 3) = false := by simpa using h3
      have hR : R = false := by rw [HR.out, k3]; rfl
      subst hR
      go_enter Try.func132, Try.ntmps132
      go_wp2
      go_ret
      exact ⟨rfl, (Below.refl _ _).alloc (Nat.le_refl _) _⟩
  have k2 : (x == 2) = false := by simpa using h2
  by_cases h8 : x = 8
  · subst h8
    by_cases h9 : y = 9
    · subst h9
      have hR : R = true := HR.out
      subst hR
      go_enter Try.func132, Try.ntmps132
      go_wp2
      go_ret
      exact ⟨rfl, (Below.refl _ _).alloc (Nat.le_refl _) _⟩
    · have k9 : (y == 9) = false := by simpa using h9
      have hR : R = false := by rw [HR.out, k9]; rfl
      subst hR
      go_enter Try.func132, Try.ntmps132
      go_wp2
      go_ret
      exact ⟨rfl, (Below.refl _ _).alloc (Nat.le_refl _) _⟩
  have k8 : (x == 8) = false := by simpa using h8
  have hR : R = false := by rw [HR.out, k2, k8]; rfl
  subst hR
  go_enter Try.func132, Try.ntmps132
  go_wp2
  go_ret
  exact ⟨rfl, (Below.refl _ _).alloc (Nat.le_refl _) _⟩
theorem mayEnd_any (x s : Int) (w : World) : Calls Try.prog 133 #[.agg #[.int .i64 x, .int .i64 s]] w fun e w' => e = .returned (.bool (mayEndB x s)) ∧ Below w.heap.size w w' := by
  obtain ⟨R, HR⟩ : ∃ R, Hid (mayEndB x s = R) := ⟨_, rfl⟩
  rw [HR.out]
  by_cases h8 : x = 8
  · subst h8
    by_cases hs : 0 ≤ s
    · have hR : R = true := by rw [← HR.out, mayEndB, decide_eq_true hs]; rfl
      subst hR
      go_enter Try.func133, Try.ntmps133
      go_wp2
      go_ret
      exact ⟨rfl, (Below.refl _ _).alloc (Nat.le_refl _) _⟩
    · have hR : R = false := by rw [← HR.out, mayEndB, decide_eq_false hs]; rfl
      subst hR
      go_enter Try.func133, Try.ntmps133
      go_wp2
      go_ret
      exact ⟨rfl, (Below.refl _ _).alloc (Nat.le_refl _) _⟩
  have k8 : (x != 8) = true := by simpa using h8
  have hR : R = true := by rw [← HR.out, mayEndB, k8]; rfl
  subst hR
  go_enter Try.func133, Try.ntmps133
  go_wp2
  go_ret
  exact ⟨rfl, (Below.refl _ _).alloc (Nat.le_refl _) _⟩
set_option maxHeartbeats 800000 in
theorem greatestValue_any (r : PRow) (W : Nat) (w : World) (hW : r.width = (W : Int)) (h8 : W ≤ 8) :
    Calls Try.prog 115 #[progV r] w fun e w' => e = .returned (.int .i64 (((2 ^ W : Nat) : Int) - 1)) ∧ Below w.heap.size w w' := by
  obtain ⟨wd, ⟨a1, n1, c1⟩, ⟨a2, n2, c2⟩, tp, ⟨a3, n3, c3⟩, ⟨a4, n4, c4⟩, rows⟩ := r
  simp only [] at hW
  subst hW
  show Calls Try.prog 115 #[.agg #[.int .i64 (W : Int), .slice a1 n1 c1, .slice a2 n2 c2, .int .i64 tp, .slice a3 n3 c3, .slice a4 n4 c4]] w _
  have hc : W = 0 ∨ W = 1 ∨ W = 2 ∨ W = 3 ∨ W = 4 ∨ W = 5 ∨ W = 6 ∨ W = 7 ∨ W = 8 := by omega
  rcases hc with rfl | rfl | rfl | rfl | rfl | rfl | rfl | rfl | rfl
  all_goals
    go_enter Try.func115, Try.ntmps115
    go_wp2
    go_ret
    exact ⟨rfl, (Below.refl _ _).alloc (Nat.le_refl _) _⟩
theorem firstTemp_any (r : PRow) (w : World) (h1 : r.lows.2.1 ≤ 1048576) (h2 : r.secrets.2.1 ≤ 1048576) :
    Calls Try.prog 147 #[progV r] w fun e w' => e = .returned (.int .i64 ((r.lows.2.1 : Int) + (r.secrets.2.1 : Int))) ∧ Below w.heap.size w w' := by
  obtain ⟨wd, ⟨a1, n1, c1⟩, ⟨a2, n2, c2⟩, tp, ⟨a3, n3, c3⟩, ⟨a4, n4, c4⟩, rows⟩ := r
  simp only [] at h1 h2
  show Calls Try.prog 147 #[.agg #[.int .i64 wd, .slice a1 n1 c1, .slice a2 n2 c2, .int .i64 tp, .slice a3 n3 c3, .slice a4 n4 c4]] w _
  go_enter Try.func147, Try.ntmps147
  go_wp2
  go_ret
  exact ⟨rfl, (Below.refl _ _).alloc (Nat.le_refl _) _⟩
end Go.Proofs.Ytmooecbdpfhnlaa
