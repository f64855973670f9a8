/- The contracts of the model's l3Stmt (all kinds together) and l3Stmts. -/
import Derived.Test.YtdippnnhibgjoaaSpecStmt
namespace Go.Proofs.Ytdippnnhibgjoaa
open Go.RowKit

theorem l3Stmt_any (r : PRow) (W I T A : Nat) (x y : Int) (b1 b2 : Option Addr) (m1 m2 d1 d2 : Nat) (ts us : List Tm) (w : World) (hr : Lim r W I T A) (h1 : Terms w b1 m1 ts) (h2 : Terms w b2 m2 us) :
    Calls Try.prog 84 #[progV r, .agg #[.int .i64 x, .int .i64 y, .slice b1 m1 d1, .slice b2 m2 d2]] w fun e w' => e = .returned (.bool (stmtB (2 ^ W) I T A ⟨x, y, ts, us⟩)) ∧ Below w.heap.size w w' := by
  obtain ⟨wd, ⟨a1, n1, c1⟩, ⟨a2, n2, c2⟩, tp, ⟨a3, n3, c3⟩, ⟨a4, n4, c4⟩, rows⟩ := r
  have e1 := hr.inputs
  have e2 := hr.temps
  have e3 := hr.arrays
  simp only [] at e1 e2 e3
  subst e1 e2 e3
  by_cases h0 : x < 0 ∨ 9 < x
  · exact l3Stmt_out x h0 y wd a1 a2 a3 a4 b1 b2 n1 n2 n4 m1 m2 c1 c2 c3 c4 d1 d2 W T n3 rows ts us w hr h1 h2
  by_cases k : x = 3 ∨ x = 4 ∨ x = 8
  · exact l3Stmt_plain x k y wd a1 a2 a3 a4 b1 b2 n1 n2 n4 m1 m2 c1 c2 c3 c4 d1 d2 W T n3 rows ts us w hr h1 h2
  have hx : x = 0 ∨ x = 1 ∨ x = 2 ∨ x = 5 ∨ x = 6 ∨ x = 7 ∨ x = 9 := by omega
  rcases hx with rfl | rfl | rfl | rfl | rfl | rfl | rfl
  · exact l3Stmt_0 y wd a1 a2 a3 a4 b1 b2 n1 n2 n4 m1 m2 c1 c2 c3 c4 d1 d2 W T n3 rows ts us w hr h1 h2
  · exact l3Stmt_1 y wd a1 a2 a3 a4 b1 b2 n1 n2 n4 m1 m2 c1 c2 c3 c4 d1 d2 W T n3 rows ts us w hr h1 h2
  · exact l3Stmt_2 y wd a1 a2 a3 a4 b1 b2 n1 n2 n4 m1 m2 c1 c2 c3 c4 d1 d2 W T n3 rows ts us w hr h1 h2
  · exact l3Stmt_5 y wd a1 a2 a3 a4 b1 b2 n1 n2 n4 m1 m2 c1 c2 c3 c4 d1 d2 W T n3 rows ts us w hr h1 h2
  · exact l3Stmt_6 y wd a1 a2 a3 a4 b1 b2 n1 n2 n4 m1 m2 c1 c2 c3 c4 d1 d2 W T n3 rows ts us w hr h1 h2
  · exact l3Stmt_7 y wd a1 a2 a3 a4 b1 b2 n1 n2 n4 m1 m2 c1 c2 c3 c4 d1 d2 W T n3 rows ts us w hr h1 h2
  · exact l3Stmt_9 y wd a1 a2 a3 a4 b1 b2 n1 n2 n4 m1 m2 c1 c2 c3 c4 d1 d2 W T n3 rows ts us w hr h1 h2
def StTo (f : Stm → Bool) (ss : List Stm) (k : Nat) : Prop := ∀ i, i < k → f (stAt ss i) = true
theorem StTo.zero (f : Stm → Bool) (ss : List Stm) : StTo f ss 0 := fun i hi => absurd hi (by omega)
theorem StTo.succ {f : Stm → Bool} {ss : List Stm} {k : Nat} {t : Stm} (h : StTo f ss k) (hz : Hid (stAt ss k = t)) (ht : f t = true) : StTo f ss (k + 1) := by
  intro i hi
  rcases Nat.lt_or_ge i k with hlt | hge
  · exact h i hlt
  · have : i = k := by omega
    subst this; rw [hz.out]; exact ht
theorem stAt_mem {ss : List Stm} {k : Nat} (h : k < ss.length) : stAt ss k ∈ ss := by
  rw [stAt, List.getD_eq_getElem?_getD, List.getElem?_eq_getElem h]; exact List.getElem_mem h
theorem stTo_all {f : Stm → Bool} {ss : List Stm} (h : StTo f ss ss.length) : ss.all f = true := by
  rw [List.all_eq_true]
  intro z hz
  obtain ⟨i, hi, rfl⟩ := List.getElem_of_mem hz
  have := h i hi
  rw [stAt, List.getD_eq_getElem?_getD, List.getElem?_eq_getElem hi] at this
  simpa using this
theorem st_bad {f : Stm → Bool} {ss : List Stm} {k : Nat} {t : Stm} (hk : k < ss.length) (hz : Hid (stAt ss k = t)) (ht : f t = false) : ss.all f = false := by
  rw [← Bool.not_eq_true, List.all_eq_true]
  intro h
  have := h _ (stAt_mem hk)
  rw [hz.out, ht] at this
  exact absurd this (by simp)
set_option maxHeartbeats 3200000 in
theorem l3Stmts_any (r : PRow) (p : Prg) (W I T A : Nat) (w : World) (h : ProgAt w r p) (hr : Lim r W I T A) :
    Calls Try.prog 63 #[progV r] w fun e w' => e = .returned (.bool (p.body.all (stmtB (2 ^ W) I T A))) ∧ Below w.heap.size w w' := by
  have HX : Hid (∀ (x y : Int) (b1 b2 : Option Addr) (m1 m2 d1 d2 : Nat) (ts us : List Tm) (w' : World), Terms w' b1 m1 ts → Terms w' b2 m2 us → Calls Try.prog 84 #[progV r, .agg #[.int .i64 x, .int .i64 y, .slice b1 m1 d1, .slice b2 m2 d2]] w' fun e w'' => e = .returned (.bool (stmtB (2 ^ W) I T A ⟨x, y, ts, us⟩)) ∧ Below w'.heap.size w' w'') :=
    Lib.hid (fun x y b1 b2 m1 m2 d1 d2 ts us w' h1 h2 => l3Stmt_any r W I T A x y b1 b2 m1 m2 d1 d2 ts us w' hr h1 h2)
  have h4 := h.body
  clear h hr
  obtain ⟨wd, ⟨a1, n1, c1⟩, ⟨a2, n2, c2⟩, tp, ⟨a3, n3, c3⟩, ⟨a4, n4, c4⟩, rows⟩ := r
  obtain ⟨pw, pl, ps, pt, pa, pb⟩ := p
  simp only [] at h4
  obtain ⟨f, HF⟩ : ∃ f, Hid (stmtB (2 ^ W) I T A = f) := ⟨_, rfl⟩
  simp only [HF.out] at HX ⊢
  clear HF
  show Calls Try.prog 63 #[.agg #[.int .i64 wd, .slice a1 n1 c1, .slice a2 n2 c2, .int .i64 tp, .slice a3 n3 c3, .slice a4 n4 c4]] w _
  have HL := Lib.hid h4.2.1
  have hbd := h4.2.2.1
  obtain ⟨wa, HW⟩ : ∃ wa, Hid (wa = w.alloc (.cells #[.int .i64 wd, .slice a1 n1 c1, .slice a2 n2 c2, .int .i64 tp, .slice a3 n3 c3, .slice a4 n4 c4] 31)) := ⟨_, rfl⟩
  have BX : Blk wa w.heap.size 31 [.int .i64 wd, .slice a1 n1 c1, .slice a2 n2 c2, .int .i64 tp, .slice a3 n3 c3, .slice a4 n4 c4] := by rw [HW.out]; exact Blk.new w _ _
  have HB : Below w.heap.size w wa := by rw [HW.out]; exact (Below.refl _ _).alloc (Nat.le_refl _) _
  go_enter Try.func63, Try.ntmps63
  go_wp2
  rw [← HW.out]
  go_loopw [3] (fun i wr => ∃ k : Nat, k ≤ n4 ∧ i = .int .i64 (k : Int) ∧ StTo f pb k ∧ Below wa.heap.size wa wr) (fun i _ => n4 - (intOf i).toNat)
  case atStart => exact ⟨0, Nat.zero_le _, rfl, StTo.zero _ _, Below.refl _ _⟩
  case round =>
    obtain ⟨k, hk, rfl, hg, hbl⟩ := hrel
    have hbel := HB.trans (hbl.mono HB.size)
    have B1 := BX.below hbl BX.lt
    have t5 := B1.cell (j := 5) rfl
    by_cases hlt : k < n4
    · obtain ⟨b, o, x, y, p1, m1, d1, p2, m2, d2, ts, us, rfl, hb, hz, hin1, hin2, hc1, hc2, hc3, hc4, hT1, hT2⟩ := (h4.below hbel).at_ hlt
      have f1 := lat_cell hb hc1
      have f2 := lat_cell hb hc2
      have f3 := lat_cell hb hc3
      have f4 := lat_cell hb hc4
      have g0 := lat_cell B1.lt (B1.cell (j := 0) rfl)
      have g1 := lat_cell B1.lt (B1.cell (j := 1) rfl)
      have g2 := lat_cell B1.lt (B1.cell (j := 2) rfl)
      have g3 := lat_cell B1.lt (B1.cell (j := 3) rfl)
      have g4 := lat_cell B1.lt (B1.cell (j := 4) rfl)
      have g5 := lat_cell B1.lt (B1.cell (j := 5) rfl)
      clear hc1 hc2 hc3 hc4
      obtain ⟨q, HQ⟩ : ∃ q, Hid (f ⟨x, y, ts, us⟩ = q) := ⟨_, rfl⟩
      have HC : Hid (∀ p : Lat wr, Calls Try.prog 84 #[.agg #[.int .i64 wd, .slice a1 n1 c1, .slice a2 n2 c2, .int .i64 tp, .slice a3 n3 c3, .slice (some ⟨b, o, none⟩) n4 c4], .agg #[.int .i64 x, .int .i64 y, .slice p1 m1 d1, .slice p2 m2 d2]] p.wd fun e w' => e = .returned (.bool q) ∧ Below p.wd.heap.size p.wd w') := Lib.hid (fun p => by
        rw [← HQ.out]; exact HX.out _ _ _ _ _ _ _ _ _ _ _ (hT1.below (Nat.le_refl _) p.ok) (hT2.below (Nat.le_refl _) p.ok))
      clear hT1 hT2
      cases q with
      | true =>
        go_wp2
        refine wp_region_lat (by kernel_rfl) (by kernel_rfl) ?_
        repeat (go_big_quiet_step ((go_at_call 84; exact lat_calls (HC.out _))))
        refine wpQuiet_nil ?_
        intro _ hw'
        obtain ⟨⟨wq, hwq⟩, hw''⟩ := hw'
        subst hw''
        have ht := hbl.trans (hwq.mono hbl.size)
        clear f1 f2 f3 f4 g0 g1 g2 g3 g4 g5 HC t5
        go_wp2
        go_roundw
        case rel => exact ⟨k + 1, by omega, by go_num, hg.succ hz HQ.out, ht⟩
        case measure => simp [intOf]; omega
      | false =>
        go_wp2
        refine wp_region_lat (by kernel_rfl) (by kernel_rfl) ?_
        repeat (go_big_quiet_step ((go_at_call 84; exact lat_calls (HC.out _))))
        refine wpQuiet_nil ?_
        intro _ hw'
        obtain ⟨⟨wq, hwq⟩, hw''⟩ := hw'
        subst hw''
        have ht := hbl.trans (hwq.mono hbl.size)
        have ht2 := HB.trans (ht.mono HB.size)
        clear f1 f2 f3 f4 g0 g1 g2 g3 g4 g5 HC t5
        go_wp2
        go_ret
        exact ⟨ret_bool (st_bad (by rw [HL.out]; exact hlt) hz HQ.out).symm, ht2⟩
    · obtain rfl : n4 = k := by omega
      go_wp2
      go_ret
      exact ⟨ret_bool (stTo_all (by rw [HL.out]; exact hg)).symm, hbel⟩
end Go.Proofs.Ytdippnnhibgjoaa
