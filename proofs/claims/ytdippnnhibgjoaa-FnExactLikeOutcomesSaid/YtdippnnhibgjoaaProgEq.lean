/- The contracts of the laws' own comparison of programs (eqProg), and of what measures them (szStmt, szStmtS, szProg). -/
import Derived.Test.YtdippnnhibgjoaaProgCopies
namespace Go.Proofs.Ytdippnnhibgjoaa
open Go.RowKit

/-- The two blocks of a call of eqProg. -/
structure QBox (w wi : World) (c0 c1 : List Value) : Prop where
  one : Blk wi w.heap.size 31 c0
  two : Blk wi (w.heap.size + 1) 31 c1
  bel : Below w.heap.size w wi
theorem QBox.below {w wi wj : World} {c0 c1 : List Value} (h : QBox w wi c0 c1) (hb : Below wi.heap.size wi wj) : QBox w wj c0 c1 :=
  ⟨h.one.below hb h.one.lt, h.two.below hb h.two.lt, h.bel.trans (hb.mono h.bel.size)⟩
theorem qbox_new (w : World) (c0 c1 : List Value) : QBox w ((w.alloc (.cells c0.toArray 31)).alloc (.cells c1.toArray 31)) c0 c1 :=
  ⟨(Blk.new w _ _).alloc _, by simpa using Blk.new (w.alloc _) 31 c1, ((Below.refl _ _).alloc (Nat.le_refl _) _).alloc (by simp) _⟩
theorem prg_ne {p q : Prg} (h : ¬ (p.width = q.width ∧ p.lows = q.lows ∧ p.secrets = q.secrets ∧ p.temps = q.temps ∧ p.arrays = q.arrays ∧ p.body = q.body)) : decide (p = q) = false :=
  decide_eq_false (fun e => h (by subst e; exact ⟨rfl, rfl, rfl, rfl, rfl, rfl⟩))
set_option maxHeartbeats 3200000 in
theorem eqProg_any (r q : PRow) (p p' : Prg) (w : World) (h : ProgAt w r p) (h' : ProgAt w q p') :
    Calls Try.prog 24 #[progV r, progV q] w fun e w' => e = .returned (.bool (decide (p = p'))) ∧ Below w.heap.size w w' := by
  obtain ⟨wd, ⟨a1, n1, c1⟩, ⟨a2, n2, c2⟩, tp, ⟨a3, n3, c3⟩, ⟨a4, n4, c4⟩, rows⟩ := r
  obtain ⟨wd', ⟨b1, m1, d1⟩, ⟨b2, m2, d2⟩, tp', ⟨b3, m3, d3⟩, ⟨b4, m4, d4⟩, rows'⟩ := q
  obtain ⟨pw, pl, ps, pt, pa, pb⟩ := p
  obtain ⟨pw', pl', ps', pt', pa', pb'⟩ := p'
  obtain ⟨e1, e2, i1, i2, h1, h2, h3, h4⟩ := h
  obtain ⟨e1', e2', i1', i2', h1', h2', h3', h4'⟩ := h'
  simp only [] at e1 e2 i1 i2 h1 h2 h3 h4 e1' e2' i1' i2' h1' h2' h3' h4'
  subst e1 e2 e1' e2'
  show Calls Try.prog 24 #[.agg #[.int .i64 wd, .slice a1 n1 c1, .slice a2 n2 c2, .int .i64 tp, .slice a3 n3 c3, .slice a4 n4 c4], .agg #[.int .i64 wd', .slice b1 m1 d1, .slice b2 m2 d2, .int .i64 tp', .slice b3 m3 d3, .slice b4 m4 d4]] w _
  obtain ⟨wa, HW⟩ : ∃ wa, Hid (wa = ((w.alloc (.cells #[.int .i64 wd, .slice a1 n1 c1, .slice a2 n2 c2, .int .i64 tp, .slice a3 n3 c3, .slice a4 n4 c4] 31)).alloc (.cells #[.int .i64 wd', .slice b1 m1 d1, .slice b2 m2 d2, .int .i64 tp', .slice b3 m3 d3, .slice b4 m4 d4] 31))) := ⟨_, rfl⟩
  have BX : QBox w wa [.int .i64 wd, .slice a1 n1 c1, .slice a2 n2 c2, .int .i64 tp, .slice a3 n3 c3, .slice a4 n4 c4] [.int .i64 wd', .slice b1 m1 d1, .slice b2 m2 d2, .int .i64 tp', .slice b3 m3 d3, .slice b4 m4 d4] := by rw [HW.out]; exact qbox_new w _ _
  by_cases ew : wd = wd'
  · subst ew
    have hne0 : (wd != wd) = false := by simp
    go_enter Try.func24, Try.ntmps24
    go_wp2_with fail
    rw [← HW.out]
    refine (eqInputS_any _ _ _ _ _ _ _ _ _ (h1.below (Nat.le_refl _) BX.bel) (h1'.below (Nat.le_refl _) BX.bel)).mono ?_
    rintro e w1 ⟨rfl, hb1⟩
    have B1 := BX.below hb1
    clear BX HW hb1 h1 h1' hne0
    by_cases el : pl = pl'
    · subst el
      rw [decide_eq_true (rfl : pl = pl)]
      have f0 := B1.one.cell (j := 2) rfl
      have f1 := B1.two.cell (j := 2) rfl
      go_wp2_with fail
      refine (eqInputS_any _ _ _ _ _ _ _ _ _ (h2.below (Nat.le_refl _) B1.bel) (h2'.below (Nat.le_refl _) B1.bel)).mono ?_
      rintro e w2 ⟨rfl, hb2⟩
      have B2 := B1.below hb2
      clear B1 hb2 h2 h2' f0 f1
      by_cases es : ps = ps'
      · subst es
        rw [decide_eq_true (rfl : ps = ps)]
        have f0 := B2.one.cell (j := 3) rfl
        have f1 := B2.two.cell (j := 3) rfl
        by_cases et : tp = tp'
        · subst et
          have hne0 : (tp != tp) = false := by simp
          have f2 := B2.one.cell (j := 4) rfl
          have f3 := B2.two.cell (j := 4) rfl
          go_wp2_with fail
          refine (eqInt64S_any _ _ _ _ _ _ _ _ _ (h3.below B2.bel) (h3'.below B2.bel)).mono ?_
          rintro e w3 ⟨rfl, j, rfl⟩
          have B3 : QBox w (w2.drewN j) _ _ := ⟨B2.one, B2.two, below_dn B2.bel j⟩
          clear B2 h3 h3' f0 f1 f2 f3 hne0
          by_cases ea : pa = pa'
          · subst ea
            rw [decide_eq_true (rfl : pa = pa)]
            have f0 := B3.one.cell (j := 5) rfl
            have f1 := B3.two.cell (j := 5) rfl
            go_wp2_with fail
            refine (eqStmtS_any _ _ _ _ _ _ _ _ _ _ _ (h4.below B3.bel) (h4'.below B3.bel)).mono ?_
            rintro e w4 ⟨rfl, hb4⟩
            have hbel := B3.bel.trans (hb4.mono B3.bel.size)
            clear B3 hb4 h4 h4' f0 f1
            by_cases eb : pb = pb'
            · subst eb
              rw [decide_eq_true (rfl : pb = pb)]
              go_wp2
              go_ret
              exact ⟨ret_bool (by simp), hbel⟩
            · rw [decide_eq_false eb]
              go_wp2
              go_ret
              exact ⟨ret_bool (prg_ne (fun h => eb h.2.2.2.2.2)).symm, hbel⟩
          · rw [decide_eq_false ea]
            go_wp2
            go_ret
            exact ⟨ret_bool (prg_ne (fun h => ea h.2.2.2.2.1)).symm, B3.bel⟩
        · have hne0 : (tp != tp') = true := by simpa using et
          go_wp2
          go_ret
          exact ⟨ret_bool (prg_ne (fun h => et h.2.2.2.1)).symm, B2.bel⟩
      · rw [decide_eq_false es]
        go_wp2
        go_ret
        exact ⟨ret_bool (prg_ne (fun h => es h.2.2.1)).symm, B2.bel⟩
    · rw [decide_eq_false el]
      go_wp2
      go_ret
      exact ⟨ret_bool (prg_ne (fun h => el h.2.1)).symm, B1.bel⟩
  · have hne1 : (wd != wd') = true := by simpa using ew
    go_enter Try.func24, Try.ntmps24
    go_wp2
    go_ret
    exact ⟨ret_bool (prg_ne (fun h => ew h.1)).symm, by rw [← HW.out]; exact BX.bel⟩
end Go.Proofs.Ytdippnnhibgjoaa
