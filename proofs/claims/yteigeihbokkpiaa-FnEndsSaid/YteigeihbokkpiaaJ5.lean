/- Joined texts of this proof (SegMath, StmtEq, ProgCopies, ProgEq), in build order. -/
import Derived.Test.YteigeihbokkpiaaJ4
import Derived.Test.YteigeihbokkpiaaJ1
/- Plain mathematics: a part of a body, cut out of it, is nested as it was, and takes as many steps. -/
namespace Go.Proofs.Yteigeihbokkpiaa

/-- The statements from lo up to hi. -/
def seg (ss : List Stm) (lo hi : Nat) : List Stm := (ss.drop lo).take (hi - lo)
theorem seg_len {ss : List Stm} {lo hi : Nat} (h1 : lo ≤ hi) (h2 : hi ≤ ss.length) : (seg ss lo hi).length = hi - lo := by
  unfold seg; rw [List.length_take, List.length_drop]; omega
theorem seg_at {ss : List Stm} {lo hi i : Nat} (h : lo + i < hi) : stAt (seg ss lo hi) i = stAt ss (lo + i) := by
  unfold seg stAt
  rw [List.getD_eq_getElem?_getD, List.getD_eq_getElem?_getD, List.getElem?_take_of_lt (by omega), List.getElem?_drop]
theorem seg_op {ss : List Stm} {lo hi i : Nat} (h : lo + i < hi) : opAt (seg ss lo hi) i = opAt ss (lo + i) := by unfold opAt; rw [seg_at h]
section
variable {ss : List Stm} {lo hi : Nat} (h1 : lo ≤ hi) (h2 : hi ≤ ss.length)
def SegB (ss : List Stm) (lo hi i : Nat) : Prop := ∀ j : Nat, blockOf ss (lo + i) = ((lo + j : Nat) : Int) → lo + j ≤ hi → blockOf (seg ss lo hi) i = (j : Int)
def SegE (ss : List Stm) (lo hi i : Nat) : Prop :=
  (∀ e : Nat, endOf ss (lo + i) = (-1, ((lo + e : Nat) : Int)) → lo + e < hi → endOf (seg ss lo hi) i = (-1, (e : Int))) ∧
  ∀ m e : Nat, endOf ss (lo + i) = (((lo + m : Nat) : Int), ((lo + e : Nat) : Int)) → lo + e < hi → endOf (seg ss lo hi) i = ((m : Int), (e : Int))
include h1 h2 in
theorem segE_of {i : Nat} (hi' : lo + i < hi) (hb : ∀ j, i < j → lo + j ≤ hi → SegB ss lo hi j) : SegE ss lo hi i := by
  have hl := seg_len h1 h2
  have hs : i < (seg ss lo hi).length := by omega
  have hlt : lo + i < ss.length := by omega
  obtain ⟨M, hM⟩ : ∃ M, blockOf ss (lo + i + 1) = M := ⟨_, rfl⟩
  have hin := block_in ss (i := lo + i + 1) (by omega)
  rw [hM] at hin
  have heq := end_eq hlt hM
  have hop := seg_op (ss := ss) hi'
  have at_ : ∀ (k : Nat) (op : Int), lo + k < hi → isAt ss ((lo + k : Nat) : Int) op = isAt (seg ss lo hi) (k : Int) op := fun k op hk => by
    simp only [isAt, Int.toNat_natCast, seg_op hk]
    congr 1
    rw [decide_eq_true (by omega), decide_eq_true (by omega), decide_eq_true (by omega), decide_eq_true (by omega)]
  have one : ∀ e : Nat, M = ((lo + e : Nat) : Int) → lo + e < hi → blockOf (seg ss lo hi) (i + 1) = (e : Int) := fun e he hlt => by
    rcases hin with q | q
    · omega
    · exact hb (i + 1) (by omega) (by omega) e (by rw [← Nat.add_assoc, hM, he]) (by omega)
  have two : ∀ m e : Nat, i < m → lo + m < hi → blockOf ss (lo + m + 1) = ((lo + e : Nat) : Int) → lo + e < hi → blockOf (seg ss lo hi) (m + 1) = (e : Int) := fun m e him hm he hlt =>
    hb (m + 1) (by omega) (by omega) e (by rw [← Nat.add_assoc, he]) (by omega)
  refine ⟨fun e he hlt' => ?_, fun m e he hlt' => ?_⟩
  · rw [he] at heq
    -- the end is M
    have hMe : M = ((lo + e : Nat) : Int) ∧ isAt ss M 4 = true ∧ (opAt ss (lo + i) = 5 ∨ opAt ss (lo + i) = 2) := by
      split at heq
      · rename_i ho
        split at heq
        · rename_i h4; injection heq with q1 q2; exact ⟨q2.symm, h4, .inl ho⟩
        · injection heq with q1 q2; omega
      · split at heq
        · rename_i ho
          split at heq
          · rename_i h4; injection heq with q1 q2; exact ⟨q2.symm, h4, .inr ho⟩
          · split at heq
            · rename_i h3
              have := isAt_range h3
              split at heq
              · injection heq with q1 q2; omega
              · injection heq with q1 q2; omega
            · injection heq with q1 q2; omega
        · split at heq
          · split at heq
            · rename_i h3
              have := isAt_range h3
              split at heq
              · injection heq with q1 q2; omega
              · injection heq with q1 q2; omega
            · injection heq with q1 q2; omega
          · injection heq with q1 q2; omega
    obtain ⟨q1, q2, q3⟩ := hMe
    rw [end_eq hs (one e q1 hlt'), hop]
    rw [q1, at_ e 4 hlt'] at q2
    rcases q3 with q3 | q3
    · rw [if_pos q3, if_pos q2]
    · rw [if_neg (by omega), if_pos q3, if_pos q2]
  · rw [he] at heq
    have hMe : M = ((lo + m : Nat) : Int) ∧ blockOf ss (M.toNat + 1) = ((lo + e : Nat) : Int) ∧ isAt ss (blockOf ss (M.toNat + 1)) 4 = true ∧ ((opAt ss (lo + i) = 2 ∧ isAt ss M 4 = false ∧ isAt ss M 3 = true) ∨ (opAt ss (lo + i) = 8 ∧ isAt ss M 9 = true)) := by
      split at heq
      · split at heq
        · injection heq with q1 q2; omega
        · injection heq with q1 q2; omega
      · split at heq
        · rename_i ho
          split at heq
          · injection heq with q1 q2; omega
          · rename_i h4
            split at heq
            · rename_i h3
              split at heq
              · rename_i h5; injection heq with q1 q2; exact ⟨q1.symm, q2.symm, h5, .inl ⟨ho, by simpa using h4, h3⟩⟩
              · injection heq with q1 q2; omega
            · injection heq with q1 q2; omega
        · split at heq
          · rename_i ho
            split at heq
            · rename_i h3
              split at heq
              · rename_i h5; injection heq with q1 q2; exact ⟨q1.symm, q2.symm, h5, .inr ⟨ho, h3⟩⟩
              · injection heq with q1 q2; omega
            · injection heq with q1 q2; omega
          · injection heq with q1 q2; omega
    obtain ⟨q1, q2, q3, q4⟩ := hMe
    have hmi : i < m := by rcases hin with q | q <;> omega
    have hr := isAt_range q3
    rw [q2] at q3
    rw [q1, Int.toNat_natCast] at q2
    have hin2 := block_in ss (i := lo + m + 1) (by
      rcases q4 with ⟨_, _, h3⟩ | ⟨_, h3⟩
      · have := isAt_range h3; omega
      · have := isAt_range h3; omega)
    rw [q2] at hin2
    have hme : m < e := by rcases hin2 with q | q <;> omega
    have hb1 := one m q1 (by omega)
    have hb2 := two m e hmi (by omega) q2 hlt'
    rw [at_ e 4 hlt'] at q3
    rw [end_eq hs hb1, hop, Int.toNat_natCast, hb2]
    rcases q4 with ⟨ho, h4, h3⟩ | ⟨ho, h9⟩
    · rw [q1, at_ m _ (by omega)] at h4 h3
      rw [if_neg (by omega), if_pos ho, if_neg (by rw [h4]; simp), if_pos h3, if_pos q3]
    · rw [q1, at_ m _ (by omega)] at h9
      rw [if_neg (by omega), if_neg (by omega), if_pos ho, if_pos h9, if_pos q3]
include h1 h2 in
theorem segB_of {i : Nat} (hi' : lo + i ≤ hi) (he : lo + i < hi → SegE ss lo hi i) (hb : ∀ j, i < j → lo + j ≤ hi → SegB ss lo hi j) : SegB ss lo hi i := by
  have hl := seg_len h1 h2
  intro j hj hjh
  have hin := block_in ss (i := lo + i) (by omega)
  rw [hj] at hin
  have hij : i ≤ j := by rcases hin with q | q <;> omega
  rcases Nat.lt_or_ge (lo + i) hi with hlt | hge
  case inr =>
    obtain rfl : i = j := by omega
    rw [block_past (by omega)]
  have hs : i < (seg ss lo hi).length := by omega
  have hl2 : lo + i < ss.length := by omega
  have hop := seg_op (ss := ss) hlt
  by_cases hst : opAt ss (lo + i) = 3 ∨ opAt ss (lo + i) = 9 ∨ opAt ss (lo + i) = 4
  · rw [block_stop hl2 hst] at hj
    obtain rfl : i = j := by omega
    rw [block_stop hs (by rw [hop]; exact hst)]
  by_cases ho : opAt ss (lo + i) = 2 ∨ opAt ss (lo + i) = 5 ∨ opAt ss (lo + i) = 8
  case neg =>
    rw [block_next hl2 hst ho] at hj
    rw [block_next hs (by rw [hop]; exact hst) (by rw [hop]; exact ho)]
    exact hb (i + 1) (by omega) (by omega) j (by rw [← Nat.add_assoc, hj]) hjh
  by_cases hneg : (endOf ss (lo + i)).2 < 0
  · rw [block_bad hl2 ho hneg] at hj; omega
  have hE := end_in ss hl2
  obtain ⟨⟨p1, p2⟩, hP⟩ : ∃ P, endOf ss (lo + i) = P := ⟨_, rfl⟩
  rw [block_over hl2 ho (by omega)] at hj
  rw [hP] at hE hneg hj
  simp only [] at hneg hj
  have hin2 : ((lo + i : Nat) : Int) < p2 ∧ p2 < ss.length ∧ (p1 = -1 ∨ (((lo + i : Nat) : Int) < p1 ∧ p1 < p2)) := by
    rcases hE with q | q
    · injection q with q1 q2; omega
    · exact q
  obtain ⟨e, rfl⟩ : ∃ e : Nat, p2 = ((lo + e : Nat) : Int) := ⟨(p2 - lo).toNat, by omega⟩
  rw [Int.toNat_natCast] at hj
  have hinj := block_in ss (i := lo + e + 1) (by omega)
  rw [hj] at hinj
  have hej : e < j := by rcases hinj with q | q <;> omega
  have hend : (endOf (seg ss lo hi) i).2 = (e : Int) := by
    rcases hin2.2.2 with q | q
    · subst q
      rw [(he hlt).1 e hP (by omega)]
    · obtain ⟨m, rfl⟩ : ∃ m : Nat, p1 = ((lo + m : Nat) : Int) := ⟨(p1 - lo).toNat, by omega⟩
      rw [(he hlt).2 m e hP (by omega)]
  rw [block_over hs (by rw [hop]; exact ho) (by rw [hend]; omega), hend, Int.toNat_natCast]
  exact hb (e + 1) (by omega) (by omega) j (by rw [← Nat.add_assoc, hj]) hjh
include h1 h2 in
theorem seg_all : ∀ (d i : Nat), hi - (lo + i) ≤ d → lo + i ≤ hi → SegB ss lo hi i ∧ (lo + i < hi → SegE ss lo hi i)
  | 0, i, hd, hi' => ⟨segB_of h1 h2 hi' (fun h => absurd h (by omega)) (fun j ha hb => absurd ha (by omega)), fun h => absurd h (by omega)⟩
  | d + 1, i, hd, hi' => by
    have hb : ∀ j, i < j → lo + j ≤ hi → SegB ss lo hi j := fun j ha hb => (seg_all d j (by omega) hb).1
    have he : lo + i < hi → SegE ss lo hi i := fun h => segE_of h1 h2 h hb
    exact ⟨segB_of h1 h2 hi' he hb, he⟩
include h1 h2 in
theorem seg_end {i : Nat} (h : lo + i < hi) : SegE ss lo hi i := (seg_all h1 h2 _ i (Nat.le_refl _) (by omega)).2 h
include h1 h2 in
theorem steps_seg {i j s : Nat} (h : Steps ss i j s) : ∀ i' j', i = lo + i' → j = lo + j' → j ≤ hi → Steps (seg ss lo hi) i' j' s := by
  have hl := seg_len h1 h2
  induction h with
  | nil i =>
    intro i' j' e1 e2 _
    obtain rfl : i' = j' := by omega
    exact .nil _
  | @plain i j s hi' g2 g5 g8 t ih =>
    intro i' j' e1 e2 hj
    subst e1 e2
    have hle := (steps_small t).1
    have hop := seg_op (ss := ss) (lo := lo) (hi := hi) (i := i') (by omega)
    exact .plain (by omega) (by rw [hop]; exact g2) (by rw [hop]; exact g5) (by rw [hop]; exact g8) (ih (i' + 1) j' (by omega) rfl hj)
  | @one i e j s t hi' g2 he p q ih1 ih2 =>
    intro i' j' e1 e2 hj
    subst e1 e2
    have hle := (steps_small p).1
    have hle2 := (steps_small q).1
    obtain ⟨e', rfl⟩ : ∃ e', e = lo + e' := ⟨e - lo, by omega⟩
    have hop := seg_op (ss := ss) (lo := lo) (hi := hi) (i := i') (by omega)
    exact .one (by omega) (by rw [hop]; exact g2) ((seg_end h1 h2 (by omega)).1 e' he (by omega)) (ih1 (i' + 1) e' (by omega) rfl (by omega)) (ih2 (e' + 1) j' (by omega) rfl hj)
  | @two i m e j s s' t hi' g2 he p p' q ih1 ih2 ih3 =>
    intro i' j' e1 e2 hj
    subst e1 e2
    have hle := (steps_small p).1
    have hle2 := (steps_small p').1
    have hle3 := (steps_small q).1
    obtain ⟨m', rfl⟩ : ∃ m', m = lo + m' := ⟨m - lo, by omega⟩
    obtain ⟨e', rfl⟩ : ∃ e', e = lo + e' := ⟨e - lo, by omega⟩
    have hop := seg_op (ss := ss) (lo := lo) (hi := hi) (i := i') (by omega)
    exact .two (by omega) (by rw [hop]; exact g2) ((seg_end h1 h2 (by omega)).2 m' e' he (by omega)) (ih1 (i' + 1) m' (by omega) rfl (by omega)) (ih2 (m' + 1) e' (by omega) rfl (by omega)) (ih3 (e' + 1) j' (by omega) rfl hj)
  | @loop i e j k s t hi' g5 he hk h4 p q ih1 ih2 =>
    intro i' j' e1 e2 hj
    subst e1 e2
    have hle := (steps_small p).1
    have hle2 := (steps_small q).1
    obtain ⟨e', rfl⟩ : ∃ e', e = lo + e' := ⟨e - lo, by omega⟩
    have hop := seg_op (ss := ss) (lo := lo) (hi := hi) (i := i') (by omega)
    have hat := seg_at (ss := ss) (lo := lo) (hi := hi) (i := i') (by omega)
    exact .loop (by omega) (by rw [hop]; exact g5) ((seg_end h1 h2 (by omega)).1 e' he (by omega)) (by rw [hat]; exact hk) h4 (ih1 (i' + 1) e' (by omega) rfl (by omega)) (ih2 (e' + 1) j' (by omega) rfl hj)
  | @attempt i m e j s s' t hi' g8 he p p' q ih1 ih2 ih3 =>
    intro i' j' e1 e2 hj
    subst e1 e2
    have hle := (steps_small p).1
    have hle2 := (steps_small p').1
    have hle3 := (steps_small q).1
    obtain ⟨m', rfl⟩ : ∃ m', m = lo + m' := ⟨m - lo, by omega⟩
    obtain ⟨e', rfl⟩ : ∃ e', e = lo + e' := ⟨e - lo, by omega⟩
    have hop := seg_op (ss := ss) (lo := lo) (hi := hi) (i := i') (by omega)
    exact .attempt (by omega) (by rw [hop]; exact g8) ((seg_end h1 h2 (by omega)).2 m' e' he (by omega)) (ih1 (i' + 1) m' (by omega) rfl (by omega)) (ih2 (m' + 1) e' (by omega) rfl (by omega)) (ih3 (e' + 1) j' (by omega) rfl hj)
end
/-- A part, cut out: as many steps. -/
theorem part_seg {ss : List Stm} {i j s : Nat} (h : Steps ss i j s) (hj : j ≤ ss.length) : Steps (seg ss i j) 0 (j - i) s :=
  steps_seg (steps_small h).1 hj h 0 (j - i) rfl (by have := (steps_small h).1; omega) (Nat.le_refl _)
end Go.Proofs.Yteigeihbokkpiaa
/- The contracts of the laws' own comparisons of Stmts and of slices of Stmts. -/
namespace Go.Proofs.Yteigeihbokkpiaa
open Go.RowKit

theorem stm_ne {x y x' y' : Int} {ts us ts' us' : List Tm} (h : ¬ (x = x' ∧ y = y' ∧ ts = ts' ∧ us = us')) : decide ((⟨x, y, ts, us⟩ : Stm) = ⟨x', y', ts', us'⟩) = false :=
  decide_eq_false (fun e => h (by injection e with e1 e2 e3 e4; exact ⟨e1, e2, e3, e4⟩))
set_option maxHeartbeats 1600000 in
theorem eqStmt_any (x y x' y' : Int) (a1 a2 b1 b2 : Option Addr) (n1 n2 m1 m2 c1 c2 d1 d2 : Nat) (ts us ts' us' : List Tm) (w : World) (h1 : Terms w a1 n1 ts) (h2 : Terms w a2 n2 us) (h3 : Terms w b1 m1 ts') (h4 : Terms w b2 m2 us') :
    Calls Try.prog 65 #[.agg #[.int .i64 x, .int .i64 y, .slice a1 n1 c1, .slice a2 n2 c2], .agg #[.int .i64 x', .int .i64 y', .slice b1 m1 d1, .slice b2 m2 d2]] w fun e w' => e = .returned (.bool (decide ((⟨x, y, ts, us⟩ : Stm) = ⟨x', y', ts', us'⟩))) ∧ Below w.heap.size w w' := by
  have HB : Below w.heap.size w ((w.alloc (.cells #[.int .i64 x, .int .i64 y, .slice a1 n1 c1, .slice a2 n2 c2] 46)).alloc (.cells #[.int .i64 x', .int .i64 y', .slice b1 m1 d1, .slice b2 m2 d2] 46)) := ((Below.refl _ _).alloc (Nat.le_refl _) _).alloc (by simp) _
  by_cases e1 : x = x'
  · subst e1
    have hne0 : (x != x) = false := by simp
    by_cases e2 : y = y'
    · subst e2
      have hne1 : (y != y) = false := by simp
      have b0 : Blk ((w.alloc (.cells #[.int .i64 x, .int .i64 y, .slice a1 n1 c1, .slice a2 n2 c2] 46)).alloc (.cells #[.int .i64 x, .int .i64 y, .slice b1 m1 d1, .slice b2 m2 d2] 46)) w.heap.size 46 [.int .i64 x, .int .i64 y, .slice a1 n1 c1, .slice a2 n2 c2] := (Blk.new w _ _).alloc _
      have b1' : Blk ((w.alloc (.cells #[.int .i64 x, .int .i64 y, .slice a1 n1 c1, .slice a2 n2 c2] 46)).alloc (.cells #[.int .i64 x, .int .i64 y, .slice b1 m1 d1, .slice b2 m2 d2] 46)) (w.heap.size + 1) 46 [.int .i64 x, .int .i64 y, .slice b1 m1 d1, .slice b2 m2 d2] := by simpa using Blk.new (w.alloc _) 46 [.int .i64 x, .int .i64 y, .slice b1 m1 d1, .slice b2 m2 d2]
      have H0 := Lib.hid b0
      have H1 := Lib.hid b1'
      have HH := Lib.hid HB
      clear b0 b1' HB
      go_enter Try.func65, Try.ntmps65
      go_wp2_with fail
      refine (eqTermS_any _ _ _ _ _ _ _ _ _ (h1.below (Nat.le_refl _) HH.out) (h3.below (Nat.le_refl _) HH.out)).mono ?_
      rintro e w1 ⟨rfl, hb1⟩
      have q0 := (H0.out.below hb1 H0.out.lt).cell (j := 3) rfl
      have q1 := (H1.out.below hb1 H1.out.lt).cell (j := 3) rfl
      have hbel := HH.out.trans (hb1.mono HH.out.size)
      clear H0 H1 HH hb1 h1 h3
      by_cases e3 : ts = ts'
      · subst e3
        rw [decide_eq_true (rfl : ts = ts)]
        go_wp2_with fail
        refine (eqTermS_any _ _ _ _ _ _ _ _ _ (h2.below (Nat.le_refl _) hbel) (h4.below (Nat.le_refl _) hbel)).mono ?_
        rintro e w2 ⟨rfl, hb2⟩
        have hbel2 := hbel.trans (hb2.mono hbel.size)
        clear q0 q1 hb2 h2 h4 hbel
        by_cases e4 : us = us'
        · subst e4
          rw [decide_eq_true (rfl : us = us)]
          go_wp2
          go_ret
          exact ⟨ret_bool (by simp), hbel2⟩
        · rw [decide_eq_false e4]
          go_wp2
          go_ret
          exact ⟨ret_bool (stm_ne (fun h => e4 h.2.2.2)).symm, hbel2⟩
      · rw [decide_eq_false e3]
        go_wp2
        go_ret
        exact ⟨ret_bool (stm_ne (fun h => e3 h.2.2.1)).symm, hbel⟩
    · have hne1 : (y != y') = true := by simpa using e2
      go_enter Try.func65, Try.ntmps65
      go_wp2
      go_ret
      exact ⟨ret_bool (stm_ne (fun h => e2 h.2.1)).symm, HB⟩
  · have hne1 : (x != x') = true := by simpa using e1
    go_enter Try.func65, Try.ntmps65
    go_wp2
    go_ret
    exact ⟨ret_bool (stm_ne (fun h => e1 h.1)).symm, HB⟩
/-- The first k are alike. -/
def EqSt (xs ys : List Stm) (k : Nat) : Prop := ∀ i, i < k → stAt xs i = stAt ys i
theorem EqSt.zero (xs ys : List Stm) : EqSt xs ys 0 := fun i hi => absurd hi (by omega)
theorem EqSt.succ {xs ys : List Stm} {k : Nat} {t u : Stm} (h : EqSt xs ys k) (hx : Hid (stAt xs k = t)) (hy : Hid (stAt ys k = u)) (e : t = u) : EqSt xs ys (k + 1) := by
  intro i hi
  rcases Nat.lt_or_ge i k with hlt | hge
  · exact h i hlt
  · have : i = k := by omega
    subst this; rw [hx.out, hy.out]; exact e
theorem eqSt_all {xs ys : List Stm} (hl : xs.length = ys.length) (h : EqSt xs ys xs.length) : xs = ys := by
  apply List.ext_getElem hl
  intro i h1 h2
  have := h i h1
  simpa [stAt, List.getD_eq_getElem?_getD, h1, h2] using this
set_option maxHeartbeats 1600000 in
theorem eqStmtS_any (a b : Option Addr) (n m c d : Nat) (rs qs : List SRow) (xs ys : List Stm) (w : World) (hx : Stmts w a n rs xs) (hy : Stmts w b m qs ys) :
    Calls Try.prog 28 #[.slice a n c, .slice b m d] w fun e w' => e = .returned (.bool (decide (xs = ys))) ∧ Below w.heap.size w w' := by
  have HL := Lib.hid hx.2.1
  have HM := Lib.hid hy.2.1
  have hbd := hx.2.2.1
  have hbe := hy.2.2.1
  by_cases hnm : n = m
  · subst hnm
    have hne0 : ((n : Int) != (n : Int)) = false := by simp
    go_enter Try.func28, Try.ntmps28
    go_wp2
    go_loopw [5] (fun i wr => ∃ k : Nat, k ≤ n ∧ i = .int .i64 k ∧ EqSt xs ys k ∧ Below w.heap.size w wr) (fun i _ => n - (intOf i).toNat)
    case atStart => exact ⟨0, Nat.zero_le _, rfl, EqSt.zero _ _, Below.refl _ _⟩
    case round =>
      obtain ⟨k, hk, rfl, hg, hbel⟩ := hrel
      by_cases hlt : k < n
      · obtain ⟨b1, o1, x1, y1, p1, n1, c1, p2, n2, c2, ts, us, rfl, hb1, hxk, hin1, hin2, hc1, hc2, hc3, hc4, hT1, hT2⟩ := (hx.below hbel).at_ hlt
        obtain ⟨b2, o2, x2, y2, p3, n3, c3, p4, n4, c4, ts', us', rfl, hb2, hyk, hin3, hin4, hc5, hc6, hc7, hc8, hT3, hT4⟩ := (hy.below hbel).at_ hlt
        have f1 := lat_cell hb1 hc1
        have f2 := lat_cell hb1 hc2
        have f3 := lat_cell hb1 hc3
        have f4 := lat_cell hb1 hc4
        have f5 := lat_cell hb2 hc5
        have f6 := lat_cell hb2 hc6
        have f7 := lat_cell hb2 hc7
        have f8 := lat_cell hb2 hc8
        clear hc1 hc2 hc3 hc4 hc5 hc6 hc7 hc8
        obtain ⟨q, HQ⟩ : ∃ q, Hid (decide ((⟨x1, y1, ts, us⟩ : Stm) = ⟨x2, y2, ts', us'⟩) = q) := ⟨_, rfl⟩
        have hcon : ∀ p : Lat wr, Calls Try.prog 65 #[.agg #[.int .i64 x1, .int .i64 y1, .slice p1 n1 c1, .slice p2 n2 c2], .agg #[.int .i64 x2, .int .i64 y2, .slice p3 n3 c3, .slice p4 n4 c4]] p.wd fun e w' => e = .returned (.bool q) ∧ Below p.wd.heap.size p.wd w' := fun p => by
          rw [← HQ.out]; exact eqStmt_any _ _ _ _ _ _ _ _ _ _ _ _ _ _ _ _ _ _ _ _ _ (hT1.below (Nat.le_refl _) p.ok) (hT2.below (Nat.le_refl _) p.ok) (hT3.below (Nat.le_refl _) p.ok) (hT4.below (Nat.le_refl _) p.ok)
        have HC := Lib.hid hcon
        clear hcon hT1 hT2 hT3 hT4
        cases q with
        | true =>
          have HE := Lib.hid (of_decide_eq_true HQ.out)
          go_wp2
          refine wp_region_lat (by kernel_rfl) (by kernel_rfl) ?_
          repeat (quiet_step ((go_at_call 65; exact lat_calls (HC.out _))))
          refine wpQuiet_nil ?_
          intro _ hw'
          obtain ⟨⟨wq, hwq⟩, hw''⟩ := hw'
          subst hw''
          have ht := hbel.trans (hwq.mono hbel.size)
          clear f1 f2 f3 f4 f5 f6 f7 f8 HC
          go_wp2
          go_roundw
          case rel => exact ⟨k + 1, by omega, by go_num, hg.succ hxk hyk HE.out, ht⟩
          case measure => simp [intOf]; omega
        | false =>
          have HE := Lib.hid (of_decide_eq_false HQ.out)
          go_wp2
          refine wp_region_lat (by kernel_rfl) (by kernel_rfl) ?_
          repeat (quiet_step ((go_at_call 65; exact lat_calls (HC.out _))))
          refine wpQuiet_nil ?_
          intro _ hw'
          obtain ⟨⟨wq, hwq⟩, hw''⟩ := hw'
          subst hw''
          have ht := hbel.trans (hwq.mono hbel.size)
          clear f1 f2 f3 f4 f5 f6 f7 f8 HC
          go_wp2
          go_ret
          exact ⟨ret_bool (decide_eq_false (fun h => HE.out (by rw [← hxk.out, ← hyk.out, h]))).symm, ht⟩
      · obtain rfl : n = k := by omega
        go_wp2
        go_ret
        exact ⟨ret_bool (decide_eq_true (eqSt_all (HL.out.trans HM.out.symm) (by rw [HL.out]; exact hg))).symm, hbel⟩
  · have hne : ((n : Int) != (m : Int)) = true := by simp; omega
    go_enter Try.func28, Try.ntmps28
    go_wp2
    go_ret
    exact ⟨ret_bool (decide_eq_false (fun h => hnm (by rw [← HL.out, ← HM.out, h]))).symm, Below.refl _ _⟩
end Go.Proofs.Yteigeihbokkpiaa
/- Words for programs (six cells: a number, two slices of Inputs, a number, a slice of numbers, a slice of Stmts); the contract of the laws' own copy of one (toProg). -/
namespace Go.Proofs.Yteigeihbokkpiaa
open Go.RowKit

structure Prg where
  width : Int
  lows : List Tm
  secrets : List Tm
  temps : Int
  arrays : List Int
  body : List Stm
deriving DecidableEq
/-- Its six cells, and the cells of its statements. -/
structure PRow where
  width : Int
  lows : Sl
  secrets : Sl
  temps : Int
  arrays : Sl
  body : Sl
  rows : List SRow
def progV (r : PRow) : Value := .agg #[.int .i64 r.width, slV r.lows, slV r.secrets, .int .i64 r.temps, slV r.arrays, slV r.body]

/-- The cells r read as the program p. -/
structure ProgAt (w : World) (r : PRow) (p : Prg) : Prop where
  width : r.width = p.width
  temps : r.temps = p.temps
  inW : In64 p.width
  inT : In64 p.temps
  lows : Terms w r.lows.1 r.lows.2.1 p.lows
  secrets : Terms w r.secrets.1 r.secrets.2.1 p.secrets
  arrays : Ints w r.arrays.1 r.arrays.2.1 p.arrays
  body : Stmts w r.body.1 r.body.2.1 r.rows p.body
theorem ProgAt.below {w w' : World} {r : PRow} {p : Prg} (h : ProgAt w r p) (hb : Below w.heap.size w w') : ProgAt w' r p :=
  ⟨h.width, h.temps, h.inW, h.inT, h.lows.below (Nat.le_refl _) hb, h.secrets.below (Nat.le_refl _) hb, h.arrays.below hb, h.body.below hb⟩
/-- .. of the call's own, from block B on. -/
structure OwnProg (w : World) (B : Nat) (r : PRow) (p : Prg) : Prop where
  width : r.width = p.width
  temps : r.temps = p.temps
  inW : In64 p.width
  inT : In64 p.temps
  lows : OwnI w B r.lows.1 r.lows.2.1 r.lows.2.2 p.lows
  secrets : OwnI w B r.secrets.1 r.secrets.2.1 r.secrets.2.2 p.secrets
  arrays : Own w B r.arrays.1 r.arrays.2.1 r.arrays.2.2 p.arrays
  body : OwnStmts w B r.body.1 r.body.2.1 r.body.2.2 r.rows p.body
  apart : ∀ g, (slV r.lows).ownBlock = some g → (slV r.secrets).ownBlock ≠ some g
theorem OwnProg.reads {w : World} {B : Nat} {r : PRow} {p : Prg} (h : OwnProg w B r p) : ProgAt w r p :=
  ⟨h.width, h.temps, h.inW, h.inT, h.lows.terms, h.secrets.terms, h.arrays.ints, h.body.reads⟩
theorem OwnProg.below {w w' : World} {B : Nat} {r : PRow} {p : Prg} (h : OwnProg w B r p) (hb : Below w.heap.size w w') : OwnProg w' B r p :=
  ⟨h.width, h.temps, h.inW, h.inT, h.lows.below hb, h.secrets.below hb, h.arrays.below hb, h.body.below hb, h.apart⟩
theorem OwnProg.base {w : World} {B B' : Nat} {r : PRow} {p : Prg} (h : OwnProg w B r p) (hB : B' ≤ B) : OwnProg w B' r p :=
  ⟨h.width, h.temps, h.inW, h.inT, h.lows.base hB, h.secrets.base hB, h.arrays.base hB, h.body.base hB, h.apart⟩
/-- What a function that makes the program p leaves. -/
def MadeProg (w : World) (p : Prg) (e : Ending) (w' : World) : Prop :=
  ∃ r, e = .returned (progV r) ∧ OwnProg w' w.heap.size r p ∧ Below w.heap.size w w'

theorem OwnI.set {w : World} {B : Nat} {a : Option Addr} {n c : Nat} {ts : List Tm} (h : OwnI w B a n c ts) {b j : Nat} (hb : b < B) (v : Value) : OwnI (w.setCell ⟨b, j, none⟩ v) B a n c ts :=
  h.apart (grown_set _ _ _ _) (fun g hg e => by have := (h.block g hg).1; injection e with e; omega)
theorem Own.set {w : World} {B : Nat} {a : Option Addr} {n c : Nat} {zs : List Int} (h : Own w B a n c zs) {b j : Nat} (hb : b < B) (v : Value) : Own (w.setCell ⟨b, j, none⟩ v) B a n c zs :=
  h.other (grown_set _ _ _ _) (fun g e => by injection e with e; omega)
theorem OwnStmts.set {w : World} {B : Nat} {a : Option Addr} {n c : Nat} {rs : List SRow} {ss : List Stm} (h : OwnStmts w B a n c rs ss) {b j : Nat} (hb : b < B) (v : Value) : OwnStmts (w.setCell ⟨b, j, none⟩ v) B a n c rs ss := by
  refine ⟨h.1.kept (grown_set _ _ _ _) ?_, h.2.1, h.2.2.1, fun i hi => (h.2.2.2.1 i hi).set hb v, h.2.2.2.2⟩
  cases hv : (Value.slice a n c).ownBlock with
  | none => exact .inl rfl
  | some g =>
    refine .inr fun e => ?_
    have := (h.block g hv).1
    injection e with e
    omega

/-- The three blocks of a call of toProg: the argument's, the result's, the variable's. -/
structure PBox (w wi : World) (c0 c1 c2 : List Value) : Prop where
  arg : Blk wi w.heap.size 50 c0
  res : Blk wi (w.heap.size + 1) 28 c1
  out : Blk wi (w.heap.size + 2) 28 c2
  bel : Below w.heap.size w wi
theorem PBox.below {w wi wj : World} {c0 c1 c2 : List Value} (h : PBox w wi c0 c1 c2) (hb : Below wi.heap.size wi wj) : PBox w wj c0 c1 c2 :=
  ⟨h.arg.below hb h.arg.lt, h.res.below hb h.res.lt, h.out.below hb h.out.lt, h.bel.trans (hb.mono h.bel.size)⟩
theorem PBox.set {w wi : World} {c0 c1 c2 : List Value} (h : PBox w wi c0 c1 c2) (j : Nat) (v : Value) : PBox w (wi.setCell ⟨w.heap.size + 2, j, none⟩ v) c0 c1 (c2.set j v) :=
  ⟨h.arg.other (by omega) v, h.res.other (by omega) v, h.out.set v, below_set h.bel (by omega) v⟩
theorem PBox.lt {w wi : World} {c0 c1 c2 : List Value} (h : PBox w wi c0 c1 c2) : w.heap.size + 2 < wi.heap.size := h.out.lt
theorem pbox_new (w : World) (c0 c1 c2 : List Value) : PBox w (((w.alloc (.cells c0.toArray 50)).alloc (.cells c1.toArray 28)).alloc (.cells c2.toArray 28)) c0 c1 c2 :=
  ⟨((Blk.new w _ _).alloc _).alloc _, (by simpa using Blk.new (w.alloc _) 28 c1 : Blk _ _ _ _).alloc _, by simpa using Blk.new ((w.alloc _).alloc _) 28 c2, (((Below.refl _ _).alloc (Nat.le_refl _) _).alloc (by simp) _).alloc (by simp; omega) _⟩

set_option maxHeartbeats 3200000 in
theorem toProg_any (r : PRow) (p : Prg) (w : World) (h : ProgAt w r p) :
    Calls Try.prog 24 #[progV r] w (MadeProg w p) := by
  obtain ⟨wd, ⟨a1, n1, c1⟩, ⟨a2, n2, c2⟩, tp, ⟨a3, n3, c3⟩, ⟨a4, n4, c4⟩, rows⟩ := r
  obtain ⟨pw, pl, ps, pt, pa, pb⟩ := p
  obtain ⟨e1, e2, i1, i2, h1, h2, h3, h4⟩ := h
  simp only [] at e1 e2 i1 i2 h1 h2 h3 h4
  subst e1 e2
  show Calls Try.prog 24 #[.agg #[.int .i64 wd, .slice a1 n1 c1, .slice a2 n2 c2, .int .i64 tp, .slice a3 n3 c3, .slice a4 n4 c4]] w _
  obtain ⟨wa, HW⟩ : ∃ wa, Hid (wa = (((w.alloc (.cells #[.int .i64 wd, .slice a1 n1 c1, .slice a2 n2 c2, .int .i64 tp, .slice a3 n3 c3, .slice a4 n4 c4] 50)).alloc (.cells #[.int .i64 0, .slice none 0 0, .slice none 0 0, .int .i64 0, .slice none 0 0, .slice none 0 0] 28)).alloc (.cells #[.int .i64 wd, .slice none 0 0, .slice none 0 0, .int .i64 0, .slice none 0 0, .slice none 0 0] 28))) := ⟨_, rfl⟩
  have BX : PBox w wa [.int .i64 wd, .slice a1 n1 c1, .slice a2 n2 c2, .int .i64 tp, .slice a3 n3 c3, .slice a4 n4 c4] [.int .i64 0, .slice none 0 0, .slice none 0 0, .int .i64 0, .slice none 0 0, .slice none 0 0] [.int .i64 wd, .slice none 0 0, .slice none 0 0, .int .i64 0, .slice none 0 0, .slice none 0 0] := by rw [HW.out]; exact pbox_new w _ _ _
  go_enter Try.func24, Try.ntmps24
  go_wp2_with fail
  rw [← HW.out]
  refine (toInputS_any _ _ _ _ _ (h1.below (Nat.le_refl _) BX.bel)).mono ?_
  rintro e w1 ⟨p1, m1, d1, rfl, ho1, hb1⟩
  have B1 := BX.below hb1
  have l1 := BX.lt
  clear HW BX hb1 h1
  have f0 := B1.arg.cell (j := 2) rfl
  have f1 := B1.out.cell (j := 1) rfl
  have f2 := B1.out.frozen 1
  go_wp2_with fail
  obtain ⟨wb, HW⟩ : ∃ wb, Hid (wb = w1.setCell ⟨w.heap.size + 2, 1, none⟩ (.slice p1 m1 d1)) := ⟨_, rfl⟩
  rw [show w.heap.size + 1 + 1 = w.heap.size + 2 from rfl, ← HW.out]
  have C1 := B1.set 1 (.slice p1 m1 d1)
  have o1 := ho1.set (j := 1) l1 (.slice p1 m1 d1)
  rw [← HW.out] at C1 o1
  clear HW B1 ho1 f0 f1 f2
  refine (toInputS_any _ _ _ _ _ (h2.below (Nat.le_refl _) C1.bel)).mono ?_
  rintro e w2 ⟨p2, m2, d2, rfl, ho2, hb2⟩
  have hap : ∀ g, (Value.slice p1 m1 d1).ownBlock = some g → (Value.slice p2 m2 d2).ownBlock ≠ some g := fun g h1 h2 => by
    have := (o1.block g h1).2
    have := (ho2.block g h2).1
    omega
  have HA := Lib.hid hap
  have B2 := C1.below hb2
  have l2 := C1.lt
  have o1 := o1.below hb2
  clear C1 hb2 h2 hap
  have f0 := B2.arg.cell (j := 3) rfl
  have f1 := B2.out.cell (j := 2) rfl
  have f2 := B2.out.frozen 2
  have f3 := B2.arg.cell (j := 4) rfl
  have f4 := B2.out.cell (j := 3) rfl
  have f5 := B2.out.frozen 3
  go_wp2_with fail
  obtain ⟨wc, HW⟩ : ∃ wc, Hid (wc = (w2.setCell ⟨w.heap.size + 2, 2, none⟩ (.slice p2 m2 d2)).setCell ⟨w.heap.size + 2, 3, none⟩ (.int .i64 tp)) := ⟨_, rfl⟩
  rw [show w.heap.size + 1 + 1 = w.heap.size + 2 from rfl, ← HW.out]
  have C2 := (B2.set 2 (.slice p2 m2 d2)).set 3 (.int .i64 tp)
  have o1 := (o1.set (j := 2) l1 (.slice p2 m2 d2)).set (j := 3) l1 (.int .i64 tp)
  have o2 := (ho2.set (j := 2) l2 (.slice p2 m2 d2)).set (j := 3) l2 (.int .i64 tp)
  rw [← HW.out] at C2 o1 o2
  clear HW B2 ho2 f0 f1 f2 f3 f4 f5
  refine (toInt64S_any _ _ _ _ _ (h3.below C2.bel)).mono ?_
  rintro e w3 ⟨p3, m3, d3, rfl, ho3, hb3⟩
  have B3 := C2.below hb3
  have l3 := C2.lt
  have o1 := o1.below hb3
  have o2 := o2.below hb3
  clear C2 hb3 h3
  have f0 := B3.arg.cell (j := 5) rfl
  have f1 := B3.out.cell (j := 4) rfl
  have f2 := B3.out.frozen 4
  go_wp2_with fail
  obtain ⟨wd', HW⟩ : ∃ wd', Hid (wd' = w3.setCell ⟨w.heap.size + 2, 4, none⟩ (.slice p3 m3 d3)) := ⟨_, rfl⟩
  rw [show w.heap.size + 1 + 1 = w.heap.size + 2 from rfl, ← HW.out]
  have C3 := B3.set 4 (.slice p3 m3 d3)
  have o1 := o1.set (j := 4) l1 (.slice p3 m3 d3)
  have o2 := o2.set (j := 4) l2 (.slice p3 m3 d3)
  have o3 := ho3.set (j := 4) l3 (.slice p3 m3 d3)
  rw [← HW.out] at C3 o1 o2 o3
  clear HW B3 ho3 f0 f1 f2
  refine (toStmtS_any _ _ _ _ _ _ (h4.below C3.bel)).mono ?_
  rintro e w4 ⟨p4, m4, d4, rs, rfl, o4, hb4⟩
  have B4 := C3.below hb4
  have l4 := C3.lt
  have o1 := o1.below hb4
  have o2 := o2.below hb4
  have o3 := o3.below hb4
  clear C3 hb4 h4
  have a0 := B4.res.cell (j := 0) rfl
  have a1 := B4.res.cell (j := 1) rfl
  have a2 := B4.res.cell (j := 2) rfl
  have a3 := B4.res.cell (j := 3) rfl
  have a4 := B4.res.cell (j := 4) rfl
  have a5 := B4.res.cell (j := 5) rfl
  have z0 := B4.res.frozen 0
  have z1 := B4.res.frozen 1
  have z2 := B4.res.frozen 2
  have z3 := B4.res.frozen 3
  have z4 := B4.res.frozen 4
  have z5 := B4.res.frozen 5
  have e0 := B4.out.cell (j := 0) rfl
  have e1 := B4.out.cell (j := 1) rfl
  have e2 := B4.out.cell (j := 2) rfl
  have e3 := B4.out.cell (j := 3) rfl
  have e4 := B4.out.cell (j := 4) rfl
  have e5 := B4.out.cell (j := 5) rfl
  have e6 := B4.out.frozen 5
  have HB := Lib.hid B4.bel
  clear B4
  go_wp2
  refine bodyPost_ret (v := .agg #[.int .i64 wd, .slice p1 m1 d1, .slice p2 m2 d2, .int .i64 tp, .slice p3 m3 d3, .slice p4 m4 d4]) (by simp [results, Try.results24, go_sem, a0, a1, a2, a3, a4, a5]) rfl ?_
  have g1 : w.heap.size + 1 < wa.heap.size := by omega
  have g2 : w.heap.size + 1 < wb.heap.size := by omega
  have g3 : w.heap.size + 1 < wc.heap.size := by omega
  have g4 : w.heap.size + 1 < wd'.heap.size := by omega
  exact ⟨⟨wd, (p1, m1, d1), (p2, m2, d2), tp, (p3, m3, d3), (p4, m4, d4), rs⟩, rfl,
    ⟨rfl, rfl, i1, i2, (((((((o1.set l1 _).set g1 _).set g1 _).set g1 _).set g1 _).set g1 _).set g1 _).base (by omega), (((((((o2.set l2 _).set g2 _).set g2 _).set g2 _).set g2 _).set g2 _).set g2 _).base (by omega), (((((((o3.set l3 _).set g3 _).set g3 _).set g3 _).set g3 _).set g3 _).set g3 _).base (by omega), (((((((o4.set l4 _).set g4 _).set g4 _).set g4 _).set g4 _).set g4 _).set g4 _).base (by omega), HA.out⟩,
    below_set (below_set (below_set (below_set (below_set (below_set (below_set HB.out (by omega) _) (by omega) _) (by omega) _) (by omega) _) (by omega) _) (by omega) _) (by omega) _⟩
end Go.Proofs.Yteigeihbokkpiaa
/- The contracts of the laws' own comparison of programs (eqProg), and of what measures them (szStmt, szStmtS, szProg). -/
namespace Go.Proofs.Yteigeihbokkpiaa
open Go.RowKit

/-- The two blocks of a call of eqProg. -/
structure QBox (w wi : World) (c0 c1 : List Value) : Prop where
  one : Blk wi w.heap.size 28 c0
  two : Blk wi (w.heap.size + 1) 28 c1
  bel : Below w.heap.size w wi
theorem QBox.below {w wi wj : World} {c0 c1 : List Value} (h : QBox w wi c0 c1) (hb : Below wi.heap.size wi wj) : QBox w wj c0 c1 :=
  ⟨h.one.below hb h.one.lt, h.two.below hb h.two.lt, h.bel.trans (hb.mono h.bel.size)⟩
theorem qbox_new (w : World) (c0 c1 : List Value) : QBox w ((w.alloc (.cells c0.toArray 28)).alloc (.cells c1.toArray 28)) c0 c1 :=
  ⟨(Blk.new w _ _).alloc _, by simpa using Blk.new (w.alloc _) 28 c1, ((Below.refl _ _).alloc (Nat.le_refl _) _).alloc (by simp) _⟩
theorem prg_ne {p q : Prg} (h : ¬ (p.width = q.width ∧ p.lows = q.lows ∧ p.secrets = q.secrets ∧ p.temps = q.temps ∧ p.arrays = q.arrays ∧ p.body = q.body)) : decide (p = q) = false :=
  decide_eq_false (fun e => h (by subst e; exact ⟨rfl, rfl, rfl, rfl, rfl, rfl⟩))
set_option maxHeartbeats 3200000 in
theorem eqProg_any (r q : PRow) (p p' : Prg) (w : World) (h : ProgAt w r p) (h' : ProgAt w q p') :
    Calls Try.prog 25 #[progV r, progV q] w fun e w' => e = .returned (.bool (decide (p = p'))) ∧ Below w.heap.size w w' := by
  obtain ⟨wd, ⟨a1, n1, c1⟩, ⟨a2, n2, c2⟩, tp, ⟨a3, n3, c3⟩, ⟨a4, n4, c4⟩, rows⟩ := r
  obtain ⟨wd', ⟨b1, m1, d1⟩, ⟨b2, m2, d2⟩, tp', ⟨b3, m3, d3⟩, ⟨b4, m4, d4⟩, rows'⟩ := q
  obtain ⟨pw, pl, ps, pt, pa, pb⟩ := p
  obtain ⟨pw', pl', ps', pt', pa', pb'⟩ := p'
  obtain ⟨e1, e2, i1, i2, h1, h2, h3, h4⟩ := h
  obtain ⟨e1', e2', i1', i2', h1', h2', h3', h4'⟩ := h'
  simp only [] at e1 e2 i1 i2 h1 h2 h3 h4 e1' e2' i1' i2' h1' h2' h3' h4'
  subst e1 e2 e1' e2'
  show Calls Try.prog 25 #[.agg #[.int .i64 wd, .slice a1 n1 c1, .slice a2 n2 c2, .int .i64 tp, .slice a3 n3 c3, .slice a4 n4 c4], .agg #[.int .i64 wd', .slice b1 m1 d1, .slice b2 m2 d2, .int .i64 tp', .slice b3 m3 d3, .slice b4 m4 d4]] w _
  obtain ⟨wa, HW⟩ : ∃ wa, Hid (wa = ((w.alloc (.cells #[.int .i64 wd, .slice a1 n1 c1, .slice a2 n2 c2, .int .i64 tp, .slice a3 n3 c3, .slice a4 n4 c4] 28)).alloc (.cells #[.int .i64 wd', .slice b1 m1 d1, .slice b2 m2 d2, .int .i64 tp', .slice b3 m3 d3, .slice b4 m4 d4] 28))) := ⟨_, rfl⟩
  have BX : QBox w wa [.int .i64 wd, .slice a1 n1 c1, .slice a2 n2 c2, .int .i64 tp, .slice a3 n3 c3, .slice a4 n4 c4] [.int .i64 wd', .slice b1 m1 d1, .slice b2 m2 d2, .int .i64 tp', .slice b3 m3 d3, .slice b4 m4 d4] := by rw [HW.out]; exact qbox_new w _ _
  by_cases ew : wd = wd'
  · subst ew
    have hne0 : (wd != wd) = false := by simp
    go_enter Try.func25, Try.ntmps25
    go_wp2_with fail
    rw [← HW.out]
    refine (eqInputS_any _ _ _ _ _ _ _ _ _ (h1.below (Nat.le_refl _) BX.bel) (h1'.below (Nat.le_refl _) BX.bel)).mono ?_
    rintro e w1 ⟨rfl, hb1⟩
    have B1 := BX.below hb1
    clear BX HW hb1 h1 h1' hne0
    by_cases el : pl = pl'
    · subst el
      rw [decide_eq_true (rfl : pl = pl)]
      have f0 := B1.one.cell (j := 2) rfl
      have f1 := B1.two.cell (j := 2) rfl
      go_wp2_with fail
      refine (eqInputS_any _ _ _ _ _ _ _ _ _ (h2.below (Nat.le_refl _) B1.bel) (h2'.below (Nat.le_refl _) B1.bel)).mono ?_
      rintro e w2 ⟨rfl, hb2⟩
      have B2 := B1.below hb2
      clear B1 hb2 h2 h2' f0 f1
      by_cases es : ps = ps'
      · subst es
        rw [decide_eq_true (rfl : ps = ps)]
        have f0 := B2.one.cell (j := 3) rfl
        have f1 := B2.two.cell (j := 3) rfl
        by_cases et : tp = tp'
        · subst et
          have hne0 : (tp != tp) = false := by simp
          have f2 := B2.one.cell (j := 4) rfl
          have f3 := B2.two.cell (j := 4) rfl
          go_wp2_with fail
          refine (eqInt64S_any _ _ _ _ _ _ _ _ _ (h3.below B2.bel) (h3'.below B2.bel)).mono ?_
          rintro e w3 ⟨rfl, j, rfl⟩
          have B3 : QBox w (w2.drewN j) _ _ := ⟨B2.one, B2.two, below_dn B2.bel j⟩
          clear B2 h3 h3' f0 f1 f2 f3 hne0
          by_cases ea : pa = pa'
          · subst ea
            rw [decide_eq_true (rfl : pa = pa)]
            have f0 := B3.one.cell (j := 5) rfl
            have f1 := B3.two.cell (j := 5) rfl
            go_wp2_with fail
            refine (eqStmtS_any _ _ _ _ _ _ _ _ _ _ _ (h4.below B3.bel) (h4'.below B3.bel)).mono ?_
            rintro e w4 ⟨rfl, hb4⟩
            have hbel := B3.bel.trans (hb4.mono B3.bel.size)
            clear B3 hb4 h4 h4' f0 f1
            by_cases eb : pb = pb'
            · subst eb
              rw [decide_eq_true (rfl : pb = pb)]
              go_wp2
              go_ret
              exact ⟨ret_bool (by simp), hbel⟩
            · rw [decide_eq_false eb]
              go_wp2
              go_ret
              exact ⟨ret_bool (prg_ne (fun h => eb h.2.2.2.2.2)).symm, hbel⟩
          · rw [decide_eq_false ea]
            go_wp2
            go_ret
            exact ⟨ret_bool (prg_ne (fun h => ea h.2.2.2.2.1)).symm, B3.bel⟩
        · have hne0 : (tp != tp') = true := by simpa using et
          go_wp2
          go_ret
          exact ⟨ret_bool (prg_ne (fun h => et h.2.2.2.1)).symm, B2.bel⟩
      · rw [decide_eq_false es]
        go_wp2
        go_ret
        exact ⟨ret_bool (prg_ne (fun h => es h.2.2.1)).symm, B2.bel⟩
    · rw [decide_eq_false el]
      go_wp2
      go_ret
      exact ⟨ret_bool (prg_ne (fun h => el h.2.1)).symm, B1.bel⟩
  · have hne1 : (wd != wd') = true := by simpa using ew
    go_enter Try.func25, Try.ntmps25
    go_wp2
    go_ret
    exact ⟨ret_bool (prg_ne (fun h => ew h.1)).symm, by rw [← HW.out]; exact BX.bel⟩
end Go.Proofs.Yteigeihbokkpiaa
