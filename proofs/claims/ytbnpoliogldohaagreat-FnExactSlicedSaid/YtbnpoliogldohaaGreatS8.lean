/- Plain mathematics: a part of a body, cut out of it, is nested as it was, and takes as many steps. -/
import Derived.Test.YtbnpoliogldohaaGreatS7
namespace Go.Proofs.YtbnpoliogldohaaGreat

/-- The statements from lo up to hi. -/
def seg (ss : List Stm) (lo hi : Nat) : List Stm := (ss.drop lo).take (hi - lo)
theorem seg_len {ss : List Stm} {lo hi : Nat} (h1 : lo ≤ hi) (h2 : hi ≤ ss.length) : (seg ss lo hi).length = hi - lo := by
  unfold seg; rw [List.length_take, List.length_drop]; omega
theorem seg_at {ss : List Stm} {lo hi i : Nat} (h : lo + i < hi) : stAt (seg ss lo hi) i = stAt ss (lo + i) := by
  unfold seg stAt
  rw [List.getD_eq_getElem?_getD, List.getD_eq_getElem?_getD, List.getElem?_take_of_lt (by omega), List.getElem?_drop]
theorem seg_op {ss : List Stm} {lo hi i : Nat} (h : lo + i < hi) : opAt (seg ss lo hi) i = opAt ss (lo + i) := by unfold opAt; rw [seg_at h]
section
variable {ss : List Stm} {lo hi : Nat} (h1 : lo ≤ hi) (h2 : hi ≤ ss.length)
def SegB (ss : List Stm) (lo hi i : Nat) : Prop := ∀ j : Nat, blockOf ss (lo + i) = ((lo + j : Nat) : Int) → lo + j ≤ hi → blockOf (seg ss lo hi) i = (j : Int)
def SegE (ss : List Stm) (lo hi i : Nat) : Prop :=
  (∀ e : Nat, endOf ss (lo + i) = (-1, ((lo + e : Nat) : Int)) → lo + e < hi → endOf (seg ss lo hi) i = (-1, (e : Int))) ∧
  ∀ m e : Nat, endOf ss (lo + i) = (((lo + m : Nat) : Int), ((lo + e : Nat) : Int)) → lo + e < hi → endOf (seg ss lo hi) i = ((m : Int), (e : Int))
include h1 h2 in
theorem segE_of {i : Nat} (hi' : lo + i < hi) (hb : ∀ j, i < j → lo + j ≤ hi → SegB ss lo hi j) : SegE ss lo hi i := by
  have hl := seg_len h1 h2
  have hs : i < (seg ss lo hi).length := by omega
  have hlt : lo + i < ss.length := by omega
  obtain ⟨M, hM⟩ : ∃ M, blockOf ss (lo + i + 1) = M := ⟨_, rfl⟩
  have hin := block_in ss (i := lo + i + 1) (by omega)
  rw [hM] at hin
  have heq := end_eq hlt hM
  have hop := seg_op (ss := ss) hi'
  have at_ : ∀ (k : Nat) (op : Int), lo + k < hi → isAt ss ((lo + k : Nat) : Int) op = isAt (seg ss lo hi) (k : Int) op := fun k op hk => by
    simp only [isAt, Int.toNat_natCast, seg_op hk]
    congr 1
    rw [decide_eq_true (by omega), decide_eq_true (by omega), decide_eq_true (by omega), decide_eq_true (by omega)]
  have one : ∀ e : Nat, M = ((lo + e : Nat) : Int) → lo + e < hi → blockOf (seg ss lo hi) (i + 1) = (e : Int) := fun e he hlt => by
    rcases hin with q | q
    · omega
    · exact hb (i + 1) (by omega) (by omega) e (by rw [← Nat.add_assoc, hM, he]) (by omega)
  have two : ∀ m e : Nat, i < m → lo + m < hi → blockOf ss (lo + m + 1) = ((lo + e : Nat) : Int) → lo + e < hi → blockOf (seg ss lo hi) (m + 1) = (e : Int) := fun m e him hm he hlt =>
    hb (m + 1) (by omega) (by omega) e (by rw [← Nat.add_assoc, he]) (by omega)
  refine ⟨fun e he hlt' => ?_, fun m e he hlt' => ?_⟩
  · rw [he] at heq
    -- the end is M
    have hMe : M = ((lo + e : Nat) : Int) ∧ isAt ss M 4 = true ∧ (opAt ss (lo + i) = 5 ∨ opAt ss (lo + i) = 2) := by
      split at heq
      · rename_i ho
        split at heq
        · rename_i h4; injection heq with q1 q2; exact ⟨q2.symm, h4, .inl ho⟩
        · injection heq with q1 q2; omega
      · split at heq
        · rename_i ho
          split at heq
          · rename_i h4; injection heq with q1 q2; exact ⟨q2.symm, h4, .inr ho⟩
          · split at heq
            · rename_i h3
              have := isAt_range h3
              split at heq
              · injection heq with q1 q2; omega
              · injection heq with q1 q2; omega
            · injection heq with q1 q2; omega
        · split at heq
          · split at heq
            · rename_i h3
              have := isAt_range h3
              split at heq
              · injection heq with q1 q2; omega
              · injection heq with q1 q2; omega
            · injection heq with q1 q2; omega
          · injection heq with q1 q2; omega
    obtain ⟨q1, q2, q3⟩ := hMe
    rw [end_eq hs (one e q1 hlt'), hop]
    rw [q1, at_ e 4 hlt'] at q2
    rcases q3 with q3 | q3
    · rw [if_pos q3, if_pos q2]
    · rw [if_neg (by omega), if_pos q3, if_pos q2]
  · rw [he] at heq
    have hMe : M = ((lo + m : Nat) : Int) ∧ blockOf ss (M.toNat + 1) = ((lo + e : Nat) : Int) ∧ isAt ss (blockOf ss (M.toNat + 1)) 4 = true ∧ ((opAt ss (lo + i) = 2 ∧ isAt ss M 4 = false ∧ isAt ss M 3 = true) ∨ (opAt ss (lo + i) = 8 ∧ isAt ss M 9 = true)) := by
      split at heq
      · split at heq
        · injection heq with q1 q2; omega
        · injection heq with q1 q2; omega
      · split at heq
        · rename_i ho
          split at heq
          · injection heq with q1 q2; omega
          · rename_i h4
            split at heq
            · rename_i h3
              split at heq
              · rename_i h5; injection heq with q1 q2; exact ⟨q1.symm, q2.symm, h5, .inl ⟨ho, by simpa using h4, h3⟩⟩
              · injection heq with q1 q2; omega
            · injection heq with q1 q2; omega
        · split at heq
          · rename_i ho
            split at heq
            · rename_i h3
              split at heq
              · rename_i h5; injection heq with q1 q2; exact ⟨q1.symm, q2.symm, h5, .inr ⟨ho, h3⟩⟩
              · injection heq with q1 q2; omega
            · injection heq with q1 q2; omega
          · injection heq with q1 q2; omega
    obtain ⟨q1, q2, q3, q4⟩ := hMe
    have hmi : i < m := by rcases hin with q | q <;> omega
    have hr := isAt_range q3
    rw [q2] at q3
    rw [q1, Int.toNat_natCast] at q2
    have hin2 := block_in ss (i := lo + m + 1) (by
      rcases q4 with ⟨_, _, h3⟩ | ⟨_, h3⟩
      · have := isAt_range h3; omega
      · have := isAt_range h3; omega)
    rw [q2] at hin2
    have hme : m < e := by rcases hin2 with q | q <;> omega
    have hb1 := one m q1 (by omega)
    have hb2 := two m e hmi (by omega) q2 hlt'
    rw [at_ e 4 hlt'] at q3
    rw [end_eq hs hb1, hop, Int.toNat_natCast, hb2]
    rcases q4 with ⟨ho, h4, h3⟩ | ⟨ho, h9⟩
    · rw [q1, at_ m _ (by omega)] at h4 h3
      rw [if_neg (by omega), if_pos ho, if_neg (by rw [h4]; simp), if_pos h3, if_pos q3]
    · rw [q1, at_ m _ (by omega)] at h9
      rw [if_neg (by omega), if_neg (by omega), if_pos ho, if_pos h9, if_pos q3]
include h1 h2 in
theorem segB_of {i : Nat} (hi' : lo + i ≤ hi) (he : lo + i < hi → SegE ss lo hi i) (hb : ∀ j, i < j → lo + j ≤ hi → SegB ss lo hi j) : SegB ss lo hi i := by
  have hl := seg_len h1 h2
  intro j hj hjh
  have hin := block_in ss (i := lo + i) (by omega)
  rw [hj] at hin
  have hij : i ≤ j := by rcases hin with q | q <;> omega
  rcases Nat.lt_or_ge (lo + i) hi with hlt | hge
  case inr =>
    obtain rfl : i = j := by omega
    rw [block_past (by omega)]
  have hs : i < (seg ss lo hi).length := by omega
  have hl2 : lo + i < ss.length := by omega
  have hop := seg_op (ss := ss) hlt
  by_cases hst : opAt ss (lo + i) = 3 ∨ opAt ss (lo + i) = 9 ∨ opAt ss (lo + i) = 4
  · rw [block_stop hl2 hst] at hj
    obtain rfl : i = j := by omega
    rw [block_stop hs (by rw [hop]; exact hst)]
  by_cases ho : opAt ss (lo + i) = 2 ∨ opAt ss (lo + i) = 5 ∨ opAt ss (lo + i) = 8
  case neg =>
    rw [block_next hl2 hst ho] at hj
    rw [block_next hs (by rw [hop]; exact hst) (by rw [hop]; exact ho)]
    exact hb (i + 1) (by omega) (by omega) j (by rw [← Nat.add_assoc, hj]) hjh
  by_cases hneg : (endOf ss (lo + i)).2 < 0
  · rw [block_bad hl2 ho hneg] at hj; omega
  have hE := end_in ss hl2
  obtain ⟨⟨p1, p2⟩, hP⟩ : ∃ P, endOf ss (lo + i) = P := ⟨_, rfl⟩
  rw [block_over hl2 ho (by omega)] at hj
  rw [hP] at hE hneg hj
  simp only [] at hneg hj
  have hin2 : ((lo + i : Nat) : Int) < p2 ∧ p2 < ss.length ∧ (p1 = -1 ∨ (((lo + i : Nat) : Int) < p1 ∧ p1 < p2)) := by
    rcases hE with q | q
    · injection q with q1 q2; omega
    · exact q
  obtain ⟨e, rfl⟩ : ∃ e : Nat, p2 = ((lo + e : Nat) : Int) := ⟨(p2 - lo).toNat, by omega⟩
  rw [Int.toNat_natCast] at hj
  have hinj := block_in ss (i := lo + e + 1) (by omega)
  rw [hj] at hinj
  have hej : e < j := by rcases hinj with q | q <;> omega
  have hend : (endOf (seg ss lo hi) i).2 = (e : Int) := by
    rcases hin2.2.2 with q | q
    · subst q
      rw [(he hlt).1 e hP (by omega)]
    · obtain ⟨m, rfl⟩ : ∃ m : Nat, p1 = ((lo + m : Nat) : Int) := ⟨(p1 - lo).toNat, by omega⟩
      rw [(he hlt).2 m e hP (by omega)]
  rw [block_over hs (by rw [hop]; exact ho) (by rw [hend]; omega), hend, Int.toNat_natCast]
  exact hb (e + 1) (by omega) (by omega) j (by rw [← Nat.add_assoc, hj]) hjh
include h1 h2 in
theorem seg_all : ∀ (d i : Nat), hi - (lo + i) ≤ d → lo + i ≤ hi → SegB ss lo hi i ∧ (lo + i < hi → SegE ss lo hi i)
  | 0, i, hd, hi' => ⟨segB_of h1 h2 hi' (fun h => absurd h (by omega)) (fun j ha hb => absurd ha (by omega)), fun h => absurd h (by omega)⟩
  | d + 1, i, hd, hi' => by
    have hb : ∀ j, i < j → lo + j ≤ hi → SegB ss lo hi j := fun j ha hb => (seg_all d j (by omega) hb).1
    have he : lo + i < hi → SegE ss lo hi i := fun h => segE_of h1 h2 h hb
    exact ⟨segB_of h1 h2 hi' he hb, he⟩
include h1 h2 in
theorem seg_end {i : Nat} (h : lo + i < hi) : SegE ss lo hi i := (seg_all h1 h2 _ i (Nat.le_refl _) (by omega)).2 h
include h1 h2 in
theorem steps_seg {i j s : Nat} (h : Steps ss i j s) : ∀ i' j', i = lo + i' → j = lo + j' → j ≤ hi → Steps (seg ss lo hi) i' j' s := by
  have hl := seg_len h1 h2
  induction h with
  | nil i =>
    intro i' j' e1 e2 _
    obtain rfl : i' = j' := by omega
    exact .nil _
  | @plain i j s hi' g2 g5 g8 t ih =>
    intro i' j' e1 e2 hj
    subst e1 e2
    have hle := (steps_small t).1
    have hop := seg_op (ss := ss) (lo := lo) (hi := hi) (i := i') (by omega)
    exact .plain (by omega) (by rw [hop]; exact g2) (by rw [hop]; exact g5) (by rw [hop]; exact g8) (ih (i' + 1) j' (by omega) rfl hj)
  | @one i e j s t hi' g2 he p q ih1 ih2 =>
    intro i' j' e1 e2 hj
    subst e1 e2
    have hle := (steps_small p).1
    have hle2 := (steps_small q).1
    obtain ⟨e', rfl⟩ : ∃ e', e = lo + e' := ⟨e - lo, by omega⟩
    have hop := seg_op (ss := ss) (lo := lo) (hi := hi) (i := i') (by omega)
    exact .one (by omega) (by rw [hop]; exact g2) ((seg_end h1 h2 (by omega)).1 e' he (by omega)) (ih1 (i' + 1) e' (by omega) rfl (by omega)) (ih2 (e' + 1) j' (by omega) rfl hj)
  | @two i m e j s s' t hi' g2 he p p' q ih1 ih2 ih3 =>
    intro i' j' e1 e2 hj
    subst e1 e2
    have hle := (steps_small p).1
    have hle2 := (steps_small p').1
    have hle3 := (steps_small q).1
    obtain ⟨m', rfl⟩ : ∃ m', m = lo + m' := ⟨m - lo, by omega⟩
    obtain ⟨e', rfl⟩ : ∃ e', e = lo + e' := ⟨e - lo, by omega⟩
    have hop := seg_op (ss := ss) (lo := lo) (hi := hi) (i := i') (by omega)
    exact .two (by omega) (by rw [hop]; exact g2) ((seg_end h1 h2 (by omega)).2 m' e' he (by omega)) (ih1 (i' + 1) m' (by omega) rfl (by omega)) (ih2 (m' + 1) e' (by omega) rfl (by omega)) (ih3 (e' + 1) j' (by omega) rfl hj)
  | @loop i e j k s t hi' g5 he hk h4 p q ih1 ih2 =>
    intro i' j' e1 e2 hj
    subst e1 e2
    have hle := (steps_small p).1
    have hle2 := (steps_small q).1
    obtain ⟨e', rfl⟩ : ∃ e', e = lo + e' := ⟨e - lo, by omega⟩
    have hop := seg_op (ss := ss) (lo := lo) (hi := hi) (i := i') (by omega)
    have hat := seg_at (ss := ss) (lo := lo) (hi := hi) (i := i') (by omega)
    exact .loop (by omega) (by rw [hop]; exact g5) ((seg_end h1 h2 (by omega)).1 e' he (by omega)) (by rw [hat]; exact hk) h4 (ih1 (i' + 1) e' (by omega) rfl (by omega)) (ih2 (e' + 1) j' (by omega) rfl hj)
  | @attempt i m e j s s' t hi' g8 he p p' q ih1 ih2 ih3 =>
    intro i' j' e1 e2 hj
    subst e1 e2
    have hle := (steps_small p).1
    have hle2 := (steps_small p').1
    have hle3 := (steps_small q).1
    obtain ⟨m', rfl⟩ : ∃ m', m = lo + m' := ⟨m - lo, by omega⟩
    obtain ⟨e', rfl⟩ : ∃ e', e = lo + e' := ⟨e - lo, by omega⟩
    have hop := seg_op (ss := ss) (lo := lo) (hi := hi) (i := i') (by omega)
    exact .attempt (by omega) (by rw [hop]; exact g8) ((seg_end h1 h2 (by omega)).2 m' e' he (by omega)) (ih1 (i' + 1) m' (by omega) rfl (by omega)) (ih2 (m' + 1) e' (by omega) rfl (by omega)) (ih3 (e' + 1) j' (by omega) rfl hj)
end
/-- A part, cut out: as many steps. -/
theorem part_seg {ss : List Stm} {i j s : Nat} (h : Steps ss i j s) (hj : j ≤ ss.length) : Steps (seg ss i j) 0 (j - i) s :=
  steps_seg (steps_small h).1 hj h 0 (j - i) rfl (by have := (steps_small h).1; omega) (Nat.le_refl _)
end Go.Proofs.YtbnpoliogldohaaGreat
