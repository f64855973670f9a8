/- Plain mathematics of nested bodies: where a body ends that begins at a place; where a statement's middle and end are. -/
import Derived.Test.YtdippnnhibgjoaaStmtCopies
namespace Go.Proofs.Ytdippnnhibgjoaa

def opAt (ss : List Stm) (i : Nat) : Int := (stAt ss i).op
/-- There is such a statement at this place. -/
def isAt (ss : List Stm) (z op : Int) : Bool := (decide (0 ≤ z) && decide (z ≤ (ss.length : Int) - 1)) && (opAt ss z.toNat == op)
mutual
def blockOf (ss : List Stm) (i : Nat) : Int :=
  if i < ss.length then
    if opAt ss i = 3 ∨ opAt ss i = 9 ∨ opAt ss i = 4 then (i : Int)
    else if opAt ss i = 2 ∨ opAt ss i = 5 ∨ opAt ss i = 8 then
      if _h : (i : Int) ≤ (endOf ss i).2 then blockOf ss ((endOf ss i).2.toNat + 1) else -1
    else blockOf ss (i + 1)
  else (i : Int)
termination_by (ss.length - i, 1)
decreasing_by
  · exact Prod.Lex.right _ (by omega)
  · exact Prod.Lex.left _ _ (by omega)
  · exact Prod.Lex.left _ _ (by omega)
def endOf (ss : List Stm) (i : Nat) : Int × Int :=
  if i < ss.length then
    if opAt ss i = 5 then
      if isAt ss (blockOf ss (i + 1)) 4 then (-1, blockOf ss (i + 1)) else (-1, -1)
    else if opAt ss i = 2 then
      if isAt ss (blockOf ss (i + 1)) 4 then (-1, blockOf ss (i + 1))
      else if _h : isAt ss (blockOf ss (i + 1)) 3 = true ∧ i < (blockOf ss (i + 1)).toNat then
        if isAt ss (blockOf ss ((blockOf ss (i + 1)).toNat + 1)) 4 then (blockOf ss (i + 1), blockOf ss ((blockOf ss (i + 1)).toNat + 1)) else (-1, -1)
      else (-1, -1)
    else if opAt ss i = 8 then
      if _h : isAt ss (blockOf ss (i + 1)) 9 = true ∧ i < (blockOf ss (i + 1)).toNat then
        if isAt ss (blockOf ss ((blockOf ss (i + 1)).toNat + 1)) 4 then (blockOf ss (i + 1), blockOf ss ((blockOf ss (i + 1)).toNat + 1)) else (-1, -1)
      else (-1, -1)
    else (-1, -1)
  else (-1, -1)
termination_by (ss.length - i, 0)
decreasing_by all_goals exact Prod.Lex.left _ _ (by omega)
end

theorem isAt_range {ss : List Stm} {z op : Int} (h : isAt ss z op = true) : 0 ≤ z ∧ z < ss.length := by
  simp only [isAt, Bool.and_eq_true, decide_eq_true_eq] at h
  omega
/-- Where a body ends that begins at i: in it or just behind it, or it is not well nested. -/
def BlockIn (ss : List Stm) (i : Nat) (z : Int) : Prop := z = -1 ∨ ((i : Int) ≤ z ∧ z ≤ ss.length)
/-- An end lies behind its beginning, its middle between. -/
def EndIn (ss : List Stm) (i : Nat) (p : Int × Int) : Prop := p = (-1, -1) ∨ ((i : Int) < p.2 ∧ p.2 < ss.length ∧ (p.1 = -1 ∨ ((i : Int) < p.1 ∧ p.1 < p.2)))
theorem block_step {ss : List Stm} {i : Nat} (hi : i ≤ ss.length) (he : i < ss.length → EndIn ss i (endOf ss i)) (hb : ∀ j, i < j → j ≤ ss.length → BlockIn ss j (blockOf ss j)) : BlockIn ss i (blockOf ss i) := by
  rw [blockOf]
  by_cases h : i < ss.length
  · rw [if_pos h]
    split
    · exact .inr ⟨by omega, by omega⟩
    · split
      · split
        · rename_i hle
          rcases he h with e | e
          · rw [e] at hle; simp only [] at hle; omega
          · rcases hb ((endOf ss i).2.toNat + 1) (by omega) (by omega) with q | q
            · exact .inl q
            · exact .inr (by omega)
        · exact .inl rfl
      · rcases hb (i + 1) (by omega) (by omega) with q | q
        · exact .inl q
        · exact .inr (by omega)
  · rw [if_neg h]
    exact .inr ⟨by omega, by omega⟩
theorem end_step {ss : List Stm} {i : Nat} (hi : i < ss.length) (hb : ∀ j, i < j → j ≤ ss.length → BlockIn ss j (blockOf ss j)) : EndIn ss i (endOf ss i) := by
  have h1 := hb (i + 1) (by omega) (by omega)
  rw [endOf, if_pos hi]
  generalize blockOf ss (i + 1) = m at h1
  have fin : ∀ op, isAt ss m op = true → (i : Int) < m ∧ m < ss.length := fun op h => by
    have := isAt_range h
    rcases h1 with q | q <;> omega
  have two : ∀ op, isAt ss m op = true → isAt ss (blockOf ss (m.toNat + 1)) 4 = true → EndIn ss i (m, blockOf ss (m.toNat + 1)) := fun op ho h => by
    have q1 := fin op ho
    have q2 := isAt_range h
    rcases hb (m.toNat + 1) (by omega) (by omega) with q | q
    · exact absurd q (by omega)
    · exact .inr ⟨by simp only []; omega, by simp only []; omega, .inr ⟨by simp only []; omega, by simp only []; omega⟩⟩
  have one : ∀ op, isAt ss m op = true → EndIn ss i (-1, m) := fun op ho => by
    have q1 := fin op ho
    exact .inr ⟨q1.1, q1.2, .inl rfl⟩
  split
  · split
    · rename_i h; exact one 4 h
    · exact .inl rfl
  · split
    · split
      · rename_i h; exact one 4 h
      · split
        · rename_i h
          split
          · rename_i h2; exact two 3 h.1 h2
          · exact .inl rfl
        · exact .inl rfl
    · split
      · split
        · rename_i h
          split
          · rename_i h2; exact two 9 h.1 h2
          · exact .inl rfl
        · exact .inl rfl
      · exact .inl rfl
theorem nest_in (ss : List Stm) : ∀ (d i : Nat), ss.length - i ≤ d → i ≤ ss.length → BlockIn ss i (blockOf ss i) ∧ (i < ss.length → EndIn ss i (endOf ss i))
  | 0, i, hd, hi => ⟨block_step hi (fun h => absurd h (by omega)) (fun j h1 h2 => absurd h1 (by omega)), fun h => absurd h (by omega)⟩
  | d + 1, i, hd, hi => by
    have hb : ∀ j, i < j → j ≤ ss.length → BlockIn ss j (blockOf ss j) := fun j h1 h2 => (nest_in ss d j (by omega) h2).1
    exact ⟨block_step hi (fun h => end_step h hb) hb, fun h => end_step h hb⟩
theorem block_in (ss : List Stm) {i : Nat} (h : i ≤ ss.length) : BlockIn ss i (blockOf ss i) := (nest_in ss _ i (Nat.le_refl _) h).1
theorem end_in (ss : List Stm) {i : Nat} (h : i < ss.length) : EndIn ss i (endOf ss i) := (nest_in ss _ i (Nat.le_refl _) (by omega)).2 h
/-! The equations, case by case. -/
section
variable {ss : List Stm} {i : Nat}
theorem block_past (h : ss.length ≤ i) : blockOf ss i = i := by rw [blockOf, if_neg (by omega)]
theorem block_stop (h : i < ss.length) (ho : opAt ss i = 3 ∨ opAt ss i = 9 ∨ opAt ss i = 4) : blockOf ss i = i := by rw [blockOf, if_pos h, if_pos ho]
theorem block_next (h : i < ss.length) (ho : ¬ (opAt ss i = 3 ∨ opAt ss i = 9 ∨ opAt ss i = 4)) (ho2 : ¬ (opAt ss i = 2 ∨ opAt ss i = 5 ∨ opAt ss i = 8)) : blockOf ss i = blockOf ss (i + 1) := by
  rw [blockOf, if_pos h, if_neg ho, if_neg ho2]
theorem block_bad (h : i < ss.length) (ho : opAt ss i = 2 ∨ opAt ss i = 5 ∨ opAt ss i = 8) (he : (endOf ss i).2 < 0) : blockOf ss i = -1 := by
  rw [blockOf, if_pos h, if_neg (by omega), if_pos ho, dif_neg (by omega)]
theorem block_over (h : i < ss.length) (ho : opAt ss i = 2 ∨ opAt ss i = 5 ∨ opAt ss i = 8) (he : 0 ≤ (endOf ss i).2) : blockOf ss i = blockOf ss ((endOf ss i).2.toNat + 1) := by
  have := end_in ss h
  have hle : (i : Int) ≤ (endOf ss i).2 := by
    rcases this with e | e
    · rw [e] at he; simp only [] at he; omega
    · omega
  rw [blockOf, if_pos h, if_neg (by omega), if_pos ho, dif_pos hle]
end
end Go.Proofs.Ytdippnnhibgjoaa
