/- Plain mathematics: a stack of labels that is walked once leads to the same ends as the nesting of bodies. -/
import Derived.Test.YteigeihbokkpiaaSpecSteps
import Derived.Test.YteigeihbokkpiaaImplSmall
namespace Go.Proofs.Yteigeihbokkpiaa

/-- The walk from a place on, the stack's top first. -/
def mach (ss : List Stm) (st : List Tm) (i : Nat) : Int × Int :=
  if i < ss.length then
    if opensB (opAt ss i) then mach ss ((opAt ss i, -1) :: st) (i + 1)
    else match st with
      | [] => (-1, -1)
      | (o, s) :: r =>
        if secondB (opAt ss i) then (if takesB o s (opAt ss i) then mach ss ((o, (i : Int)) :: r) (i + 1) else (-1, -1))
        else if opAt ss i = 4 then (if mayEndB o s then (if r.isEmpty then (s, (i : Int)) else mach ss r (i + 1)) else (-1, -1))
        else mach ss ((o, s) :: r) (i + 1)
  else (-1, -1)
termination_by ss.length - i

section
variable {ss : List Stm} {i : Nat} {st r : List Tm} {o s : Int}
theorem mach_past (h : ss.length ≤ i) : mach ss st i = (-1, -1) := by rw [mach.eq_def ss st i, if_neg (by omega)]
theorem mach_open (h : i < ss.length) (ho : opensB (opAt ss i) = true) : mach ss st i = mach ss ((opAt ss i, -1) :: st) (i + 1) := by rw [mach.eq_def ss st i, if_pos h, if_pos ho]
theorem mach_second (h : i < ss.length) (hs : secondB (opAt ss i) = true) : mach ss ((o, s) :: r) i = if takesB o s (opAt ss i) then mach ss ((o, (i : Int)) :: r) (i + 1) else (-1, -1) := by
  have ho : ¬ opensB (opAt ss i) = true := by
    simp only [secondB, Bool.or_eq_true, beq_iff_eq] at hs
    simp only [opensB, Bool.or_eq_true, beq_iff_eq]; omega
  rw [mach, if_pos h, if_neg ho]
  simp only [hs, if_true]
theorem mach_stop (h : i < ss.length) (h4 : opAt ss i = 4) : mach ss ((o, s) :: r) i = if mayEndB o s then (if r.isEmpty then (s, (i : Int)) else mach ss r (i + 1)) else (-1, -1) := by
  rw [mach, if_pos h, if_neg (by rw [h4]; decide)]
  simp only [h4, show secondB 4 = false from rfl, if_true]
  rfl
theorem mach_plain (h : i < ss.length) (ho : opensB (opAt ss i) = false) (hs : secondB (opAt ss i) = false) (h4 : opAt ss i ≠ 4) : mach ss ((o, s) :: r) i = mach ss ((o, s) :: r) (i + 1) := by
  rw [mach, if_pos h, if_neg (by rw [ho]; simp)]
  simp only [hs, if_neg h4]
  rfl
end
theorem opens_iff (x : Int) : opensB x = true ↔ (x = 2 ∨ x = 5 ∨ x = 8) := by simp only [opensB, Bool.or_eq_true, beq_iff_eq]; omega
theorem second_iff (x : Int) : secondB x = true ↔ (x = 3 ∨ x = 9) := by simp only [secondB, Bool.or_eq_true, beq_iff_eq]
/-- A body ends at a statement that ends one, or behind all. -/
theorem block_lands (ss : List Stm) : ∀ (d i j : Nat), ss.length - i ≤ d → i ≤ ss.length → blockOf ss i = (j : Int) → j < ss.length → opAt ss j = 3 ∨ opAt ss j = 9 ∨ opAt ss j = 4
  | 0, i, j, hd, hi, hb, hj => by
    rw [block_past (by omega)] at hb
    omega
  | d + 1, i, j, hd, hi, hb, hj => by
    by_cases hlt : i < ss.length
    case neg => rw [block_past (by omega)] at hb; omega
    by_cases hs : opAt ss i = 3 ∨ opAt ss i = 9 ∨ opAt ss i = 4
    · rw [block_stop hlt hs] at hb
      obtain rfl : i = j := by omega
      exact hs
    by_cases ho : opAt ss i = 2 ∨ opAt ss i = 5 ∨ opAt ss i = 8
    case neg =>
      rw [block_next hlt hs ho] at hb
      exact block_lands ss d (i + 1) j (by omega) (by omega) hb hj
    have hin := end_in ss hlt
    by_cases he : (endOf ss i).2 < 0
    · rw [block_bad hlt ho he] at hb; omega
    rw [block_over hlt ho (by omega)] at hb
    rcases hin with q | q
    · rw [q] at he; simp only [] at he; omega
    · exact block_lands ss d _ j (by omega) (by omega) hb hj
/-- From the stack's walk: over a body. -/
def Over (ss : List Stm) (i : Nat) : Prop := ∀ st : List Tm, st ≠ [] → (blockOf ss i = -1 → mach ss st i = (-1, -1)) ∧ ∀ j : Nat, blockOf ss i = (j : Int) → mach ss st i = mach ss st j
theorem isAt_neg (ss : List Stm) (op : Int) : isAt ss (-1) op = false := by simp [isAt]
theorem isAt_len (ss : List Stm) (op : Int) : isAt ss (ss.length : Int) op = false := by
  simp only [isAt, Bool.and_eq_false_iff, decide_eq_false_iff_not]; omega
theorem isAt_in {ss : List Stm} {m : Nat} (op : Int) (h : m < ss.length) : isAt ss (m : Int) op = (opAt ss m == op) := by
  simp only [isAt, Int.toNat_natCast]
  rw [decide_eq_true (by omega), decide_eq_true (by omega)]
  rfl
theorem mach_one {ss : List Stm} {i : Nat} (hi : i < ss.length) (ho : opAt ss i = 2 ∨ opAt ss i = 5 ∨ opAt ss i = 8) (IH : ∀ j, i < j → j ≤ ss.length → Over ss j) (st : List Tm) :
    mach ss st i = if (endOf ss i).2 < 0 then (-1, -1) else if st.isEmpty then endOf ss i else mach ss st ((endOf ss i).2.toNat + 1) := by
  rw [mach_open hi ((opens_iff _).2 ho)]
  obtain ⟨M, hM⟩ : ∃ M, blockOf ss (i + 1) = M := ⟨_, rfl⟩
  rw [end_eq hi hM]
  have hin := block_in ss (i := i + 1) (by omega)
  rw [hM] at hin
  obtain ⟨x, hx⟩ : ∃ x, opAt ss i = x := ⟨_, rfl⟩
  rw [hx] at ho ⊢
  have hO := IH (i + 1) (by omega) (by omega) ((x, -1) :: st) (by simp)
  rw [hM] at hO
  rcases hin with rfl | hin
  · rw [hO.1 rfl]
    simp only [isAt_neg]
    rcases ho with rfl | rfl | rfl <;> simp
  obtain ⟨m, rfl⟩ : ∃ m : Nat, M = (m : Int) := ⟨M.toNat, by omega⟩
  rw [hO.2 m rfl]
  clear hO
  rcases Nat.lt_or_ge m ss.length with hm | hm
  case inr =>
    obtain rfl : m = ss.length := by omega
    rw [mach_past (Nat.le_refl _)]
    simp only [isAt_len]
    rcases ho with rfl | rfl | rfl <;> simp
  have hl := block_lands ss _ (i + 1) m (Nat.le_refl _) (by omega) hM hm
  simp only [isAt_in _ hm, Int.toNat_natCast]
  obtain ⟨y, hy⟩ : ∃ y, opAt ss m = y := ⟨_, rfl⟩
  rw [hy] at hl
  -- the second body
  obtain ⟨E, hE⟩ : ∃ E, blockOf ss (m + 1) = E := ⟨_, rfl⟩
  have hinE := block_in ss (i := m + 1) (by omega)
  rw [hE] at hinE
  have two : ∀ o : Int, (o = 2 ∨ o = 8) → mach ss ((o, (m : Int)) :: st) (m + 1) = if isAt ss E 4 then (if st.isEmpty then ((m : Int), E) else mach ss st (E.toNat + 1)) else (-1, -1) := fun o hoo => by
    have hO := IH (m + 1) (by omega) (by omega) ((o, (m : Int)) :: st) (by simp)
    rw [hE] at hO
    rcases hinE with rfl | hinE
    · rw [hO.1 rfl, isAt_neg]; rfl
    obtain ⟨e, rfl⟩ : ∃ e : Nat, E = (e : Int) := ⟨E.toNat, by omega⟩
    rw [hO.2 e rfl]
    rcases Nat.lt_or_ge e ss.length with he | he
    case inr =>
      obtain rfl : e = ss.length := by omega
      rw [mach_past (Nat.le_refl _), isAt_len]; rfl
    have hl2 := block_lands ss _ (m + 1) e (Nat.le_refl _) (by omega) hE he
    rw [isAt_in _ he]
    rcases hl2 with h3 | h9 | h4
    · rw [mach_second he (by rw [h3]; rfl), h3]
      rw [if_neg (by simp [takesB]; omega), if_neg (by decide)]
    · rw [mach_second he (by rw [h9]; rfl), h9]
      rw [if_neg (by simp [takesB]; omega), if_neg (by decide)]
    · rw [mach_stop he h4, h4, if_pos (show mayEndB o (m : Int) = true by simp [mayEndB]), if_pos (show ((4 : Int) == 4) = true by decide), Int.toNat_natCast]
  rw [hE, hy]
  rcases ho with rfl | rfl | rfl
  · rcases hl with rfl | rfl | rfl
    · rw [mach_second hm (by rw [hy]; rfl), hy, if_pos (by decide), two 2 (.inl rfl)]
      by_cases h4 : isAt ss E 4 = true
      · have := isAt_range h4
        simp [h4]
        omega
      · simp [h4]
    · rw [mach_second hm (by rw [hy]; rfl), hy, if_neg (by decide)]
      simp
    · rw [mach_stop hm hy, if_pos (by decide)]
      simp
      omega
  · rcases hl with rfl | rfl | rfl
    · rw [mach_second hm (by rw [hy]; rfl), hy, if_neg (by decide)]
      simp
    · rw [mach_second hm (by rw [hy]; rfl), hy, if_neg (by decide)]
      simp
    · rw [mach_stop hm hy, if_pos (by decide)]
      simp
      omega
  · rcases hl with rfl | rfl | rfl
    · rw [mach_second hm (by rw [hy]; rfl), hy, if_neg (by decide)]
      simp
    · rw [mach_second hm (by rw [hy]; rfl), hy, if_pos (by decide), two 8 (.inr rfl)]
      by_cases h4 : isAt ss E 4 = true
      · have := isAt_range h4
        simp [h4]
        omega
      · simp [h4]
    · rw [mach_stop hm hy, if_neg (by decide)]
      simp
theorem over_all (ss : List Stm) : ∀ (d i : Nat), ss.length - i ≤ d → i ≤ ss.length → Over ss i
  | 0, i, hd, hi => by
    intro st hst
    rw [block_past (by omega)]
    exact ⟨fun h => by omega, fun j hj => congrArg (mach ss st) (by omega)⟩
  | d + 1, i, hd, hi => by
    have IH : ∀ j, i < j → j ≤ ss.length → Over ss j := fun j h1 h2 => over_all ss d j (by omega) h2
    intro st hst
    by_cases hlt : i < ss.length
    case neg =>
      rw [block_past (by omega)]
      exact ⟨fun h => by omega, fun j hj => congrArg (mach ss st) (by omega)⟩
    by_cases hs : opAt ss i = 3 ∨ opAt ss i = 9 ∨ opAt ss i = 4
    · rw [block_stop hlt hs]
      exact ⟨fun h => by omega, fun j hj => congrArg (mach ss st) (by omega)⟩
    by_cases ho : opAt ss i = 2 ∨ opAt ss i = 5 ∨ opAt ss i = 8
    case neg =>
      rw [block_next hlt hs ho]
      obtain ⟨⟨o, s⟩, r, rfl⟩ : ∃ t r, st = t :: r := List.exists_cons_of_ne_nil hst
      rw [mach_plain hlt (by rw [← Bool.not_eq_true, opens_iff]; exact ho) (by rw [← Bool.not_eq_true, second_iff]; omega) (by omega)]
      exact IH (i + 1) (by omega) (by omega) _ hst
    rw [mach_one hlt ho IH st]
    have hin := end_in ss hlt
    have hne : st.isEmpty = false := by cases st with
      | nil => exact absurd rfl hst
      | cons => rfl
    by_cases he : (endOf ss i).2 < 0
    · rw [if_pos he, block_bad hlt ho he]
      exact ⟨fun _ => rfl, fun j hj => by omega⟩
    · rw [if_neg he, hne, block_over hlt ho (by omega), if_neg (by simp)]
      rcases hin with q | q
      · rw [q] at he; simp only [] at he; omega
      · exact IH _ (by omega) (by omega) st hst
/-- The walk with an empty stack, from a statement that opens a block. -/
theorem mach_end {ss : List Stm} {i : Nat} (hi : i < ss.length) (ho : opAt ss i = 2 ∨ opAt ss i = 5 ∨ opAt ss i = 8) : mach ss [] i = endOf ss i := by
  rw [mach_one hi ho (fun j _ h2 => over_all ss _ j (Nat.le_refl _) h2) []]
  have hin := end_in ss hi
  by_cases he : (endOf ss i).2 < 0
  · rw [if_pos he]
    rcases hin with q | q
    · exact q.symm
    · omega
  · rw [if_neg he]; rfl
end Go.Proofs.Yteigeihbokkpiaa
