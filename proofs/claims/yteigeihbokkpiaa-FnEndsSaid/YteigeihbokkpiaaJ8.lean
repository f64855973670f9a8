/- Joined texts of this proof (MachMath, SpecEndOf, SpecStepsOf), in build order. -/
import Derived.Test.YteigeihbokkpiaaJ4
import Derived.Test.YteigeihbokkpiaaJ7
/- Plain mathematics: a stack of labels that is walked once leads to the same ends as the nesting of bodies. -/
namespace Go.Proofs.Yteigeihbokkpiaa

/-- The walk from a place on, the stack's top first. -/
def mach (ss : List Stm) (st : List Tm) (i : Nat) : Int × Int :=
  if i < ss.length then
    if opensB (opAt ss i) then mach ss ((opAt ss i, -1) :: st) (i + 1)
    else match st with
      | [] => (-1, -1)
      | (o, s) :: r =>
        if secondB (opAt ss i) then (if takesB o s (opAt ss i) then mach ss ((o, (i : Int)) :: r) (i + 1) else (-1, -1))
        else if opAt ss i = 4 then (if mayEndB o s then (if r.isEmpty then (s, (i : Int)) else mach ss r (i + 1)) else (-1, -1))
        else mach ss ((o, s) :: r) (i + 1)
  else (-1, -1)
termination_by ss.length - i

section
variable {ss : List Stm} {i : Nat} {st r : List Tm} {o s : Int}
theorem mach_past (h : ss.length ≤ i) : mach ss st i = (-1, -1) := by rw [mach.eq_def ss st i, if_neg (by omega)]
theorem mach_open (h : i < ss.length) (ho : opensB (opAt ss i) = true) : mach ss st i = mach ss ((opAt ss i, -1) :: st) (i + 1) := by rw [mach.eq_def ss st i, if_pos h, if_pos ho]
theorem mach_second (h : i < ss.length) (hs : secondB (opAt ss i) = true) : mach ss ((o, s) :: r) i = if takesB o s (opAt ss i) then mach ss ((o, (i : Int)) :: r) (i + 1) else (-1, -1) := by
  have ho : ¬ opensB (opAt ss i) = true := by
    simp only [secondB, Bool.or_eq_true, beq_iff_eq] at hs
    simp only [opensB, Bool.or_eq_true, beq_iff_eq]; omega
  rw [mach, if_pos h, if_neg ho]
  simp only [hs, if_true]
theorem mach_stop (h : i < ss.length) (h4 : opAt ss i = 4) : mach ss ((o, s) :: r) i = if mayEndB o s then (if r.isEmpty then (s, (i : Int)) else mach ss r (i + 1)) else (-1, -1) := by
  rw [mach, if_pos h, if_neg (by rw [h4]; decide)]
  simp only [h4, show secondB 4 = false from rfl, if_true]
  rfl
theorem mach_plain (h : i < ss.length) (ho : opensB (opAt ss i) = false) (hs : secondB (opAt ss i) = false) (h4 : opAt ss i ≠ 4) : mach ss ((o, s) :: r) i = mach ss ((o, s) :: r) (i + 1) := by
  rw [mach, if_pos h, if_neg (by rw [ho]; simp)]
  simp only [hs, if_neg h4]
  rfl
end
theorem opens_iff (x : Int) : opensB x = true ↔ (x = 2 ∨ x = 5 ∨ x = 8) := by simp only [opensB, Bool.or_eq_true, beq_iff_eq]; omega
theorem second_iff (x : Int) : secondB x = true ↔ (x = 3 ∨ x = 9) := by simp only [secondB, Bool.or_eq_true, beq_iff_eq]
/-- A body ends at a statement that ends one, or behind all. -/
theorem block_lands (ss : List Stm) : ∀ (d i j : Nat), ss.length - i ≤ d → i ≤ ss.length → blockOf ss i = (j : Int) → j < ss.length → opAt ss j = 3 ∨ opAt ss j = 9 ∨ opAt ss j = 4
  | 0, i, j, hd, hi, hb, hj => by
    rw [block_past (by omega)] at hb
    omega
  | d + 1, i, j, hd, hi, hb, hj => by
    by_cases hlt : i < ss.length
    case neg => rw [block_past (by omega)] at hb; omega
    by_cases hs : opAt ss i = 3 ∨ opAt ss i = 9 ∨ opAt ss i = 4
    · rw [block_stop hlt hs] at hb
      obtain rfl : i = j := by omega
      exact hs
    by_cases ho : opAt ss i = 2 ∨ opAt ss i = 5 ∨ opAt ss i = 8
    case neg =>
      rw [block_next hlt hs ho] at hb
      exact block_lands ss d (i + 1) j (by omega) (by omega) hb hj
    have hin := end_in ss hlt
    by_cases he : (endOf ss i).2 < 0
    · rw [block_bad hlt ho he] at hb; omega
    rw [block_over hlt ho (by omega)] at hb
    rcases hin with q | q
    · rw [q] at he; simp only [] at he; omega
    · exact block_lands ss d _ j (by omega) (by omega) hb hj
/-- From the stack's walk: over a body. -/
def Over (ss : List Stm) (i : Nat) : Prop := ∀ st : List Tm, st ≠ [] → (blockOf ss i = -1 → mach ss st i = (-1, -1)) ∧ ∀ j : Nat, blockOf ss i = (j : Int) → mach ss st i = mach ss st j
theorem isAt_neg (ss : List Stm) (op : Int) : isAt ss (-1) op = false := by simp [isAt]
theorem isAt_len (ss : List Stm) (op : Int) : isAt ss (ss.length : Int) op = false := by
  simp only [isAt, Bool.and_eq_false_iff, decide_eq_false_iff_not]; omega
theorem isAt_in {ss : List Stm} {m : Nat} (op : Int) (h : m < ss.length) : isAt ss (m : Int) op = (opAt ss m == op) := by
  simp only [isAt, Int.toNat_natCast]
  rw [decide_eq_true (by omega), decide_eq_true (by omega)]
  rfl
theorem mach_one {ss : List Stm} {i : Nat} (hi : i < ss.length) (ho : opAt ss i = 2 ∨ opAt ss i = 5 ∨ opAt ss i = 8) (IH : ∀ j, i < j → j ≤ ss.length → Over ss j) (st : List Tm) :
    mach ss st i = if (endOf ss i).2 < 0 then (-1, -1) else if st.isEmpty then endOf ss i else mach ss st ((endOf ss i).2.toNat + 1) := by
  rw [mach_open hi ((opens_iff _).2 ho)]
  obtain ⟨M, hM⟩ : ∃ M, blockOf ss (i + 1) = M := ⟨_, rfl⟩
  rw [end_eq hi hM]
  have hin := block_in ss (i := i + 1) (by omega)
  rw [hM] at hin
  obtain ⟨x, hx⟩ : ∃ x, opAt ss i = x := ⟨_, rfl⟩
  rw [hx] at ho ⊢
  have hO := IH (i + 1) (by omega) (by omega) ((x, -1) :: st) (by simp)
  rw [hM] at hO
  rcases hin with rfl | hin
  · rw [hO.1 rfl]
    simp only [isAt_neg]
    rcases ho with rfl | rfl | rfl <;> simp
  obtain ⟨m, rfl⟩ : ∃ m : Nat, M = (m : Int) := ⟨M.toNat, by omega⟩
  rw [hO.2 m rfl]
  clear hO
  rcases Nat.lt_or_ge m ss.length with hm | hm
  case inr =>
    obtain rfl : m = ss.length := by omega
    rw [mach_past (Nat.le_refl _)]
    simp only [isAt_len]
    rcases ho with rfl | rfl | rfl <;> simp
  have hl := block_lands ss _ (i + 1) m (Nat.le_refl _) (by omega) hM hm
  simp only [isAt_in _ hm, Int.toNat_natCast]
  obtain ⟨y, hy⟩ : ∃ y, opAt ss m = y := ⟨_, rfl⟩
  rw [hy] at hl
  -- the second body
  obtain ⟨E, hE⟩ : ∃ E, blockOf ss (m + 1) = E := ⟨_, rfl⟩
  have hinE := block_in ss (i := m + 1) (by omega)
  rw [hE] at hinE
  have two : ∀ o : Int, (o = 2 ∨ o = 8) → mach ss ((o, (m : Int)) :: st) (m + 1) = if isAt ss E 4 then (if st.isEmpty then ((m : Int), E) else mach ss st (E.toNat + 1)) else (-1, -1) := fun o hoo => by
    have hO := IH (m + 1) (by omega) (by omega) ((o, (m : Int)) :: st) (by simp)
    rw [hE] at hO
    rcases hinE with rfl | hinE
    · rw [hO.1 rfl, isAt_neg]; rfl
    obtain ⟨e, rfl⟩ : ∃ e : Nat, E = (e : Int) := ⟨E.toNat, by omega⟩
    rw [hO.2 e rfl]
    rcases Nat.lt_or_ge e ss.length with he | he
    case inr =>
      obtain rfl : e = ss.length := by omega
      rw [mach_past (Nat.le_refl _), isAt_len]; rfl
    have hl2 := block_lands ss _ (m + 1) e (Nat.le_refl _) (by omega) hE he
    rw [isAt_in _ he]
    rcases hl2 with h3 | h9 | h4
    · rw [mach_second he (by rw [h3]; rfl), h3]
      rw [if_neg (by simp [takesB]; omega), if_neg (by decide)]
    · rw [mach_second he (by rw [h9]; rfl), h9]
      rw [if_neg (by simp [takesB]; omega), if_neg (by decide)]
    · rw [mach_stop he h4, h4, if_pos (show mayEndB o (m : Int) = true by simp [mayEndB]), if_pos (show ((4 : Int) == 4) = true by decide), Int.toNat_natCast]
  rw [hE, hy]
  rcases ho with rfl | rfl | rfl
  · rcases hl with rfl | rfl | rfl
    · rw [mach_second hm (by rw [hy]; rfl), hy, if_pos (by decide), two 2 (.inl rfl)]
      by_cases h4 : isAt ss E 4 = true
      · have := isAt_range h4
        simp [h4]
        omega
      · simp [h4]
    · rw [mach_second hm (by rw [hy]; rfl), hy, if_neg (by decide)]
      simp
    · rw [mach_stop hm hy, if_pos (by decide)]
      simp
      omega
  · rcases hl with rfl | rfl | rfl
    · rw [mach_second hm (by rw [hy]; rfl), hy, if_neg (by decide)]
      simp
    · rw [mach_second hm (by rw [hy]; rfl), hy, if_neg (by decide)]
      simp
    · rw [mach_stop hm hy, if_pos (by decide)]
      simp
      omega
  · rcases hl with rfl | rfl | rfl
    · rw [mach_second hm (by rw [hy]; rfl), hy, if_neg (by decide)]
      simp
    · rw [mach_second hm (by rw [hy]; rfl), hy, if_pos (by decide), two 8 (.inr rfl)]
      by_cases h4 : isAt ss E 4 = true
      · have := isAt_range h4
        simp [h4]
        omega
      · simp [h4]
    · rw [mach_stop hm hy, if_neg (by decide)]
      simp
theorem over_all (ss : List Stm) : ∀ (d i : Nat), ss.length - i ≤ d → i ≤ ss.length → Over ss i
  | 0, i, hd, hi => by
    intro st hst
    rw [block_past (by omega)]
    exact ⟨fun h => by omega, fun j hj => congrArg (mach ss st) (by omega)⟩
  | d + 1, i, hd, hi => by
    have IH : ∀ j, i < j → j ≤ ss.length → Over ss j := fun j h1 h2 => over_all ss d j (by omega) h2
    intro st hst
    by_cases hlt : i < ss.length
    case neg =>
      rw [block_past (by omega)]
      exact ⟨fun h => by omega, fun j hj => congrArg (mach ss st) (by omega)⟩
    by_cases hs : opAt ss i = 3 ∨ opAt ss i = 9 ∨ opAt ss i = 4
    · rw [block_stop hlt hs]
      exact ⟨fun h => by omega, fun j hj => congrArg (mach ss st) (by omega)⟩
    by_cases ho : opAt ss i = 2 ∨ opAt ss i = 5 ∨ opAt ss i = 8
    case neg =>
      rw [block_next hlt hs ho]
      obtain ⟨⟨o, s⟩, r, rfl⟩ : ∃ t r, st = t :: r := List.exists_cons_of_ne_nil hst
      rw [mach_plain hlt (by rw [← Bool.not_eq_true, opens_iff]; exact ho) (by rw [← Bool.not_eq_true, second_iff]; omega) (by omega)]
      exact IH (i + 1) (by omega) (by omega) _ hst
    rw [mach_one hlt ho IH st]
    have hin := end_in ss hlt
    have hne : st.isEmpty = false := by cases st with
      | nil => exact absurd rfl hst
      | cons => rfl
    by_cases he : (endOf ss i).2 < 0
    · rw [if_pos he, block_bad hlt ho he]
      exact ⟨fun _ => rfl, fun j hj => by omega⟩
    · rw [if_neg he, hne, block_over hlt ho (by omega), if_neg (by simp)]
      rcases hin with q | q
      · rw [q] at he; simp only [] at he; omega
      · exact IH _ (by omega) (by omega) st hst
/-- The walk with an empty stack, from a statement that opens a block. -/
theorem mach_end {ss : List Stm} {i : Nat} (hi : i < ss.length) (ho : opAt ss i = 2 ∨ opAt ss i = 5 ∨ opAt ss i = 8) : mach ss [] i = endOf ss i := by
  rw [mach_one hi ho (fun j _ h2 => over_all ss _ j (Nat.le_refl _) h2) []]
  have hin := end_in ss hi
  by_cases he : (endOf ss i).2 < 0
  · rw [if_pos he]
    rcases hin with q | q
    · exact q.symm
    · omega
  · rw [if_neg he]; rfl
end Go.Proofs.Yteigeihbokkpiaa
/- The contract of the model's EndOf. -/
namespace Go.Proofs.Yteigeihbokkpiaa
open Go.RowKit

/-- What EndOf answers. -/
def endB (ss : List Stm) (z : Int) : Int × Int := if 0 ≤ z ∧ z ≤ (ss.length : Int) - 1 ∧ ss.length ≤ 40 then endOf ss z.toNat else (-1, -1)
set_option maxHeartbeats 800000 in
theorem specEndOf_any (a : Option Addr) (n c : Nat) (rs : List SRow) (ss : List Stm) (z : Int) (w : World) (h : Stmts w a n rs ss) :
    Calls Try.prog 21 #[.slice a n c, .int .i64 z] w fun e w' => e = .returned (.tuple #[.int .i64 (endB ss z).1, .int .i64 (endB ss z).2]) ∧ w = w' := by
  have hbd := h.2.2.1
  have hlen := h.2.1
  obtain ⟨P, HP⟩ : ∃ P, Hid (endB ss z = P) := ⟨_, rfl⟩
  rw [HP.out]
  by_cases hz : 0 ≤ z ∧ z ≤ (n : Int) - 1
  · have hin : (decide (0 ≤ z) && decide (z ≤ (n : Int) - 1)) = true := by simpa using hz
    by_cases h40 : n ≤ 40
    · have hd : decide ((n : Int) > 40) = false := by simp; omega
      obtain ⟨k, rfl⟩ : ∃ k : Nat, z = (k : Int) := ⟨z.toNat, by omega⟩
      have hc := l3End_any a n c rs ss k w h (by omega)
      have he : P = endOf ss k := by rw [← HP.out, endB, if_pos (by omega), Int.toNat_natCast]
      rw [← he] at hc
      obtain ⟨p1, p2⟩ := P
      simp only [] at hc ⊢
      have HC := Lib.hid hc
      clear hc he h HP
      go_enter Try.func21, Try.ntmps21
      go_wp2_with (first | (go_at_call 38; refine (in_any _ _ _ _).mono ?_; rintro e w' ⟨rfl, rfl⟩; rw [hin]) | (go_at_call 56; refine HC.out.mono ?_; rintro e w' ⟨rfl, rfl⟩))
      go_ret2
      exact ⟨rfl, rfl⟩
    · have hd : decide ((n : Int) > 40) = true := by simp; omega
      have he : P = (-1, -1) := by rw [← HP.out, endB, if_neg (by omega)]
      subst he
      go_enter Try.func21, Try.ntmps21
      go_wp2_with (go_at_call 38; refine (in_any _ _ _ _).mono ?_; rintro e w' ⟨rfl, rfl⟩; rw [hin])
      go_ret2
      exact ⟨rfl, rfl⟩
  · have hin : (decide (0 ≤ z) && decide (z ≤ (n : Int) - 1)) = false := by rw [← Bool.not_eq_true]; simpa using hz
    have he : P = (-1, -1) := by rw [← HP.out, endB, if_neg (by omega)]
    subst he
    go_enter Try.func21, Try.ntmps21
    go_wp2_with (go_at_call 38; refine (in_any _ _ _ _).mono ?_; rintro e w' ⟨rfl, rfl⟩; rw [hin])
    go_ret2
    exact ⟨rfl, rfl⟩
end Go.Proofs.Yteigeihbokkpiaa
/- The contract of the model's l3Steps. -/
namespace Go.Proofs.Yteigeihbokkpiaa
open Go.RowKit

theorem steps_none {ss : List Stm} {i t : Nat} (h : Steps ss i i t) : t = 0 := by
  cases h with
  | nil => rfl
  | plain _ _ _ _ p => have := (steps_small p).1; omega
  | one _ _ _ p q => have := (steps_small p).1; have := (steps_small q).1; omega
  | two _ _ _ p p' q => have := (steps_small p).1; have := (steps_small p').1; have := (steps_small q).1; omega
  | loop _ _ _ _ _ p q => have := (steps_small p).1; have := (steps_small q).1; omega
  | attempt _ _ _ p p' q => have := (steps_small p).1; have := (steps_small p').1; have := (steps_small q).1; omega
theorem end_plain {ss : List Stm} {i : Nat} (hi : i < ss.length) (h2 : opAt ss i ≠ 2) (h5 : opAt ss i ≠ 5) (h8 : opAt ss i ≠ 8) : endOf ss i = (-1, -1) := by
  rw [end_eq hi rfl, if_neg h5, if_neg h2, if_neg h8]
theorem Stmts.still {w w' : World} {a : Option Addr} {n : Nat} {rs : List SRow} {ss : List Stm} (h : Stmts w a n rs ss) (hs : Still w w') : Stmts w' a n rs ss := h.below (hs.below _)
theorem l1Max_any (x y : Int) (w : World) : Calls Try.prog 81 #[.int .i64 x, .int .i64 y] w fun e w' => e = .returned (.int .i64 (max x y)) ∧ w = w' := by
  by_cases h : x > y
  · go_enter Try.func81, Try.ntmps81
    go_wp2
    go_ret
    exact ⟨ret_int (by omega), rfl⟩
  · go_enter Try.func81, Try.ntmps81
    go_wp2
    go_ret
    exact ⟨ret_int (by omega), rfl⟩
/-- The contract, at a part. -/
def StepsAt (a : Option Addr) (n c : Nat) (rs : List SRow) (ss : List Stm) (i : Nat) : Prop :=
  ∀ (w : World) (j s : Nat), Stmts w a n rs ss → j ≤ n → Steps ss i j s → Calls Try.prog 44 #[.slice a n c, .int .i64 (i : Int), .int .i64 (j : Int)] w fun e w' => e = .returned (.int .i64 (s : Int)) ∧ Still w w'
theorem StepsAt.succ {a : Option Addr} {n c : Nat} {rs : List SRow} {ss : List Stm} {i : Nat} (h : StepsAt a n c rs ss (i + 1)) (w : World) (j s : Nat) (hs : Stmts w a n rs ss) (hj : j ≤ n) (ht : Steps ss (i + 1) j s) :
    Calls Try.prog 44 #[.slice a n c, .int .i64 ((i : Int) + 1), .int .i64 (j : Int)] w fun e w' => e = .returned (.int .i64 (s : Int)) ∧ Still w w' := by
  have := h w j s hs hj ht
  rwa [show ((i + 1 : Nat) : Int) = (i : Int) + 1 by omega] at this
set_option maxRecDepth 20000 in
set_option maxHeartbeats 1600000 in
theorem steps_at (a : Option Addr) (n c : Nat) (rs : List SRow) (ss : List Stm) (i : Nat) (h40 : n ≤ 40) (HI : Hid (∀ k, i < k → StepsAt a n c rs ss k)) : StepsAt a n c rs ss i := by
  intro w j s h hj hst
  have hbig := steps_bound hst (by omega)
  have hij := (steps_small hst).1
  have HL := Lib.hid h.2.1
  go_enter Try.func44, Try.ntmps44
  go_wp2
  go_loopw [7, 8] (fun q x wr => ∃ k u t : Nat, i ≤ k ∧ k ≤ j ∧ x = .int .i64 (k : Int) ∧ q = .int .i64 (u : Int) ∧ u + t = s ∧ Hid (Steps ss k j t) ∧ Still w wr) (fun _ x _ => j - (intOf x).toNat)
  case atStart => exact ⟨i, 0, s, Nat.le_refl _, hij, rfl, rfl, by omega, Lib.hid hst, Still.refl _⟩
  case round =>
    clear hst
    obtain ⟨k, u, t, hik, hkj, rfl, rfl, hut, HT, hstill⟩ := hrel
    have h' := h.still hstill
    by_cases hlt : k < j
    case neg =>
      obtain rfl : k = j := by omega
      have h0 := steps_none HT.out
      subst h0
      have e0 : u = s := by omega
      subst e0
      clear h'
      go_wp2
      go_ret
      exact ⟨rfl, hstill⟩
    have hend := l3End_any a n c rs ss k wr h' (by omega)
    obtain ⟨b, o, x, y, _, _, _, _, _, _, ts, us, rfl, hb, hz, hin1, hin2, hc1, hc2, _⟩ := h'.at_ (k := k) (by omega)
    have hop : opAt ss k = x := by rw [opAt, hz.out]
    have HS := Lib.hid h'
    clear h'
    have hst := HT.out
    clear HT
    cases hst with
    | nil => omega
    | @plain _ _ s1 hi h2 h5 h8 p =>
      rw [end_plain hi h2 h5 h8] at hend
      rw [hop] at h2 h5 h8
      have k2 : (x == 2) = false := by simpa using h2
      have k5 : (x == 5) = false := by simpa using h5
      have k8 : (x == 8) = false := by simpa using h8
      have HP := Lib.hid p
      have HC := Lib.hid hend
      have hub : u + s1 + 1 < 3656158440062976 := by omega
      have HU := Lib.hid hut
      clear hend h2 h5 h8 hop hc2 p hut hbig
      go_wp2_with (go_at_call 56; refine HC.out.mono ?_; rintro e w' ⟨rfl, rfl⟩)
      go_roundw
      case rel => exact ⟨k + 1, u + 1, s1, by omega, by omega, by go_num, by go_num, by have := HU.out; omega, HP, hstill⟩
      case measure => simp [intOf]; omega
    | @one _ e _ s1 t1 hi h2 he p q =>
      rw [he] at hend
      obtain rfl : x = 2 := hop.symm.trans h2
      have q1 := (steps_small p).1
      have q2 := (steps_small q).1
      have HP := Lib.hid ((HI.out (k + 1) (by omega)).succ wr e s1 HS.out (by omega) p)
      have HQ := Lib.hid q
      have HC := Lib.hid hend
      have hub : u + s1 + t1 + 1 < 3656158440062976 := by omega
      have HU := Lib.hid hut
      clear hend he h2 hop hc2 p q hut hbig
      go_wp2_with (go_at_call 56; refine HC.out.mono ?_; rintro e w' ⟨rfl, rfl⟩)
      refine HP.out.mono ?_
      rintro e w1 ⟨rfl, hw1⟩
      have hst2 := hstill.trans hw1
      go_wp2
      go_roundw
      case rel => exact ⟨e + 1, u + 1 + s1, t1, by omega, by omega, by go_num, by go_num, by have := HU.out; omega, HQ, hst2⟩
      case measure => simp [intOf]; omega
    | @two _ m e _ s1 s2 t1 hi h2 he p p' q =>
      rw [he] at hend
      obtain rfl : x = 2 := hop.symm.trans h2
      have q1 := (steps_small p).1
      have q2 := (steps_small p').1
      have q3 := (steps_small q).1
      have HP := Lib.hid ((HI.out (k + 1) (by omega)).succ wr m s1 HS.out (by omega) p)
      have HP2 : Hid (∀ w', Still wr w' → Calls Try.prog 44 #[.slice (some ⟨b, o, none⟩) n c, .int .i64 ((m : Int) + 1), .int .i64 (e : Int)] w' fun e w'' => e = .returned (.int .i64 (s2 : Int)) ∧ Still w' w'') := Lib.hid (fun w' hw' => (HI.out (m + 1) (by omega)).succ w' e s2 (HS.out.still hw') (by omega) p')
      have HQ := Lib.hid q
      have HC := Lib.hid hend
      have hub : u + max s1 s2 + t1 + 1 < 3656158440062976 := by omega
      have HU := Lib.hid hut
      clear hend he h2 hop hc2 p p' q hut hbig
      go_wp2_with (go_at_call 56; refine HC.out.mono ?_; rintro e w' ⟨rfl, rfl⟩)
      refine HP.out.mono ?_
      rintro e w1 ⟨rfl, hw1⟩
      have hst2 := hstill.trans hw1
      go_wp2_with fail
      refine (HP2.out _ hw1).mono ?_
      rintro e w2 ⟨rfl, hw2⟩
      have hst3 := hst2.trans hw2
      go_wp2_with (go_at_call 81; refine (l1Max_any _ _ _).mono ?_; rintro e w' ⟨rfl, rfl⟩; rw [show max (s1 : Int) (s2 : Int) = ((max s1 s2 : Nat) : Int) by omega])
      go_roundw
      case rel => exact ⟨e + 1, u + 1 + max s1 s2, t1, by omega, by omega, by go_num, by go_num, by have := HU.out; omega, HQ, hst3⟩
      case measure => simp [intOf]; omega
    | @loop _ e _ kk s1 t1 hi h5 he hk h4 p q =>
      rw [he] at hend
      obtain rfl : x = 5 := hop.symm.trans h5
      obtain rfl : y = (kk : Int) := by rw [hz.out] at hk; exact hk
      have q1 := (steps_small p).1
      have q2 := (steps_small q).1
      have HP : Hid (∀ w', Still wr w' → Calls Try.prog 44 #[.slice (some ⟨b, o, none⟩) n c, .int .i64 ((k : Int) + 1), .int .i64 (e : Int)] w' fun e w'' => e = .returned (.int .i64 (s1 : Int)) ∧ Still w' w'') := Lib.hid (fun w' hw' => (HI.out (k + 1) (by omega)).succ w' e s1 (HS.out.still hw') (by omega) p)
      have HQ := Lib.hid q
      have HC := Lib.hid hend
      obtain ⟨X, HX⟩ : ∃ X : Nat, Hid (kk * (1 + s1) = X) := ⟨_, Lib.hid rfl⟩
      have hub : u + X + t1 + 1 < 3656158440062976 := by rw [HX.out] at hut; omega
      have hs1 := steps_bound p (by omega)
      have HU := Lib.hid hut
      rw [HX.out] at HU
      have hmul : (kk : Int) * (1 + (s1 : Int)) = (X : Int) := by rw [← HX.out]; push_cast; rfl
      have f1 : ∀ n, (wr.drewN n).cell? ⟨b, o + k * 4, none⟩ = some (.int .i64 5) := fun _ => hc1
      have f2 : ∀ n, (wr.drewN n).cell? ⟨b, o + k * 4 + 1, none⟩ = some (.int .i64 (kk : Int)) := fun _ => hc2
      clear hend he h5 hop p q hut hbig hk
      go_wp2_with (go_at_call 56; refine HC.out.mono ?_; rintro e w' ⟨rfl, rfl⟩)
      go_quiet ((go_at_call 44; exact still_quiet (HP.out _ (Still.drew _ _))))
      clear f1 f2 hc1 hc2 hmul
      go_wp2
      go_roundw
      case rel => exact ⟨e + 1, u + 1 + X, t1, by omega, by omega, by go_num, by go_num, by have := HU.out; omega, HQ, hstill.draw _⟩
      case measure => simp [intOf]; omega
    | @attempt _ m e _ s1 s2 t1 hi h8 he p p' q =>
      rw [he] at hend
      obtain rfl : x = 8 := hop.symm.trans h8
      have q1 := (steps_small p).1
      have q2 := (steps_small p').1
      have q3 := (steps_small q).1
      have HP := Lib.hid ((HI.out (k + 1) (by omega)).succ wr m s1 HS.out (by omega) p)
      have HP2 : Hid (∀ w', Still wr w' → Calls Try.prog 44 #[.slice (some ⟨b, o, none⟩) n c, .int .i64 ((m : Int) + 1), .int .i64 (e : Int)] w' fun e w'' => e = .returned (.int .i64 (s2 : Int)) ∧ Still w' w'') := Lib.hid (fun w' hw' => (HI.out (m + 1) (by omega)).succ w' e s2 (HS.out.still hw') (by omega) p')
      have HQ := Lib.hid q
      have HC := Lib.hid hend
      have hub : u + s1 + s2 + t1 + 1 < 3656158440062976 := by omega
      have HU := Lib.hid hut
      clear hend he h8 hop hc2 p p' q hut hbig
      go_wp2_with (go_at_call 56; refine HC.out.mono ?_; rintro e w' ⟨rfl, rfl⟩)
      refine HP.out.mono ?_
      rintro e w1 ⟨rfl, hw1⟩
      have hst2 := hstill.trans hw1
      go_wp2_with fail
      refine (HP2.out _ hw1).mono ?_
      rintro e w2 ⟨rfl, hw2⟩
      have hst3 := hst2.trans hw2
      go_wp2
      go_roundw
      case rel => exact ⟨e + 1, u + 1 + s1 + s2, t1, by omega, by omega, by go_num, by go_num, by have := HU.out; omega, HQ, hst3⟩
      case measure => simp [intOf]; omega
theorem steps_all (a : Option Addr) (n c : Nat) (rs : List SRow) (ss : List Stm) (h40 : n ≤ 40) : ∀ (d i : Nat), n - i ≤ d → StepsAt a n c rs ss i
  | 0, i, hd => by
    refine steps_at a n c rs ss i h40 (Lib.hid (fun k hk => ?_))
    intro w j s h hj hst
    have := (steps_small hst).1
    omega
  | d + 1, i, hd => by
    refine steps_at a n c rs ss i h40 (Lib.hid (fun k hk => ?_))
    exact steps_all a n c rs ss h40 d k (by omega)
theorem l3Steps_any (a : Option Addr) (n c : Nat) (rs : List SRow) (ss : List Stm) (i j s : Nat) (w : World) (h : Stmts w a n rs ss) (h40 : n ≤ 40) (hj : j ≤ n) (hs : Steps ss i j s) :
    Calls Try.prog 44 #[.slice a n c, .int .i64 (i : Int), .int .i64 (j : Int)] w fun e w' => e = .returned (.int .i64 (s : Int)) ∧ Still w w' := steps_all a n c rs ss h40 _ i (Nat.le_refl _) w j s h hj hs
end Go.Proofs.Yteigeihbokkpiaa
