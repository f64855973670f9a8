/- Joined texts of this proof (ProgLaw, NestMath, StepsMath, SpecNest, SpecEnd, SpecSteps), in build order. -/
import Derived.Test.YtbnpoliogldohaaGreatS6
import Derived.Deep.RegionWith
import Derived.Test.YtbnpoliogldohaaGreatS4
import Derived.Test.YtbnpoliogldohaaGreatS1
/- A law's argument that is a program: what it is, as the statement's own reading gives it; what szProg answers for it. -/
namespace Go.Proofs.YtbnpoliogldohaaGreat
open Go.RowKit Go.ChangeShapes Go.WideShapes

/-- An argument that is a program: its slices read where they are not too long. -/
structure ArgProg (w : World) (r : PRow) : Prop where
  inW : In64 r.width
  inT : In64 r.temps
  lows : ArgTerms w r.lows.1 r.lows.2.1
  secrets : ArgTerms w r.secrets.1 r.secrets.2.1
  arrays : ArgInts w r.arrays.1 r.arrays.2.1
  body : ArgStmts w r.body.1 r.body.2.1
theorem ArgTerms.below {w w' : World} {a : Option Addr} {n : Nat} (h : ArgTerms w a n) (hb : Below w.heap.size w w') : ArgTerms w' a n :=
  ⟨h.1, fun hn => by obtain ⟨ts, ht⟩ := h.2 hn; exact ⟨ts, ht.below (Nat.le_refl _) hb⟩⟩
theorem ArgInts.below {w w' : World} {a : Option Addr} {n : Nat} (h : ArgInts w a n) (hb : Below w.heap.size w w') : ArgInts w' a n :=
  ⟨h.1, fun hn => by obtain ⟨ts, ht⟩ := h.2 hn; exact ⟨ts, ht.below hb⟩⟩
theorem ArgStmts.below {w w' : World} {a : Option Addr} {n : Nat} (h : ArgStmts w a n) (hb : Below w.heap.size w w') : ArgStmts w' a n :=
  ⟨h.1, fun hn => by obtain ⟨ts, ht⟩ := h.2 hn; exact ⟨ts, ht.below hb⟩⟩
theorem ArgProg.below {w w' : World} {r : PRow} (h : ArgProg w r) (hb : Below w.heap.size w w') : ArgProg w' r :=
  ⟨h.inW, h.inT, h.lows.below hb, h.secrets.below hb, h.arrays.below hb, h.body.below hb⟩
theorem array6 {α : Type} {cs : Array α} (h : cs.size = 6) : ∃ c0 c1 c2 c3 c4 c5, cs = #[c0, c1, c2, c3, c4, c5] := by
  obtain ⟨l⟩ := cs
  match l, h with
  | [c0, c1, c2, c3, c4, c5], _ => exact ⟨c0, c1, c2, c3, c4, c5, rfl⟩
theorem argInputs_cell {H : Type} {enc : TypeId × Value → H} {w : World} {base : Nat} {spare : Nat → Bool} {held : Bool} {fuel : Nat} {V : Value} {x : DataW H × List MemPlace} (h : DataW.trod enc Tryz.prog w base spare held fuel 46 [V] = some x) : ∃ a len cap, V = .slice a len cap ∧ ArgTerms w a len :=
  argPairs_cell Tryz.underlying46 Tryz.underlying168 (by kernel_rfl) (by kernel_rfl) rfl rfl h
set_option maxRecDepth 100000 in
theorem argProg_of {H : Type} {enc : TypeId × Value → H} {w : World} {base : Nat} {spare : Nat → Bool} {held : Bool} {rc : Reach} {b0 : Nat} {v : Value} {d : DataW H} {p : List MemPlace}
    (hv : Value.okWide Tryz.prog w rc b0 49 v) (h : DataW.Trod enc Tryz.prog w base spare held 49 v d p) : ∃ r : PRow, v = progV r ∧ ArgProg w r := by
  obtain ⟨cs, rfl, hsz⟩ := okWide_struct Tryz.underlying49 hv
  obtain ⟨v0, v1, v2, v3, v4, v5, rfl⟩ := array6 (hsz.trans (by kernel_rfl))
  obtain ⟨fuel, hf⟩ := h
  obtain ⟨_, n, hn⟩ := trod_cells Tryz.underlying49 (by kernel_rfl) (by kernel_rfl) hf
  obtain ⟨u0, y0, c0, d0⟩ := hn 0 _ rfl
  obtain ⟨u1, y1, c1, d1⟩ := hn 1 _ rfl
  obtain ⟨u2, y2, c2, d2⟩ := hn 2 _ rfl
  obtain ⟨u3, y3, c3, d3⟩ := hn 3 _ rfl
  obtain ⟨u4, y4, c4, d4⟩ := hn 4 _ rfl
  obtain ⟨u5, y5, c5, d5⟩ := hn 5 _ rfl
  simp [Value.cells] at c0 c1 c2 c3 c4 c5
  subst c0 c1 c2 c3 c4 c5
  obtain ⟨n0, e0, _, w0⟩ := DataW.trod_int Tryz.underlying2 d0
  obtain ⟨n3, e3, _, w3⟩ := DataW.trod_int Tryz.underlying2 d3
  obtain ⟨a1, l1, k1, rfl, t1⟩ := argInputs_cell d1
  obtain ⟨a2, l2, k2, rfl, t2⟩ := argInputs_cell d2
  obtain ⟨a4, l4, k4, rfl, t4⟩ := argInts_cell Tryz.underlying25 (by kernel_rfl) d4
  obtain ⟨a5, l5, k5, rfl, t5⟩ := argStmts_cell d5
  injection e0 with e0
  injection e3 with e3
  subst e0 e3
  exact ⟨⟨n0, (a1, l1, k1), (a2, l2, k2), n3, (a4, l4, k4), (a5, l5, k5), []⟩, rfl, ⟨in64_of w0, in64_of w3, t1, t2, t4, t5⟩⟩

/-- What szProg leaves: -1, or a number from 0 up, and then the argument reads as a program. -/
def SzProg (w : World) (left : Nat) (r : PRow) (e : Ending) (w' : World) : Prop :=
  Below w.heap.size w w' ∧ (e = .returned (.int .i64 (-1)) ∨ ∃ v : Nat, v ≤ left ∧ e = .returned (.int .i64 (v : Int)) ∧ ∃ rows p, ProgAt w { r with rows := rows } p)
set_option maxHeartbeats 1600000 in
theorem szProg_any (r : PRow) (left : Nat) (w : World) (h : ArgProg w r) (hl : left ≤ 1048576) :
    Calls Tryz.prog 24 #[progV r, .int .i64 (left : Int)] w (SzProg w left r) := by
  obtain ⟨wd, ⟨a1, n1, c1⟩, ⟨a2, n2, c2⟩, tp, ⟨a3, n3, c3⟩, ⟨a4, n4, c4⟩, rows0⟩ := r
  obtain ⟨i1, i2, h1, h2, h3, h4⟩ := h
  simp only [] at i1 i2 h1 h2 h3 h4
  have HB : Below w.heap.size w (w.alloc (.cells #[.int .i64 wd, .slice a1 n1 c1, .slice a2 n2 c2, .int .i64 tp, .slice a3 n3 c3, .slice a4 n4 c4] 49)) := (Below.refl _ _).alloc (Nat.le_refl _) _
  show Calls Tryz.prog 24 #[.agg #[.int .i64 wd, .slice a1 n1 c1, .slice a2 n2 c2, .int .i64 tp, .slice a3 n3 c3, .slice a4 n4 c4], .int .i64 (left : Int)] w _
  go_enter Tryz.func24, Tryz.ntmps24
  go_wp2_with fail
  by_cases e1 : n1 ≤ left
  case neg =>
    refine (szInputS_over _ _ _ _ _ (by omega) h1.1).mono ?_
    rintro e w1 ⟨rfl, rfl⟩
    go_wp2
    go_ret
    exact ⟨HB, .inl rfl⟩
  refine (szInputS_fits _ _ _ _ _ e1 hl).mono ?_
  rintro e w1 ⟨rfl, rfl⟩
  obtain ⟨L1, HL1⟩ : ∃ L1 : Nat, Hid (left - n1 = L1) := ⟨_, rfl⟩
  rw [HL1.out]
  have hl1 : L1 ≤ 1048576 := by have := HL1.out; omega
  go_wp2_with fail
  by_cases e2 : n2 ≤ L1
  case neg =>
    refine (szInputS_over _ _ _ _ _ (by omega) h2.1).mono ?_
    rintro e w1 ⟨rfl, rfl⟩
    go_wp2
    go_ret
    exact ⟨HB, .inl rfl⟩
  refine (szInputS_fits _ _ _ _ _ e2 hl1).mono ?_
  rintro e w1 ⟨rfl, rfl⟩
  obtain ⟨L2, HL2⟩ : ∃ L2 : Nat, Hid (L1 - n2 = L2) := ⟨_, rfl⟩
  rw [HL2.out]
  have hl2 : L2 ≤ 1048576 := by have := HL2.out; omega
  go_wp2_with fail
  by_cases e3 : n3 ≤ L2
  case neg =>
    refine (szInt64S_over _ _ _ _ _ (by omega) h3.1).mono ?_
    rintro e w1 ⟨rfl, rfl⟩
    go_wp2
    go_ret
    exact ⟨HB, .inl rfl⟩
  refine (szInt64S_fits _ _ _ _ _ e3 hl2).mono ?_
  rintro e w1 ⟨rfl, rfl⟩
  obtain ⟨L3, HL3⟩ : ∃ L3 : Nat, Hid (L2 - n3 = L3) := ⟨_, rfl⟩
  rw [HL3.out]
  have hl3 : L3 ≤ 1048576 := by have := HL3.out; omega
  go_wp2_with fail
  by_cases e4 : n4 ≤ L3
  case neg =>
    refine (szStmtS_over _ _ _ _ _ (by omega) h4.1).mono ?_
    rintro e w1 ⟨rfl, rfl⟩
    go_wp2
    go_ret
    exact ⟨HB, .inl rfl⟩
  obtain ⟨rs, hrs⟩ := h4.2 (by omega)
  refine (szStmtS_rows _ _ _ _ _ _ (hrs.below HB) e4 hl3).mono ?_
  rintro e w1 ⟨rfl, hb1⟩
  have hbel := HB.trans (hb1.mono HB.size)
  by_cases e5 : n4 + sumTo rs n4 ≤ L3
  · rw [szI_fits e5]
    obtain ⟨L4, HL4⟩ : ∃ L4 : Nat, Hid (L3 - (n4 + sumTo rs n4) = L4) := ⟨_, rfl⟩
    rw [HL4.out]
    have hl4 : L4 ≤ 1048576 := by have := HL4.out; omega
    obtain ⟨tl, Tl⟩ := h1.2 (by omega)
    obtain ⟨tu, Tu⟩ := h2.2 (by omega)
    obtain ⟨tz, Tz⟩ := h3.2 (by omega)
    obtain ⟨ts, Ts⟩ := hrs.reads (by omega)
    have HP := Lib.hid (show ProgAt w ⟨wd, (a1, n1, c1), (a2, n2, c2), tp, (a3, n3, c3), (a4, n4, c4), rs⟩ ⟨wd, tl, tu, tp, tz, ts⟩ from ⟨rfl, rfl, i1, i2, Tl, Tu, Tz, Ts⟩)
    clear Tl Tu Tz Ts hrs h1 h2 h3 h4
    go_wp2
    go_ret
    exact ⟨hbel, .inr ⟨L4, by have q1 := HL1.out; have q2 := HL2.out; have q3 := HL3.out; have q4 := HL4.out; omega, rfl, rs, _, HP.out⟩⟩
  · rw [szI_over (by omega)]
    clear hrs h1 h2 h3 h4
    go_wp2
    go_ret
    exact ⟨hbel, .inl rfl⟩
end Go.Proofs.YtbnpoliogldohaaGreat
/- Plain mathematics of nested bodies: where a body ends that begins at a place; where a statement's middle and end are. -/
namespace Go.Proofs.YtbnpoliogldohaaGreat

def opAt (ss : List Stm) (i : Nat) : Int := (stAt ss i).op
/-- There is such a statement at this place. -/
def isAt (ss : List Stm) (z op : Int) : Bool := (decide (0 ≤ z) && decide (z ≤ (ss.length : Int) - 1)) && (opAt ss z.toNat == op)
mutual
def blockOf (ss : List Stm) (i : Nat) : Int :=
  if i < ss.length then
    if opAt ss i = 3 ∨ opAt ss i = 9 ∨ opAt ss i = 4 then (i : Int)
    else if opAt ss i = 2 ∨ opAt ss i = 5 ∨ opAt ss i = 8 then
      if _h : (i : Int) ≤ (endOf ss i).2 then blockOf ss ((endOf ss i).2.toNat + 1) else -1
    else blockOf ss (i + 1)
  else (i : Int)
termination_by (ss.length - i, 1)
decreasing_by
  · exact Prod.Lex.right _ (by omega)
  · exact Prod.Lex.left _ _ (by omega)
  · exact Prod.Lex.left _ _ (by omega)
def endOf (ss : List Stm) (i : Nat) : Int × Int :=
  if i < ss.length then
    if opAt ss i = 5 then
      if isAt ss (blockOf ss (i + 1)) 4 then (-1, blockOf ss (i + 1)) else (-1, -1)
    else if opAt ss i = 2 then
      if isAt ss (blockOf ss (i + 1)) 4 then (-1, blockOf ss (i + 1))
      else if _h : isAt ss (blockOf ss (i + 1)) 3 = true ∧ i < (blockOf ss (i + 1)).toNat then
        if isAt ss (blockOf ss ((blockOf ss (i + 1)).toNat + 1)) 4 then (blockOf ss (i + 1), blockOf ss ((blockOf ss (i + 1)).toNat + 1)) else (-1, -1)
      else (-1, -1)
    else if opAt ss i = 8 then
      if _h : isAt ss (blockOf ss (i + 1)) 9 = true ∧ i < (blockOf ss (i + 1)).toNat then
        if isAt ss (blockOf ss ((blockOf ss (i + 1)).toNat + 1)) 4 then (blockOf ss (i + 1), blockOf ss ((blockOf ss (i + 1)).toNat + 1)) else (-1, -1)
      else (-1, -1)
    else (-1, -1)
  else (-1, -1)
termination_by (ss.length - i, 0)
decreasing_by all_goals exact Prod.Lex.left _ _ (by omega)
end

theorem isAt_range {ss : List Stm} {z op : Int} (h : isAt ss z op = true) : 0 ≤ z ∧ z < ss.length := by
  simp only [isAt, Bool.and_eq_true, decide_eq_true_eq] at h
  omega
/-- Where a body ends that begins at i: in it or just behind it, or it is not well nested. -/
def BlockIn (ss : List Stm) (i : Nat) (z : Int) : Prop := z = -1 ∨ ((i : Int) ≤ z ∧ z ≤ ss.length)
/-- An end lies behind its beginning, its middle between. -/
def EndIn (ss : List Stm) (i : Nat) (p : Int × Int) : Prop := p = (-1, -1) ∨ ((i : Int) < p.2 ∧ p.2 < ss.length ∧ (p.1 = -1 ∨ ((i : Int) < p.1 ∧ p.1 < p.2)))
theorem block_step {ss : List Stm} {i : Nat} (hi : i ≤ ss.length) (he : i < ss.length → EndIn ss i (endOf ss i)) (hb : ∀ j, i < j → j ≤ ss.length → BlockIn ss j (blockOf ss j)) : BlockIn ss i (blockOf ss i) := by
  rw [blockOf]
  by_cases h : i < ss.length
  · rw [if_pos h]
    split
    · exact .inr ⟨by omega, by omega⟩
    · split
      · split
        · rename_i hle
          rcases he h with e | e
          · rw [e] at hle; simp only [] at hle; omega
          · rcases hb ((endOf ss i).2.toNat + 1) (by omega) (by omega) with q | q
            · exact .inl q
            · exact .inr (by omega)
        · exact .inl rfl
      · rcases hb (i + 1) (by omega) (by omega) with q | q
        · exact .inl q
        · exact .inr (by omega)
  · rw [if_neg h]
    exact .inr ⟨by omega, by omega⟩
theorem end_step {ss : List Stm} {i : Nat} (hi : i < ss.length) (hb : ∀ j, i < j → j ≤ ss.length → BlockIn ss j (blockOf ss j)) : EndIn ss i (endOf ss i) := by
  have h1 := hb (i + 1) (by omega) (by omega)
  rw [endOf, if_pos hi]
  generalize blockOf ss (i + 1) = m at h1
  have fin : ∀ op, isAt ss m op = true → (i : Int) < m ∧ m < ss.length := fun op h => by
    have := isAt_range h
    rcases h1 with q | q <;> omega
  have two : ∀ op, isAt ss m op = true → isAt ss (blockOf ss (m.toNat + 1)) 4 = true → EndIn ss i (m, blockOf ss (m.toNat + 1)) := fun op ho h => by
    have q1 := fin op ho
    have q2 := isAt_range h
    rcases hb (m.toNat + 1) (by omega) (by omega) with q | q
    · exact absurd q (by omega)
    · exact .inr ⟨by simp only []; omega, by simp only []; omega, .inr ⟨by simp only []; omega, by simp only []; omega⟩⟩
  have one : ∀ op, isAt ss m op = true → EndIn ss i (-1, m) := fun op ho => by
    have q1 := fin op ho
    exact .inr ⟨q1.1, q1.2, .inl rfl⟩
  split
  · split
    · rename_i h; exact one 4 h
    · exact .inl rfl
  · split
    · split
      · rename_i h; exact one 4 h
      · split
        · rename_i h
          split
          · rename_i h2; exact two 3 h.1 h2
          · exact .inl rfl
        · exact .inl rfl
    · split
      · split
        · rename_i h
          split
          · rename_i h2; exact two 9 h.1 h2
          · exact .inl rfl
        · exact .inl rfl
      · exact .inl rfl
theorem nest_in (ss : List Stm) : ∀ (d i : Nat), ss.length - i ≤ d → i ≤ ss.length → BlockIn ss i (blockOf ss i) ∧ (i < ss.length → EndIn ss i (endOf ss i))
  | 0, i, hd, hi => ⟨block_step hi (fun h => absurd h (by omega)) (fun j h1 h2 => absurd h1 (by omega)), fun h => absurd h (by omega)⟩
  | d + 1, i, hd, hi => by
    have hb : ∀ j, i < j → j ≤ ss.length → BlockIn ss j (blockOf ss j) := fun j h1 h2 => (nest_in ss d j (by omega) h2).1
    exact ⟨block_step hi (fun h => end_step h hb) hb, fun h => end_step h hb⟩
theorem block_in (ss : List Stm) {i : Nat} (h : i ≤ ss.length) : BlockIn ss i (blockOf ss i) := (nest_in ss _ i (Nat.le_refl _) h).1
theorem end_in (ss : List Stm) {i : Nat} (h : i < ss.length) : EndIn ss i (endOf ss i) := (nest_in ss _ i (Nat.le_refl _) (by omega)).2 h
/-! The equations, case by case. -/
section
variable {ss : List Stm} {i : Nat}
theorem block_past (h : ss.length ≤ i) : blockOf ss i = i := by rw [blockOf, if_neg (by omega)]
theorem block_stop (h : i < ss.length) (ho : opAt ss i = 3 ∨ opAt ss i = 9 ∨ opAt ss i = 4) : blockOf ss i = i := by rw [blockOf, if_pos h, if_pos ho]
theorem block_next (h : i < ss.length) (ho : ¬ (opAt ss i = 3 ∨ opAt ss i = 9 ∨ opAt ss i = 4)) (ho2 : ¬ (opAt ss i = 2 ∨ opAt ss i = 5 ∨ opAt ss i = 8)) : blockOf ss i = blockOf ss (i + 1) := by
  rw [blockOf, if_pos h, if_neg ho, if_neg ho2]
theorem block_bad (h : i < ss.length) (ho : opAt ss i = 2 ∨ opAt ss i = 5 ∨ opAt ss i = 8) (he : (endOf ss i).2 < 0) : blockOf ss i = -1 := by
  rw [blockOf, if_pos h, if_neg (by omega), if_pos ho, dif_neg (by omega)]
theorem block_over (h : i < ss.length) (ho : opAt ss i = 2 ∨ opAt ss i = 5 ∨ opAt ss i = 8) (he : 0 ≤ (endOf ss i).2) : blockOf ss i = blockOf ss ((endOf ss i).2.toNat + 1) := by
  have := end_in ss h
  have hle : (i : Int) ≤ (endOf ss i).2 := by
    rcases this with e | e
    · rw [e] at he; simp only [] at he; omega
    · omega
  rw [blockOf, if_pos h, if_neg (by omega), if_pos ho, dif_pos hle]
end
end Go.Proofs.YtbnpoliogldohaaGreat
/- Plain mathematics of steps: what a well nested part of a body takes, and that it is no great number. -/
namespace Go.Proofs.YtbnpoliogldohaaGreat

/-- The part [i, j) takes s steps. -/
inductive Steps (ss : List Stm) : Nat → Nat → Nat → Prop where
  | nil (i : Nat) : Steps ss i i 0
  | plain {i j s : Nat} (hi : i < ss.length) (h2 : opAt ss i ≠ 2) (h5 : opAt ss i ≠ 5) (h8 : opAt ss i ≠ 8) (t : Steps ss (i + 1) j s) : Steps ss i j (1 + s)
  | one {i e j s t : Nat} (hi : i < ss.length) (h2 : opAt ss i = 2) (he : endOf ss i = (-1, (e : Int))) (p : Steps ss (i + 1) e s) (q : Steps ss (e + 1) j t) : Steps ss i j (1 + s + t)
  | two {i m e j s s' t : Nat} (hi : i < ss.length) (h2 : opAt ss i = 2) (he : endOf ss i = ((m : Int), (e : Int))) (p : Steps ss (i + 1) m s) (p' : Steps ss (m + 1) e s') (q : Steps ss (e + 1) j t) : Steps ss i j (1 + max s s' + t)
  | loop {i e j k s t : Nat} (hi : i < ss.length) (h5 : opAt ss i = 5) (he : endOf ss i = (-1, (e : Int))) (hk : (stAt ss i).n = (k : Int)) (h4 : k ≤ 4) (p : Steps ss (i + 1) e s) (q : Steps ss (e + 1) j t) : Steps ss i j (1 + k * (1 + s) + t)
  | attempt {i m e j s s' t : Nat} (hi : i < ss.length) (h8 : opAt ss i = 8) (he : endOf ss i = ((m : Int), (e : Int))) (p : Steps ss (i + 1) m s) (p' : Steps ss (m + 1) e s') (q : Steps ss (e + 1) j t) : Steps ss i j (1 + s + s' + t)

theorem sq_le {a b : Nat} (h : a ≤ b) : a * a ≤ b * b := Nat.mul_le_mul h h
theorem mul_one_le {a b : Nat} (hb : 1 ≤ b) : a ≤ a * b := by
  calc a = a * 1 := (Nat.mul_one a).symm
    _ ≤ a * b := Nat.mul_le_mul_left a hb
/-- Two parts and two statements. -/
theorem grow2 {S T a b x : Nat} (hS : S * S ≤ 6 ^ a) (hT : T * T ≤ 6 ^ b) (h1 : 1 ≤ S) (h2 : 1 ≤ T) (hx : x ≤ 1 + 4 * S + T) : x * x ≤ 6 ^ (a + b + 2) := by
  have e1 : S ≤ S * T := mul_one_le h2
  have e2 : T ≤ S * T := by rw [Nat.mul_comm]; exact mul_one_le h1
  have e3 : x ≤ 6 * (S * T) := by omega
  calc x * x ≤ (6 * (S * T)) * (6 * (S * T)) := sq_le e3
    _ = (S * S) * (T * T) * 36 := by simp only [Nat.mul_comm, Nat.mul_left_comm, Nat.mul_assoc]
    _ ≤ 6 ^ a * 6 ^ b * 36 := Nat.mul_le_mul_right _ (Nat.mul_le_mul hS hT)
    _ = 6 ^ (a + b + 2) := by rw [Nat.pow_add, Nat.pow_add]
theorem grow3 {S U T a b c x : Nat} (hS : S * S ≤ 6 ^ a) (hU : U * U ≤ 6 ^ b) (hT : T * T ≤ 6 ^ c) (h1 : 1 ≤ S) (h2 : 1 ≤ U) (h3 : 1 ≤ T) (hx : x ≤ S + U + T) : x * x ≤ 6 ^ (a + b + c + 3) := by
  have hSU : 1 ≤ S * U := Nat.mul_le_mul h1 h2
  have e0 : S * U ≤ S * U * T := mul_one_le h3
  have e1 : S ≤ S * U := mul_one_le h2
  have e2 : U ≤ S * U := by rw [Nat.mul_comm]; exact mul_one_le h1
  have e3 : T ≤ S * U * T := by rw [Nat.mul_comm]; exact mul_one_le hSU
  have e4 : x ≤ 3 * (S * U * T) := by omega
  calc x * x ≤ (3 * (S * U * T)) * (3 * (S * U * T)) := sq_le e4
    _ = (S * S) * (U * U) * (T * T) * 9 := by simp only [Nat.mul_comm, Nat.mul_left_comm, Nat.mul_assoc]
    _ ≤ 6 ^ a * 6 ^ b * 6 ^ c * 9 := Nat.mul_le_mul_right _ (Nat.mul_le_mul (Nat.mul_le_mul hS hU) hT)
    _ ≤ 6 ^ a * 6 ^ b * 6 ^ c * 6 ^ 3 := Nat.mul_le_mul_left _ (by decide)
    _ = 6 ^ (a + b + c + 3) := by rw [Nat.pow_add, Nat.pow_add, Nat.pow_add]
theorem steps_small {ss : List Stm} {i j s : Nat} (h : Steps ss i j s) : i ≤ j ∧ (s + 1) * (s + 1) ≤ 6 ^ (j - i) := by
  induction h with
  | nil i => exact ⟨Nat.le_refl _, by rw [Nat.sub_self]; decide⟩
  | @plain i j s hi h2 h5 h8 t ih =>
    refine ⟨by omega, ?_⟩
    have := grow2 (S := 1) (T := s + 1) (a := 0) (b := j - (i + 1)) (x := s + 2) (by decide) ih.2 (by omega) (by omega) (by omega)
    have e : (1 + s + 1) = s + 2 := by omega
    rw [e]
    have h4 : (s + 2) * (s + 2) ≤ 4 * ((s + 1) * (s + 1)) := by
      have : s + 2 ≤ 2 * (s + 1) := by omega
      calc (s + 2) * (s + 2) ≤ (2 * (s + 1)) * (2 * (s + 1)) := sq_le this
        _ = 4 * ((s + 1) * (s + 1)) := by simp only [Nat.mul_comm, Nat.mul_left_comm, Nat.mul_assoc]
    have e2 : 6 ^ (j - i) = 6 ^ (j - (i + 1)) * 6 := by rw [← Nat.pow_succ]; congr 1; omega
    rw [e2]
    omega
  | @one i e j s t hi h2 he p q ih1 ih2 =>
    refine ⟨by omega, ?_⟩
    have := grow2 (x := 1 + s + t + 1) ih1.2 ih2.2 (by omega) (by omega) (by omega)
    rwa [show e - (i + 1) + (j - (e + 1)) + 2 = j - i by omega] at this
  | @two i m e j s s' t hi h2 he p p' q ih1 ih2 ih3 =>
    refine ⟨by omega, ?_⟩
    have := grow3 (x := 1 + max s s' + t + 1) ih1.2 ih2.2 ih3.2 (by omega) (by omega) (by omega) (by omega)
    rwa [show m - (i + 1) + (e - (m + 1)) + (j - (e + 1)) + 3 = j - i by omega] at this
  | @loop i e j k s t hi h5 he hk h4 p q ih1 ih2 =>
    refine ⟨by omega, ?_⟩
    have hm : k * (1 + s) ≤ 4 * (1 + s) := Nat.mul_le_mul_right _ h4
    have := grow2 (x := 1 + k * (1 + s) + t + 1) ih1.2 ih2.2 (by omega) (by omega) (by omega)
    rwa [show e - (i + 1) + (j - (e + 1)) + 2 = j - i by omega] at this
  | @attempt i m e j s s' t hi h8 he p p' q ih1 ih2 ih3 =>
    refine ⟨by omega, ?_⟩
    have := grow3 (x := 1 + s + s' + t + 1) ih1.2 ih2.2 ih3.2 (by omega) (by omega) (by omega) (by omega)
    rwa [show m - (i + 1) + (e - (m + 1)) + (j - (e + 1)) + 3 = j - i by omega] at this
theorem steps_bound {ss : List Stm} {i j s : Nat} (h : Steps ss i j s) (h40 : j - i ≤ 40) : s < 3656158440062976 := by
  have := (steps_small h).2
  have h2 : 6 ^ (j - i) ≤ 6 ^ 40 := Nat.pow_le_pow_right (by omega) h40
  rcases Nat.lt_or_ge s 3656158440062976 with hlt | hge
  · exact hlt
  · have h3 : 3656158440062977 * 3656158440062977 ≤ (s + 1) * (s + 1) := sq_le (by omega)
    have h4 : (6 : Nat) ^ 40 < 3656158440062977 * 3656158440062977 := by decide
    omega
end Go.Proofs.YtbnpoliogldohaaGreat
/- The contracts of the model's l3Is, l3Block, l3End, EndOf. -/
namespace Go.Proofs.YtbnpoliogldohaaGreat
open Go.RowKit

theorem Stmts.op {w : World} {a : Option Addr} {n : Nat} {rs : List SRow} {ss : List Stm} (h : Stmts w a n rs ss) {k : Nat} (hk : k < n) :
    ∃ b o x, a = some ⟨b, o, none⟩ ∧ Hid (opAt ss k = x) ∧ In64 x ∧ w.cell? ⟨b, o + k * 4, none⟩ = some (.int .i64 x) := by
  obtain ⟨b, o, x, y, _, _, _, _, _, _, ts, us, rfl, _, hz, hin, _, hc, _⟩ := h.at_ hk
  exact ⟨b, o, x, rfl, Lib.hid (by rw [opAt, hz.out]), hin, hc⟩
set_option maxHeartbeats 800000 in
theorem l3Is_any (a : Option Addr) (n c : Nat) (rs : List SRow) (ss : List Stm) (z op : Int) (w : World) (h : Stmts w a n rs ss) :
    Calls Tryz.prog 221 #[.slice a n c, .int .i64 z, .int .i64 op] w fun e w' => e = .returned (.bool (isAt ss z op)) ∧ w = w' := by
  have hbd := h.2.2.1
  obtain ⟨R, HR⟩ : ∃ R, Hid (isAt ss z op = R) := ⟨_, rfl⟩
  have hR := HR.out
  simp only [isAt, h.2.1] at hR
  have HRR := Lib.hid hR
  rw [HR.out]
  clear hR HR
  by_cases hz : 0 ≤ z ∧ z ≤ (n : Int) - 1
  · have hin : (decide (0 ≤ z) && decide (z ≤ (n : Int) - 1)) = true := by simpa using hz
    obtain ⟨k, rfl⟩ : ∃ k : Nat, z = (k : Int) := ⟨z.toNat, by omega⟩
    obtain ⟨b, o, x, rfl, hx, hix, hc⟩ := h.op (k := k) (by omega)
    have hlt : k < n := by omega
    go_enter Tryz.func221, Tryz.ntmps221
    go_wp2_with (go_at_call 87; refine (in_any _ _ _ _).mono ?_; rintro e w' ⟨rfl, rfl⟩; rw [hin])
    go_ret
    exact ⟨ret_bool (by rw [← HRR.out, hin, Int.toNat_natCast, hx.out]; rfl), rfl⟩
  · have hin : (decide (0 ≤ z) && decide (z ≤ (n : Int) - 1)) = false := by rw [← Bool.not_eq_true]; simpa using hz
    go_enter Tryz.func221, Tryz.ntmps221
    go_wp2_with (go_at_call 87; refine (in_any _ _ _ _).mono ?_; rintro e w' ⟨rfl, rfl⟩; rw [hin])
    go_ret
    exact ⟨ret_bool (by rw [← HRR.out, hin]; rfl), rfl⟩
/-- The two contracts, at a place. -/
def BlockAt (w : World) (a : Option Addr) (n c : Nat) (ss : List Stm) (i : Nat) : Prop :=
  Calls Tryz.prog 161 #[.slice a n c, .int .i64 (i : Int)] w fun e w' => e = .returned (.int .i64 (blockOf ss i)) ∧ w = w'
def EndAt (w : World) (a : Option Addr) (n c : Nat) (ss : List Stm) (i : Nat) : Prop :=
  Calls Tryz.prog 187 #[.slice a n c, .int .i64 (i : Int)] w fun e w' => e = .returned (.tuple #[.int .i64 (endOf ss i).1, .int .i64 (endOf ss i).2]) ∧ w = w'
set_option maxHeartbeats 1600000 in
theorem block_at (w : World) (a : Option Addr) (n c : Nat) (rs : List SRow) (ss : List Stm) (h : Stmts w a n rs ss) (i : Nat) (hi : i ≤ n) (HE : Hid (∀ j, i ≤ j → j < n → EndAt w a n c ss j)) : BlockAt w a n c ss i := by
  have hbd := h.2.2.1
  have HL := Lib.hid h.2.1
  obtain ⟨R, HR⟩ : ∃ R, Hid (blockOf ss i = R) := ⟨_, rfl⟩
  unfold BlockAt
  rw [HR.out]
  go_enter Tryz.func161, Tryz.ntmps161
  go_wp2
  go_loop [1] (fun q => ∃ k : Nat, i ≤ k ∧ k ≤ n ∧ q = .int .i64 (k : Int) ∧ Hid (blockOf ss k = R)) (fun q => n - (intOf q).toNat)
  case atStart => exact ⟨i, Nat.le_refl _, hi, rfl, HR⟩
  case round =>
    obtain ⟨k, hik, hk, rfl, hK⟩ := hrel
    by_cases hlt : k < n
    · obtain ⟨b, o, x, rfl, hx, hix, hc⟩ := h.op hlt
      have hl : k < ss.length := by rw [HL.out]; exact hlt
      by_cases hs : x = 3 ∨ x = 9 ∨ x = 4
      · have HQ := Lib.hid (hK.out.symm.trans (block_stop hl (by rw [hx.out]; exact hs)))
        rcases hs with rfl | rfl | rfl <;> (go_wp2; go_ret; exact ⟨ret_int HQ.out.symm, rfl⟩)
      have k3 : (x == 3) = false := by simp; omega
      have k9 : (x == 9) = false := by simp; omega
      have k4 : (x == 4) = false := by simp; omega
      by_cases ho : x = 2 ∨ x = 5 ∨ x = 8
      · have hin := end_in ss hl
        have hp := HE.out k hik hlt
        unfold EndAt at hp
        have HO := Lib.hid (show opAt ss k = 2 ∨ opAt ss k = 5 ∨ opAt ss k = 8 by rw [hx.out]; exact ho)
        obtain ⟨⟨M, E⟩, HP⟩ : ∃ P, Hid (endOf ss k = P) := ⟨_, rfl⟩
        rw [HP.out] at hin hp
        simp only [] at hp
        have HC := Lib.hid hp
        clear hp hs
        by_cases hE : E < 0
        · have HQ := Lib.hid (hK.out.symm.trans (block_bad hl HO.out (by rw [HP.out]; exact hE)))
          clear hin
          rcases ho with rfl | rfl | rfl <;>
          · go_wp2_with fail
            refine HC.out.mono ?_
            rintro e w1 ⟨rfl, rfl⟩
            go_wp2
            go_ret
            exact ⟨ret_int HQ.out.symm, rfl⟩
        · have hE2 : (k : Int) < E ∧ E < n := by
            rcases hin with q | q
            · injection q with q1 q2; omega
            · have := HL.out; simp only [] at q; omega
          obtain ⟨m, rfl⟩ : ∃ m : Nat, E = (m : Int) := ⟨E.toNat, by omega⟩
          have HQ := Lib.hid ((block_over hl HO.out (by rw [HP.out]; exact Int.natCast_nonneg m)).symm.trans hK.out)
          rw [HP.out] at HQ
          simp only [Int.toNat_natCast] at HQ
          clear hin
          rcases ho with rfl | rfl | rfl <;>
          · go_wp2_with fail
            refine HC.out.mono ?_
            rintro e w1 ⟨rfl, rfl⟩
            go_wp2
            go_round
            case rel => exact ⟨m + 1, by omega, by omega, by go_num, HQ⟩
            case measure => simp [intOf]; omega
      · have HQ := Lib.hid ((block_next hl (by rw [hx.out]; exact hs) (by rw [hx.out]; exact ho)).symm.trans hK.out)
        have k2 : (x == 2) = false := by simp; omega
        have k5 : (x == 5) = false := by simp; omega
        have k8 : (x == 8) = false := by simp; omega
        clear hs ho
        go_wp2
        go_round
        case rel => exact ⟨k + 1, by omega, by omega, by go_num, HQ⟩
        case measure => simp [intOf]; omega
    · obtain rfl : n = k := by omega
      have HQ := Lib.hid (hK.out.symm.trans (block_past (by rw [HL.out]; exact Nat.le_refl _)))
      go_wp2
      go_ret
      exact ⟨ret_int HQ.out.symm, rfl⟩
end Go.Proofs.YtbnpoliogldohaaGreat
/- The contracts of the model's l3End, l3Block and EndOf. -/
namespace Go.Proofs.YtbnpoliogldohaaGreat
open Go.RowKit

theorem end_eq {ss : List Stm} {i : Nat} {M : Int} (hi : i < ss.length) (hM : blockOf ss (i + 1) = M) : endOf ss i =
    (if opAt ss i = 5 then (if isAt ss M 4 then (-1, M) else (-1, -1))
     else if opAt ss i = 2 then (if isAt ss M 4 then (-1, M) else if isAt ss M 3 then (if isAt ss (blockOf ss (M.toNat + 1)) 4 then (M, blockOf ss (M.toNat + 1)) else (-1, -1)) else (-1, -1))
     else if opAt ss i = 8 then (if isAt ss M 9 then (if isAt ss (blockOf ss (M.toNat + 1)) 4 then (M, blockOf ss (M.toNat + 1)) else (-1, -1)) else (-1, -1))
     else (-1, -1)) := by
  have hb := block_in ss (i := i + 1) (by omega)
  rw [hM] at hb
  have hlt : ∀ op, isAt ss M op = true → i < M.toNat := fun op h => by
    have := isAt_range h
    rcases hb with q | q <;> omega
  rw [endOf, if_pos hi, hM]
  by_cases h3 : isAt ss M 3 = true
  · rw [dif_pos ⟨h3, hlt 3 h3⟩, if_pos h3]
    by_cases h9 : isAt ss M 9 = true
    · rw [dif_pos ⟨h9, hlt 9 h9⟩, if_pos h9]
    · rw [dif_neg (fun h => h9 h.1), if_neg h9]
  · rw [dif_neg (fun h => h3 h.1), if_neg h3]
    by_cases h9 : isAt ss M 9 = true
    · rw [dif_pos ⟨h9, hlt 9 h9⟩, if_pos h9]
    · rw [dif_neg (fun h => h9 h.1), if_neg h9]
theorem ret_two {x y : Int} {p : Int × Int} (h : p = (x, y)) : Ending.returned (.tuple #[.int .i64 x, .int .i64 y]) = .returned (.tuple #[.int .i64 p.1, .int .i64 p.2]) := by rw [h]

set_option maxHeartbeats 3200000 in
theorem end_at (w : World) (a : Option Addr) (n c : Nat) (rs : List SRow) (ss : List Stm) (h : Stmts w a n rs ss) (i : Nat) (hi : i < n) (HB : Hid (∀ j, i < j → j ≤ n → BlockAt w a n c ss j)) : EndAt w a n c ss i := by
  have hbd := h.2.2.1
  have hl : i < ss.length := by rw [h.2.1]; exact hi
  obtain ⟨M, HM⟩ : ∃ M, Hid (blockOf ss (i + 1) = M) := ⟨_, rfl⟩
  have HQ := Lib.hid (end_eq hl HM.out)
  have hb := HB.out (i + 1) (by omega) (by omega)
  unfold BlockAt at hb
  rw [HM.out, show ((i + 1 : Nat) : Int) = (i : Int) + 1 by omega] at hb
  have HC := Lib.hid hb
  have hM := block_in ss (i := i + 1) (by omega)
  rw [HM.out] at hM
  have hM2 : M = -1 ∨ ((i : Int) + 1 ≤ M ∧ M ≤ n) := by
    have := h.2.1
    rcases hM with q | q
    · exact .inl q
    · exact .inr (by omega)
  have HS := Lib.hid h
  have HI : Hid (∀ z op : Int, Calls Tryz.prog 221 #[.slice a n c, .int .i64 z, .int .i64 op] w fun e w' => e = .returned (.bool (isAt ss z op)) ∧ w = w') := Lib.hid (fun z op => l3Is_any a n c rs ss z op w h)
  clear hb hM
  unfold EndAt
  obtain ⟨b, o, x, rfl, hx, hix, hc⟩ := h.op hi
  rw [hx.out] at HQ
  clear h
  obtain ⟨A4, H4⟩ : ∃ A4, Hid (isAt ss M 4 = A4) := ⟨_, rfl⟩
  obtain ⟨A3, H3⟩ : ∃ A3, Hid (isAt ss M 3 = A3) := ⟨_, rfl⟩
  obtain ⟨A9, H9⟩ : ∃ A9, Hid (isAt ss M 9 = A9) := ⟨_, rfl⟩
  obtain ⟨E, HE⟩ : ∃ E, Hid (blockOf ss (M.toNat + 1) = E) := ⟨_, rfl⟩
  obtain ⟨B4, HB4⟩ : ∃ B4, Hid (isAt ss E 4 = B4) := ⟨_, rfl⟩
  simp only [H4.out, H3.out, H9.out, HE.out, HB4.out] at HQ
  have two : Hid (∀ op, isAt ss M op = true → Calls Tryz.prog 161 #[.slice (some ⟨b, o, none⟩) n c, .int .i64 (M + 1)] w fun e w' => e = .returned (.int .i64 E) ∧ w = w') := Lib.hid (fun op ho => by
    have hr := isAt_range ho
    have hlen := HS.out.2.1
    have hb := HB.out (M.toNat + 1) (by omega) (by omega)
    unfold BlockAt at hb
    rw [HE.out, show ((M.toNat + 1 : Nat) : Int) = M + 1 by omega] at hb
    exact hb)
  by_cases h5 : x = 5
  · subst h5
    simp only [if_true] at HQ
    cases A4 with
    | true =>
      go_enter Tryz.func187, Tryz.ntmps187
      go_wp2_with (first | (go_at_call 161; refine HC.out.mono ?_; rintro e w' ⟨rfl, rfl⟩) | (go_at_call 221; refine (HI.out _ _).mono ?_; rintro e w' ⟨rfl, rfl⟩; first | rw [H4.out]))
      go_ret2
      exact ⟨ret_two HQ.out, rfl⟩
    | false =>
      go_enter Tryz.func187, Tryz.ntmps187
      go_wp2_with (first | (go_at_call 161; refine HC.out.mono ?_; rintro e w' ⟨rfl, rfl⟩) | (go_at_call 221; refine (HI.out _ _).mono ?_; rintro e w' ⟨rfl, rfl⟩; first | rw [H4.out]))
      go_ret2
      exact ⟨ret_two HQ.out, rfl⟩
  rw [if_neg h5] at HQ
  by_cases h2 : x = 2
  · subst h2
    clear h5
    rw [if_pos rfl] at HQ
    cases A4 with
    | true =>
      go_enter Tryz.func187, Tryz.ntmps187
      go_wp2_with (first | (go_at_call 161; refine HC.out.mono ?_; rintro e w' ⟨rfl, rfl⟩) | (go_at_call 221; refine (HI.out _ _).mono ?_; rintro e w' ⟨rfl, rfl⟩; first | rw [H4.out]))
      go_ret2
      exact ⟨ret_two HQ.out, rfl⟩
    | false =>
      cases A3 with
      | false =>
        go_enter Tryz.func187, Tryz.ntmps187
        go_wp2_with (first | (go_at_call 161; refine HC.out.mono ?_; rintro e w' ⟨rfl, rfl⟩) | (go_at_call 221; refine (HI.out _ _).mono ?_; rintro e w' ⟨rfl, rfl⟩; first | rw [H4.out] | rw [H3.out]))
        go_ret2
        exact ⟨ret_two HQ.out, rfl⟩
      | true =>
        have HT := Lib.hid (two.out 3 H3.out)
        have hr := isAt_range H3.out
        have hM3 : 0 ≤ M ∧ M < n := by have := HS.out.2.1; omega
        clear hr
        cases B4 with
        | true =>
          go_enter Tryz.func187, Tryz.ntmps187
          go_wp2_with (first | (go_at_call 161; first | (with_reducible refine HC.out.mono ?_; rintro e w' ⟨rfl, rfl⟩) | (with_reducible refine HT.out.mono ?_; rintro e w' ⟨rfl, rfl⟩)) | (go_at_call 221; refine (HI.out _ _).mono ?_; rintro e w' ⟨rfl, rfl⟩; first | rw [H4.out] | rw [H3.out] | rw [HB4.out]))
          go_ret2
          exact ⟨ret_two HQ.out, rfl⟩
        | false =>
          go_enter Tryz.func187, Tryz.ntmps187
          go_wp2_with (first | (go_at_call 161; first | (with_reducible refine HC.out.mono ?_; rintro e w' ⟨rfl, rfl⟩) | (with_reducible refine HT.out.mono ?_; rintro e w' ⟨rfl, rfl⟩)) | (go_at_call 221; refine (HI.out _ _).mono ?_; rintro e w' ⟨rfl, rfl⟩; first | rw [H4.out] | rw [H3.out] | rw [HB4.out]))
          go_ret2
          exact ⟨ret_two HQ.out, rfl⟩
  rw [if_neg h2] at HQ
  by_cases h8 : x = 8
  · subst h8
    clear h5 h2
    rw [if_pos rfl] at HQ
    cases A9 with
    | false =>
      go_enter Tryz.func187, Tryz.ntmps187
      go_wp2_with (first | (go_at_call 161; refine HC.out.mono ?_; rintro e w' ⟨rfl, rfl⟩) | (go_at_call 221; refine (HI.out _ _).mono ?_; rintro e w' ⟨rfl, rfl⟩; first | rw [H9.out]))
      go_ret2
      exact ⟨ret_two HQ.out, rfl⟩
    | true =>
      have HT := Lib.hid (two.out 9 H9.out)
      have hr := isAt_range H9.out
      have hM3 : 0 ≤ M ∧ M < n := by have := HS.out.2.1; omega
      clear hr
      cases B4 with
      | true =>
        go_enter Tryz.func187, Tryz.ntmps187
        go_wp2_with (first | (go_at_call 161; first | (with_reducible refine HC.out.mono ?_; rintro e w' ⟨rfl, rfl⟩) | (with_reducible refine HT.out.mono ?_; rintro e w' ⟨rfl, rfl⟩)) | (go_at_call 221; refine (HI.out _ _).mono ?_; rintro e w' ⟨rfl, rfl⟩; first | rw [H9.out] | rw [HB4.out]))
        go_ret2
        exact ⟨ret_two HQ.out, rfl⟩
      | false =>
        go_enter Tryz.func187, Tryz.ntmps187
        go_wp2_with (first | (go_at_call 161; first | (with_reducible refine HC.out.mono ?_; rintro e w' ⟨rfl, rfl⟩) | (with_reducible refine HT.out.mono ?_; rintro e w' ⟨rfl, rfl⟩)) | (go_at_call 221; refine (HI.out _ _).mono ?_; rintro e w' ⟨rfl, rfl⟩; first | rw [H9.out] | rw [HB4.out]))
        go_ret2
        exact ⟨ret_two HQ.out, rfl⟩
  rw [if_neg h8] at HQ
  have k5 : (x == 5) = false := by simpa using h5
  have k2 : (x == 2) = false := by simpa using h2
  have k8 : (x == 8) = false := by simpa using h8
  clear h5 h2 h8
  go_enter Tryz.func187, Tryz.ntmps187
  go_wp2_with (first | (go_at_call 161; refine HC.out.mono ?_; rintro e w' ⟨rfl, rfl⟩) | (go_at_call 221; refine (HI.out _ _).mono ?_; rintro e w' ⟨rfl, rfl⟩; first | rw [H4.out]))
  go_ret2
  exact ⟨ret_two HQ.out, rfl⟩
theorem nest_at (w : World) (a : Option Addr) (n c : Nat) (rs : List SRow) (ss : List Stm) (h : Stmts w a n rs ss) : ∀ (d i : Nat), n - i ≤ d → i ≤ n → BlockAt w a n c ss i ∧ (i < n → EndAt w a n c ss i)
  | 0, i, hd, hi => ⟨block_at w a n c rs ss h i hi (Lib.hid (fun j h1 h2 => absurd h2 (by omega))), fun h' => absurd h' (by omega)⟩
  | d + 1, i, hd, hi => by
    have hb : ∀ j, i < j → j ≤ n → BlockAt w a n c ss j := fun j h1 h2 => (nest_at w a n c rs ss h d j (by omega) h2).1
    have he : ∀ j, i < j → j < n → EndAt w a n c ss j := fun j h1 h2 => (nest_at w a n c rs ss h d j (by omega) (by omega)).2 h2
    have hei : i < n → EndAt w a n c ss i := fun h' => end_at w a n c rs ss h i h' (Lib.hid hb)
    refine ⟨block_at w a n c rs ss h i hi (Lib.hid (fun j h1 h2 => ?_)), hei⟩
    rcases Nat.lt_or_ge i j with hlt | hge
    · exact he j hlt h2
    · obtain rfl : i = j := by omega
      exact hei h2
theorem l3Block_any (a : Option Addr) (n c : Nat) (rs : List SRow) (ss : List Stm) (i : Nat) (w : World) (h : Stmts w a n rs ss) (hi : i ≤ n) :
    Calls Tryz.prog 161 #[.slice a n c, .int .i64 (i : Int)] w fun e w' => e = .returned (.int .i64 (blockOf ss i)) ∧ w = w' := (nest_at w a n c rs ss h _ i (Nat.le_refl _) hi).1
theorem l3End_any (a : Option Addr) (n c : Nat) (rs : List SRow) (ss : List Stm) (i : Nat) (w : World) (h : Stmts w a n rs ss) (hi : i < n) :
    Calls Tryz.prog 187 #[.slice a n c, .int .i64 (i : Int)] w fun e w' => e = .returned (.tuple #[.int .i64 (endOf ss i).1, .int .i64 (endOf ss i).2]) ∧ w = w' := (nest_at w a n c rs ss h _ i (Nat.le_refl _) (by omega)).2 hi
end Go.Proofs.YtbnpoliogldohaaGreat
/- A well nested part takes some steps; the contract of the model's l3Steps. -/
namespace Go.Proofs.YtbnpoliogldohaaGreat
open Go.RowKit

/-- The loops' numbers are from 0 to 4. -/
def LoopsOk (ss : List Stm) : Prop := ∀ i, i < ss.length → opAt ss i = 5 → ∃ k : Nat, k ≤ 4 ∧ (stAt ss i).n = (k : Int)
/-- A body that ends at j takes some steps up to there. -/
theorem part_steps {ss : List Stm} (hL : LoopsOk ss) : ∀ (d i j : Nat), ss.length - i ≤ d → i ≤ ss.length → blockOf ss i = (j : Int) → ∃ s, Steps ss i j s
  | 0, i, j, hd, hi, hb => by
    rw [block_past (by omega)] at hb
    obtain rfl : i = j := by omega
    exact ⟨0, .nil i⟩
  | d + 1, i, j, hd, hi, hb => by
    by_cases hlt : i < ss.length
    case neg =>
      rw [block_past (by omega)] at hb
      obtain rfl : i = j := by omega
      exact ⟨0, .nil i⟩
    by_cases hs : opAt ss i = 3 ∨ opAt ss i = 9 ∨ opAt ss i = 4
    · rw [block_stop hlt hs] at hb
      obtain rfl : i = j := by omega
      exact ⟨0, .nil i⟩
    by_cases ho : opAt ss i = 2 ∨ opAt ss i = 5 ∨ opAt ss i = 8
    case neg =>
      rw [block_next hlt hs ho] at hb
      obtain ⟨s, h⟩ := part_steps hL d (i + 1) j (by omega) (by omega) hb
      exact ⟨_, .plain hlt (fun h => ho (.inl h)) (fun h => ho (.inr (.inl h))) (fun h => ho (.inr (.inr h))) h⟩
    have hin := end_in ss hlt
    by_cases he : (endOf ss i).2 < 0
    · rw [block_bad hlt ho he] at hb
      omega
    rw [block_over hlt ho (by omega)] at hb
    obtain ⟨M, hM⟩ : ∃ M, blockOf ss (i + 1) = M := ⟨_, rfl⟩
    have heq := end_eq hlt hM
    obtain ⟨⟨p1, p2⟩, hP⟩ : ∃ P, endOf ss i = P := ⟨_, rfl⟩
    rw [hP] at hin he hb heq
    simp only [] at he hb
    have hin2 : (i : Int) < p2 ∧ p2 < ss.length ∧ (p1 = -1 ∨ ((i : Int) < p1 ∧ p1 < p2)) := by
      rcases hin with q | q
      · injection q with q1 q2; omega
      · exact q
    obtain ⟨e, rfl⟩ : ∃ e : Nat, p2 = (e : Int) := ⟨p2.toNat, by omega⟩
    rw [Int.toNat_natCast] at hb
    obtain ⟨t, ht⟩ := part_steps hL d (e + 1) j (by omega) (by omega) hb
    have one : p1 = -1 → M = (e : Int) → ∃ s, Steps ss (i + 1) e s := fun _ h => part_steps hL d (i + 1) e (by omega) (by omega) (hM.trans h)
    have neg : ¬ ((e : Int) = -1) := by omega
    have two : ∀ m : Nat, M = (m : Int) → (i : Int) < m → m < ss.length → blockOf ss (M.toNat + 1) = (e : Int) → (∃ s, Steps ss (i + 1) m s) ∧ ∃ s, Steps ss (m + 1) e s := fun m h1 h2 h3 h4 => by
      rw [h1, Int.toNat_natCast] at h4
      exact ⟨part_steps hL d (i + 1) m (by omega) (by omega) (hM.trans h1), part_steps hL d (m + 1) e (by omega) (by omega) h4⟩
    rcases ho with ho | ho | ho
    · rw [ho, if_neg (by decide), if_pos rfl] at heq
      split at heq
      · injection heq with e1 e2
        obtain ⟨s, h⟩ := one e1 e2.symm
        exact ⟨_, .one hlt ho (by rw [hP, e1]) h ht⟩
      · split at heq
        · split at heq
          · injection heq with e1 e2
            rename_i hm _
            have hr := isAt_range hm
            have hb' := block_in ss (i := i + 1) (by omega)
            rw [hM] at hb'
            obtain ⟨m, rfl⟩ : ∃ m : Nat, M = (m : Int) := ⟨M.toNat, by omega⟩
            obtain ⟨⟨s, h⟩, s', h'⟩ := two m rfl (by rcases hb' with q | q <;> omega) (by omega) e2.symm
            exact ⟨_, .two hlt ho (by rw [hP, e1]) h h' ht⟩
          · injection heq with e1 e2; exact absurd e2 neg
        · injection heq with e1 e2; exact absurd e2 neg
    · rw [ho, if_pos rfl] at heq
      split at heq
      · injection heq with e1 e2
        obtain ⟨s, h⟩ := one e1 e2.symm
        obtain ⟨k, hk4, hk⟩ := hL i hlt ho
        exact ⟨_, .loop hlt ho (by rw [hP, e1]) hk hk4 h ht⟩
      · injection heq with e1 e2; exact absurd e2 neg
    · rw [ho, if_neg (by decide), if_neg (by decide), if_pos rfl] at heq
      split at heq
      · split at heq
        · injection heq with e1 e2
          rename_i hm _
          have hr := isAt_range hm
          have hb' := block_in ss (i := i + 1) (by omega)
          rw [hM] at hb'
          obtain ⟨m, rfl⟩ : ∃ m : Nat, M = (m : Int) := ⟨M.toNat, by omega⟩
          obtain ⟨⟨s, h⟩, s', h'⟩ := two m rfl (by rcases hb' with q | q <;> omega) (by omega) e2.symm
          exact ⟨_, .attempt hlt ho (by rw [hP, e1]) h h' ht⟩
        · injection heq with e1 e2; exact absurd e2 neg
      · injection heq with e1 e2; exact absurd e2 neg
end Go.Proofs.YtbnpoliogldohaaGreat
