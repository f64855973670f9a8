/- Joined texts of this proof (Base, TermMath, NatOk, Takes, Term, Later), in build order. -/
import Derived.Test.YtbnpoliogldohaaGreatRows
import Derived.WalkKit
import Derived.WalkSpells
import Derived.Lib.Hide
import Derived.Below
import Derived.OwnWalk
import Derived.Deep.QuietTactic
import Derived.BigQuiet
import Derived.Laws.OwnMore
import Derived.OpenShut
/- Words for memory, and plain lemmas on lists of numbers: what a slice of numbers reads as; a row that a call made itself. No statement is proved here. -/
namespace Go.Proofs.YtbnpoliogldohaaGreat
open Go.RowKit

def In64 (z : Int) : Prop := -9223372036854775808 ≤ z ∧ z ≤ 9223372036854775807
theorem In64.wf {z : Int} (h : In64 z) : (Lit.int .i64 z).wf = true := WalkArith.wf_i64 ⟨h.1, by have := h.2; omega⟩

/-- The slice '.slice a n c' reads as the numbers zs. -/
def Ints (w : World) (a : Option Addr) (n : Nat) (zs : List Int) : Prop :=
  zs.length = n ∧ n ≤ 1048576 ∧ (∀ z ∈ zs, In64 z) ∧
  (0 < n → ∃ b o, a = some ⟨b, o, none⟩ ∧ b < w.heap.size ∧ ∀ i, i < n → w.cell? ⟨b, o + i, none⟩ = some (.int .i64 (zs.getD i 0)))

theorem getD_mem {zs : List Int} {k : Nat} (h : k < zs.length) : zs.getD k 0 ∈ zs := by
  rw [List.getD_eq_getElem?_getD, List.getElem?_eq_getElem h]; exact List.getElem_mem h

theorem Ints.at_ {w : World} {a : Option Addr} {n : Nat} {zs : List Int} {k : Nat} (h : Ints w a n zs) (hk : k < n) :
    ∃ b o z, a = some ⟨b, o, none⟩ ∧ b < w.heap.size ∧ Hid (z = zs.getD k 0) ∧ In64 z ∧ w.cell? ⟨b, o + k, none⟩ = some (.int .i64 z) := by
  obtain ⟨hl, _, hin, hc⟩ := h
  obtain ⟨b, o, rfl, hb, hcell⟩ := hc (by omega)
  exact ⟨b, o, _, rfl, hb, rfl, hin _ (getD_mem (by omega)), hcell k hk⟩

theorem Ints.below {w w' : World} {a : Option Addr} {n : Nat} {zs : List Int} (h : Ints w a n zs) (hb : Below w.heap.size w w') : Ints w' a n zs := by
  obtain ⟨hl, hn, hin, hc⟩ := h
  refine ⟨hl, hn, hin, fun hp => ?_⟩
  obtain ⟨b, o, rfl, hbl, hcell⟩ := hc hp
  exact ⟨b, o, rfl, Nat.lt_of_lt_of_le hbl hb.size, fun i hi => (hb.cell (by exact hbl)).trans (hcell i hi)⟩

/-- A slice of numbers that the call made itself, from block B on. -/
def Own (w : World) (B : Nat) (a : Option Addr) (n c : Nat) (zs : List Int) : Prop :=
  w.ownsRow B 2 1 (.slice a n c) n (zs.map (Value.int .i64)) ∧ n ≤ 1048576 ∧ ∀ z ∈ zs, In64 z

section
variable {w w' : World} {B : Nat} {a : Option Addr} {n c : Nat} {zs : List Int}
theorem Own.len (h : Own w B a n c zs) : zs.length = n := by have := h.1.1; simpa using this
theorem Own.ints (h : Own w B a n c zs) : Ints w a n zs := by
  have hlen := h.len
  obtain ⟨ho, hn, hin⟩ := h
  refine ⟨hlen, hn, hin, fun hp => ?_⟩
  rcases ho.2 with ⟨_, h0⟩ | ⟨g, cap, cur, e, _, hh, _⟩
  · exact absurd hp (by omega)
  · have ea : a = some ⟨g, 0, none⟩ := by injection e
    subst ea
    refine ⟨g, 0, rfl, (ho.lt g rfl).2, fun i hi => ?_⟩
    rw [Nat.zero_add, ho.cellAt i (by omega)]
    simp [List.getD_eq_getElem?_getD, List.getElem?_eq_getElem (show i < zs.length by omega)]
theorem Own.below (h : Own w B a n c zs) (hb : Below w.heap.size w w') : Own w' B a n c zs :=
  ⟨h.1.kept (row := none) ⟨hb.os, hb.tape, hb.output, hb.size, fun k hk _ => hb.block k hk⟩ (by cases a <;> simp [Value.ownBlock]), h.2⟩
theorem Own.base {B' : Nat} (h : Own w B a n c zs) (hB : B' ≤ B) : Own w B' a n c zs := by
  refine ⟨⟨h.1.1, ?_⟩, h.2⟩
  rcases h.1.2 with hn | ⟨g, cap, cur, e, hb, r⟩
  · exact .inl hn
  · exact .inr ⟨g, cap, cur, e, by omega, r⟩
theorem Own.drewN (h : Own w B a n c zs) (k : Nat) : Own (w.drewN k) B a n c zs := h
/-- Its block: from B on, and below the heap's size. -/
theorem Own.block (h : Own w B a n c zs) : ∀ g, (Value.slice a n c).ownBlock = some g → B ≤ g ∧ g < w.heap.size := h.1.lt
/-- What is written to another block leaves it as it is. -/
theorem Own.other {row : Option Nat} (h : Own w B a n c zs) (hg : w.grownBy w' row) (hr : ∀ g, row = some g → g < B) : Own w' B a n c zs := by
  refine ⟨h.1.kept hg ?_, h.2⟩
  cases hv : (Value.slice a n c).ownBlock with
  | none => exact .inl rfl
  | some g =>
    refine .inr fun e => ?_
    have := hr g e.symm
    have := (h.block g hv).1
    omega
theorem Own.apart {row : Option Nat} {K : Nat} (h : Own w B a n c zs) (hg : w.grownBy w' row) (hK : ∀ g, (Value.slice a n c).ownBlock = some g → g < K) (hr : ∀ g, row = some g → K ≤ g) : Own w' B a n c zs := by
  refine ⟨h.1.kept hg ?_, h.2⟩
  cases hv : (Value.slice a n c).ownBlock with
  | none => exact .inl rfl
  | some g =>
    refine .inr fun e => ?_
    have := hr g e.symm
    have := hK g hv
    omega
theorem Own.later {row : Option Nat} (h : Own w B a n c zs) (hg : w.grownBy w' row) (hr : ∀ g, row = some g → w.heap.size ≤ g) : Own w' B a n c zs := by
  refine ⟨h.1.kept hg ?_, h.2⟩
  cases hv : (Value.slice a n c).ownBlock with
  | none => exact .inl rfl
  | some g =>
    refine .inr fun e => ?_
    have := hr g e.symm
    have := (h.block g hv).2
    omega
end

/-- What a function that makes a slice of the numbers zs leaves. -/
def MadeInts (w : World) (zs : List Int) (e : Ending) (w' : World) : Prop :=
  ∃ a n c, e = .returned (.slice a n c) ∧ Own w' w.heap.size a n c zs ∧ Below w.heap.size w w'

section
variable {w : World} {B g n cap : Nat} {zs : List Int}
theorem own_cell (h : w.ownsRow B 2 1 (.slice (some ⟨g, 0, none⟩) n cap) n (zs.map (Value.int .i64))) {k : Nat} (hk : k < n) :
    w.cell? ⟨g, k, none⟩ = some (.int .i64 (zs.getD k 0)) := by
  have hl : zs.length = n := by have := h.1; simpa using this
  rw [h.cellAt k (by omega)]
  simp [List.getD_eq_getElem?_getD, List.getElem?_eq_getElem (show k < zs.length by omega)]
theorem own_put (h : w.ownsRow B 2 1 (.slice (some ⟨g, 0, none⟩) n cap) n (zs.map (Value.int .i64))) (k : Nat) (z : Int) :
    (w.setCell ⟨g, k, none⟩ (.int .i64 z)).ownsRow B 2 1 (.slice (some ⟨g, 0, none⟩) n cap) n ((zs.set k z).map (Value.int .i64)) := by
  rw [List.map_set]; exact (h.stored k _).1
end

/-- The numbers of a great number: at most 100, each from 0 to 9999, the last one not 0. -/
def okB (zs : List Int) : Bool :=
  decide (zs.length ≤ 100) && zs.all (fun z => decide (0 ≤ z) && decide (z ≤ 9999)) && (zs.isEmpty || zs.getD (zs.length - 1) 0 != 0)

/-- The first k are limbs. -/
def GoodTo (zs : List Int) (k : Nat) : Prop := ∀ i, i < k → 0 ≤ zs.getD i 0 ∧ zs.getD i 0 ≤ 9999

theorem GoodTo.zero (zs : List Int) : GoodTo zs 0 := fun i hi => absurd hi (by omega)
theorem GoodTo.succ {zs : List Int} {k : Nat} {z : Int} (h : GoodTo zs k) (hz : Hid (z = zs.getD k 0)) (h0 : 0 ≤ z) (h1 : z ≤ 9999) : GoodTo zs (k + 1) := by
  intro i hi
  rcases Nat.lt_or_ge i k with hlt | hge
  · exact h i hlt
  · have : i = k := by omega
    subst this; rw [← hz.out]; exact ⟨h0, h1⟩

/-- The world has at most drawn: nothing in memory has turned. -/
def Still (w w' : World) : Prop := ∃ j, w' = w.drewN j
theorem Still.refl (w : World) : Still w w := ⟨0, rfl⟩
theorem Still.draw {w w' : World} (h : Still w w') (n : Nat) : Still w (w'.drewN n) := by
  obtain ⟨j, rfl⟩ := h
  exact ⟨j + n, World.drewN_drewN _ _ _⟩
theorem Still.drew (w : World) (n : Nat) : Still w (w.drewN n) := ⟨n, rfl⟩
theorem Still.trans {a b c : World} (h : Still a b) (k : Still b c) : Still a c := by
  obtain ⟨j, rfl⟩ := k
  exact h.draw j
theorem Still.below {w w' : World} (h : Still w w') (B : Nat) : Below B w w' := by
  obtain ⟨j, rfl⟩ := h
  exact ⟨rfl, rfl, rfl, Nat.le_refl _, fun _ _ => rfl⟩
theorem Still.size {w w' : World} (h : Still w w') : w'.heap.size = w.heap.size := by
  obtain ⟨j, rfl⟩ := h
  rfl
theorem Ints.still {w w' : World} {a : Option Addr} {n : Nat} {zs : List Int} (h : Ints w a n zs) (hs : Still w w') : Ints w' a n zs := by
  obtain ⟨j, rfl⟩ := hs
  exact h
theorem Own.still {w w' : World} {B : Nat} {a : Option Addr} {n c : Nat} {zs : List Int} (h : Own w B a n c zs) (hs : Still w w') : Own w' B a n c zs := by
  obtain ⟨j, rfl⟩ := hs
  exact h
theorem still_quiet {P : Program} {f : FuncId} {args : Array Value} {w : World} {n : Nat} {v : Value}
    (h : Calls P f args (w.drewN n) fun e w' => e = .returned v ∧ Still (w.drewN n) w') : Calls P f args (w.drewN n) fun e w' => e = .returned v ∧ ∃ m, w' = w.drewN m :=
  h.mono fun _ _ ⟨he, m, hm⟩ => ⟨he, n + m, by rw [hm, World.drewN_drewN]⟩
theorem below_dn {B : Nat} {a w : World} (h : Below B a w) (n : Nat) : Below B a (w.drewN n) := h.trans ⟨rfl, rfl, rfl, Nat.le_refl _, fun _ _ => rfl⟩
theorem ret_bool {a b : Bool} (h : a = b) : Ending.returned (.bool a) = .returned (.bool b) := by rw [h]
theorem ret_int {k : IntKind} {a b : Int} (h : a = b) : Ending.returned (.int k a) = .returned (.int k b) := by rw [h]
end Go.Proofs.YtbnpoliogldohaaGreat
/- Plain mathematics of lists of Terms: what each takes, the depth that is left, trees and their Terms in order, where a part begins, names rising. No Go text here. -/
namespace Go.Proofs.YtbnpoliogldohaaGreat
open Go.RowKit

/-- A Term: its Op and its N. -/
abbrev Tm := Int × Int

/-- How many a Term of that Op takes; -1 of any other number. -/
def takesI (op : Int) : Int :=
  if op = 0 ∨ op = 1 then 0 else if op = 2 ∨ op = 3 ∨ op = 4 then 1 else if op = 17 then 3 else if 5 ≤ op ∧ op ≤ 16 then 2 else -1
theorem takesI_range (op : Int) : -1 ≤ takesI op ∧ takesI op ≤ 3 := by unfold takesI; split <;> (try split) <;> (try split) <;> (try split) <;> omega
theorem takesI_neg (op : Int) : takesI op = -1 ↔ op < 0 ∨ 17 < op := by unfold takesI; split <;> (try split) <;> (try split) <;> (try split) <;> omega

/-- A Term that may stand in an expression. -/
def tOkB (t : Tm) : Bool := decide (0 ≤ takesI t.1) && decide (0 ≤ t.2) && decide (t.2 ≤ 255) && (decide (t.1 ≤ 2) || decide (t.2 = 0))
theorem tOkB_iff (t : Tm) : tOkB t = true ↔ 0 ≤ takesI t.1 ∧ 0 ≤ t.2 ∧ t.2 ≤ 255 ∧ (t.1 ≤ 2 ∨ t.2 = 0) := by
  unfold tOkB; simp only [Bool.and_eq_true, Bool.or_eq_true, decide_eq_true_eq]; exact ⟨fun h => ⟨h.1.1.1, h.1.1.2, h.1.2, h.2⟩, fun h => ⟨⟨⟨h.1, h.2.1⟩, h.2.2.1⟩, h.2.2.2⟩⟩

/-- How many are left behind the Terms, from d on; none where one is wrong, or takes what is not there. -/
def runD : Int → List Tm → Option Int
  | d, [] => some d
  | d, t :: r => if tOkB t = true ∧ takesI t.1 ≤ d then runD (d + 1 - takesI t.1) r else none
theorem runD_append (d : Int) (a b : List Tm) : runD d (a ++ b) = (runD d a).bind (fun x => runD x b) := by
  induction a generalizing d with
  | nil => rfl
  | cons t r ih => simp only [List.cons_append, runD]; split <;> simp [ih]
theorem runD_nonneg {d x : Int} {ts : List Tm} (h : runD d ts = some x) (hd : 0 ≤ d) : 0 ≤ x := by
  induction ts generalizing d with
  | nil => simp [runD] at h; omega
  | cons t r ih =>
    simp only [runD] at h
    split at h
    · next hc => exact ih h (by omega)
    · cases h
theorem runD_pos {d x : Int} {ts : List Tm} (h : runD d ts = some x) (hd : 0 ≤ d) (hn : 0 < ts.length) : 1 ≤ x := by
  induction ts generalizing d with
  | nil => simp at hn
  | cons t r ih =>
    simp only [runD] at h
    split at h
    · next hc =>
      cases r with
      | nil => simp [runD] at h; omega
      | cons u s => exact ih h (by omega) (by simp)
    · cases h
/-- An expression. -/
def expB (ts : List Tm) : Bool := decide (ts.length ≤ 3000) && (runD 0 ts == some 1)
theorem expB_iff (ts : List Tm) : expB ts = true ↔ ts.length ≤ 3000 ∧ runD 0 ts = some 1 := by
  unfold expB; simp
theorem expB_long {ts : List Tm} (h : 3000 < ts.length) : expB ts = false := by
  unfold expB; rw [decide_eq_false (by omega)]; rfl

/-- The Term at a place. -/
def tmAt (ts : List Tm) (k : Nat) : Tm := ts.getD k (0, 0)
theorem tmAt_mem {ts : List Tm} {k : Nat} (h : k < ts.length) : tmAt ts k ∈ ts := by
  unfold tmAt; rw [List.getD_eq_getElem?_getD, List.getElem?_eq_getElem h]; exact List.getElem_mem h
theorem tm_snoc (ts : List Tm) (k : Nat) (h : k < ts.length) : ts.take (k + 1) = ts.take k ++ [tmAt ts k] := by
  unfold tmAt; rw [List.take_succ_eq_append_getElem h, List.getD_eq_getElem?_getD, List.getElem?_eq_getElem h]; rfl
theorem tm_split (ts : List Tm) (k : Nat) (h : k < ts.length) : ts = ts.take k ++ tmAt ts k :: ts.drop (k + 1) := by
  have h1 := List.take_append_drop (k + 1) ts
  rw [tm_snoc ts k h, List.append_assoc] at h1
  exact h1.symm
theorem tmAt_append_left {a b : List Tm} {k : Nat} (h : k < a.length) : tmAt (a ++ b) k = tmAt a k := by
  unfold tmAt; rw [List.getD_eq_getElem?_getD, List.getD_eq_getElem?_getD, List.getElem?_append_left h]
theorem tmAt_append_right {a b : List Tm} {k : Nat} : tmAt (a ++ b) (a.length + k) = tmAt b k := by
  unfold tmAt; rw [List.getD_eq_getElem?_getD, List.getD_eq_getElem?_getD, List.getElem?_append_right (by omega), Nat.add_sub_cancel_left]

theorem runD_step {ts : List Tm} {k : Nat} {d : Int} (hk : k < ts.length) (h : runD 0 (ts.take k) = some d) (ho : tOkB (tmAt ts k) = true) (ht : takesI (tmAt ts k).1 ≤ d) :
    runD 0 (ts.take (k + 1)) = some (d + 1 - takesI (tmAt ts k).1) := by
  rw [tm_snoc ts k hk, runD_append, h]; simp only [Option.bind_some, runD]; rw [if_pos ⟨ho, ht⟩]
theorem runD_bad {ts : List Tm} {k : Nat} {d : Int} (hk : k < ts.length) (h : runD 0 (ts.take k) = some d) (hb : tOkB (tmAt ts k) = false ∨ d < takesI (tmAt ts k).1) :
    runD 0 ts = none := by
  rw [tm_split ts k hk, runD_append, h]; simp only [Option.bind_some, runD]
  rw [if_neg]
  rintro ⟨h1, h2⟩
  rcases hb with hb | hb
  · rw [hb] at h1; cases h1
  · omega
theorem expB_bad {ts : List Tm} {k : Nat} {d : Int} (hk : k < ts.length) (h : runD 0 (ts.take k) = some d) (hb : tOkB (tmAt ts k) = false ∨ d < takesI (tmAt ts k).1) : expB ts = false := by
  unfold expB; rw [runD_bad hk h hb]; simp
theorem expB_end {ts : List Tm} {d : Int} (hl : ts.length ≤ 3000) (h : runD 0 ts = some d) : expB ts = (d == 1) := by
  unfold expB; rw [decide_eq_true hl, h]; simp
/-- Of what is right, each beginning is. -/
theorem runD_take {ts : List Tm} {x : Int} (h : runD 0 ts = some x) (k : Nat) : ∃ d, runD 0 (ts.take k) = some d ∧ 0 ≤ d := by
  have h1 := List.take_append_drop k ts
  rw [← h1, runD_append] at h
  cases hd : runD 0 (ts.take k) with
  | none => rw [hd] at h; cases h
  | some d => exact ⟨d, rfl, runD_nonneg hd (by omega)⟩
theorem runD_at {ts : List Tm} {x d : Int} {k : Nat} (h : runD 0 ts = some x) (hk : k < ts.length) (hd : runD 0 (ts.take k) = some d) :
    tOkB (tmAt ts k) = true ∧ takesI (tmAt ts k).1 ≤ d ∧ runD 0 (ts.take (k + 1)) = some (d + 1 - takesI (tmAt ts k).1) := by
  have h1 : tOkB (tmAt ts k) = true := by
    cases hb : tOkB (tmAt ts k) with
    | true => rfl
    | false => rw [runD_bad hk hd (.inl hb)] at h; cases h
  have h2 : takesI (tmAt ts k).1 ≤ d := by
    rcases Int.lt_or_le d (takesI (tmAt ts k).1) with hb | hb
    · rw [runD_bad hk hd (.inr hb)] at h; cases h
    · exact hb
  exact ⟨h1, h2, runD_step hk hd h1 h2⟩

/-! ### Where a part begins: back from a place, till nothing more is needed -/
def scan (ts : List Tm) : Nat → Int → Nat
  | 0, _ => 0
  | i + 1, need => if need - 1 + takesI (tmAt ts i).1 = 0 then i else scan ts i (need - 1 + takesI (tmAt ts i).1)
/-- What FirstOf answers. -/
def firstI (ts : List Tm) (at_ : Int) : Int := if expB ts = true ∧ 0 ≤ at_ ∧ at_ < (ts.length : Int) then (scan ts (at_.toNat + 1) 1 : Nat) else -1

/-! ### Trees -/
inductive Tr where
  | node (op n : Int) (kids : List Tr)
mutual
def Tr.flat : Tr → List Tm
  | .node op n kids => Tr.flats kids ++ [(op, n)]
def Tr.flats : List Tr → List Tm
  | [] => []
  | t :: r => t.flat ++ Tr.flats r
end
mutual
def Tr.okT : Tr → Prop
  | .node op n kids => tOkB (op, n) = true ∧ (kids.length : Int) = takesI op ∧ Tr.oks kids
def Tr.oks : List Tr → Prop
  | [] => True
  | t :: r => t.okT ∧ Tr.oks r
end
theorem flats_append (a b : List Tr) : Tr.flats (a ++ b) = Tr.flats a ++ Tr.flats b := by
  induction a with
  | nil => simp [Tr.flats]
  | cons t r ih => simp [Tr.flats, ih]
theorem flats_one (t : Tr) : Tr.flats [t] = t.flat := by simp [Tr.flats]
theorem oks_append (a b : List Tr) : Tr.oks (a ++ b) ↔ Tr.oks a ∧ Tr.oks b := by
  induction a with
  | nil => simp [Tr.oks]
  | cons t r ih => simp [Tr.oks, ih, and_assoc]
theorem oks_iff (a : List Tr) : Tr.oks a ↔ ∀ t ∈ a, t.okT := by
  induction a with
  | nil => simp [Tr.oks]
  | cons t r ih => simp [Tr.oks, ih]
theorem flat_pos : ∀ t : Tr, 0 < t.flat.length
  | .node op n kids => by simp [Tr.flat]
mutual
theorem runD_flat : ∀ (t : Tr) (d : Int), 0 ≤ d → t.okT → runD d t.flat = some (d + 1)
  | .node op n kids, d, hd, h => by
    simp only [Tr.okT] at h
    simp only [Tr.flat]
    rw [runD_append, runD_flats kids d hd h.2.2]
    simp only [Option.bind_some, runD]
    rw [if_pos ⟨h.1, by have := h.2.1; omega⟩]
    congr 1
    omega
theorem runD_flats : ∀ (ts : List Tr) (d : Int), 0 ≤ d → Tr.oks ts → runD d (Tr.flats ts) = some (d + ts.length)
  | [], d, _, _ => by simp [Tr.flats, runD]
  | t :: r, d, hd, h => by
    simp only [Tr.oks] at h
    simp only [Tr.flats]
    rw [runD_append, runD_flat t d hd h.1]
    simp only [Option.bind_some]
    rw [runD_flats r (d + 1) (by omega) h.2]
    congr 1
    simp; omega
end
mutual
/-- Back over a whole tree one needs one less; with one needed it is where the tree begins. -/
theorem scan_flat : ∀ (t : Tr) (p q : List Tm) (m : Int), 1 ≤ m → t.okT →
    scan (p ++ (t.flat ++ q)) (p.length + t.flat.length) m = if m = 1 then p.length else scan (p ++ (t.flat ++ q)) p.length (m - 1)
  | .node op n kids, p, q, m, hm, h => by
    simp only [Tr.okT] at h
    have e1 : p.length + (Tr.node op n kids).flat.length = (p.length + (Tr.flats kids).length) + 1 := by simp [Tr.flat]; omega
    have e2 : tmAt (p ++ ((Tr.node op n kids).flat ++ q)) (p.length + (Tr.flats kids).length) = (op, n) := by
      rw [tmAt_append_right]
      simp only [Tr.flat, List.append_assoc]
      rw [show (Tr.flats kids).length = (Tr.flats kids).length + 0 from rfl, tmAt_append_right]
      rfl
    rw [e1]
    simp only [scan]
    rw [e2]
    simp only []
    have e3 : p ++ ((Tr.node op n kids).flat ++ q) = p ++ (Tr.flats kids ++ ((op, n) :: q)) := by simp [Tr.flat]
    rw [e3]
    cases kids with
    | nil =>
      have h0 : takesI op = 0 := by have := h.2.1; simp at this; omega
      rw [h0]
      simp only [Tr.flats, List.length_nil, Nat.add_zero]
      by_cases h1 : m = 1
      · subst h1; simp
      · rw [if_neg (by omega), if_neg h1]; congr 1; omega
    | cons k ks =>
      have hk : 1 ≤ takesI op := by have := h.2.1; simp at this; omega
      rw [if_neg (by omega)]
      have := scan_flats (k :: ks) p ((op, n) :: q) (m - 1 + takesI op) (by have := h.2.1; omega) (by simp) h.2.2
      rw [this]
      have e4 : m - 1 + takesI op - ((k :: ks).length : Int) = m - 1 := by have := h.2.1; omega
      rw [e4]
      by_cases h1 : m = 1
      · subst h1; simp
      · rw [if_neg (by omega), if_neg h1]
theorem scan_flats : ∀ (ts : List Tr) (p q : List Tm) (m : Int), (ts.length : Int) ≤ m → ts ≠ [] → Tr.oks ts →
    scan (p ++ (Tr.flats ts ++ q)) (p.length + (Tr.flats ts).length) m = if m - ts.length = 0 then p.length else scan (p ++ (Tr.flats ts ++ q)) p.length (m - ts.length)
  | [], _, _, _, _, h, _ => absurd rfl h
  | [t], p, q, m, hm, _, h => by
    simp only [Tr.oks] at h
    simp only [Tr.flats, List.append_nil]
    rw [scan_flat t p q m (by simpa using hm) h.1]
    by_cases h1 : m = 1
    · subst h1; simp
    · rw [if_neg h1, if_neg (by simp; omega)]; rfl
  | t :: u :: r, p, q, m, hm, _, h => by
    simp only [Tr.oks] at h
    have ih := scan_flats (u :: r) (p ++ t.flat) q m (by simp at hm ⊢; omega) (by simp) (by simp only [Tr.oks]; exact h.2)
    have e1 : p ++ (Tr.flats (t :: u :: r) ++ q) = p ++ t.flat ++ (Tr.flats (u :: r) ++ q) := by simp [Tr.flats]
    have e2 : p.length + (Tr.flats (t :: u :: r)).length = (p ++ t.flat).length + (Tr.flats (u :: r)).length := by simp [Tr.flats]; omega
    rw [e1, e2, ih, if_neg (by simp at hm ⊢; omega)]
    have e3 : p ++ t.flat ++ (Tr.flats (u :: r) ++ q) = p ++ (t.flat ++ (Tr.flats (u :: r) ++ q)) := by simp
    rw [e3]
    have := scan_flat t p (Tr.flats (u :: r) ++ q) (m - ((u :: r).length : Int)) (by simp at hm ⊢; omega) h.1
    rw [List.length_append, this]
    have e4 : m - ((u :: r).length : Int) - 1 = m - ((t :: u :: r).length : Int) := by simp; omega
    rw [e4]
    by_cases h1 : m - ((u :: r).length : Int) = 1
    · rw [if_pos h1, if_pos (by omega)]
    · rw [if_neg h1, if_neg (by omega)]
end

/-! ### The stack of trees behind some Terms -/
def stepS (S : List Tr) (t : Tm) : List Tr := S.take (S.length - (takesI t.1).toNat) ++ [.node t.1 t.2 (S.drop (S.length - (takesI t.1).toNat))]
def stackOf (ts : List Tm) : List Tr := ts.foldl stepS []
theorem stackOf_snoc (ts : List Tm) (t : Tm) : stackOf (ts ++ [t]) = stepS (stackOf ts) t := by simp [stackOf]
theorem stackOf_succ (ts : List Tm) (k : Nat) (h : k < ts.length) : stackOf (ts.take (k + 1)) = stepS (stackOf (ts.take k)) (tmAt ts k) := by
  rw [tm_snoc ts k h, stackOf_snoc]
theorem stack_is : ∀ (n : Nat) (ts : List Tm) (d : Int), ts.length = n → runD 0 ts = some d →
    ((stackOf ts).length : Int) = d ∧ Tr.flats (stackOf ts) = ts ∧ Tr.oks (stackOf ts) := by
  intro n
  induction n with
  | zero =>
    intro ts d hl h
    have : ts = [] := List.eq_nil_of_length_eq_zero hl
    subst this
    simp [runD] at h
    simp [stackOf, Tr.flats, Tr.oks]; omega
  | succ n ih =>
    intro ts d hl h
    have e := tm_snoc ts n (by omega)
    rw [List.take_of_length_le (by omega)] at e
    obtain ⟨c, hc, hc0⟩ := runD_take h n
    obtain ⟨h1, h2, h3⟩ := runD_at h (by omega) hc
    rw [List.take_of_length_le (by omega), h] at h3
    obtain ⟨i1, i2, i3⟩ := ih (ts.take n) c (by simp; omega) hc
    have hk := ((tOkB_iff _).1 h1).1
    rw [e, stackOf_snoc]
    generalize tmAt ts n = t at *
    generalize stackOf (ts.take n) = S at *
    unfold stepS
    have hd : S.length - (S.length - (takesI t.1).toNat) = (takesI t.1).toNat := by omega
    have hS := List.take_append_drop (S.length - (takesI t.1).toNat) S
    rw [← hS, flats_append] at i2
    rw [← hS, oks_append] at i3
    refine ⟨?_, ?_, ?_⟩
    · injection h3 with h3
      simp only [List.length_append, List.length_take, List.length_singleton]; omega
    · rw [flats_append, flats_one]
      simp only [Tr.flat]
      rw [← List.append_assoc, i2]
    · rw [oks_append]
      refine ⟨i3.1, ?_⟩
      simp only [Tr.oks, Tr.okT, and_true]
      refine ⟨h1, ?_, i3.2⟩
      rw [List.length_drop, hd]; omega
theorem stack_take {ts : List Tm} {x : Int} (h : runD 0 ts = some x) (k : Nat) : ∃ d : Int, runD 0 (ts.take k) = some d ∧ ((stackOf (ts.take k)).length : Int) = d ∧ Tr.flats (stackOf (ts.take k)) = ts.take k ∧ Tr.oks (stackOf (ts.take k)) := by
  obtain ⟨d, hd, _⟩ := runD_take h k
  exact ⟨d, hd, stack_is _ _ _ rfl hd⟩
/-- The tree of an expression. -/
theorem tree_of {ts : List Tm} (h : runD 0 ts = some 1) : ∃ op n kids, stackOf ts = [Tr.node op n kids] ∧ ts = Tr.flats kids ++ [(op, n)] ∧ tOkB (op, n) = true ∧ (kids.length : Int) = takesI op ∧ Tr.oks kids := by
  obtain ⟨h1, h2, h3⟩ := stack_is _ _ _ rfl h
  match hS : stackOf ts, h1 with
  | [Tr.node op n kids], _ =>
    rw [hS] at h2 h3
    rw [flats_one] at h2
    simp only [Tr.oks, Tr.okT, and_true] at h3
    exact ⟨op, n, kids, rfl, by rw [← h2]; rfl, h3.1, h3.2.1, h3.2.2⟩

/-! ### Names, rising -/
def Rise (l : List Int) : Prop := l.Pairwise (· < ·)
theorem rise_ext : ∀ {a b : List Int}, Rise a → Rise b → (∀ x, x ∈ a ↔ x ∈ b) → a = b := by
  intro a
  induction a with
  | nil =>
    intro b _ _ h
    cases b with
    | nil => rfl
    | cons y s => have := (h y).2 (by simp); simp at this
  | cons x r ih =>
    intro b ha hb h
    cases b with
    | nil => have := (h x).1 (by simp); simp at this
    | cons y s =>
      have ha' := List.pairwise_cons.1 ha
      have hb' := List.pairwise_cons.1 hb
      have hxy : x = y := by
        have h1 := (h x).1 (by simp)
        have h2 := (h y).2 (by simp)
        simp only [List.mem_cons] at h1 h2
        rcases h1 with h1 | h1
        · exact h1
        · rcases h2 with h2 | h2
          · exact h2.symm
          · have := ha'.1 y h2; have := hb'.1 x h1; omega
      subst hxy
      rw [ih ha'.2 hb'.2]
      intro z
      have hz := h z
      simp only [List.mem_cons] at hz
      constructor
      · intro hzr
        rcases hz.1 (.inr hzr) with e | e
        · have := ha'.1 z hzr; omega
        · exact e
      · intro hzs
        rcases hz.2 (.inr hzs) with e | e
        · have := hb'.1 z hzs; omega
        · exact e

/-- The names of the Terms of that Op. -/
def namesOf (op : Int) (ts : List Tm) : List Int := (ts.filter (fun t => t.1 == op)).map (·.2)
theorem mem_namesOf {op : Int} {ts : List Tm} {x : Int} : x ∈ namesOf op ts ↔ (op, x) ∈ ts := by
  unfold namesOf
  simp only [List.mem_map, List.mem_filter, beq_iff_eq]
  constructor
  · rintro ⟨⟨a, b⟩, ⟨h1, h2⟩, h3⟩; simp at h2 h3; subst h2 h3; exact h1
  · intro h; exact ⟨(op, x), ⟨h, rfl⟩, rfl⟩
end Go.Proofs.YtbnpoliogldohaaGreat
/- The contracts of the two functions NatOk (the program's and the model's): each answers 'okB' of the numbers, and leaves the world as it is. -/
namespace Go.Proofs.YtbnpoliogldohaaGreat
open Go.RowKit

theorem in_any (x lo hi : Int) (w : World) :
    Calls Tryz.prog 87 #[.int .i64 x, .int .i64 lo, .int .i64 hi] w fun e w' => e = .returned (.bool (decide (lo ≤ x) && decide (x ≤ hi))) ∧ w = w' := by
  by_cases h1 : lo ≤ x
  · by_cases h2 : x ≤ hi
    · go_enter Tryz.func87, Tryz.ntmps87
      go_wp2
      go_ret
      exact ⟨ret_bool (by simp [h1, h2]), rfl⟩
    · go_enter Tryz.func87, Tryz.ntmps87
      go_wp2
      go_ret
      exact ⟨ret_bool (by rw [decide_eq_false (p := x ≤ hi) (by omega)]), rfl⟩
  · go_enter Tryz.func87, Tryz.ntmps87
    go_wp2
    go_ret
    exact ⟨ret_bool (by rw [decide_eq_false (p := lo ≤ x) (by omega), Bool.false_and]), rfl⟩

end Go.Proofs.YtbnpoliogldohaaGreat
/- The contracts of the two functions TakesOf (the program's and the model's), and of the program's termOk. -/
namespace Go.Proofs.YtbnpoliogldohaaGreat
open Go.RowKit

theorem takesI_mid {op : Int} (h : 5 ≤ op) (h' : op ≤ 16) : takesI op = 2 := by unfold takesI; rw [if_neg (by omega), if_neg (by omega), if_neg (by omega), if_pos ⟨h, h'⟩]
theorem takesI_out {op : Int} (h : op < 0 ∨ 17 < op) : takesI op = -1 := (takesI_neg op).2 h

set_option maxHeartbeats 400000 in
theorem takes_any (op : Int) (w : World) :
    Calls Tryz.prog 204 #[.int .i64 op] w fun e w' => e = .returned (.int .i64 (takesI op)) ∧ w = w' := by
  have hc : op = 0 ∨ op = 1 ∨ op = 2 ∨ op = 3 ∨ op = 4 ∨ op = 17 ∨ (5 ≤ op ∧ op ≤ 16) ∨ (op < 0 ∨ 17 < op) := by omega
  rcases hc with rfl | rfl | rfl | rfl | rfl | rfl | ⟨h5, h16⟩ | h
  iterate 6
    · go_enter Tryz.func204, Tryz.ntmps204
      go_wp2
      go_ret
      exact ⟨rfl, rfl⟩
  · have e := takesI_mid h5 h16
    have HE := Lib.hid e
    clear e
    have n0 : (op == 0) = false := by simp; omega
    have n1 : (op == 1) = false := by simp; omega
    have n2 : (op == 2) = false := by simp; omega
    have n3 : (op == 3) = false := by simp; omega
    have n4 : (op == 4) = false := by simp; omega
    have n17 : (op == 17) = false := by simp; omega
    go_enter Tryz.func204, Tryz.ntmps204
    go_wp2
    go_ret
    exact ⟨ret_int HE.out.symm, rfl⟩
  · have e := takesI_out h
    have HE := Lib.hid e
    clear e
    have n0 : (op == 0) = false := by simp; omega
    have n1 : (op == 1) = false := by simp; omega
    have n2 : (op == 2) = false := by simp; omega
    have n3 : (op == 3) = false := by simp; omega
    have n4 : (op == 4) = false := by simp; omega
    have n17 : (op == 17) = false := by simp; omega
    rcases h with h | h
    all_goals
      go_enter Tryz.func204, Tryz.ntmps204
      go_wp2
      go_ret
      exact ⟨ret_int HE.out.symm, rfl⟩

theorem takes_row (k : Nat) (hk : k ≤ 17) : ([Value.int IntKind.i64 0, Value.int IntKind.i64 0, Value.int IntKind.i64 1, Value.int IntKind.i64 1, Value.int IntKind.i64 1, Value.int IntKind.i64 2, Value.int IntKind.i64 2, Value.int IntKind.i64 2, Value.int IntKind.i64 2, Value.int IntKind.i64 2, Value.int IntKind.i64 2, Value.int IntKind.i64 2, Value.int IntKind.i64 2, Value.int IntKind.i64 2, Value.int IntKind.i64 2, Value.int IntKind.i64 2, Value.int IntKind.i64 2, Value.int IntKind.i64 3] : List Value)[k]? = some (.int .i64 (takesI k)) := by
  match k, hk with
  | 0, _ => rfl
  | 1, _ => rfl
  | 2, _ => rfl
  | 3, _ => rfl
  | 4, _ => rfl
  | 5, _ => rfl
  | 6, _ => rfl
  | 7, _ => rfl
  | 8, _ => rfl
  | 9, _ => rfl
  | 10, _ => rfl
  | 11, _ => rfl
  | 12, _ => rfl
  | 13, _ => rfl
  | 14, _ => rfl
  | 15, _ => rfl
  | 16, _ => rfl
  | 17, _ => rfl
  | j + 18, h => exact absurd h (by omega)

set_option maxHeartbeats 400000 in
theorem specTakes_any (op : Int) (w : World) :
    Calls Tryz.prog 209 #[.int .i64 op] w fun e w' => e = .returned (.int .i64 (takesI op)) ∧ Below w.heap.size w w' := by
  by_cases h : 0 ≤ op ∧ op ≤ 17
  · obtain ⟨k, rfl⟩ := Int.eq_ofNat_of_zero_le h.1
    have hk : k ≤ 17 := by omega
    clear h
    have hb : (decide ((0 : Int) ≤ (k : Int)) && decide ((k : Int) ≤ 17)) = true := by simp; omega
    have HB := Lib.hid hb
    clear hb
    have hrow := takes_row k hk
    generalize takesI (k : Int) = q at hrow ⊢
    go_enter Tryz.func209, Tryz.ntmps209
    go_wp2_with fail
    refine (in_any _ _ _ _).mono ?_
    rintro e w' ⟨rfl, rfl⟩
    rw [HB.out]
    go_wp2
    go_ret
    exact ⟨rfl, (Below.refl _ _).alloc (Nat.le_refl _) _⟩
  · have e : takesI op = -1 := takesI_out (by omega)
    have HE := Lib.hid e
    clear e
    have hb : (decide (0 ≤ op) && decide (op ≤ 17)) = false := by
      by_cases h0 : 0 ≤ op
      · rw [decide_eq_true h0, decide_eq_false (by omega)]; rfl
      · rw [decide_eq_false h0]; rfl
    have HB := Lib.hid hb
    clear hb
    go_enter Tryz.func209, Tryz.ntmps209
    go_wp2_with fail
    refine (in_any _ _ _ _).mono ?_
    rintro e w' ⟨rfl, rfl⟩
    rw [HB.out]
    go_wp2_with fail
    go_ret
    exact ⟨ret_int HE.out.symm, Below.refl _ _⟩
end Go.Proofs.YtbnpoliogldohaaGreat
/- Words for slices of Terms in memory; the contracts of termOk and of the two functions ExpOk (the program's and the model's). -/
namespace Go.Proofs.YtbnpoliogldohaaGreat
open Go.RowKit

def InTm (t : Tm) : Prop := In64 t.1 ∧ In64 t.2

/-- The slice '.slice a n c' reads as the Terms ts. -/
def Terms (w : World) (a : Option Addr) (n : Nat) (ts : List Tm) : Prop :=
  ts.length = n ∧ n ≤ 1048576 ∧ (∀ t ∈ ts, InTm t) ∧
  (0 < n → ∃ b o, a = some ⟨b, o, none⟩ ∧ b < w.heap.size ∧ ∀ i, i < n → w.cell? ⟨b, o + i * 2, none⟩ = some (.int .i64 (tmAt ts i).1) ∧ w.cell? ⟨b, o + i * 2 + 1, none⟩ = some (.int .i64 (tmAt ts i).2))

theorem Terms.at_ {w : World} {a : Option Addr} {n : Nat} {ts : List Tm} {k : Nat} (h : Terms w a n ts) (hk : k < n) :
    ∃ b o x y, a = some ⟨b, o, none⟩ ∧ b < w.heap.size ∧ Hid (tmAt ts k = (x, y)) ∧ In64 x ∧ In64 y ∧ w.cell? ⟨b, o + k * 2, none⟩ = some (.int .i64 x) ∧ w.cell? ⟨b, o + k * 2 + 1, none⟩ = some (.int .i64 y) := by
  obtain ⟨hl, _, hin, hc⟩ := h
  obtain ⟨b, o, rfl, hb, hcell⟩ := hc (by omega)
  have hm := hin _ (tmAt_mem (k := k) (by omega))
  exact ⟨b, o, _, _, rfl, hb, rfl, hm.1, hm.2, (hcell k hk).1, (hcell k hk).2⟩
theorem Terms.below {w w' : World} {a : Option Addr} {n : Nat} {ts : List Tm} {B : Nat} (h : Terms w a n ts) (hB : w.heap.size ≤ B) (hb : Below B w w') : Terms w' a n ts := by
  obtain ⟨hl, hn, hin, hc⟩ := h
  refine ⟨hl, hn, hin, fun hp => ?_⟩
  obtain ⟨b, o, rfl, hbl, hcell⟩ := hc hp
  exact ⟨b, o, rfl, Nat.lt_of_lt_of_le hbl hb.size, fun i hi => ⟨(hb.cell (Nat.lt_of_lt_of_le hbl hB)).trans (hcell i hi).1, (hb.cell (Nat.lt_of_lt_of_le hbl hB)).trans (hcell i hi).2⟩⟩

theorem tOkB_leaf {op n : Int} (h : op = 0 ∨ op = 1 ∨ op = 2) : tOkB (op, n) = (decide (0 ≤ n) && decide (n ≤ 255)) := by
  rcases h with rfl | rfl | rfl <;> (rw [Bool.eq_iff_iff, tOkB_iff]; simp [takesI])
theorem tOkB_op {op n : Int} (h : ¬ (op = 0 ∨ op = 1 ∨ op = 2)) : tOkB (op, n) = (decide (0 ≤ takesI op) && (n == 0)) := by
  rw [Bool.eq_iff_iff, tOkB_iff]
  simp only [Bool.and_eq_true, decide_eq_true_eq, beq_iff_eq]
  constructor
  · rintro ⟨h1, h2, h3, h4⟩
    refine ⟨h1, ?_⟩
    rcases h4 with h4 | h4
    · have : op < 0 := by omega
      have := (takesI_neg op).2 (.inl this)
      omega
    · exact h4
  · rintro ⟨h1, h2⟩
    exact ⟨h1, by omega, by omega, .inr h2⟩

set_option maxHeartbeats 800000 in
theorem termOk_any (op n : Int) (w : World) :
    Calls Tryz.prog 248 #[.agg #[.int .i64 op, .int .i64 n]] w fun e w' => e = .returned (.bool (tOkB (op, n))) ∧ Below w.heap.size w w' := by
  by_cases hl : op = 0 ∨ op = 1 ∨ op = 2
  · have HE := Lib.hid (tOkB_leaf (n := n) hl)
    by_cases h0 : 0 ≤ n
    · rcases hl with rfl | rfl | rfl
      all_goals
        go_enter Tryz.func248, Tryz.ntmps248
        go_wp2
        go_ret
        exact ⟨ret_bool (by rw [HE.out]; simp [h0]), (Below.refl _ _).alloc (Nat.le_refl _) _⟩
    · rcases hl with rfl | rfl | rfl
      all_goals
        go_enter Tryz.func248, Tryz.ntmps248
        go_wp2
        go_ret
        exact ⟨ret_bool (by rw [HE.out, decide_eq_false (by omega)]; rfl), (Below.refl _ _).alloc (Nat.le_refl _) _⟩
  · have HE := Lib.hid (tOkB_op (n := n) hl)
    have n0 : (op == 0) = false := by simp; omega
    have n1 : (op == 1) = false := by simp; omega
    have n2 : (op == 2) = false := by simp; omega
    obtain ⟨q, HQ⟩ : ∃ q, Hid (takesI op = q) := ⟨_, rfl⟩
    clear hl
    by_cases h0 : 0 ≤ q
    · go_enter Tryz.func248, Tryz.ntmps248
      go_wp2_with fail
      refine (takes_any _ _).mono ?_
      rintro e w1 ⟨rfl, rfl⟩
      rw [HQ.out]
      go_wp2
      go_ret
      exact ⟨ret_bool (by rw [HE.out, HQ.out]; simp [h0]), (Below.refl _ _).alloc (Nat.le_refl _) _⟩
    · go_enter Tryz.func248, Tryz.ntmps248
      go_wp2_with fail
      refine (takes_any _ _).mono ?_
      rintro e w1 ⟨rfl, rfl⟩
      rw [HQ.out]
      go_wp2
      go_ret
      exact ⟨ret_bool (by rw [HE.out, HQ.out, decide_eq_false (by omega)]; rfl), (Below.refl _ _).alloc (Nat.le_refl _) _⟩

set_option maxHeartbeats 800000 in
theorem expOk_any (a : Option Addr) (n c : Nat) (ts : List Tm) (w : World) (h : Terms w a n ts) :
    Calls Tryz.prog 228 #[.slice a n c] w fun e w' => e = .returned (.bool (expB ts)) ∧ Below w.heap.size w w' := by
  have HL := Lib.hid h.1
  have hbd := h.2.1
  by_cases hn : 3000 < n
  · go_enter Tryz.func228, Tryz.ntmps228
    go_wp2
    go_ret
    exact ⟨ret_bool (expB_long (by rw [HL.out]; exact hn)).symm, Below.refl _ _⟩
  · go_enter Tryz.func228, Tryz.ntmps228
    go_wp2
    go_loopw [3, 12] (fun l i wr => ∃ (k : Nat) (d : Int), k ≤ n ∧ i = .int .i64 k ∧ l = .int .i64 d ∧ 0 ≤ d ∧ d ≤ k ∧ Hid (runD 0 (ts.take k) = some d) ∧ Below w.heap.size w wr) (fun _ i _ => n - (intOf i).toNat)
    case atStart => exact ⟨0, 0, Nat.zero_le _, rfl, rfl, by omega, by omega, rfl, Below.refl _ _⟩
    case round =>
      obtain ⟨k, d, hk, rfl, rfl, hd0, hd1, hr, hbel⟩ := hrel
      by_cases hlt : k < n
      · obtain ⟨b, o, x, y, rfl, hb, hz, hin1, hin2, hc1, hc2⟩ := (h.below (Nat.le_refl _) hbel).at_ hlt
        obtain ⟨q, HQ⟩ : ∃ q, Hid (takesI x = q) := ⟨_, rfl⟩
        have hq := takesI_range x
        rw [HQ.out] at hq
        obtain ⟨hq0, hq1⟩ := hq
        obtain ⟨okq, HOK⟩ : ∃ okq, Hid (tOkB (x, y) = okq) := ⟨_, rfl⟩
        go_wp2_with fail
        refine (takes_any _ _).mono ?_
        rintro e w1 ⟨rfl, rfl⟩
        rw [HQ.out]
        go_wp2_with fail
        refine (termOk_any _ _ _).mono ?_
        rintro e w1 ⟨rfl, hb1⟩
        have ht1 : Below w.heap.size w w1 := (hbel.alloc hbel.size _).trans (hb1.mono (by have := hbel.size; simp; omega))
        rw [HOK.out]
        clear hb1 hbel hc1 hc2
        cases okq with
        | false =>
          go_wp2
          go_ret
          exact ⟨ret_bool (expB_bad (by rw [HL.out]; exact hlt) hr.out (.inl (by rw [hz.out, HOK.out]))).symm, ht1⟩
        | true =>
          by_cases hqd : d < q
          · go_wp2
            go_ret
            exact ⟨ret_bool (expB_bad (by rw [HL.out]; exact hlt) hr.out (.inr (by rw [hz.out, HQ.out]; exact hqd))).symm, ht1⟩
          · have HR := Lib.hid (runD_step (by rw [HL.out]; exact hlt) hr.out (by rw [hz.out, HOK.out]) (by rw [hz.out, HQ.out]; omega))
            have hq2 : 0 ≤ q := by have := ((tOkB_iff _).1 HOK.out).1; rw [HQ.out] at this; exact this
            go_wp2
            go_roundw
            case rel => exact ⟨k + 1, d + (1 - q), by omega, by go_num, rfl, by omega, by omega, by show _ = _; rw [HR.out, hz.out, HQ.out]; congr 1; omega, ht1⟩
            case measure => simp [intOf]; omega
      · obtain rfl : n = k := by omega
        have hr2 : runD 0 ts = some d := by have := hr.out; rwa [List.take_of_length_le (by rw [HL.out]; exact Nat.le_refl _)] at this
        have HF := Lib.hid (expB_end (by rw [HL.out]; omega) hr2)
        clear hr2
        go_wp2
        go_ret
        exact ⟨ret_bool HF.out.symm, hbel⟩

theorem tOkB_false {x y q : Int} (hq : Hid (takesI x = q)) (h : q < 0 ∨ y < 0 ∨ 255 < y ∨ (2 < x ∧ y ≠ 0)) : tOkB (x, y) = false := by
  rw [← Bool.not_eq_true, tOkB_iff]
  rintro ⟨h1, h2, h3, h4⟩
  simp only [hq.out] at h1 h2 h3 h4
  omega
theorem tOkB_true {x y q : Int} (hq : Hid (takesI x = q)) (h0 : 0 ≤ q) (h1 : 0 ≤ y) (h2 : y ≤ 255) (h3 : x ≤ 2 ∨ y = 0) : tOkB (x, y) = true :=
  (tOkB_iff _).2 ⟨by simp only [hq.out]; exact h0, h1, h2, h3⟩

set_option maxHeartbeats 1600000 in
theorem specExpOk_any (a : Option Addr) (n c : Nat) (ts : List Tm) (w : World) (h : Terms w a n ts) :
    Calls Tryz.prog 167 #[.slice a n c] w fun e w' => e = .returned (.bool (expB ts)) ∧ Below w.heap.size w w' := by
  have HL := Lib.hid h.1
  have hbd := h.2.1
  by_cases hn : 3000 < n
  · go_enter Tryz.func167, Tryz.ntmps167
    go_wp2
    go_ret
    exact ⟨ret_bool (expB_long (by rw [HL.out]; exact hn)).symm, Below.refl _ _⟩
  · go_enter Tryz.func167, Tryz.ntmps167
    go_wp2
    go_loopw [3, 4] (fun l i wr => ∃ (k : Nat) (d : Int), k ≤ n ∧ i = .int .i64 k ∧ l = .int .i64 d ∧ 0 ≤ d ∧ d ≤ k ∧ Hid (runD 0 (ts.take k) = some d) ∧ Below w.heap.size w wr) (fun _ i _ => n - (intOf i).toNat)
    case atStart => exact ⟨0, 0, Nat.zero_le _, rfl, rfl, by omega, by omega, rfl, Below.refl _ _⟩
    case round =>
      obtain ⟨k, d, hk, rfl, rfl, hd0, hd1, hr, hbel⟩ := hrel
      by_cases hlt : k < n
      · obtain ⟨b, o, x, y, rfl, hb, hz, hin1, hin2, hc1, hc2⟩ := (h.below (Nat.le_refl _) hbel).at_ hlt
        obtain ⟨q, HQ⟩ : ∃ q, Hid (takesI x = q) := ⟨_, rfl⟩
        have hq := takesI_range x
        rw [HQ.out] at hq
        obtain ⟨hq0, hq1⟩ := hq
        go_wp2_with fail
        refine (specTakes_any _ _).mono ?_
        rintro e w1 ⟨rfl, hb1⟩
        have ht1 : Below w.heap.size w w1 := hbel.trans (hb1.mono hbel.size)
        have hd1' : w1.cell? ⟨b, o + k * 2, none⟩ = some (.int .i64 x) := (hb1.cell hb).trans hc1
        have hd2' : w1.cell? ⟨b, o + k * 2 + 1, none⟩ = some (.int .i64 y) := (hb1.cell hb).trans hc2
        rw [HQ.out]
        clear hb1 hbel hc1 hc2
        by_cases hqn : q < 0
        · go_wp2_with fail
          go_ret
          exact ⟨ret_bool (expB_bad (by rw [HL.out]; exact hlt) hr.out (.inl (by rw [hz.out]; exact tOkB_false HQ (.inl hqn)))).symm, ht1⟩
        by_cases hqd : d < q
        · go_wp2_with fail
          go_ret
          exact ⟨ret_bool (expB_bad (by rw [HL.out]; exact hlt) hr.out (.inr (by rw [hz.out]; show d < takesI x; rw [HQ.out]; exact hqd))).symm, ht1⟩
        obtain ⟨inq, HI⟩ : ∃ inq, Hid ((decide (0 ≤ y) && decide (y ≤ 255)) = inq) := ⟨_, rfl⟩
        cases inq with
        | false =>
          have hyy : y < 0 ∨ 255 < y := by have := HI.out; simp at this; omega
          go_wp2_with fail
          refine (in_any _ _ _ _).mono ?_
          rintro e w2 ⟨rfl, rfl⟩
          rw [HI.out]
          go_wp2_with fail
          go_ret
          exact ⟨ret_bool (expB_bad (by rw [HL.out]; exact hlt) hr.out (.inl (by rw [hz.out]; exact tOkB_false HQ (by omega)))).symm, ht1⟩
        | true =>
          have hy0 : 0 ≤ y := by have := HI.out; simp at this; omega
          have hy1 : y ≤ 255 := by have := HI.out; simp at this; omega
          by_cases hx2 : 2 < x
          · by_cases hyz : y = 0
            · subst hyz
              have HR := Lib.hid (runD_step (by rw [HL.out]; exact hlt) hr.out (by rw [hz.out]; exact tOkB_true HQ (by omega) hy0 hy1 (.inr rfl)) (by rw [hz.out]; show takesI x ≤ d; rw [HQ.out]; omega))
              go_wp2_with fail
              refine (in_any _ _ _ _).mono ?_
              rintro e w2 ⟨rfl, rfl⟩
              rw [HI.out]
              go_wp2_with fail
              go_roundw
              case rel => exact ⟨k + 1, d - q + 1, by omega, by go_num, rfl, by omega, by omega, by show _ = _; rw [HR.out, hz.out]; show some (d + 1 - takesI x) = _; rw [HQ.out]; congr 1; omega, ht1⟩
              case measure => simp [intOf]; omega
            · have hne : (y != 0) = true := by simpa using hyz
              go_wp2_with fail
              refine (in_any _ _ _ _).mono ?_
              rintro e w2 ⟨rfl, rfl⟩
              rw [HI.out]
              go_wp2_with fail
              go_ret
              exact ⟨ret_bool (expB_bad (by rw [HL.out]; exact hlt) hr.out (.inl (by rw [hz.out]; exact tOkB_false HQ (.inr (.inr (.inr ⟨hx2, hyz⟩)))))).symm, ht1⟩
          · have HR := Lib.hid (runD_step (by rw [HL.out]; exact hlt) hr.out (by rw [hz.out]; exact tOkB_true HQ (by omega) hy0 hy1 (.inl (by omega))) (by rw [hz.out]; show takesI x ≤ d; rw [HQ.out]; omega))
            go_wp2_with fail
            refine (in_any _ _ _ _).mono ?_
            rintro e w2 ⟨rfl, rfl⟩
            rw [HI.out]
            go_wp2_with fail
            go_roundw
            case rel => exact ⟨k + 1, d - q + 1, by omega, by go_num, rfl, by omega, by omega, by show _ = _; rw [HR.out, hz.out]; show some (d + 1 - takesI x) = _; rw [HQ.out]; congr 1; omega, ht1⟩
            case measure => simp [intOf]; omega
      · obtain rfl : n = k := by omega
        have hr2 : runD 0 ts = some d := by have := hr.out; rwa [List.take_of_length_le (by rw [HL.out]; exact Nat.le_refl _)] at this
        have HF := Lib.hid (expB_end (by rw [HL.out]; omega) hr2)
        clear hr2
        go_wp2
        go_ret
        exact ⟨ret_bool HF.out.symm, hbel⟩
end Go.Proofs.YtbnpoliogldohaaGreat
/- A region that draws its order, whose own operations only read and whose callees leave what was there as it was: walked once, in the text's order, in the class of later worlds. -/
namespace Go.Proofs.YtbnpoliogldohaaGreat
open Go.RowKit

/-- A world in which all that lay in w lies as it did. -/
structure Lat (w : World) where
  wd : World
  ok : Below w.heap.size w wd
instance (w : World) : Inhabited (Lat w) := ⟨⟨w, Below.refl _ _⟩⟩

theorem wp_region_lat {id : Nat} {Q : Exit → Act → World → Prop} {a : Act} {w : World} {l : List Oper} (hm : Tryz.prog.follows .mixedOrders = true) (hB : Region.lexB .any l.toArray = true)
    (h : wpQuiet Tryz.prog l.toArray (fun w' => ∃ p : Lat w, w' = p.wd) (fun a' => ∀ w', (∃ p : Lat w, w' = p.wd) → Q .normal a' w') l a) : (Code.region id l.toArray true).wp Tryz.prog Q a w :=
  wp_region_quiet (C := fun w' => ∃ p : Lat w, w' = p.wd) hm hB ⟨⟨w.drewN 1, ⟨rfl, rfl, rfl, Nat.le_refl _, fun _ _ => rfl⟩⟩, rfl⟩ (by simpa using h)
theorem lat_cell {w : World} {b o : Nat} {v : Value} (hb : b < w.heap.size) (h : w.cell? ⟨b, o, none⟩ = some v) (p : Lat w) : p.wd.cell? ⟨b, o, none⟩ = some v := (p.ok.cell hb).trans h
theorem lat_calls {f : FuncId} {args : Array Value} {w : World} {p : Lat w} {v : Value} (h : Calls Tryz.prog f args p.wd fun e w' => e = .returned v ∧ Below p.wd.heap.size p.wd w') :
    Calls Tryz.prog f args p.wd fun e w'' => e = .returned v ∧ ∃ q : Lat w, w'' = q.wd :=
  h.mono fun _ w'' ⟨he, hb⟩ => ⟨he, ⟨w'', p.ok.trans (hb.mono p.ok.size)⟩, rfl⟩
end Go.Proofs.YtbnpoliogldohaaGreat
