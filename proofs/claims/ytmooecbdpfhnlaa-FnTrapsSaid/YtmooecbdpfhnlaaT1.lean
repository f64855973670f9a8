/- Joined texts of this proof (Base, Copies, Like, TermMath, NatOk, Takes), in build order. -/
import Derived.Test.YtmooecbdpfhnlaaRows
import Derived.WalkKit
import Derived.WalkSpells
import Derived.Lib.Hide
import Derived.Below
import Derived.OwnWalk
import Derived.Deep.QuietTactic
import Derived.BigQuiet
import Derived.Laws.OwnMore
import Derived.OpenShut
/- Words for memory, and plain lemmas on lists of numbers: what a slice of numbers reads as; a row that a call made itself. No statement is proved here. -/
namespace Go.Proofs.Ytmooecbdpfhnlaa
open Go.RowKit

def In64 (z : Int) : Prop := -9223372036854775808 ≤ z ∧ z ≤ 9223372036854775807
theorem In64.wf {z : Int} (h : In64 z) : (Lit.int .i64 z).wf = true := WalkArith.wf_i64 ⟨h.1, by have := h.2; omega⟩

/-- The slice '.slice a n c' reads as the numbers zs. -/
def Ints (w : World) (a : Option Addr) (n : Nat) (zs : List Int) : Prop :=
  zs.length = n ∧ n ≤ 1048576 ∧ (∀ z ∈ zs, In64 z) ∧
  (0 < n → ∃ b o, a = some ⟨b, o, none⟩ ∧ b < w.heap.size ∧ ∀ i, i < n → w.cell? ⟨b, o + i, none⟩ = some (.int .i64 (zs.getD i 0)))

theorem getD_mem {zs : List Int} {k : Nat} (h : k < zs.length) : zs.getD k 0 ∈ zs := by
  rw [List.getD_eq_getElem?_getD, List.getElem?_eq_getElem h]; exact List.getElem_mem h

theorem Ints.at_ {w : World} {a : Option Addr} {n : Nat} {zs : List Int} {k : Nat} (h : Ints w a n zs) (hk : k < n) :
    ∃ b o z, a = some ⟨b, o, none⟩ ∧ b < w.heap.size ∧ Hid (z = zs.getD k 0) ∧ In64 z ∧ w.cell? ⟨b, o + k, none⟩ = some (.int .i64 z) := by
  obtain ⟨hl, _, hin, hc⟩ := h
  obtain ⟨b, o, rfl, hb, hcell⟩ := hc (by omega)
  exact ⟨b, o, _, rfl, hb, rfl, hin _ (getD_mem (by omega)), hcell k hk⟩

theorem Ints.below {w w' : World} {a : Option Addr} {n : Nat} {zs : List Int} (h : Ints w a n zs) (hb : Below w.heap.size w w') : Ints w' a n zs := by
  obtain ⟨hl, hn, hin, hc⟩ := h
  refine ⟨hl, hn, hin, fun hp => ?_⟩
  obtain ⟨b, o, rfl, hbl, hcell⟩ := hc hp
  exact ⟨b, o, rfl, Nat.lt_of_lt_of_le hbl hb.size, fun i hi => (hb.cell (by exact hbl)).trans (hcell i hi)⟩

/-- A slice of numbers that the call made itself, from block B on. -/
def Own (w : World) (B : Nat) (a : Option Addr) (n c : Nat) (zs : List Int) : Prop :=
  w.ownsRow B 2 1 (.slice a n c) n (zs.map (Value.int .i64)) ∧ n ≤ 1048576 ∧ ∀ z ∈ zs, In64 z

section
variable {w w' : World} {B : Nat} {a : Option Addr} {n c : Nat} {zs : List Int}
theorem Own.len (h : Own w B a n c zs) : zs.length = n := by have := h.1.1; simpa using this
theorem Own.ints (h : Own w B a n c zs) : Ints w a n zs := by
  have hlen := h.len
  obtain ⟨ho, hn, hin⟩ := h
  refine ⟨hlen, hn, hin, fun hp => ?_⟩
  rcases ho.2 with ⟨_, h0⟩ | ⟨g, cap, cur, e, _, hh, _⟩
  · exact absurd hp (by omega)
  · have ea : a = some ⟨g, 0, none⟩ := by injection e
    subst ea
    refine ⟨g, 0, rfl, (ho.lt g rfl).2, fun i hi => ?_⟩
    rw [Nat.zero_add, ho.cellAt i (by omega)]
    simp [List.getD_eq_getElem?_getD, List.getElem?_eq_getElem (show i < zs.length by omega)]
theorem Own.below (h : Own w B a n c zs) (hb : Below w.heap.size w w') : Own w' B a n c zs :=
  ⟨h.1.kept (row := none) ⟨hb.os, hb.tape, hb.output, hb.size, fun k hk _ => hb.block k hk⟩ (by cases a <;> simp [Value.ownBlock]), h.2⟩
theorem Own.base {B' : Nat} (h : Own w B a n c zs) (hB : B' ≤ B) : Own w B' a n c zs := by
  refine ⟨⟨h.1.1, ?_⟩, h.2⟩
  rcases h.1.2 with hn | ⟨g, cap, cur, e, hb, r⟩
  · exact .inl hn
  · exact .inr ⟨g, cap, cur, e, by omega, r⟩
theorem Own.drewN (h : Own w B a n c zs) (k : Nat) : Own (w.drewN k) B a n c zs := h
/-- Its block: from B on, and below the heap's size. -/
theorem Own.block (h : Own w B a n c zs) : ∀ g, (Value.slice a n c).ownBlock = some g → B ≤ g ∧ g < w.heap.size := h.1.lt
/-- What is written to another block leaves it as it is. -/
theorem Own.other {row : Option Nat} (h : Own w B a n c zs) (hg : w.grownBy w' row) (hr : ∀ g, row = some g → g < B) : Own w' B a n c zs := by
  refine ⟨h.1.kept hg ?_, h.2⟩
  cases hv : (Value.slice a n c).ownBlock with
  | none => exact .inl rfl
  | some g =>
    refine .inr fun e => ?_
    have := hr g e.symm
    have := (h.block g hv).1
    omega
theorem Own.apart {row : Option Nat} {K : Nat} (h : Own w B a n c zs) (hg : w.grownBy w' row) (hK : ∀ g, (Value.slice a n c).ownBlock = some g → g < K) (hr : ∀ g, row = some g → K ≤ g) : Own w' B a n c zs := by
  refine ⟨h.1.kept hg ?_, h.2⟩
  cases hv : (Value.slice a n c).ownBlock with
  | none => exact .inl rfl
  | some g =>
    refine .inr fun e => ?_
    have := hr g e.symm
    have := hK g hv
    omega
theorem Own.later {row : Option Nat} (h : Own w B a n c zs) (hg : w.grownBy w' row) (hr : ∀ g, row = some g → w.heap.size ≤ g) : Own w' B a n c zs := by
  refine ⟨h.1.kept hg ?_, h.2⟩
  cases hv : (Value.slice a n c).ownBlock with
  | none => exact .inl rfl
  | some g =>
    refine .inr fun e => ?_
    have := hr g e.symm
    have := (h.block g hv).2
    omega
end

/-- What a function that makes a slice of the numbers zs leaves. -/
def MadeInts (w : World) (zs : List Int) (e : Ending) (w' : World) : Prop :=
  ∃ a n c, e = .returned (.slice a n c) ∧ Own w' w.heap.size a n c zs ∧ Below w.heap.size w w'

section
variable {w : World} {B g n cap : Nat} {zs : List Int}
end

/-- The numbers of a great number: at most 100, each from 0 to 9999, the last one not 0. -/
def okB (zs : List Int) : Bool :=
  decide (zs.length ≤ 100) && zs.all (fun z => decide (0 ≤ z) && decide (z ≤ 9999)) && (zs.isEmpty || zs.getD (zs.length - 1) 0 != 0)

/-- The first k are limbs. -/
def GoodTo (zs : List Int) (k : Nat) : Prop := ∀ i, i < k → 0 ≤ zs.getD i 0 ∧ zs.getD i 0 ≤ 9999

theorem GoodTo.zero (zs : List Int) : GoodTo zs 0 := fun i hi => absurd hi (by omega)
theorem GoodTo.succ {zs : List Int} {k : Nat} {z : Int} (h : GoodTo zs k) (hz : Hid (z = zs.getD k 0)) (h0 : 0 ≤ z) (h1 : z ≤ 9999) : GoodTo zs (k + 1) := by
  intro i hi
  rcases Nat.lt_or_ge i k with hlt | hge
  · exact h i hlt
  · have : i = k := by omega
    subst this; rw [← hz.out]; exact ⟨h0, h1⟩

/-- The world has at most drawn: nothing in memory has turned. -/
def Still (w w' : World) : Prop := ∃ j, w' = w.drewN j
theorem Still.refl (w : World) : Still w w := ⟨0, rfl⟩
theorem Still.draw {w w' : World} (h : Still w w') (n : Nat) : Still w (w'.drewN n) := by
  obtain ⟨j, rfl⟩ := h
  exact ⟨j + n, World.drewN_drewN _ _ _⟩
theorem Still.drew (w : World) (n : Nat) : Still w (w.drewN n) := ⟨n, rfl⟩
theorem Still.trans {a b c : World} (h : Still a b) (k : Still b c) : Still a c := by
  obtain ⟨j, rfl⟩ := k
  exact h.draw j
theorem Still.below {w w' : World} (h : Still w w') (B : Nat) : Below B w w' := by
  obtain ⟨j, rfl⟩ := h
  exact ⟨rfl, rfl, rfl, Nat.le_refl _, fun _ _ => rfl⟩
theorem Still.size {w w' : World} (h : Still w w') : w'.heap.size = w.heap.size := by
  obtain ⟨j, rfl⟩ := h
  rfl
theorem Ints.still {w w' : World} {a : Option Addr} {n : Nat} {zs : List Int} (h : Ints w a n zs) (hs : Still w w') : Ints w' a n zs := by
  obtain ⟨j, rfl⟩ := hs
  exact h
theorem Own.still {w w' : World} {B : Nat} {a : Option Addr} {n c : Nat} {zs : List Int} (h : Own w B a n c zs) (hs : Still w w') : Own w' B a n c zs := by
  obtain ⟨j, rfl⟩ := hs
  exact h
theorem still_quiet {P : Program} {f : FuncId} {args : Array Value} {w : World} {n : Nat} {v : Value}
    (h : Calls P f args (w.drewN n) fun e w' => e = .returned v ∧ Still (w.drewN n) w') : Calls P f args (w.drewN n) fun e w' => e = .returned v ∧ ∃ m, w' = w.drewN m :=
  h.mono fun _ _ ⟨he, m, hm⟩ => ⟨he, n + m, by rw [hm, World.drewN_drewN]⟩
theorem below_dn {B : Nat} {a w : World} (h : Below B a w) (n : Nat) : Below B a (w.drewN n) := h.trans ⟨rfl, rfl, rfl, Nat.le_refl _, fun _ _ => rfl⟩
theorem ret_bool {a b : Bool} (h : a = b) : Ending.returned (.bool a) = .returned (.bool b) := by rw [h]
theorem ret_int {k : IntKind} {a b : Int} (h : a = b) : Ending.returned (.int k a) = .returned (.int k b) := by rw [h]
end Go.Proofs.Ytmooecbdpfhnlaa
/- The contracts of the laws' own helpers on slices of numbers: a copy (toInt64S), a comparison (eqInt64S), marks written into a slice (markInt64S), marks asked for (heldInt64S). -/
namespace Go.Proofs.Ytmooecbdpfhnlaa
open Go.RowKit

/-- The first k are alike. -/
def EqTo (xs ys : List Int) (k : Nat) : Prop := ∀ i, i < k → xs.getD i 0 = ys.getD i 0
theorem EqTo.zero (xs ys : List Int) : EqTo xs ys 0 := fun i hi => absurd hi (by omega)
theorem EqTo.succ {xs ys : List Int} {k : Nat} {x y : Int} (h : EqTo xs ys k) (hx : Hid (x = xs.getD k 0)) (hy : Hid (y = ys.getD k 0)) (e : x = y) : EqTo xs ys (k + 1) := by
  intro i hi
  rcases Nat.lt_or_ge i k with hlt | hge
  · exact h i hlt
  · have : i = k := by omega
    subst this; rw [← hx.out, ← hy.out]; exact e

/-- The first k of zs, noughts behind. -/
def CopyTo (zs : List Int) (n k : Nat) : List Int := zs.take k ++ List.replicate (n - k) 0
/-- The marks k, k + 1, .. -/
def marks (k : Int) (n : Nat) : List Int := (List.range n).map (fun i : Nat => k + (i : Int))
/-- The first j marks written over zs. -/
def MarkTo (zs : List Int) (k : Int) (j : Nat) : List Int := marks k j ++ zs.drop j
end Go.Proofs.Ytmooecbdpfhnlaa
/- The contracts of the laws' own helpers big and likeInts. -/
namespace Go.Proofs.Ytmooecbdpfhnlaa
open Go.RowKit

theorem big_any (a : Option Addr) (n c : Nat) (w : World) : Calls Try.prog 7 #[.slice a n c] w fun e w' => e = .returned (.bool (decide (4096 < n))) ∧ w = w' := by
  go_enter Try.func7, Try.ntmps7
  go_wp2
  go_ret
  exact ⟨ret_bool (by simp only [decide_eq_decide]; omega), rfl⟩

end Go.Proofs.Ytmooecbdpfhnlaa
/- Plain mathematics of lists of Terms: what each takes, the depth that is left, trees and their Terms in order, where a part begins, names rising. No Go text here. -/
namespace Go.Proofs.Ytmooecbdpfhnlaa
open Go.RowKit

/-- A Term: its Op and its N. -/
abbrev Tm := Int × Int

/-- How many a Term of that Op takes; -1 of any other number. -/
def takesI (op : Int) : Int :=
  if op = 0 ∨ op = 1 then 0 else if op = 2 ∨ op = 3 ∨ op = 4 then 1 else if op = 17 then 3 else if 5 ≤ op ∧ op ≤ 16 then 2 else -1
theorem takesI_range (op : Int) : -1 ≤ takesI op ∧ takesI op ≤ 3 := by unfold takesI; split <;> (try split) <;> (try split) <;> (try split) <;> omega
theorem takesI_neg (op : Int) : takesI op = -1 ↔ op < 0 ∨ 17 < op := by unfold takesI; split <;> (try split) <;> (try split) <;> (try split) <;> omega

/-- A Term that may stand in an expression. -/
def tOkB (t : Tm) : Bool := decide (0 ≤ takesI t.1) && decide (0 ≤ t.2) && decide (t.2 ≤ 255) && (decide (t.1 ≤ 2) || decide (t.2 = 0))
theorem tOkB_iff (t : Tm) : tOkB t = true ↔ 0 ≤ takesI t.1 ∧ 0 ≤ t.2 ∧ t.2 ≤ 255 ∧ (t.1 ≤ 2 ∨ t.2 = 0) := by
  unfold tOkB; simp only [Bool.and_eq_true, Bool.or_eq_true, decide_eq_true_eq]; exact ⟨fun h => ⟨h.1.1.1, h.1.1.2, h.1.2, h.2⟩, fun h => ⟨⟨⟨h.1, h.2.1⟩, h.2.2.1⟩, h.2.2.2⟩⟩

/-- How many are left behind the Terms, from d on; none where one is wrong, or takes what is not there. -/
def runD : Int → List Tm → Option Int
  | d, [] => some d
  | d, t :: r => if tOkB t = true ∧ takesI t.1 ≤ d then runD (d + 1 - takesI t.1) r else none
theorem runD_append (d : Int) (a b : List Tm) : runD d (a ++ b) = (runD d a).bind (fun x => runD x b) := by
  induction a generalizing d with
  | nil => rfl
  | cons t r ih => simp only [List.cons_append, runD]; split <;> simp [ih]
theorem runD_nonneg {d x : Int} {ts : List Tm} (h : runD d ts = some x) (hd : 0 ≤ d) : 0 ≤ x := by
  induction ts generalizing d with
  | nil => simp [runD] at h; omega
  | cons t r ih =>
    simp only [runD] at h
    split at h
    · next hc => exact ih h (by omega)
    · cases h
theorem runD_pos {d x : Int} {ts : List Tm} (h : runD d ts = some x) (hd : 0 ≤ d) (hn : 0 < ts.length) : 1 ≤ x := by
  induction ts generalizing d with
  | nil => simp at hn
  | cons t r ih =>
    simp only [runD] at h
    split at h
    · next hc =>
      cases r with
      | nil => simp [runD] at h; omega
      | cons u s => exact ih h (by omega) (by simp)
    · cases h
theorem runD_le {d x : Int} {ts : List Tm} (h : runD d ts = some x) : x ≤ d + ts.length := by
  induction ts generalizing d with
  | nil => simp [runD] at h; simp; omega
  | cons t r ih =>
    simp only [runD] at h
    split at h
    · next hc =>
      have := ih h
      have hk := ((tOkB_iff t).1 hc.1).1
      simp; omega
    · cases h

/-- An expression. -/
def expB (ts : List Tm) : Bool := decide (ts.length ≤ 3000) && (runD 0 ts == some 1)
theorem expB_iff (ts : List Tm) : expB ts = true ↔ ts.length ≤ 3000 ∧ runD 0 ts = some 1 := by
  unfold expB; simp
theorem expB_long {ts : List Tm} (h : 3000 < ts.length) : expB ts = false := by
  unfold expB; rw [decide_eq_false (by omega)]; rfl

/-- The Term at a place. -/
def tmAt (ts : List Tm) (k : Nat) : Tm := ts.getD k (0, 0)
theorem tmAt_mem {ts : List Tm} {k : Nat} (h : k < ts.length) : tmAt ts k ∈ ts := by
  unfold tmAt; rw [List.getD_eq_getElem?_getD, List.getElem?_eq_getElem h]; exact List.getElem_mem h
theorem tm_snoc (ts : List Tm) (k : Nat) (h : k < ts.length) : ts.take (k + 1) = ts.take k ++ [tmAt ts k] := by
  unfold tmAt; rw [List.take_succ_eq_append_getElem h, List.getD_eq_getElem?_getD, List.getElem?_eq_getElem h]; rfl
theorem tm_split (ts : List Tm) (k : Nat) (h : k < ts.length) : ts = ts.take k ++ tmAt ts k :: ts.drop (k + 1) := by
  have h1 := List.take_append_drop (k + 1) ts
  rw [tm_snoc ts k h, List.append_assoc] at h1
  exact h1.symm
theorem tmAt_append_left {a b : List Tm} {k : Nat} (h : k < a.length) : tmAt (a ++ b) k = tmAt a k := by
  unfold tmAt; rw [List.getD_eq_getElem?_getD, List.getD_eq_getElem?_getD, List.getElem?_append_left h]
theorem tmAt_append_right {a b : List Tm} {k : Nat} : tmAt (a ++ b) (a.length + k) = tmAt b k := by
  unfold tmAt; rw [List.getD_eq_getElem?_getD, List.getD_eq_getElem?_getD, List.getElem?_append_right (by omega), Nat.add_sub_cancel_left]

theorem runD_step {ts : List Tm} {k : Nat} {d : Int} (hk : k < ts.length) (h : runD 0 (ts.take k) = some d) (ho : tOkB (tmAt ts k) = true) (ht : takesI (tmAt ts k).1 ≤ d) :
    runD 0 (ts.take (k + 1)) = some (d + 1 - takesI (tmAt ts k).1) := by
  rw [tm_snoc ts k hk, runD_append, h]; simp only [Option.bind_some, runD]; rw [if_pos ⟨ho, ht⟩]
theorem runD_bad {ts : List Tm} {k : Nat} {d : Int} (hk : k < ts.length) (h : runD 0 (ts.take k) = some d) (hb : tOkB (tmAt ts k) = false ∨ d < takesI (tmAt ts k).1) :
    runD 0 ts = none := by
  rw [tm_split ts k hk, runD_append, h]; simp only [Option.bind_some, runD]
  rw [if_neg]
  rintro ⟨h1, h2⟩
  rcases hb with hb | hb
  · rw [hb] at h1; cases h1
  · omega
theorem expB_bad {ts : List Tm} {k : Nat} {d : Int} (hk : k < ts.length) (h : runD 0 (ts.take k) = some d) (hb : tOkB (tmAt ts k) = false ∨ d < takesI (tmAt ts k).1) : expB ts = false := by
  unfold expB; rw [runD_bad hk h hb]; simp
theorem expB_end {ts : List Tm} {d : Int} (hl : ts.length ≤ 3000) (h : runD 0 ts = some d) : expB ts = (d == 1) := by
  unfold expB; rw [decide_eq_true hl, h]; simp
/-- Of what is right, each beginning is. -/
theorem runD_take {ts : List Tm} {x : Int} (h : runD 0 ts = some x) (k : Nat) : ∃ d, runD 0 (ts.take k) = some d ∧ 0 ≤ d := by
  have h1 := List.take_append_drop k ts
  rw [← h1, runD_append] at h
  cases hd : runD 0 (ts.take k) with
  | none => rw [hd] at h; cases h
  | some d => exact ⟨d, rfl, runD_nonneg hd (by omega)⟩
theorem runD_at {ts : List Tm} {x d : Int} {k : Nat} (h : runD 0 ts = some x) (hk : k < ts.length) (hd : runD 0 (ts.take k) = some d) :
    tOkB (tmAt ts k) = true ∧ takesI (tmAt ts k).1 ≤ d ∧ runD 0 (ts.take (k + 1)) = some (d + 1 - takesI (tmAt ts k).1) := by
  have h1 : tOkB (tmAt ts k) = true := by
    cases hb : tOkB (tmAt ts k) with
    | true => rfl
    | false => rw [runD_bad hk hd (.inl hb)] at h; cases h
  have h2 : takesI (tmAt ts k).1 ≤ d := by
    rcases Int.lt_or_le d (takesI (tmAt ts k).1) with hb | hb
    · rw [runD_bad hk hd (.inr hb)] at h; cases h
    · exact hb
  exact ⟨h1, h2, runD_step hk hd h1 h2⟩

/-! ### Where a part begins: back from a place, till nothing more is needed -/
def scan (ts : List Tm) : Nat → Int → Nat
  | 0, _ => 0
  | i + 1, need => if need - 1 + takesI (tmAt ts i).1 = 0 then i else scan ts i (need - 1 + takesI (tmAt ts i).1)
/-- What FirstOf answers. -/
def firstI (ts : List Tm) (at_ : Int) : Int := if expB ts = true ∧ 0 ≤ at_ ∧ at_ < (ts.length : Int) then (scan ts (at_.toNat + 1) 1 : Nat) else -1

/-! ### Trees -/
inductive Tr where
  | node (op n : Int) (kids : List Tr)
mutual
def Tr.flat : Tr → List Tm
  | .node op n kids => Tr.flats kids ++ [(op, n)]
def Tr.flats : List Tr → List Tm
  | [] => []
  | t :: r => t.flat ++ Tr.flats r
end
mutual
def Tr.okT : Tr → Prop
  | .node op n kids => tOkB (op, n) = true ∧ (kids.length : Int) = takesI op ∧ Tr.oks kids
def Tr.oks : List Tr → Prop
  | [] => True
  | t :: r => t.okT ∧ Tr.oks r
end
theorem flats_append (a b : List Tr) : Tr.flats (a ++ b) = Tr.flats a ++ Tr.flats b := by
  induction a with
  | nil => simp [Tr.flats]
  | cons t r ih => simp [Tr.flats, ih]
theorem flats_one (t : Tr) : Tr.flats [t] = t.flat := by simp [Tr.flats]
theorem oks_append (a b : List Tr) : Tr.oks (a ++ b) ↔ Tr.oks a ∧ Tr.oks b := by
  induction a with
  | nil => simp [Tr.oks]
  | cons t r ih => simp [Tr.oks, ih, and_assoc]
theorem oks_iff (a : List Tr) : Tr.oks a ↔ ∀ t ∈ a, t.okT := by
  induction a with
  | nil => simp [Tr.oks]
  | cons t r ih => simp [Tr.oks, ih]
theorem flat_pos : ∀ t : Tr, 0 < t.flat.length
  | .node op n kids => by simp [Tr.flat]
mutual
theorem runD_flat : ∀ (t : Tr) (d : Int), 0 ≤ d → t.okT → runD d t.flat = some (d + 1)
  | .node op n kids, d, hd, h => by
    simp only [Tr.okT] at h
    simp only [Tr.flat]
    rw [runD_append, runD_flats kids d hd h.2.2]
    simp only [Option.bind_some, runD]
    rw [if_pos ⟨h.1, by have := h.2.1; omega⟩]
    congr 1
    omega
theorem runD_flats : ∀ (ts : List Tr) (d : Int), 0 ≤ d → Tr.oks ts → runD d (Tr.flats ts) = some (d + ts.length)
  | [], d, _, _ => by simp [Tr.flats, runD]
  | t :: r, d, hd, h => by
    simp only [Tr.oks] at h
    simp only [Tr.flats]
    rw [runD_append, runD_flat t d hd h.1]
    simp only [Option.bind_some]
    rw [runD_flats r (d + 1) (by omega) h.2]
    congr 1
    simp; omega
end
mutual
/-- Back over a whole tree one needs one less; with one needed it is where the tree begins. -/
theorem scan_flat : ∀ (t : Tr) (p q : List Tm) (m : Int), 1 ≤ m → t.okT →
    scan (p ++ (t.flat ++ q)) (p.length + t.flat.length) m = if m = 1 then p.length else scan (p ++ (t.flat ++ q)) p.length (m - 1)
  | .node op n kids, p, q, m, hm, h => by
    simp only [Tr.okT] at h
    have e1 : p.length + (Tr.node op n kids).flat.length = (p.length + (Tr.flats kids).length) + 1 := by simp [Tr.flat]; omega
    have e2 : tmAt (p ++ ((Tr.node op n kids).flat ++ q)) (p.length + (Tr.flats kids).length) = (op, n) := by
      rw [tmAt_append_right]
      simp only [Tr.flat, List.append_assoc]
      rw [show (Tr.flats kids).length = (Tr.flats kids).length + 0 from rfl, tmAt_append_right]
      rfl
    rw [e1]
    simp only [scan]
    rw [e2]
    simp only []
    have e3 : p ++ ((Tr.node op n kids).flat ++ q) = p ++ (Tr.flats kids ++ ((op, n) :: q)) := by simp [Tr.flat]
    rw [e3]
    cases kids with
    | nil =>
      have h0 : takesI op = 0 := by have := h.2.1; simp at this; omega
      rw [h0]
      simp only [Tr.flats, List.length_nil, Nat.add_zero]
      by_cases h1 : m = 1
      · subst h1; simp
      · rw [if_neg (by omega), if_neg h1]; congr 1; omega
    | cons k ks =>
      have hk : 1 ≤ takesI op := by have := h.2.1; simp at this; omega
      rw [if_neg (by omega)]
      have := scan_flats (k :: ks) p ((op, n) :: q) (m - 1 + takesI op) (by have := h.2.1; omega) (by simp) h.2.2
      rw [this]
      have e4 : m - 1 + takesI op - ((k :: ks).length : Int) = m - 1 := by have := h.2.1; omega
      rw [e4]
      by_cases h1 : m = 1
      · subst h1; simp
      · rw [if_neg (by omega), if_neg h1]
theorem scan_flats : ∀ (ts : List Tr) (p q : List Tm) (m : Int), (ts.length : Int) ≤ m → ts ≠ [] → Tr.oks ts →
    scan (p ++ (Tr.flats ts ++ q)) (p.length + (Tr.flats ts).length) m = if m - ts.length = 0 then p.length else scan (p ++ (Tr.flats ts ++ q)) p.length (m - ts.length)
  | [], _, _, _, _, h, _ => absurd rfl h
  | [t], p, q, m, hm, _, h => by
    simp only [Tr.oks] at h
    simp only [Tr.flats, List.append_nil]
    rw [scan_flat t p q m (by simpa using hm) h.1]
    by_cases h1 : m = 1
    · subst h1; simp
    · rw [if_neg h1, if_neg (by simp; omega)]; rfl
  | t :: u :: r, p, q, m, hm, _, h => by
    simp only [Tr.oks] at h
    have ih := scan_flats (u :: r) (p ++ t.flat) q m (by simp at hm ⊢; omega) (by simp) (by simp only [Tr.oks]; exact h.2)
    have e1 : p ++ (Tr.flats (t :: u :: r) ++ q) = p ++ t.flat ++ (Tr.flats (u :: r) ++ q) := by simp [Tr.flats]
    have e2 : p.length + (Tr.flats (t :: u :: r)).length = (p ++ t.flat).length + (Tr.flats (u :: r)).length := by simp [Tr.flats]; omega
    rw [e1, e2, ih, if_neg (by simp at hm ⊢; omega)]
    have e3 : p ++ t.flat ++ (Tr.flats (u :: r) ++ q) = p ++ (t.flat ++ (Tr.flats (u :: r) ++ q)) := by simp
    rw [e3]
    have := scan_flat t p (Tr.flats (u :: r) ++ q) (m - ((u :: r).length : Int)) (by simp at hm ⊢; omega) h.1
    rw [List.length_append, this]
    have e4 : m - ((u :: r).length : Int) - 1 = m - ((t :: u :: r).length : Int) := by simp; omega
    rw [e4]
    by_cases h1 : m - ((u :: r).length : Int) = 1
    · rw [if_pos h1, if_pos (by omega)]
    · rw [if_neg h1, if_neg (by omega)]
end

/-! ### The stack of trees behind some Terms -/
def stepS (S : List Tr) (t : Tm) : List Tr := S.take (S.length - (takesI t.1).toNat) ++ [.node t.1 t.2 (S.drop (S.length - (takesI t.1).toNat))]
def stackOf (ts : List Tm) : List Tr := ts.foldl stepS []
theorem stackOf_snoc (ts : List Tm) (t : Tm) : stackOf (ts ++ [t]) = stepS (stackOf ts) t := by simp [stackOf]
theorem stackOf_succ (ts : List Tm) (k : Nat) (h : k < ts.length) : stackOf (ts.take (k + 1)) = stepS (stackOf (ts.take k)) (tmAt ts k) := by
  rw [tm_snoc ts k h, stackOf_snoc]
theorem stack_is : ∀ (n : Nat) (ts : List Tm) (d : Int), ts.length = n → runD 0 ts = some d →
    ((stackOf ts).length : Int) = d ∧ Tr.flats (stackOf ts) = ts ∧ Tr.oks (stackOf ts) := by
  intro n
  induction n with
  | zero =>
    intro ts d hl h
    have : ts = [] := List.eq_nil_of_length_eq_zero hl
    subst this
    simp [runD] at h
    simp [stackOf, Tr.flats, Tr.oks]; omega
  | succ n ih =>
    intro ts d hl h
    have e := tm_snoc ts n (by omega)
    rw [List.take_of_length_le (by omega)] at e
    obtain ⟨c, hc, hc0⟩ := runD_take h n
    obtain ⟨h1, h2, h3⟩ := runD_at h (by omega) hc
    rw [List.take_of_length_le (by omega), h] at h3
    obtain ⟨i1, i2, i3⟩ := ih (ts.take n) c (by simp; omega) hc
    have hk := ((tOkB_iff _).1 h1).1
    rw [e, stackOf_snoc]
    generalize tmAt ts n = t at *
    generalize stackOf (ts.take n) = S at *
    unfold stepS
    have hd : S.length - (S.length - (takesI t.1).toNat) = (takesI t.1).toNat := by omega
    have hS := List.take_append_drop (S.length - (takesI t.1).toNat) S
    rw [← hS, flats_append] at i2
    rw [← hS, oks_append] at i3
    refine ⟨?_, ?_, ?_⟩
    · injection h3 with h3
      simp only [List.length_append, List.length_take, List.length_singleton]; omega
    · rw [flats_append, flats_one]
      simp only [Tr.flat]
      rw [← List.append_assoc, i2]
    · rw [oks_append]
      refine ⟨i3.1, ?_⟩
      simp only [Tr.oks, Tr.okT, and_true]
      refine ⟨h1, ?_, i3.2⟩
      rw [List.length_drop, hd]; omega
theorem stack_take {ts : List Tm} {x : Int} (h : runD 0 ts = some x) (k : Nat) : ∃ d : Int, runD 0 (ts.take k) = some d ∧ ((stackOf (ts.take k)).length : Int) = d ∧ Tr.flats (stackOf (ts.take k)) = ts.take k ∧ Tr.oks (stackOf (ts.take k)) := by
  obtain ⟨d, hd, _⟩ := runD_take h k
  exact ⟨d, hd, stack_is _ _ _ rfl hd⟩
/-- The tree of an expression. -/
theorem tree_of {ts : List Tm} (h : runD 0 ts = some 1) : ∃ op n kids, stackOf ts = [Tr.node op n kids] ∧ ts = Tr.flats kids ++ [(op, n)] ∧ tOkB (op, n) = true ∧ (kids.length : Int) = takesI op ∧ Tr.oks kids := by
  obtain ⟨h1, h2, h3⟩ := stack_is _ _ _ rfl h
  match hS : stackOf ts, h1 with
  | [Tr.node op n kids], _ =>
    rw [hS] at h2 h3
    rw [flats_one] at h2
    simp only [Tr.oks, Tr.okT, and_true] at h3
    exact ⟨op, n, kids, rfl, by rw [← h2]; rfl, h3.1, h3.2.1, h3.2.2⟩

/-! ### Names, rising -/
def Rise (l : List Int) : Prop := l.Pairwise (· < ·)
/-- The names of the Terms of that Op. -/
def namesOf (op : Int) (ts : List Tm) : List Int := (ts.filter (fun t => t.1 == op)).map (·.2)
end Go.Proofs.Ytmooecbdpfhnlaa
/- The contracts of the two functions NatOk (the program's and the model's): each answers 'okB' of the numbers, and leaves the world as it is. -/
namespace Go.Proofs.Ytmooecbdpfhnlaa
open Go.RowKit

theorem in_any (x lo hi : Int) (w : World) :
    Calls Try.prog 45 #[.int .i64 x, .int .i64 lo, .int .i64 hi] w fun e w' => e = .returned (.bool (decide (lo ≤ x) && decide (x ≤ hi))) ∧ w = w' := by
  by_cases h1 : lo ≤ x
  · by_cases h2 : x ≤ hi
    · go_enter Try.func45, Try.ntmps45
      go_wp2
      go_ret
      exact ⟨ret_bool (by simp [h1, h2]), rfl⟩
    · go_enter Try.func45, Try.ntmps45
      go_wp2
      go_ret
      exact ⟨ret_bool (by rw [decide_eq_false (p := x ≤ hi) (by omega)]), rfl⟩
  · go_enter Try.func45, Try.ntmps45
    go_wp2
    go_ret
    exact ⟨ret_bool (by rw [decide_eq_false (p := lo ≤ x) (by omega), Bool.false_and]), rfl⟩

end Go.Proofs.Ytmooecbdpfhnlaa
/- The contracts of the two functions TakesOf (the program's and the model's), and of the program's termOk. -/
namespace Go.Proofs.Ytmooecbdpfhnlaa
open Go.RowKit

theorem takesI_mid {op : Int} (h : 5 ≤ op) (h' : op ≤ 16) : takesI op = 2 := by unfold takesI; rw [if_neg (by omega), if_neg (by omega), if_neg (by omega), if_pos ⟨h, h'⟩]
theorem takesI_out {op : Int} (h : op < 0 ∨ 17 < op) : takesI op = -1 := (takesI_neg op).2 h

set_option maxHeartbeats 400000 in
theorem takes_any (op : Int) (w : World) :
    Calls Try.prog 116 #[.int .i64 op] w fun e w' => e = .returned (.int .i64 (takesI op)) ∧ w = w' := by
  have hc : op = 0 ∨ op = 1 ∨ op = 2 ∨ op = 3 ∨ op = 4 ∨ op = 17 ∨ (5 ≤ op ∧ op ≤ 16) ∨ (op < 0 ∨ 17 < op) := by omega
  rcases hc with rfl | rfl | rfl | rfl | rfl | rfl | ⟨h5, h16⟩ | h
  iterate 6
    · go_enter Try.func116, Try.ntmps116
      go_wp2
      go_ret
      exact ⟨rfl, rfl⟩
  · have e := takesI_mid h5 h16
    have HE := Lib.hid e
    clear e
    have n0 : (op == 0) = false := by simp; omega
    have n1 : (op == 1) = false := by simp; omega
    have n2 : (op == 2) = false := by simp; omega
    have n3 : (op == 3) = false := by simp; omega
    have n4 : (op == 4) = false := by simp; omega
    have n17 : (op == 17) = false := by simp; omega
    go_enter Try.func116, Try.ntmps116
    go_wp2
    go_ret
    exact ⟨ret_int HE.out.symm, rfl⟩
  · have e := takesI_out h
    have HE := Lib.hid e
    clear e
    have n0 : (op == 0) = false := by simp; omega
    have n1 : (op == 1) = false := by simp; omega
    have n2 : (op == 2) = false := by simp; omega
    have n3 : (op == 3) = false := by simp; omega
    have n4 : (op == 4) = false := by simp; omega
    have n17 : (op == 17) = false := by simp; omega
    rcases h with h | h
    all_goals
      go_enter Try.func116, Try.ntmps116
      go_wp2
      go_ret
      exact ⟨ret_int HE.out.symm, rfl⟩

theorem takes_row (k : Nat) (hk : k ≤ 17) : ([Value.int IntKind.i64 0, Value.int IntKind.i64 0, Value.int IntKind.i64 1, Value.int IntKind.i64 1, Value.int IntKind.i64 1, Value.int IntKind.i64 2, Value.int IntKind.i64 2, Value.int IntKind.i64 2, Value.int IntKind.i64 2, Value.int IntKind.i64 2, Value.int IntKind.i64 2, Value.int IntKind.i64 2, Value.int IntKind.i64 2, Value.int IntKind.i64 2, Value.int IntKind.i64 2, Value.int IntKind.i64 2, Value.int IntKind.i64 2, Value.int IntKind.i64 3] : List Value)[k]? = some (.int .i64 (takesI k)) := by
  match k, hk with
  | 0, _ => rfl
  | 1, _ => rfl
  | 2, _ => rfl
  | 3, _ => rfl
  | 4, _ => rfl
  | 5, _ => rfl
  | 6, _ => rfl
  | 7, _ => rfl
  | 8, _ => rfl
  | 9, _ => rfl
  | 10, _ => rfl
  | 11, _ => rfl
  | 12, _ => rfl
  | 13, _ => rfl
  | 14, _ => rfl
  | 15, _ => rfl
  | 16, _ => rfl
  | 17, _ => rfl
  | j + 18, h => exact absurd h (by omega)

set_option maxHeartbeats 400000 in
theorem specTakes_any (op : Int) (w : World) :
    Calls Try.prog 145 #[.int .i64 op] w fun e w' => e = .returned (.int .i64 (takesI op)) ∧ Below w.heap.size w w' := by
  by_cases h : 0 ≤ op ∧ op ≤ 17
  · obtain ⟨k, rfl⟩ := Int.eq_ofNat_of_zero_le h.1
    have hk : k ≤ 17 := by omega
    clear h
    have hb : (decide ((0 : Int) ≤ (k : Int)) && decide ((k : Int) ≤ 17)) = true := by simp; omega
    have HB := Lib.hid hb
    clear hb
    have hrow := takes_row k hk
    generalize takesI (k : Int) = q at hrow ⊢
    go_enter Try.func145, Try.ntmps145
    go_wp2_with fail
    refine (in_any _ _ _ _).mono ?_
    rintro e w' ⟨rfl, rfl⟩
    rw [HB.out]
    go_wp2
    go_ret
    exact ⟨rfl, (Below.refl _ _).alloc (Nat.le_refl _) _⟩
  · have e : takesI op = -1 := takesI_out (by omega)
    have HE := Lib.hid e
    clear e
    have hb : (decide (0 ≤ op) && decide (op ≤ 17)) = false := by
      by_cases h0 : 0 ≤ op
      · rw [decide_eq_true h0, decide_eq_false (by omega)]; rfl
      · rw [decide_eq_false h0]; rfl
    have HB := Lib.hid hb
    clear hb
    go_enter Try.func145, Try.ntmps145
    go_wp2_with fail
    refine (in_any _ _ _ _).mono ?_
    rintro e w' ⟨rfl, rfl⟩
    rw [HB.out]
    go_wp2_with fail
    go_ret
    exact ⟨ret_int HE.out.symm, Below.refl _ _⟩
end Go.Proofs.Ytmooecbdpfhnlaa
