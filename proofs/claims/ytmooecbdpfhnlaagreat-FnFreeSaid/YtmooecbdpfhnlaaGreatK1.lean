/- Joined texts of this proof (Base, Copies, Like, NatOk, Math, Cmp), in build order. -/
import Derived.Test.YtmooecbdpfhnlaaGreatRows
import Derived.WalkKit
import Derived.WalkSpells
import Derived.Lib.Hide
import Derived.Below
import Derived.OwnWalk
import Derived.Deep.QuietTactic
import Derived.BigQuiet
import Derived.Laws.OwnMore
import Derived.OpenShut
/- Words for memory, and plain lemmas on lists of numbers: what a slice of numbers reads as; a row that a call made itself. No statement is proved here. -/
namespace Go.Proofs.YtmooecbdpfhnlaaGreat
open Go.RowKit

def In64 (z : Int) : Prop := -9223372036854775808 ≤ z ∧ z ≤ 9223372036854775807
theorem In64.wf {z : Int} (h : In64 z) : (Lit.int .i64 z).wf = true := WalkArith.wf_i64 ⟨h.1, by have := h.2; omega⟩

/-- The slice '.slice a n c' reads as the numbers zs. -/
def Ints (w : World) (a : Option Addr) (n : Nat) (zs : List Int) : Prop :=
  zs.length = n ∧ n ≤ 1048576 ∧ (∀ z ∈ zs, In64 z) ∧
  (0 < n → ∃ b o, a = some ⟨b, o, none⟩ ∧ b < w.heap.size ∧ ∀ i, i < n → w.cell? ⟨b, o + i, none⟩ = some (.int .i64 (zs.getD i 0)))

theorem getD_mem {zs : List Int} {k : Nat} (h : k < zs.length) : zs.getD k 0 ∈ zs := by
  rw [List.getD_eq_getElem?_getD, List.getElem?_eq_getElem h]; exact List.getElem_mem h

theorem Ints.at_ {w : World} {a : Option Addr} {n : Nat} {zs : List Int} {k : Nat} (h : Ints w a n zs) (hk : k < n) :
    ∃ b o z, a = some ⟨b, o, none⟩ ∧ b < w.heap.size ∧ Hid (z = zs.getD k 0) ∧ In64 z ∧ w.cell? ⟨b, o + k, none⟩ = some (.int .i64 z) := by
  obtain ⟨hl, _, hin, hc⟩ := h
  obtain ⟨b, o, rfl, hb, hcell⟩ := hc (by omega)
  exact ⟨b, o, _, rfl, hb, rfl, hin _ (getD_mem (by omega)), hcell k hk⟩

theorem Ints.below {w w' : World} {a : Option Addr} {n : Nat} {zs : List Int} (h : Ints w a n zs) (hb : Below w.heap.size w w') : Ints w' a n zs := by
  obtain ⟨hl, hn, hin, hc⟩ := h
  refine ⟨hl, hn, hin, fun hp => ?_⟩
  obtain ⟨b, o, rfl, hbl, hcell⟩ := hc hp
  exact ⟨b, o, rfl, Nat.lt_of_lt_of_le hbl hb.size, fun i hi => (hb.cell (by exact hbl)).trans (hcell i hi)⟩

/-- A slice of numbers that the call made itself, from block B on. -/
def Own (w : World) (B : Nat) (a : Option Addr) (n c : Nat) (zs : List Int) : Prop :=
  w.ownsRow B 2 1 (.slice a n c) n (zs.map (Value.int .i64)) ∧ n ≤ 1048576 ∧ ∀ z ∈ zs, In64 z

section
variable {w w' : World} {B : Nat} {a : Option Addr} {n c : Nat} {zs : List Int}
theorem Own.len (h : Own w B a n c zs) : zs.length = n := by have := h.1.1; simpa using this
theorem Own.ints (h : Own w B a n c zs) : Ints w a n zs := by
  have hlen := h.len
  obtain ⟨ho, hn, hin⟩ := h
  refine ⟨hlen, hn, hin, fun hp => ?_⟩
  rcases ho.2 with ⟨_, h0⟩ | ⟨g, cap, cur, e, _, hh, _⟩
  · exact absurd hp (by omega)
  · have ea : a = some ⟨g, 0, none⟩ := by injection e
    subst ea
    refine ⟨g, 0, rfl, (ho.lt g rfl).2, fun i hi => ?_⟩
    rw [Nat.zero_add, ho.cellAt i (by omega)]
    simp [List.getD_eq_getElem?_getD, List.getElem?_eq_getElem (show i < zs.length by omega)]
theorem Own.below (h : Own w B a n c zs) (hb : Below w.heap.size w w') : Own w' B a n c zs :=
  ⟨h.1.kept (row := none) ⟨hb.os, hb.tape, hb.output, hb.size, fun k hk _ => hb.block k hk⟩ (by cases a <;> simp [Value.ownBlock]), h.2⟩
theorem Own.base {B' : Nat} (h : Own w B a n c zs) (hB : B' ≤ B) : Own w B' a n c zs := by
  refine ⟨⟨h.1.1, ?_⟩, h.2⟩
  rcases h.1.2 with hn | ⟨g, cap, cur, e, hb, r⟩
  · exact .inl hn
  · exact .inr ⟨g, cap, cur, e, by omega, r⟩
theorem Own.drewN (h : Own w B a n c zs) (k : Nat) : Own (w.drewN k) B a n c zs := h
/-- Its block: from B on, and below the heap's size. -/
theorem Own.block (h : Own w B a n c zs) : ∀ g, (Value.slice a n c).ownBlock = some g → B ≤ g ∧ g < w.heap.size := h.1.lt
/-- What is written to another block leaves it as it is. -/
theorem Own.other {row : Option Nat} (h : Own w B a n c zs) (hg : w.grownBy w' row) (hr : ∀ g, row = some g → g < B) : Own w' B a n c zs := by
  refine ⟨h.1.kept hg ?_, h.2⟩
  cases hv : (Value.slice a n c).ownBlock with
  | none => exact .inl rfl
  | some g =>
    refine .inr fun e => ?_
    have := hr g e.symm
    have := (h.block g hv).1
    omega
theorem Own.apart {row : Option Nat} {K : Nat} (h : Own w B a n c zs) (hg : w.grownBy w' row) (hK : ∀ g, (Value.slice a n c).ownBlock = some g → g < K) (hr : ∀ g, row = some g → K ≤ g) : Own w' B a n c zs := by
  refine ⟨h.1.kept hg ?_, h.2⟩
  cases hv : (Value.slice a n c).ownBlock with
  | none => exact .inl rfl
  | some g =>
    refine .inr fun e => ?_
    have := hr g e.symm
    have := hK g hv
    omega
theorem Own.later {row : Option Nat} (h : Own w B a n c zs) (hg : w.grownBy w' row) (hr : ∀ g, row = some g → w.heap.size ≤ g) : Own w' B a n c zs := by
  refine ⟨h.1.kept hg ?_, h.2⟩
  cases hv : (Value.slice a n c).ownBlock with
  | none => exact .inl rfl
  | some g =>
    refine .inr fun e => ?_
    have := hr g e.symm
    have := (h.block g hv).2
    omega
end

/-- What a function that makes a slice of the numbers zs leaves. -/
def MadeInts (w : World) (zs : List Int) (e : Ending) (w' : World) : Prop :=
  ∃ a n c, e = .returned (.slice a n c) ∧ Own w' w.heap.size a n c zs ∧ Below w.heap.size w w'

section
variable {w : World} {B g n cap : Nat} {zs : List Int}
theorem own_cell (h : w.ownsRow B 2 1 (.slice (some ⟨g, 0, none⟩) n cap) n (zs.map (Value.int .i64))) {k : Nat} (hk : k < n) :
    w.cell? ⟨g, k, none⟩ = some (.int .i64 (zs.getD k 0)) := by
  have hl : zs.length = n := by have := h.1; simpa using this
  rw [h.cellAt k (by omega)]
  simp [List.getD_eq_getElem?_getD, List.getElem?_eq_getElem (show k < zs.length by omega)]
theorem own_put (h : w.ownsRow B 2 1 (.slice (some ⟨g, 0, none⟩) n cap) n (zs.map (Value.int .i64))) (k : Nat) (z : Int) :
    (w.setCell ⟨g, k, none⟩ (.int .i64 z)).ownsRow B 2 1 (.slice (some ⟨g, 0, none⟩) n cap) n ((zs.set k z).map (Value.int .i64)) := by
  rw [List.map_set]; exact (h.stored k _).1
end

/-- The numbers of a great number: at most 100, each from 0 to 9999, the last one not 0. -/
def okB (zs : List Int) : Bool :=
  decide (zs.length ≤ 100) && zs.all (fun z => decide (0 ≤ z) && decide (z ≤ 9999)) && (zs.isEmpty || zs.getD (zs.length - 1) 0 != 0)

/-- The first k are limbs. -/
def GoodTo (zs : List Int) (k : Nat) : Prop := ∀ i, i < k → 0 ≤ zs.getD i 0 ∧ zs.getD i 0 ≤ 9999

theorem GoodTo.zero (zs : List Int) : GoodTo zs 0 := fun i hi => absurd hi (by omega)
theorem GoodTo.succ {zs : List Int} {k : Nat} {z : Int} (h : GoodTo zs k) (hz : Hid (z = zs.getD k 0)) (h0 : 0 ≤ z) (h1 : z ≤ 9999) : GoodTo zs (k + 1) := by
  intro i hi
  rcases Nat.lt_or_ge i k with hlt | hge
  · exact h i hlt
  · have : i = k := by omega
    subst this; rw [← hz.out]; exact ⟨h0, h1⟩

/-- The world has at most drawn: nothing in memory has turned. -/
def Still (w w' : World) : Prop := ∃ j, w' = w.drewN j
theorem Still.refl (w : World) : Still w w := ⟨0, rfl⟩
theorem Still.draw {w w' : World} (h : Still w w') (n : Nat) : Still w (w'.drewN n) := by
  obtain ⟨j, rfl⟩ := h
  exact ⟨j + n, World.drewN_drewN _ _ _⟩
theorem Still.drew (w : World) (n : Nat) : Still w (w.drewN n) := ⟨n, rfl⟩
theorem Still.trans {a b c : World} (h : Still a b) (k : Still b c) : Still a c := by
  obtain ⟨j, rfl⟩ := k
  exact h.draw j
theorem Still.below {w w' : World} (h : Still w w') (B : Nat) : Below B w w' := by
  obtain ⟨j, rfl⟩ := h
  exact ⟨rfl, rfl, rfl, Nat.le_refl _, fun _ _ => rfl⟩
theorem Still.size {w w' : World} (h : Still w w') : w'.heap.size = w.heap.size := by
  obtain ⟨j, rfl⟩ := h
  rfl
theorem Ints.still {w w' : World} {a : Option Addr} {n : Nat} {zs : List Int} (h : Ints w a n zs) (hs : Still w w') : Ints w' a n zs := by
  obtain ⟨j, rfl⟩ := hs
  exact h
theorem Own.still {w w' : World} {B : Nat} {a : Option Addr} {n c : Nat} {zs : List Int} (h : Own w B a n c zs) (hs : Still w w') : Own w' B a n c zs := by
  obtain ⟨j, rfl⟩ := hs
  exact h
theorem still_quiet {P : Program} {f : FuncId} {args : Array Value} {w : World} {n : Nat} {v : Value}
    (h : Calls P f args (w.drewN n) fun e w' => e = .returned v ∧ Still (w.drewN n) w') : Calls P f args (w.drewN n) fun e w' => e = .returned v ∧ ∃ m, w' = w.drewN m :=
  h.mono fun _ _ ⟨he, m, hm⟩ => ⟨he, n + m, by rw [hm, World.drewN_drewN]⟩
theorem below_dn {B : Nat} {a w : World} (h : Below B a w) (n : Nat) : Below B a (w.drewN n) := h.trans ⟨rfl, rfl, rfl, Nat.le_refl _, fun _ _ => rfl⟩
theorem ret_bool {a b : Bool} (h : a = b) : Ending.returned (.bool a) = .returned (.bool b) := by rw [h]
theorem ret_int {k : IntKind} {a b : Int} (h : a = b) : Ending.returned (.int k a) = .returned (.int k b) := by rw [h]
end Go.Proofs.YtmooecbdpfhnlaaGreat
/- The contracts of the laws' own helpers on slices of numbers: a copy (toInt64S), a comparison (eqInt64S), marks written into a slice (markInt64S), marks asked for (heldInt64S). -/
namespace Go.Proofs.YtmooecbdpfhnlaaGreat
open Go.RowKit

theorem eqTo_all {xs ys : List Int} (hl : xs.length = ys.length) (h : ∀ i, i < xs.length → xs.getD i 0 = ys.getD i 0) : xs = ys := by
  apply List.ext_getElem hl
  intro i h1 h2
  have := h i h1
  simpa [List.getD_eq_getElem?_getD, h1, h2] using this

/-- The first k are alike. -/
def EqTo (xs ys : List Int) (k : Nat) : Prop := ∀ i, i < k → xs.getD i 0 = ys.getD i 0
theorem EqTo.zero (xs ys : List Int) : EqTo xs ys 0 := fun i hi => absurd hi (by omega)
theorem EqTo.succ {xs ys : List Int} {k : Nat} {x y : Int} (h : EqTo xs ys k) (hx : Hid (x = xs.getD k 0)) (hy : Hid (y = ys.getD k 0)) (e : x = y) : EqTo xs ys (k + 1) := by
  intro i hi
  rcases Nat.lt_or_ge i k with hlt | hge
  · exact h i hlt
  · have : i = k := by omega
    subst this; rw [← hx.out, ← hy.out]; exact e

/-- The first k of zs, noughts behind. -/
def CopyTo (zs : List Int) (n k : Nat) : List Int := zs.take k ++ List.replicate (n - k) 0
/-- The marks k, k + 1, .. -/
def marks (k : Int) (n : Nat) : List Int := (List.range n).map (fun i : Nat => k + (i : Int))
/-- The first j marks written over zs. -/
def MarkTo (zs : List Int) (k : Int) (j : Nat) : List Int := marks k j ++ zs.drop j
end Go.Proofs.YtmooecbdpfhnlaaGreat
/- The contracts of the laws' own helpers big and likeInts. -/
namespace Go.Proofs.YtmooecbdpfhnlaaGreat
open Go.RowKit

theorem big_any (a : Option Addr) (n c : Nat) (w : World) : Calls Tryz.prog 12 #[.slice a n c] w fun e w' => e = .returned (.bool (decide (4096 < n))) ∧ w = w' := by
  go_enter Tryz.func12, Tryz.ntmps12
  go_wp2
  go_ret
  exact ⟨ret_bool (by simp only [decide_eq_decide]; omega), rfl⟩

end Go.Proofs.YtmooecbdpfhnlaaGreat
/- The contracts of the two functions NatOk (the program's and the model's): each answers 'okB' of the numbers, and leaves the world as it is. -/
namespace Go.Proofs.YtmooecbdpfhnlaaGreat
open Go.RowKit

theorem in_any (x lo hi : Int) (w : World) :
    Calls Tryz.prog 71 #[.int .i64 x, .int .i64 lo, .int .i64 hi] w fun e w' => e = .returned (.bool (decide (lo ≤ x) && decide (x ≤ hi))) ∧ w = w' := by
  by_cases h1 : lo ≤ x
  · by_cases h2 : x ≤ hi
    · go_enter Tryz.func71, Tryz.ntmps71
      go_wp2
      go_ret
      exact ⟨ret_bool (by simp [h1, h2]), rfl⟩
    · go_enter Tryz.func71, Tryz.ntmps71
      go_wp2
      go_ret
      exact ⟨ret_bool (by rw [decide_eq_false (p := x ≤ hi) (by omega)]), rfl⟩
  · go_enter Tryz.func71, Tryz.ntmps71
    go_wp2
    go_ret
    exact ⟨ret_bool (by rw [decide_eq_false (p := lo ≤ x) (by omega), Bool.false_and]), rfl⟩

end Go.Proofs.YtmooecbdpfhnlaaGreat
/- Plain mathematics of lists of limbs in base 10000: their value, the one list of a number, sums of limbs. No Go text here. -/
namespace Go.Proofs.YtmooecbdpfhnlaaGreat
open Go.RowKit

/-- The value of a list of limbs, the lowest first. -/
def val : List Int → Nat
  | [] => 0
  | z :: r => z.toNat + 10000 * val r

/-- The limbs of a number (with fuel). -/
def toLF : Nat → Nat → List Int
  | 0, _ => []
  | f + 1, n => if n = 0 then [] else ((n % 10000 : Nat) : Int) :: toLF f (n / 10000)
def toL (n : Nat) : List Int := toLF n n

/-- All limbs are limbs. -/
def Good (l : List Int) : Prop := ∀ z ∈ l, 0 ≤ z ∧ z ≤ 9999
theorem Good.to {l : List Int} (h : Good l) : GoodTo l l.length := fun _ hi => h _ (getD_mem hi)
theorem Good.getD {l : List Int} (h : Good l) (i : Nat) : 0 ≤ l.getD i 0 ∧ l.getD i 0 ≤ 9999 := by
  by_cases hi : i < l.length
  · exact h _ (getD_mem hi)
  · rw [List.getD_eq_getElem?_getD, List.getElem?_eq_none (by omega)]; simp
theorem Good.take {l : List Int} (h : Good l) (k : Nat) : Good (l.take k) := fun z hz => h z (List.mem_of_mem_take hz)
theorem Good.snoc {l : List Int} {z : Int} (h : Good l) (h0 : 0 ≤ z) (h1 : z ≤ 9999) : Good (l ++ [z]) := by
  intro x hx
  rcases List.mem_append.1 hx with h' | h'
  · exact h x h'
  · rw [List.mem_singleton] at h'; subst h'; exact ⟨h0, h1⟩

/-- No nought at the end. -/
def Tight (l : List Int) : Prop := 0 < l.length → l.getD (l.length - 1) 0 ≠ 0
/-! ### The value of what is put together -/
/-- How long a list is without noughts at its end. -/
def trimLen (l : List Int) : Nat → Nat
  | 0 => 0
  | n + 1 => if l.getD n 0 = 0 then trimLen l n else n + 1
end Go.Proofs.YtmooecbdpfhnlaaGreat
/- The contracts of the functions that compare great numbers. -/
namespace Go.Proofs.YtmooecbdpfhnlaaGreat
open Go.RowKit

/-- -1, 0 or 1. -/
def cmpI (x y : Int) : Int := if x < y then -1 else if y < x then 1 else 0
/-! ### What the limbs say of the values -/
/-- From place k on they are alike. -/
def EqFrom (xs ys : List Int) (k : Nat) : Prop := ∀ i, k ≤ i → xs.getD i 0 = ys.getD i 0
/-- What CmpNat answers. -/
def cmpB (xs ys : List Int) : Int := if okB xs = true ∧ okB ys = true then cmpI (val xs) (val ys) else 2

end Go.Proofs.YtmooecbdpfhnlaaGreat
