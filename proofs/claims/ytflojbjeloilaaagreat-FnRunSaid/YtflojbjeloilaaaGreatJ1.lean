/- Joined texts of this proof (Base, Copies, Like, NatOk, Math, Cmp), in build order. -/
import Derived.Test.YtflojbjeloilaaaGreatRows
import Derived.WalkKit
import Derived.WalkSpells
import Derived.Lib.Hide
import Derived.Below
import Derived.OwnWalk
import Derived.Deep.QuietTactic
import Derived.BigQuiet
import Derived.Laws.OwnMore
import Derived.OpenShut
/- Words for memory, and plain lemmas on lists of numbers: what a slice of numbers reads as; a row that a call made itself. No statement is proved here. -/
namespace Go.Proofs.YtflojbjeloilaaaGreat
open Go.RowKit

def In64 (z : Int) : Prop := -9223372036854775808 ≤ z ∧ z ≤ 9223372036854775807
theorem In64.wf {z : Int} (h : In64 z) : (Lit.int .i64 z).wf = true := WalkArith.wf_i64 ⟨h.1, by have := h.2; omega⟩

/-- The slice '.slice a n c' reads as the numbers zs. -/
def Ints (w : World) (a : Option Addr) (n : Nat) (zs : List Int) : Prop :=
  zs.length = n ∧ n ≤ 1048576 ∧ (∀ z ∈ zs, In64 z) ∧
  (0 < n → ∃ b o, a = some ⟨b, o, none⟩ ∧ b < w.heap.size ∧ ∀ i, i < n → w.cell? ⟨b, o + i, none⟩ = some (.int .i64 (zs.getD i 0)))

theorem getD_mem {zs : List Int} {k : Nat} (h : k < zs.length) : zs.getD k 0 ∈ zs := by
  rw [List.getD_eq_getElem?_getD, List.getElem?_eq_getElem h]; exact List.getElem_mem h

theorem Ints.at_ {w : World} {a : Option Addr} {n : Nat} {zs : List Int} {k : Nat} (h : Ints w a n zs) (hk : k < n) :
    ∃ b o z, a = some ⟨b, o, none⟩ ∧ b < w.heap.size ∧ Hid (z = zs.getD k 0) ∧ In64 z ∧ w.cell? ⟨b, o + k, none⟩ = some (.int .i64 z) := by
  obtain ⟨hl, _, hin, hc⟩ := h
  obtain ⟨b, o, rfl, hb, hcell⟩ := hc (by omega)
  exact ⟨b, o, _, rfl, hb, rfl, hin _ (getD_mem (by omega)), hcell k hk⟩

theorem Ints.below {w w' : World} {a : Option Addr} {n : Nat} {zs : List Int} (h : Ints w a n zs) (hb : Below w.heap.size w w') : Ints w' a n zs := by
  obtain ⟨hl, hn, hin, hc⟩ := h
  refine ⟨hl, hn, hin, fun hp => ?_⟩
  obtain ⟨b, o, rfl, hbl, hcell⟩ := hc hp
  exact ⟨b, o, rfl, Nat.lt_of_lt_of_le hbl hb.size, fun i hi => (hb.cell (by exact hbl)).trans (hcell i hi)⟩

/-- An argument, as the frame of a law opens it, reads as its first numbers. -/
theorem ints_of_row {w : World} {a : Option Addr} {len cap : Nat} {zs : List Int}
    (h : (a = none ∧ len = 0 ∧ cap = 0 ∧ zs = []) ∨
      ∃ x, a = some x ∧ len ≤ cap ∧ cap ≤ maxLen ∧ zs.length = cap ∧ (∀ i, i < zs.length → w.cell? (x.add i) = some (.int .i64 (zs.getD i 0))) ∧ ∀ n ∈ zs, (Lit.int .i64 n).wf = true)
    (hn : len ≤ 1048576) : Ints w a len (zs.take len) := by
  rcases h with ⟨rfl, rfl, rfl, rfl⟩ | ⟨x, rfl, hl, hm, hz, hc, hwf⟩
  · exact ⟨rfl, by omega, fun z hz => by simp at hz, fun hp => absurd hp (by omega)⟩
  · refine ⟨by rw [List.length_take]; omega, hn, fun z hzz => ?_, fun hp => ?_⟩
    · have := bounds_i64 (hwf z (List.mem_of_mem_take hzz))
      exact ⟨this.1, by have := this.2; omega⟩
    · obtain ⟨b, off, rfl, hcell⟩ := ints_at hc (by omega)
      refine ⟨b, off, rfl, World.block_lt_of_cell? w ⟨b, off + 0, none⟩ (hcell 0 (by omega)), fun i hi => ?_⟩
      rw [hcell i (by omega)]
      simp [List.getD_eq_getElem?_getD, hi]

/-- A slice of numbers that the call made itself, from block B on. -/
def Own (w : World) (B : Nat) (a : Option Addr) (n c : Nat) (zs : List Int) : Prop :=
  w.ownsRow B 2 1 (.slice a n c) n (zs.map (Value.int .i64)) ∧ n ≤ 1048576 ∧ ∀ z ∈ zs, In64 z

section
variable {w w' : World} {B : Nat} {a : Option Addr} {n c : Nat} {zs : List Int}
theorem Own.len (h : Own w B a n c zs) : zs.length = n := by have := h.1.1; simpa using this
theorem Own.ints (h : Own w B a n c zs) : Ints w a n zs := by
  have hlen := h.len
  obtain ⟨ho, hn, hin⟩ := h
  refine ⟨hlen, hn, hin, fun hp => ?_⟩
  rcases ho.2 with ⟨_, h0⟩ | ⟨g, cap, cur, e, _, hh, _⟩
  · exact absurd hp (by omega)
  · have ea : a = some ⟨g, 0, none⟩ := by injection e
    subst ea
    refine ⟨g, 0, rfl, (ho.lt g rfl).2, fun i hi => ?_⟩
    rw [Nat.zero_add, ho.cellAt i (by omega)]
    simp [List.getD_eq_getElem?_getD, List.getElem?_eq_getElem (show i < zs.length by omega)]
theorem Own.below (h : Own w B a n c zs) (hb : Below w.heap.size w w') : Own w' B a n c zs :=
  ⟨h.1.kept (row := none) ⟨hb.os, hb.tape, hb.output, hb.size, fun k hk _ => hb.block k hk⟩ (by cases a <;> simp [Value.ownBlock]), h.2⟩
theorem Own.base {B' : Nat} (h : Own w B a n c zs) (hB : B' ≤ B) : Own w B' a n c zs := by
  refine ⟨⟨h.1.1, ?_⟩, h.2⟩
  rcases h.1.2 with hn | ⟨g, cap, cur, e, hb, r⟩
  · exact .inl hn
  · exact .inr ⟨g, cap, cur, e, by omega, r⟩
theorem Own.drewN (h : Own w B a n c zs) (k : Nat) : Own (w.drewN k) B a n c zs := h
/-- Its block: from B on, and below the heap's size. -/
theorem Own.block (h : Own w B a n c zs) : ∀ g, (Value.slice a n c).ownBlock = some g → B ≤ g ∧ g < w.heap.size := h.1.lt
/-- What is written to another block leaves it as it is. -/
theorem Own.other {row : Option Nat} (h : Own w B a n c zs) (hg : w.grownBy w' row) (hr : ∀ g, row = some g → g < B) : Own w' B a n c zs := by
  refine ⟨h.1.kept hg ?_, h.2⟩
  cases hv : (Value.slice a n c).ownBlock with
  | none => exact .inl rfl
  | some g =>
    refine .inr fun e => ?_
    have := hr g e.symm
    have := (h.block g hv).1
    omega
theorem Own.apart {row : Option Nat} {K : Nat} (h : Own w B a n c zs) (hg : w.grownBy w' row) (hK : ∀ g, (Value.slice a n c).ownBlock = some g → g < K) (hr : ∀ g, row = some g → K ≤ g) : Own w' B a n c zs := by
  refine ⟨h.1.kept hg ?_, h.2⟩
  cases hv : (Value.slice a n c).ownBlock with
  | none => exact .inl rfl
  | some g =>
    refine .inr fun e => ?_
    have := hr g e.symm
    have := hK g hv
    omega
theorem Own.later {row : Option Nat} (h : Own w B a n c zs) (hg : w.grownBy w' row) (hr : ∀ g, row = some g → w.heap.size ≤ g) : Own w' B a n c zs := by
  refine ⟨h.1.kept hg ?_, h.2⟩
  cases hv : (Value.slice a n c).ownBlock with
  | none => exact .inl rfl
  | some g =>
    refine .inr fun e => ?_
    have := hr g e.symm
    have := (h.block g hv).2
    omega
end

/-- What a function that makes a slice of the numbers zs leaves. -/
def MadeInts (w : World) (zs : List Int) (e : Ending) (w' : World) : Prop :=
  ∃ a n c, e = .returned (.slice a n c) ∧ Own w' w.heap.size a n c zs ∧ Below w.heap.size w w'

section
variable {w : World} {B g n cap : Nat} {zs : List Int}
theorem own_cell (h : w.ownsRow B 2 1 (.slice (some ⟨g, 0, none⟩) n cap) n (zs.map (Value.int .i64))) {k : Nat} (hk : k < n) :
    w.cell? ⟨g, k, none⟩ = some (.int .i64 (zs.getD k 0)) := by
  have hl : zs.length = n := by have := h.1; simpa using this
  rw [h.cellAt k (by omega)]
  simp [List.getD_eq_getElem?_getD, List.getElem?_eq_getElem (show k < zs.length by omega)]
theorem own_put (h : w.ownsRow B 2 1 (.slice (some ⟨g, 0, none⟩) n cap) n (zs.map (Value.int .i64))) (k : Nat) (z : Int) :
    (w.setCell ⟨g, k, none⟩ (.int .i64 z)).ownsRow B 2 1 (.slice (some ⟨g, 0, none⟩) n cap) n ((zs.set k z).map (Value.int .i64)) := by
  rw [List.map_set]; exact (h.stored k _).1
end

/-- The numbers of a great number: at most 100, each from 0 to 9999, the last one not 0. -/
def okB (zs : List Int) : Bool :=
  decide (zs.length ≤ 100) && zs.all (fun z => decide (0 ≤ z) && decide (z ≤ 9999)) && (zs.isEmpty || zs.getD (zs.length - 1) 0 != 0)

/-- The first k are limbs. -/
def GoodTo (zs : List Int) (k : Nat) : Prop := ∀ i, i < k → 0 ≤ zs.getD i 0 ∧ zs.getD i 0 ≤ 9999

theorem GoodTo.zero (zs : List Int) : GoodTo zs 0 := fun i hi => absurd hi (by omega)
theorem GoodTo.succ {zs : List Int} {k : Nat} {z : Int} (h : GoodTo zs k) (hz : Hid (z = zs.getD k 0)) (h0 : 0 ≤ z) (h1 : z ≤ 9999) : GoodTo zs (k + 1) := by
  intro i hi
  rcases Nat.lt_or_ge i k with hlt | hge
  · exact h i hlt
  · have : i = k := by omega
    subst this; rw [← hz.out]; exact ⟨h0, h1⟩

theorem all_iff (zs : List Int) : zs.all (fun z => decide (0 ≤ z) && decide (z ≤ 9999)) = true ↔ GoodTo zs zs.length := by
  rw [List.all_eq_true]
  constructor
  · intro h i hi
    have := h _ (getD_mem hi)
    simpa using this
  · intro h z hz
    obtain ⟨i, hi, rfl⟩ := List.getElem_of_mem hz
    have := h i hi
    rw [List.getD_eq_getElem?_getD, List.getElem?_eq_getElem hi] at this
    simpa using this

theorem okB_long {zs : List Int} (h : 100 < zs.length) : okB zs = false := by
  unfold okB; rw [decide_eq_false (by omega)]; rfl
theorem okB_bad {zs : List Int} {k : Nat} {z : Int} (hk : k < zs.length) (hz : Hid (z = zs.getD k 0)) (h : z < 0 ∨ 9999 < z) : okB zs = false := by
  have : zs.all (fun z => decide (0 ≤ z) && decide (z ≤ 9999)) = false := by
    rw [← Bool.not_eq_true, all_iff]
    intro hg
    have := hg k hk
    rw [← hz.out] at this; omega
  unfold okB; rw [this]; simp
theorem okB_nil {zs : List Int} (h : zs.length = 0) : okB zs = true := by
  have : zs = [] := List.eq_nil_of_length_eq_zero h
  subst this; rfl
theorem okB_last {zs : List Int} {z : Int} (hl : zs.length ≤ 100) (hg : GoodTo zs zs.length) (hp : 0 < zs.length) (hz : Hid (z = zs.getD (zs.length - 1) 0)) : okB zs = (z != 0) := by
  unfold okB
  rw [decide_eq_true hl, (all_iff zs).2 hg, ← hz.out]
  cases zs with
  | nil => simp at hp
  | cons x r => simp
theorem okB_good {zs : List Int} (h : okB zs = true) : zs.length ≤ 100 ∧ GoodTo zs zs.length ∧ (0 < zs.length → zs.getD (zs.length - 1) 0 ≠ 0) := by
  unfold okB at h
  simp only [Bool.and_eq_true, Bool.or_eq_true, decide_eq_true_eq, bne_iff_ne] at h
  refine ⟨h.1.1, (all_iff zs).1 h.1.2, fun hp => ?_⟩
  rcases h.2 with h2 | h2
  · cases zs with
    | nil => simp at hp
    | cons x r => simp at h2
  · exact h2

/-- The world has at most drawn: nothing in memory has turned. -/
def Still (w w' : World) : Prop := ∃ j, w' = w.drewN j
theorem Still.refl (w : World) : Still w w := ⟨0, rfl⟩
theorem Still.draw {w w' : World} (h : Still w w') (n : Nat) : Still w (w'.drewN n) := by
  obtain ⟨j, rfl⟩ := h
  exact ⟨j + n, World.drewN_drewN _ _ _⟩
theorem Still.drew (w : World) (n : Nat) : Still w (w.drewN n) := ⟨n, rfl⟩
theorem Still.trans {a b c : World} (h : Still a b) (k : Still b c) : Still a c := by
  obtain ⟨j, rfl⟩ := k
  exact h.draw j
theorem Still.below {w w' : World} (h : Still w w') (B : Nat) : Below B w w' := by
  obtain ⟨j, rfl⟩ := h
  exact ⟨rfl, rfl, rfl, Nat.le_refl _, fun _ _ => rfl⟩
theorem Still.size {w w' : World} (h : Still w w') : w'.heap.size = w.heap.size := by
  obtain ⟨j, rfl⟩ := h
  rfl
theorem Ints.still {w w' : World} {a : Option Addr} {n : Nat} {zs : List Int} (h : Ints w a n zs) (hs : Still w w') : Ints w' a n zs := by
  obtain ⟨j, rfl⟩ := hs
  exact h
theorem Own.still {w w' : World} {B : Nat} {a : Option Addr} {n c : Nat} {zs : List Int} (h : Own w B a n c zs) (hs : Still w w') : Own w' B a n c zs := by
  obtain ⟨j, rfl⟩ := hs
  exact h
theorem still_quiet {P : Program} {f : FuncId} {args : Array Value} {w : World} {n : Nat} {v : Value}
    (h : Calls P f args (w.drewN n) fun e w' => e = .returned v ∧ Still (w.drewN n) w') : Calls P f args (w.drewN n) fun e w' => e = .returned v ∧ ∃ m, w' = w.drewN m :=
  h.mono fun _ _ ⟨he, m, hm⟩ => ⟨he, n + m, by rw [hm, World.drewN_drewN]⟩
theorem pure_quiet {P : Program} {f : FuncId} {args : Array Value} {w : World} {n : Nat} {v : Value}
    (h : Calls P f args (w.drewN n) fun e w' => e = .returned v ∧ w.drewN n = w') : Calls P f args (w.drewN n) fun e w' => e = .returned v ∧ ∃ m, w' = w.drewN m :=
  h.mono fun _ _ ⟨he, hm⟩ => ⟨he, n, hm.symm⟩
theorem pure_quiet2 {P : Program} {f : FuncId} {args : Array Value} {w : World} {k n : Nat} {v : Value}
    (h : Calls P f args (w.drewN (k + n)) fun e w' => e = .returned v ∧ w.drewN (k + n) = w') : Calls P f args (w.drewN (k + n)) fun e w' => e = .returned v ∧ ∃ m, w' = w.drewN (k + m) :=
  h.mono fun _ _ ⟨he, hm⟩ => ⟨he, n, hm.symm⟩
theorem still_quiet2 {P : Program} {f : FuncId} {args : Array Value} {w : World} {k n : Nat} {v : Value}
    (h : Calls P f args (w.drewN (k + n)) fun e w' => e = .returned v ∧ Still (w.drewN (k + n)) w') : Calls P f args (w.drewN (k + n)) fun e w' => e = .returned v ∧ ∃ m, w' = w.drewN (k + m) :=
  h.mono fun _ _ ⟨he, m, hm⟩ => ⟨he, n + m, by rw [hm, World.drewN_drewN, Nat.add_assoc]⟩
theorem below_dn {B : Nat} {a w : World} (h : Below B a w) (n : Nat) : Below B a (w.drewN n) := h.trans ⟨rfl, rfl, rfl, Nat.le_refl _, fun _ _ => rfl⟩
theorem ret_bool {a b : Bool} (h : a = b) : Ending.returned (.bool a) = .returned (.bool b) := by rw [h]
theorem ret_int {k : IntKind} {a b : Int} (h : a = b) : Ending.returned (.int k a) = .returned (.int k b) := by rw [h]
end Go.Proofs.YtflojbjeloilaaaGreat
/- The contracts of the laws' own helpers on slices of numbers: a copy (toInt64S), a comparison (eqInt64S), marks written into a slice (markInt64S), marks asked for (heldInt64S). -/
namespace Go.Proofs.YtflojbjeloilaaaGreat
open Go.RowKit

theorem info_int64 : (Tryz.prog.info? 2).map (fun i => (i.zero, i.size, i.bytes)) = some (some (.int .i64 0), 1, 8) := by kernel_rfl

theorem eqTo_all {xs ys : List Int} (hl : xs.length = ys.length) (h : ∀ i, i < xs.length → xs.getD i 0 = ys.getD i 0) : xs = ys := by
  apply List.ext_getElem hl
  intro i h1 h2
  have := h i h1
  simpa [List.getD_eq_getElem?_getD, h1, h2] using this

/-- The first k are alike. -/
def EqTo (xs ys : List Int) (k : Nat) : Prop := ∀ i, i < k → xs.getD i 0 = ys.getD i 0
theorem EqTo.zero (xs ys : List Int) : EqTo xs ys 0 := fun i hi => absurd hi (by omega)
theorem EqTo.succ {xs ys : List Int} {k : Nat} {x y : Int} (h : EqTo xs ys k) (hx : Hid (x = xs.getD k 0)) (hy : Hid (y = ys.getD k 0)) (e : x = y) : EqTo xs ys (k + 1) := by
  intro i hi
  rcases Nat.lt_or_ge i k with hlt | hge
  · exact h i hlt
  · have : i = k := by omega
    subst this; rw [← hx.out, ← hy.out]; exact e

set_option maxHeartbeats 400000 in
theorem eqInt64S_any (a b : Option Addr) (n m c d : Nat) (xs ys : List Int) (w : World) (hx : Ints w a n xs) (hy : Ints w b m ys) :
    Calls Tryz.prog 35 #[.slice a n c, .slice b m d] w fun e w' => e = .returned (.bool (decide (xs = ys))) ∧ ∃ j, w' = w.drewN j := by
  have HL := Lib.hid hx.1
  have HM := Lib.hid hy.1
  have hbd := hx.2.1
  have hbe := hy.2.1
  by_cases hnm : n = m
  · subst hnm
    have hne0 : ((n : Int) != (n : Int)) = false := by simp
    go_enter Tryz.func35, Tryz.ntmps35
    go_wp2
    go_loopw [5] (fun i wr => ∃ k : Nat, k ≤ n ∧ i = .int .i64 k ∧ EqTo xs ys k ∧ ∃ j, wr = w.drewN j) (fun i _ => n - (intOf i).toNat)
    case atStart => exact ⟨0, Nat.zero_le _, rfl, EqTo.zero _ _, 0, rfl⟩
    case round =>
      obtain ⟨k, hk, rfl, hg, j, rfl⟩ := hrel
      by_cases hlt : k < n
      · obtain ⟨b1, o1, x, rfl, hb1, hxk, hin1, hc1⟩ := hx.at_ hlt
        obtain ⟨b2, o2, y, rfl, hb2, hyk, hin2, hc2⟩ := hy.at_ hlt
        have hd1 : (w.drewN j).cell? ⟨b1, o1 + k, none⟩ = some (.int .i64 x) := hc1
        have hd2 : (w.drewN j).cell? ⟨b2, o2 + k, none⟩ = some (.int .i64 y) := hc2
        by_cases e : x = y
        · subst e
          go_wp2
          go_quiet (fail)
          go_wp2
          go_roundw
          case rel => exact ⟨k + 1, by omega, by go_num, hg.succ hxk hyk rfl, _, rfl⟩
          case measure => simp [intOf]; omega
        · have hne : (x != y) = true := by simpa using e
          go_wp2
          go_quiet (fail)
          go_wp2
          go_ret
          exact ⟨ret_bool (decide_eq_false (fun h => e (by rw [hxk.out, hyk.out, h]))).symm, _, World.drewN_drewN _ _ _⟩
      · obtain rfl : n = k := by omega
        go_wp2
        go_ret
        exact ⟨ret_bool (decide_eq_true (eqTo_all (HL.out.trans HM.out.symm) (by rw [HL.out]; exact hg))).symm, _, rfl⟩
  · have hne : ((n : Int) != (m : Int)) = true := by simp; omega
    go_enter Tryz.func35, Tryz.ntmps35
    go_wp2
    go_ret
    exact ⟨ret_bool (decide_eq_false (fun h => hnm (by rw [← HL.out, ← HM.out, h]))).symm, 0, rfl⟩

/-- The first k of zs, noughts behind. -/
def CopyTo (zs : List Int) (n k : Nat) : List Int := zs.take k ++ List.replicate (n - k) 0
theorem copyTo_zero (zs : List Int) (n : Nat) : CopyTo zs n 0 = List.replicate n 0 := by simp [CopyTo]
theorem copyTo_all {zs : List Int} {n : Nat} (h : zs.length = n) : CopyTo zs n n = zs := by subst h; simp [CopyTo]
theorem copyTo_succ {zs : List Int} {n k : Nat} {z : Int} (h : zs.length = n) (hk : k < n) (hz : Hid (z = zs.getD k 0)) : (CopyTo zs n k).set k z = CopyTo zs n (k + 1) := by
  subst h
  have e : z = zs[k] := by rw [hz.out]; simp [List.getD_eq_getElem?_getD, hk]
  subst e
  apply List.ext_getElem?
  intro i
  unfold CopyTo
  rw [List.getElem?_set]
  by_cases hi : k = i
  · subst hi
    have h1 : k < (zs.take k ++ List.replicate (zs.length - k) 0).length := by simp; omega
    rw [if_pos rfl, if_pos h1, List.getElem?_append_left (by simp; omega)]
    simp
  · rw [if_neg hi]
    simp only [List.getElem?_append, List.length_take, List.getElem?_take, List.getElem?_replicate, Nat.min_eq_left (show k ≤ zs.length by omega), Nat.min_eq_left (show k + 1 ≤ zs.length by omega)]
    repeat' split
    all_goals first | rfl | omega

set_option maxHeartbeats 400000 in
theorem toInt64S_any (a : Option Addr) (n c : Nat) (zs : List Int) (w : World) (h : Ints w a n zs) :
    Calls Tryz.prog 31 #[.slice a n c] w (MadeInts w zs) := by
  have HL := Lib.hid h.1
  have hbd := h.2.1
  obtain ⟨i0, hi, hz0, hz1, hz2⟩ := info_parts info_int64
  have HI := Lib.hid hi
  have HZ0 := Lib.hid hz0
  have HZ1 := Lib.hid hz1
  have HZ2 := Lib.hid hz2
  clear hi hz0 hz1 hz2
  go_enter Tryz.func31, Tryz.ntmps31
  go_wp2_with (at_make; refine wpList_make_full _ rfl _ _ 25 rfl w.heap.size 2 i0 (.int .i64 0) 1 Tryz.underlying25 HI.out HZ0.out HZ1.out _ _ _ _ n rfl rfl rfl rfl ?b2 ?b3 ?b4 ?_)
  case b2 => rw [HZ2.out]; omega
  case b3 => unfold maxLen; omega
  case b4 => exact Nat.le_refl _
  intro w1 hown hgrow
  have hb1 : Below w.heap.size w w1 := (Below.refl _ _).grown hgrow (Nat.le_refl _) (fun k hk => by cases hk)
  have hsz : w.heap.size < w1.heap.size := (hown.lt w.heap.size rfl).2
  have HO : w1.ownsRow w.heap.size 2 1 (.slice (some ⟨w.heap.size, 0, none⟩) n n) n ((CopyTo zs n 0).map (Value.int .i64)) := by
    rw [copyTo_zero]
    have e : (madeCells #[Value.int IntKind.i64 0] n).toList = (List.replicate n (0 : Int)).map (Value.int .i64) := by
      rw [toList_madeCells_one]; simp
    rw [← e]; exact hown
  clear hown hgrow
  go_wp2
  go_loopw [4] (fun i wr => ∃ k : Nat, k ≤ n ∧ i = .int .i64 k ∧ wr.ownsRow w.heap.size 2 1 (.slice (some ⟨w.heap.size, 0, none⟩) n n) n ((CopyTo zs n k).map (Value.int .i64)) ∧ Below w.heap.size w wr) (fun i _ => n - (intOf i).toNat)
  case atStart => exact ⟨0, Nat.zero_le _, rfl, HO, hb1⟩
  case round =>
    clear HO hb1 hsz
    obtain ⟨k, hk, rfl, hown, hbel⟩ := hrel
    by_cases hlt : k < n
    · obtain ⟨b, o, z, rfl, hb, hz, hin, hc⟩ := h.at_ hlt
      have hc1 : wr.cell? ⟨b, o + k, none⟩ = some (.int .i64 z) := (hbel.cell (by exact hb)).trans hc
      have hc2 := own_cell hown hlt
      generalize (CopyTo zs n k).getD k 0 = y at hc2
      have hf2 := hown.frozenAt k
      have HO2 := own_put hown k z
      rw [copyTo_succ HL.out hlt hz] at HO2
      have hbel2 : Below w.heap.size w (wr.setCell ⟨w.heap.size, k, none⟩ (.int .i64 z)) := hbel.setCell (Nat.le_refl _) _
      clear hc hown hbel
      go_wp2
      go_roundw
      case rel => exact ⟨k + 1, by omega, by go_num, HO2, hbel2⟩
      case measure => simp [intOf]; omega
    · obtain rfl : n = k := by omega
      go_wp2
      go_ret
      rw [copyTo_all HL.out] at hown
      exact ⟨_, _, _, rfl, ⟨hown, hbd, h.2.2.1⟩, hbel⟩

/-- The marks k, k + 1, .. -/
def marks (k : Int) (n : Nat) : List Int := (List.range n).map (fun i : Nat => k + (i : Int))
theorem marks_len (k : Int) (n : Nat) : (marks k n).length = n := by simp [marks]
theorem marks_getD (k : Int) (n i : Nat) (h : i < n) : (marks k n).getD i 0 = k + (i : Int) := by simp [marks, List.getD_eq_getElem?_getD, h]
theorem marks_mem {k z : Int} {n : Nat} (h : z ∈ marks k n) : k ≤ z ∧ z < k + n := by
  obtain ⟨i, hi, rfl⟩ := List.mem_map.1 h
  have := List.mem_range.1 hi
  exact ⟨by omega, by omega⟩
/-- The first j marks written over zs. -/
def MarkTo (zs : List Int) (k : Int) (j : Nat) : List Int := marks k j ++ zs.drop j
theorem markTo_zero (zs : List Int) (k : Int) : MarkTo zs k 0 = zs := by simp [MarkTo, marks]
theorem markTo_all {zs : List Int} {n : Nat} (k : Int) (h : zs.length = n) : MarkTo zs k n = marks k n := by subst h; simp [MarkTo]
theorem markTo_succ {zs : List Int} {n j : Nat} (k : Int) (h : zs.length = n) (hj : j < n) : (MarkTo zs k j).set j (k + (j : Int)) = MarkTo zs k (j + 1) := by
  subst h
  apply List.ext_getElem?
  intro i
  unfold MarkTo marks
  rw [List.getElem?_set]
  by_cases hi : j = i
  · subst hi
    have h1 : j < ((List.range j).map (fun i : Nat => k + (i : Int)) ++ zs.drop j).length := by simp; omega
    rw [if_pos rfl, if_pos h1, List.getElem?_append_left (by simp)]
    simp
  · rw [if_neg hi]
    simp only [List.getElem?_append, List.length_map, List.length_range, List.getElem?_map, List.getElem?_drop]
    by_cases h1 : i < j
    · rw [if_pos h1, if_pos (show i < j + 1 by omega), List.getElem?_range h1, List.getElem?_range (show i < j + 1 by omega)]
    · rw [if_neg h1, if_neg (show ¬ i < j + 1 by omega), show j + (i - j) = j + 1 + (i - (j + 1)) by omega]

set_option maxHeartbeats 400000 in
theorem markInt64S_wide (a : Option Addr) (n c : Nat) (zs : List Int) (k : Nat) (w : World) (B : Nat) (h : Own w B a n c zs) (hk : k ≤ 1152921504606846976) :
    Calls Tryz.prog 38 #[.slice a n c, .int .i64 (k : Int)] w fun e w' => e = .returned (.int .i64 ((k + n : Nat) : Int)) ∧ Own w' B a n c (marks k n) ∧ w.grownBy w' (Value.slice a n c).ownBlock := by
  have HL := Lib.hid h.len
  have hbd := h.2.1
  have hin : ∀ z ∈ marks k n, In64 z := fun z hz => by have := marks_mem hz; exact ⟨by omega, by omega⟩
  have HIN := Lib.hid hin
  clear hin
  go_enter Tryz.func38, Tryz.ntmps38
  go_wp2
  go_loopw [1, 5] (fun q i wr => ∃ j : Nat, j ≤ n ∧ i = .int .i64 j ∧ q = .int .i64 ((k + j : Nat) : Int) ∧ wr.ownsRow B 2 1 (.slice a n c) n ((MarkTo zs k j).map (Value.int .i64)) ∧ w.grownBy wr (Value.slice a n c).ownBlock) (fun _ i _ => n - (intOf i).toNat)
  case atStart => exact ⟨0, Nat.zero_le _, rfl, rfl, by rw [markTo_zero]; exact h.1, World.grownBy.refl _ _⟩
  case round =>
    obtain ⟨j, hj, rfl, rfl, hown, hgr⟩ := hrel
    by_cases hlt : j < n
    · obtain ⟨g, rfl⟩ : ∃ g, a = some ⟨g, 0, none⟩ := by
        rcases hown.2 with ⟨_, h0⟩ | ⟨g, cap, cur, e, _⟩
        · omega
        · exact ⟨g, by injection e⟩
      have hc2 := own_cell hown hlt
      generalize (MarkTo zs k j).getD j 0 = y at hc2
      have hf2 := hown.frozenAt j
      have HO2 := own_put hown j ((k : Int) + (j : Int))
      rw [markTo_succ k HL.out hlt] at HO2
      have hgr2 := (hown.stored j (.int .i64 ((k : Int) + (j : Int)))).2
      have HG := Lib.hid (show w.grownBy (wr.setCell ⟨g, j, none⟩ (.int .i64 ((k : Int) + (j : Int)))) (some g) from
        ⟨hgr2.os.trans hgr.os, hgr2.tape.trans hgr.tape, hgr2.output.trans hgr.output, Nat.le_trans hgr.size hgr2.size,
          fun b hb hne => (hgr2.block b (Nat.lt_of_lt_of_le hb hgr.size) hne).trans (hgr.block b hb hne)⟩)
      clear hown hgr hgr2
      go_wp2
      go_roundw
      case rel => exact ⟨j + 1, by omega, by go_num, by go_num, HO2, HG.out⟩
      case measure => simp [intOf]; omega
    · obtain rfl : n = j := by omega
      go_wp2
      go_ret
      rw [markTo_all k HL.out] at hown
      exact ⟨rfl, ⟨hown, hbd, HIN.out⟩, hgr⟩
theorem markInt64S_any (a : Option Addr) (n c : Nat) (zs : List Int) (k : Nat) (w : World) (B : Nat) (h : Own w B a n c zs) (hk : k ≤ 4194304) :
    Calls Tryz.prog 38 #[.slice a n c, .int .i64 (k : Int)] w fun e w' => e = .returned (.int .i64 ((k + n : Nat) : Int)) ∧ Own w' B a n c (marks k n) ∧ w.grownBy w' (Value.slice a n c).ownBlock := markInt64S_wide a n c zs k w B h (by omega)

set_option maxHeartbeats 400000 in
theorem heldInt64S_wide (a : Option Addr) (n c : Nat) (k : Nat) (w : World) (h : Ints w a n (marks k n)) (hk : k ≤ 1152921504606846976) :
    Calls Tryz.prog 81 #[.slice a n c, .int .i64 (k : Int)] w fun e w' => e = .returned (.int .i64 ((k + n : Nat) : Int)) ∧ w = w' := by
  have hbd := h.2.1
  go_enter Tryz.func81, Tryz.ntmps81
  go_wp2
  go_loop [1, 5] (fun q i => ∃ j : Nat, j ≤ n ∧ i = .int .i64 j ∧ q = .int .i64 ((k + j : Nat) : Int)) (fun _ i => n - (intOf i).toNat)
  case atStart => exact ⟨0, Nat.zero_le _, rfl, rfl⟩
  case round =>
    obtain ⟨j, hj, rfl, rfl⟩ := hrel
    by_cases hlt : j < n
    · obtain ⟨b, o, z, rfl, hb, hz, hin, hc⟩ := h.at_ hlt
      have hz2 : z = (k : Int) + (j : Int) := by rw [hz.out, marks_getD _ _ _ hlt]
      subst hz2
      clear hz hin
      go_wp2
      go_round
      case rel => exact ⟨j + 1, by omega, by go_num, by go_num⟩
      case measure => simp [intOf]; omega
    · obtain rfl : n = j := by omega
      go_wp2
      go_ret
      exact ⟨rfl, rfl⟩
theorem heldInt64S_any (a : Option Addr) (n c : Nat) (k : Nat) (w : World) (h : Ints w a n (marks k n)) (hk : k ≤ 4194304) :
    Calls Tryz.prog 81 #[.slice a n c, .int .i64 (k : Int)] w fun e w' => e = .returned (.int .i64 ((k + n : Nat) : Int)) ∧ w = w' := heldInt64S_wide a n c k w h (by omega)
end Go.Proofs.YtflojbjeloilaaaGreat
/- The contracts of the laws' own helpers big and likeInts. -/
namespace Go.Proofs.YtflojbjeloilaaaGreat
open Go.RowKit

theorem big_any (a : Option Addr) (n c : Nat) (w : World) : Calls Tryz.prog 10 #[.slice a n c] w fun e w' => e = .returned (.bool (decide (4096 < n))) ∧ w = w' := by
  go_enter Tryz.func10, Tryz.ntmps10
  go_wp2
  go_ret
  exact ⟨ret_bool (by simp only [decide_eq_decide]; omega), rfl⟩

set_option maxHeartbeats 400000 in
theorem likeInts_any (a b : Option Addr) (n m c d : Nat) (xs ys : List Int) (w : World) (hx : Ints w a n xs) (hy : Ints w b m ys) :
    Calls Tryz.prog 63 #[.slice a n c, .slice b m d] w fun e w' => e = .returned (.bool (decide (xs = ys))) ∧ Still w w' := by
  have HL := Lib.hid hx.1
  have HM := Lib.hid hy.1
  have hbd := hx.2.1
  have hbe := hy.2.1
  by_cases hnm : n = m
  · subst hnm
    have hne0 : ((n : Int) != (n : Int)) = false := by simp
    go_enter Tryz.func63, Tryz.ntmps63
    go_wp2
    go_loopw [5] (fun i wr => ∃ k : Nat, k ≤ n ∧ i = .int .i64 k ∧ EqTo xs ys k ∧ Still w wr) (fun i _ => n - (intOf i).toNat)
    case atStart => exact ⟨0, Nat.zero_le _, rfl, EqTo.zero _ _, Still.refl _⟩
    case round =>
      obtain ⟨k, hk, rfl, hg, hst⟩ := hrel
      by_cases hlt : k < n
      · obtain ⟨b1, o1, x, rfl, hb1, hxk, hin1, hc1⟩ := (hx.still hst).at_ hlt
        obtain ⟨b2, o2, y, rfl, hb2, hyk, hin2, hc2⟩ := (hy.still hst).at_ hlt
        by_cases e : x = y
        · subst e
          go_wp2
          go_quiet (fail)
          go_wp2
          go_roundw
          case rel => exact ⟨k + 1, by omega, by go_num, hg.succ hxk hyk rfl, hst.draw _⟩
          case measure => simp [intOf]; omega
        · have hne : (x != y) = true := by simpa using e
          go_wp2
          go_quiet (fail)
          go_wp2
          go_ret
          exact ⟨ret_bool (decide_eq_false (fun h => e (by rw [hxk.out, hyk.out, h]))).symm, hst.draw _⟩
      · obtain rfl : n = k := by omega
        go_wp2
        go_ret
        exact ⟨ret_bool (decide_eq_true (eqTo_all (HL.out.trans HM.out.symm) (by rw [HL.out]; exact hg))).symm, hst⟩
  · have hne : ((n : Int) != (m : Int)) = true := by simp; omega
    go_enter Tryz.func63, Tryz.ntmps63
    go_wp2
    go_ret
    exact ⟨ret_bool (decide_eq_false (fun h => hnm (by rw [← HL.out, ← HM.out, h]))).symm, Still.refl _⟩
end Go.Proofs.YtflojbjeloilaaaGreat
/- The contracts of the two functions NatOk (the program's and the model's): each answers 'okB' of the numbers, and leaves the world as it is. -/
namespace Go.Proofs.YtflojbjeloilaaaGreat
open Go.RowKit

theorem in_any (x lo hi : Int) (w : World) :
    Calls Tryz.prog 65 #[.int .i64 x, .int .i64 lo, .int .i64 hi] w fun e w' => e = .returned (.bool (decide (lo ≤ x) && decide (x ≤ hi))) ∧ w = w' := by
  by_cases h1 : lo ≤ x
  · by_cases h2 : x ≤ hi
    · go_enter Tryz.func65, Tryz.ntmps65
      go_wp2
      go_ret
      exact ⟨ret_bool (by simp [h1, h2]), rfl⟩
    · go_enter Tryz.func65, Tryz.ntmps65
      go_wp2
      go_ret
      exact ⟨ret_bool (by rw [decide_eq_false (p := x ≤ hi) (by omega)]), rfl⟩
  · go_enter Tryz.func65, Tryz.ntmps65
    go_wp2
    go_ret
    exact ⟨ret_bool (by rw [decide_eq_false (p := lo ≤ x) (by omega), Bool.false_and]), rfl⟩

end Go.Proofs.YtflojbjeloilaaaGreat
/- Plain mathematics of lists of limbs in base 10000: their value, the one list of a number, sums of limbs. No Go text here. -/
namespace Go.Proofs.YtflojbjeloilaaaGreat
open Go.RowKit

/-- The value of a list of limbs, the lowest first. -/
def val : List Int → Nat
  | [] => 0
  | z :: r => z.toNat + 10000 * val r

/-- The limbs of a number (with fuel). -/
def toLF : Nat → Nat → List Int
  | 0, _ => []
  | f + 1, n => if n = 0 then [] else ((n % 10000 : Nat) : Int) :: toLF f (n / 10000)
def toL (n : Nat) : List Int := toLF n n

theorem toLF_more : ∀ (f n : Nat), n ≤ f → toLF f n = toLF n n := by
  intro f
  induction f using Nat.strongRecOn with
  | _ f ih =>
    intro n hn
    cases f with
    | zero => have : n = 0 := by omega
              subst this; rfl
    | succ f =>
      cases n with
      | zero => simp [toLF]
      | succ n =>
        simp only [toLF]
        rw [if_neg (by omega), if_neg (by omega)]
        rw [ih f (by omega) ((n + 1) / 10000) (by omega), ih n (by omega) ((n + 1) / 10000) (by omega)]

theorem toL_zero : toL 0 = [] := rfl
theorem toL_pos {n : Nat} (h : 0 < n) : toL n = ((n % 10000 : Nat) : Int) :: toL (n / 10000) := by
  unfold toL
  cases n with
  | zero => omega
  | succ n =>
    rw [toLF, if_neg (by omega), toLF_more n ((n + 1) / 10000) (by omega)]

/-- All limbs are limbs. -/
def Good (l : List Int) : Prop := ∀ z ∈ l, 0 ≤ z ∧ z ≤ 9999
theorem good_of_to {l : List Int} (h : GoodTo l l.length) : Good l := by
  intro z hz
  obtain ⟨i, hi, rfl⟩ := List.getElem_of_mem hz
  have := h i hi
  rw [List.getD_eq_getElem?_getD, List.getElem?_eq_getElem hi] at this
  exact this
theorem Good.to {l : List Int} (h : Good l) : GoodTo l l.length := fun _ hi => h _ (getD_mem hi)
theorem Good.in64 {l : List Int} (h : Good l) : ∀ z ∈ l, In64 z := fun z hz => ⟨by have := h z hz; omega, by have := h z hz; omega⟩
theorem Good.getD {l : List Int} (h : Good l) (i : Nat) : 0 ≤ l.getD i 0 ∧ l.getD i 0 ≤ 9999 := by
  by_cases hi : i < l.length
  · exact h _ (getD_mem hi)
  · rw [List.getD_eq_getElem?_getD, List.getElem?_eq_none (by omega)]; simp
theorem Good.take {l : List Int} (h : Good l) (k : Nat) : Good (l.take k) := fun z hz => h z (List.mem_of_mem_take hz)
theorem good_nil : Good [] := fun z hz => by simp at hz
theorem Good.snoc {l : List Int} {z : Int} (h : Good l) (h0 : 0 ≤ z) (h1 : z ≤ 9999) : Good (l ++ [z]) := by
  intro x hx
  rcases List.mem_append.1 hx with h' | h'
  · exact h x h'
  · rw [List.mem_singleton] at h'; subst h'; exact ⟨h0, h1⟩

/-- No nought at the end. -/
def Tight (l : List Int) : Prop := 0 < l.length → l.getD (l.length - 1) 0 ≠ 0
theorem tight_cons {x y : Int} {r : List Int} (h : Tight (x :: y :: r)) : Tight (y :: r) := by
  intro _
  have := h (by simp)
  simpa [List.getD_eq_getElem?_getD] using this

theorem val_pos {l : List Int} (hg : Good l) (ht : Tight l) (hp : 0 < l.length) : 0 < val l := by
  induction l with
  | nil => simp at hp
  | cons x r ih =>
    cases r with
    | nil =>
      have h1 := ht (by simp)
      have h2 := hg x (by simp)
      simp at h1
      simp [val]; omega
    | cons y r =>
      have := ih (fun z hz => hg z (List.mem_cons_of_mem _ hz)) (tight_cons ht) (by simp)
      simp only [val] at this ⊢; omega

/-- A number has one list of limbs. -/
theorem toL_val {l : List Int} (hg : Good l) (ht : Tight l) : toL (val l) = l := by
  induction l with
  | nil => rfl
  | cons x r ih =>
    have hp := val_pos hg ht (by simp)
    have hx := hg x (by simp)
    have hr : toL (val r) = r := by
      cases r with
      | nil => rfl
      | cons y r => exact ih (fun z hz => hg z (List.mem_cons_of_mem _ hz)) (tight_cons ht)
    rw [toL_pos hp]
    have e1 : val (x :: r) % 10000 = x.toNat := by simp only [val]; omega
    have e2 : val (x :: r) / 10000 = val r := by simp only [val]; omega
    rw [e1, e2, hr]
    congr 1
    omega

theorem val_toL (n : Nat) : val (toL n) = n := by
  induction n using Nat.strongRecOn with
  | _ n ih =>
    by_cases h : 0 < n
    · rw [toL_pos h, val, ih (n / 10000) (by omega)]; omega
    · have : n = 0 := by omega
      subst this; rfl
theorem good_toL (n : Nat) : Good (toL n) := by
  induction n using Nat.strongRecOn with
  | _ n ih =>
    by_cases h : 0 < n
    · rw [toL_pos h]
      intro z hz
      rcases List.mem_cons.1 hz with rfl | hz
      · omega
      · exact ih (n / 10000) (by omega) z hz
    · have : n = 0 := by omega
      subst this; exact good_nil
theorem tight_toL (n : Nat) : Tight (toL n) := by
  induction n using Nat.strongRecOn with
  | _ n ih =>
    by_cases h : 0 < n
    · rw [toL_pos h]
      by_cases h2 : 0 < n / 10000
      · have := ih (n / 10000) (by omega)
        intro _
        rw [toL_pos h2] at this ⊢
        have := this (by simp)
        simpa [List.getD_eq_getElem?_getD] using this
      · intro _
        have e : n / 10000 = 0 := by omega
        rw [e, toL_zero]
        simp; omega
    · have : n = 0 := by omega
      subst this; intro h; simp [toL_zero] at h

theorem okB_iff (l : List Int) : okB l = true ↔ l.length ≤ 100 ∧ Good l ∧ Tight l := by
  constructor
  · intro h
    have := okB_good h
    exact ⟨this.1, good_of_to this.2.1, this.2.2⟩
  · rintro ⟨h1, h2, h3⟩
    by_cases hp : 0 < l.length
    · rw [okB_last h1 h2.to hp rfl]
      simpa using h3 hp
    · exact okB_nil (by omega)
theorem okB_toL (n : Nat) : okB (toL n) = decide ((toL n).length ≤ 100) := by
  by_cases h : (toL n).length ≤ 100
  · rw [decide_eq_true h]; exact (okB_iff _).2 ⟨h, good_toL n, tight_toL n⟩
  · rw [decide_eq_false h, ← Bool.not_eq_true, okB_iff]; exact fun h' => h h'.1
theorem ok_toL {l : List Int} (h : okB l = true) : toL (val l) = l := toL_val ((okB_iff l).1 h).2.1 ((okB_iff l).1 h).2.2

/-! ### The value of what is put together -/
theorem val_append (a b : List Int) : val (a ++ b) = val a + 10000 ^ a.length * val b := by
  induction a with
  | nil => simp [val]
  | cons x r ih =>
    rw [List.cons_append, val, val, ih, List.length_cons, Nat.pow_succ, Nat.mul_add, Nat.mul_comm (10000 ^ r.length) 10000, ← Nat.mul_assoc]
    omega
theorem val_snoc (a : List Int) (z : Int) : val (a ++ [z]) = val a + 10000 ^ a.length * z.toNat := by
  rw [val_append]; simp [val]
theorem val_replicate (n : Nat) : val (List.replicate n 0) = 0 := by
  induction n with
  | zero => rfl
  | succ n ih => rw [List.replicate_succ, val, ih]; rfl
theorem val_lt {l : List Int} (h : Good l) : val l < 10000 ^ l.length := by
  induction l with
  | nil => simp [val]
  | cons x r ih =>
    have := ih (fun z hz => h z (List.mem_cons_of_mem _ hz))
    have hx := h x (by simp)
    rw [val, List.length_cons, Nat.pow_succ]
    omega
theorem take_snoc' (l : List Int) (k : Nat) (h : k < l.length) : l.take (k + 1) = l.take k ++ [l.getD k 0] := by
  rw [List.take_succ_eq_append_getElem h]; simp [List.getD_eq_getElem?_getD, h]
theorem val_take_succ (l : List Int) (k : Nat) : val (l.take (k + 1)) = val (l.take k) + 10000 ^ k * (l.getD k 0).toNat := by
  by_cases h : k < l.length
  · rw [take_snoc' l k h, val_snoc, List.length_take, Nat.min_eq_left (by omega)]
  · rw [List.take_of_length_le (by omega), List.take_of_length_le (by omega), List.getD_eq_getElem?_getD, List.getElem?_eq_none (by omega)]; simp

/-- How long a list is without noughts at its end. -/
def trimLen (l : List Int) : Nat → Nat
  | 0 => 0
  | n + 1 => if l.getD n 0 = 0 then trimLen l n else n + 1
theorem trimLen_le (l : List Int) (n : Nat) : trimLen l n ≤ n := by
  induction n with
  | zero => simp [trimLen]
  | succ n ih => unfold trimLen; split <;> omega
theorem tight_trim (l : List Int) : ∀ n, n ≤ l.length → Tight (l.take (trimLen l n)) := by
  intro n
  induction n with
  | zero => intro _ h; simp [trimLen] at h
  | succ n ih =>
    intro hn
    unfold trimLen
    split
    · exact ih (by omega)
    · rename_i hne
      intro _
      rw [List.length_take, Nat.min_eq_left hn]
      simpa [List.getD_eq_getElem?_getD] using hne
theorem val_trim (l : List Int) : ∀ n, val (l.take (trimLen l n)) = val (l.take n) := by
  intro n
  induction n with
  | zero => simp [trimLen]
  | succ n ih =>
    unfold trimLen
    split
    · rename_i h0
      rw [ih, val_take_succ, h0]; simp
    · rfl
theorem trim_toL {l : List Int} (h : Good l) : l.take (trimLen l l.length) = toL (val l) := by
  have := val_trim l l.length
  rw [List.take_length] at this
  rw [← this, toL_val (h.take _) (tight_trim l _ (Nat.le_refl _))]
theorem toL_len {l : List Int} (h : Good l) : (toL (val l)).length ≤ l.length := by
  rw [← trim_toL h, List.length_take]; exact Nat.min_le_right _ _
theorem toL_len_lt {n k : Nat} (h : n < 10000 ^ k) : (toL n).length ≤ k := by
  induction k generalizing n with
  | zero => have : n = 0 := by simpa using h
            subst this; simp [toL_zero]
  | succ k ih =>
    by_cases hn : 0 < n
    · rw [toL_pos hn, List.length_cons]
      have : n / 10000 < 10000 ^ k := by rw [Nat.pow_succ] at h; omega
      have := ih this; omega
    · have : n = 0 := by omega
      subst this; simp [toL_zero]
end Go.Proofs.YtflojbjeloilaaaGreat
/- The contracts of the functions that compare great numbers. -/
namespace Go.Proofs.YtflojbjeloilaaaGreat
open Go.RowKit

/-- -1, 0 or 1. -/
def cmpI (x y : Int) : Int := if x < y then -1 else if y < x then 1 else 0
theorem cmpI_lt {x y : Int} (h : x < y) : cmpI x y = -1 := by unfold cmpI; rw [if_pos h]
theorem cmpI_gt {x y : Int} (h : y < x) : cmpI x y = 1 := by unfold cmpI; rw [if_neg (by omega), if_pos h]
theorem cmpI_eq (x : Int) : cmpI x x = 0 := by unfold cmpI; rw [if_neg (by omega), if_neg (by omega)]

/-! ### What the limbs say of the values -/
theorem val_ge {l : List Int} (hg : Good l) (ht : Tight l) (hp : 0 < l.length) : 10000 ^ (l.length - 1) ≤ val l := by
  have e : l = l.take (l.length - 1) ++ [l.getD (l.length - 1) 0] := by
    have := take_snoc' l (l.length - 1) (by omega)
    rw [Nat.sub_add_cancel hp, List.take_length] at this
    exact this
  have h1 := ht hp
  have h2 := (hg.getD (l.length - 1)).1
  have hv : val l = val (l.take (l.length - 1)) + 10000 ^ (l.length - 1) * (l.getD (l.length - 1) 0).toNat := by
    have := val_take_succ l (l.length - 1)
    rw [Nat.sub_add_cancel hp, List.take_length] at this
    exact this
  rw [hv]
  have h3 : 1 ≤ (l.getD (l.length - 1) 0).toNat := by omega
  have := Nat.mul_le_mul_left (10000 ^ (l.length - 1)) h3
  omega
theorem val_lt_of_len {a b : List Int} (ga : Good a) (gb : Good b) (tb : Tight b) (h : a.length < b.length) : val a < val b := by
  have h1 := val_lt ga
  have h2 := val_ge gb tb (by omega)
  have h3 : 10000 ^ a.length ≤ 10000 ^ (b.length - 1) := Nat.pow_le_pow_right (by omega) (by omega)
  omega
/-- From place k on they are alike. -/
def EqFrom (xs ys : List Int) (k : Nat) : Prop := ∀ i, k ≤ i → xs.getD i 0 = ys.getD i 0
theorem EqFrom.pred {xs ys : List Int} {k : Nat} {x y : Int} (h : EqFrom xs ys k) (hp : 0 < k) (hx : Hid (x = xs.getD (k - 1) 0)) (hy : Hid (y = ys.getD (k - 1) 0)) (e : x = y) : EqFrom xs ys (k - 1) := by
  intro i hi
  rcases Nat.lt_or_ge i k with hlt | hge
  · have : i = k - 1 := by omega
    subst this; rw [← hx.out, ← hy.out]; exact e
  · exact h i hge
theorem eqFrom_end {xs ys : List Int} {n : Nat} (hx : xs.length ≤ n) (hy : ys.length ≤ n) : EqFrom xs ys n := by
  intro i hi
  rw [List.getD_eq_getElem?_getD, List.getD_eq_getElem?_getD, List.getElem?_eq_none (by omega), List.getElem?_eq_none (by omega)]
theorem val_split (l : List Int) (k : Nat) : val l = val (l.take k) + 10000 ^ k * val (l.drop k) := by
  by_cases h : k ≤ l.length
  · have := val_append (l.take k) (l.drop k)
    rw [List.take_append_drop, List.length_take, Nat.min_eq_left h] at this
    exact this
  · rw [List.take_of_length_le (by omega), List.drop_of_length_le (by omega)]; simp [val]
theorem val_congr {a b : List Int} (h : ∀ i, a.getD i 0 = b.getD i 0) : val a = val b := by
  induction a generalizing b with
  | nil =>
    induction b with
    | nil => rfl
    | cons y r ih =>
      have h0 := h 0
      simp at h0
      subst h0
      have := ih (fun i => by have := h (i + 1); simpa using this)
      simp only [val] at this ⊢; omega
  | cons x r ih =>
    cases b with
    | nil =>
      have h0 := h 0
      simp at h0
      subst h0
      have := ih (b := []) (fun i => by have := h (i + 1); simpa using this)
      simp only [val] at this ⊢; omega
    | cons y s =>
      have h0 := h 0
      simp at h0
      subst h0
      rw [val, val, ih (fun i => by have := h (i + 1); simpa using this)]
theorem drop_congr {xs ys : List Int} {k : Nat} (h : EqFrom xs ys k) : val (xs.drop k) = val (ys.drop k) := by
  apply val_congr
  intro i
  have := h (k + i) (by omega)
  simpa [List.getD_eq_getElem?_getD, List.getElem?_drop] using this
theorem val_lt_at {xs ys : List Int} {k : Nat} {x y : Int} (gx : Good xs) (hp : 0 < k) (h : EqFrom xs ys k) (hx : Hid (x = xs.getD (k - 1) 0)) (hy : Hid (y = ys.getD (k - 1) 0)) (hlt : x < y) : val xs < val ys := by
  rw [val_split xs k, val_split ys k, drop_congr h]
  have e : k - 1 + 1 = k := by omega
  have h1 := val_take_succ xs (k - 1)
  have h2 := val_take_succ ys (k - 1)
  rw [e] at h1 h2
  rw [h1, h2, ← hx.out, ← hy.out]
  have h3 : val (xs.take (k - 1)) < 10000 ^ (k - 1) := by
    have h4 := val_lt (gx.take (k - 1))
    have h5 : 10000 ^ (xs.take (k - 1)).length ≤ 10000 ^ (k - 1) := Nat.pow_le_pow_right (by omega) (by rw [List.length_take]; omega)
    omega
  have h6 := (gx.getD (k - 1)).1
  rw [← hx.out] at h6
  have h7 : x.toNat + 1 ≤ y.toNat := by omega
  have h8 := Nat.mul_le_mul_left (10000 ^ (k - 1)) h7
  rw [Nat.mul_add] at h8
  omega
theorem val_eq_at {xs ys : List Int} (h : EqFrom xs ys 0) : val xs = val ys := val_congr (fun i => h i (by omega))

/-- What CmpNat answers. -/
def cmpB (xs ys : List Int) : Int := if okB xs = true ∧ okB ys = true then cmpI (val xs) (val ys) else 2

end Go.Proofs.YtflojbjeloilaaaGreat
