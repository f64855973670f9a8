/- Joined texts of this proof (Base, Copies, Like, TermMath), in build order. -/
import Derived.Test.YtmppiefkeeanpaaRows
import Derived.WalkKit
import Derived.WalkSpells
import Derived.Lib.Hide
import Derived.Below
import Derived.OwnWalk
import Derived.Deep.QuietTactic
import Derived.BigQuiet
import Derived.Laws.OwnMore
import Derived.OpenShut
/- Words for memory, and plain lemmas on lists of numbers: what a slice of numbers reads as; a row that a call made itself. No statement is proved here. -/
namespace Go.Proofs.Ytmppiefkeeanpaa
open Go.RowKit

def In64 (z : Int) : Prop := -9223372036854775808 ≤ z ∧ z ≤ 9223372036854775807
theorem In64.wf {z : Int} (h : In64 z) : (Lit.int .i64 z).wf = true := WalkArith.wf_i64 ⟨h.1, by have := h.2; omega⟩

/-- The slice '.slice a n c' reads as the numbers zs. -/
def Ints (w : World) (a : Option Addr) (n : Nat) (zs : List Int) : Prop :=
  zs.length = n ∧ n ≤ 1048576 ∧ (∀ z ∈ zs, In64 z) ∧
  (0 < n → ∃ b o, a = some ⟨b, o, none⟩ ∧ b < w.heap.size ∧ ∀ i, i < n → w.cell? ⟨b, o + i, none⟩ = some (.int .i64 (zs.getD i 0)))

theorem getD_mem {zs : List Int} {k : Nat} (h : k < zs.length) : zs.getD k 0 ∈ zs := by
  rw [List.getD_eq_getElem?_getD, List.getElem?_eq_getElem h]; exact List.getElem_mem h

theorem Ints.at_ {w : World} {a : Option Addr} {n : Nat} {zs : List Int} {k : Nat} (h : Ints w a n zs) (hk : k < n) :
    ∃ b o z, a = some ⟨b, o, none⟩ ∧ b < w.heap.size ∧ Hid (z = zs.getD k 0) ∧ In64 z ∧ w.cell? ⟨b, o + k, none⟩ = some (.int .i64 z) := by
  obtain ⟨hl, _, hin, hc⟩ := h
  obtain ⟨b, o, rfl, hb, hcell⟩ := hc (by omega)
  exact ⟨b, o, _, rfl, hb, rfl, hin _ (getD_mem (by omega)), hcell k hk⟩

theorem Ints.below {w w' : World} {a : Option Addr} {n : Nat} {zs : List Int} (h : Ints w a n zs) (hb : Below w.heap.size w w') : Ints w' a n zs := by
  obtain ⟨hl, hn, hin, hc⟩ := h
  refine ⟨hl, hn, hin, fun hp => ?_⟩
  obtain ⟨b, o, rfl, hbl, hcell⟩ := hc hp
  exact ⟨b, o, rfl, Nat.lt_of_lt_of_le hbl hb.size, fun i hi => (hb.cell (by exact hbl)).trans (hcell i hi)⟩

/-- An argument, as the frame of a law opens it, reads as its first numbers. -/
theorem ints_of_row {w : World} {a : Option Addr} {len cap : Nat} {zs : List Int}
    (h : (a = none ∧ len = 0 ∧ cap = 0 ∧ zs = []) ∨
      ∃ x, a = some x ∧ len ≤ cap ∧ cap ≤ maxLen ∧ zs.length = cap ∧ (∀ i, i < zs.length → w.cell? (x.add i) = some (.int .i64 (zs.getD i 0))) ∧ ∀ n ∈ zs, (Lit.int .i64 n).wf = true)
    (hn : len ≤ 1048576) : Ints w a len (zs.take len) := by
  rcases h with ⟨rfl, rfl, rfl, rfl⟩ | ⟨x, rfl, hl, hm, hz, hc, hwf⟩
  · exact ⟨rfl, by omega, fun z hz => by simp at hz, fun hp => absurd hp (by omega)⟩
  · refine ⟨by rw [List.length_take]; omega, hn, fun z hzz => ?_, fun hp => ?_⟩
    · have := bounds_i64 (hwf z (List.mem_of_mem_take hzz))
      exact ⟨this.1, by have := this.2; omega⟩
    · obtain ⟨b, off, rfl, hcell⟩ := ints_at hc (by omega)
      refine ⟨b, off, rfl, World.block_lt_of_cell? w ⟨b, off + 0, none⟩ (hcell 0 (by omega)), fun i hi => ?_⟩
      rw [hcell i (by omega)]
      simp [List.getD_eq_getElem?_getD, hi]

/-- A slice of numbers that the call made itself, from block B on. -/
def Own (w : World) (B : Nat) (a : Option Addr) (n c : Nat) (zs : List Int) : Prop :=
  w.ownsRow B 2 1 (.slice a n c) n (zs.map (Value.int .i64)) ∧ n ≤ 1048576 ∧ ∀ z ∈ zs, In64 z

section
variable {w w' : World} {B : Nat} {a : Option Addr} {n c : Nat} {zs : List Int}
theorem Own.len (h : Own w B a n c zs) : zs.length = n := by have := h.1.1; simpa using this
theorem Own.ints (h : Own w B a n c zs) : Ints w a n zs := by
  have hlen := h.len
  obtain ⟨ho, hn, hin⟩ := h
  refine ⟨hlen, hn, hin, fun hp => ?_⟩
  rcases ho.2 with ⟨_, h0⟩ | ⟨g, cap, cur, e, _, hh, _⟩
  · exact absurd hp (by omega)
  · have ea : a = some ⟨g, 0, none⟩ := by injection e
    subst ea
    refine ⟨g, 0, rfl, (ho.lt g rfl).2, fun i hi => ?_⟩
    rw [Nat.zero_add, ho.cellAt i (by omega)]
    simp [List.getD_eq_getElem?_getD, List.getElem?_eq_getElem (show i < zs.length by omega)]
theorem Own.below (h : Own w B a n c zs) (hb : Below w.heap.size w w') : Own w' B a n c zs :=
  ⟨h.1.kept (row := none) ⟨hb.os, hb.tape, hb.output, hb.size, fun k hk _ => hb.block k hk⟩ (by cases a <;> simp [Value.ownBlock]), h.2⟩
theorem Own.base {B' : Nat} (h : Own w B a n c zs) (hB : B' ≤ B) : Own w B' a n c zs := by
  refine ⟨⟨h.1.1, ?_⟩, h.2⟩
  rcases h.1.2 with hn | ⟨g, cap, cur, e, hb, r⟩
  · exact .inl hn
  · exact .inr ⟨g, cap, cur, e, by omega, r⟩
theorem Own.drewN (h : Own w B a n c zs) (k : Nat) : Own (w.drewN k) B a n c zs := h
/-- Its block: from B on, and below the heap's size. -/
theorem Own.block (h : Own w B a n c zs) : ∀ g, (Value.slice a n c).ownBlock = some g → B ≤ g ∧ g < w.heap.size := h.1.lt
/-- What is written to another block leaves it as it is. -/
theorem Own.other {row : Option Nat} (h : Own w B a n c zs) (hg : w.grownBy w' row) (hr : ∀ g, row = some g → g < B) : Own w' B a n c zs := by
  refine ⟨h.1.kept hg ?_, h.2⟩
  cases hv : (Value.slice a n c).ownBlock with
  | none => exact .inl rfl
  | some g =>
    refine .inr fun e => ?_
    have := hr g e.symm
    have := (h.block g hv).1
    omega
theorem Own.apart {row : Option Nat} {K : Nat} (h : Own w B a n c zs) (hg : w.grownBy w' row) (hK : ∀ g, (Value.slice a n c).ownBlock = some g → g < K) (hr : ∀ g, row = some g → K ≤ g) : Own w' B a n c zs := by
  refine ⟨h.1.kept hg ?_, h.2⟩
  cases hv : (Value.slice a n c).ownBlock with
  | none => exact .inl rfl
  | some g =>
    refine .inr fun e => ?_
    have := hr g e.symm
    have := hK g hv
    omega
theorem Own.later {row : Option Nat} (h : Own w B a n c zs) (hg : w.grownBy w' row) (hr : ∀ g, row = some g → w.heap.size ≤ g) : Own w' B a n c zs := by
  refine ⟨h.1.kept hg ?_, h.2⟩
  cases hv : (Value.slice a n c).ownBlock with
  | none => exact .inl rfl
  | some g =>
    refine .inr fun e => ?_
    have := hr g e.symm
    have := (h.block g hv).2
    omega
end

/-- What a function that makes a slice of the numbers zs leaves. -/
def MadeInts (w : World) (zs : List Int) (e : Ending) (w' : World) : Prop :=
  ∃ a n c, e = .returned (.slice a n c) ∧ Own w' w.heap.size a n c zs ∧ Below w.heap.size w w'

section
variable {w : World} {B g n cap : Nat} {zs : List Int}
theorem own_cell (h : w.ownsRow B 2 1 (.slice (some ⟨g, 0, none⟩) n cap) n (zs.map (Value.int .i64))) {k : Nat} (hk : k < n) :
    w.cell? ⟨g, k, none⟩ = some (.int .i64 (zs.getD k 0)) := by
  have hl : zs.length = n := by have := h.1; simpa using this
  rw [h.cellAt k (by omega)]
  simp [List.getD_eq_getElem?_getD, List.getElem?_eq_getElem (show k < zs.length by omega)]
theorem own_put (h : w.ownsRow B 2 1 (.slice (some ⟨g, 0, none⟩) n cap) n (zs.map (Value.int .i64))) (k : Nat) (z : Int) :
    (w.setCell ⟨g, k, none⟩ (.int .i64 z)).ownsRow B 2 1 (.slice (some ⟨g, 0, none⟩) n cap) n ((zs.set k z).map (Value.int .i64)) := by
  rw [List.map_set]; exact (h.stored k _).1
end

/-- The numbers of a great number: at most 100, each from 0 to 9999, the last one not 0. -/
def okB (zs : List Int) : Bool :=
  decide (zs.length ≤ 100) && zs.all (fun z => decide (0 ≤ z) && decide (z ≤ 9999)) && (zs.isEmpty || zs.getD (zs.length - 1) 0 != 0)

/-- The first k are limbs. -/
def GoodTo (zs : List Int) (k : Nat) : Prop := ∀ i, i < k → 0 ≤ zs.getD i 0 ∧ zs.getD i 0 ≤ 9999

theorem GoodTo.zero (zs : List Int) : GoodTo zs 0 := fun i hi => absurd hi (by omega)
theorem GoodTo.succ {zs : List Int} {k : Nat} {z : Int} (h : GoodTo zs k) (hz : Hid (z = zs.getD k 0)) (h0 : 0 ≤ z) (h1 : z ≤ 9999) : GoodTo zs (k + 1) := by
  intro i hi
  rcases Nat.lt_or_ge i k with hlt | hge
  · exact h i hlt
  · have : i = k := by omega
    subst this; rw [← hz.out]; exact ⟨h0, h1⟩

theorem all_iff (zs : List Int) : zs.all (fun z => decide (0 ≤ z) && decide (z ≤ 9999)) = true ↔ GoodTo zs zs.length := by
  rw [List.all_eq_true]
  constructor
  · intro h i hi
    have := h _ (getD_mem hi)
    simpa using this
  · intro h z hz
    obtain ⟨i, hi, rfl⟩ := List.getElem_of_mem hz
    have := h i hi
    rw [List.getD_eq_getElem?_getD, List.getElem?_eq_getElem hi] at this
    simpa using this

theorem okB_long {zs : List Int} (h : 100 < zs.length) : okB zs = false := by
  unfold okB; rw [decide_eq_false (by omega)]; rfl
theorem okB_bad {zs : List Int} {k : Nat} {z : Int} (hk : k < zs.length) (hz : Hid (z = zs.getD k 0)) (h : z < 0 ∨ 9999 < z) : okB zs = false := by
  have : zs.all (fun z => decide (0 ≤ z) && decide (z ≤ 9999)) = false := by
    rw [← Bool.not_eq_true, all_iff]
    intro hg
    have := hg k hk
    rw [← hz.out] at this; omega
  unfold okB; rw [this]; simp
theorem okB_nil {zs : List Int} (h : zs.length = 0) : okB zs = true := by
  have : zs = [] := List.eq_nil_of_length_eq_zero h
  subst this; rfl
theorem okB_last {zs : List Int} {z : Int} (hl : zs.length ≤ 100) (hg : GoodTo zs zs.length) (hp : 0 < zs.length) (hz : Hid (z = zs.getD (zs.length - 1) 0)) : okB zs = (z != 0) := by
  unfold okB
  rw [decide_eq_true hl, (all_iff zs).2 hg, ← hz.out]
  cases zs with
  | nil => simp at hp
  | cons x r => simp
theorem okB_good {zs : List Int} (h : okB zs = true) : zs.length ≤ 100 ∧ GoodTo zs zs.length ∧ (0 < zs.length → zs.getD (zs.length - 1) 0 ≠ 0) := by
  unfold okB at h
  simp only [Bool.and_eq_true, Bool.or_eq_true, decide_eq_true_eq, bne_iff_ne] at h
  refine ⟨h.1.1, (all_iff zs).1 h.1.2, fun hp => ?_⟩
  rcases h.2 with h2 | h2
  · cases zs with
    | nil => simp at hp
    | cons x r => simp at h2
  · exact h2

/-- The world has at most drawn: nothing in memory has turned. -/
def Still (w w' : World) : Prop := ∃ j, w' = w.drewN j
theorem Still.refl (w : World) : Still w w := ⟨0, rfl⟩
theorem Still.draw {w w' : World} (h : Still w w') (n : Nat) : Still w (w'.drewN n) := by
  obtain ⟨j, rfl⟩ := h
  exact ⟨j + n, World.drewN_drewN _ _ _⟩
theorem Still.drew (w : World) (n : Nat) : Still w (w.drewN n) := ⟨n, rfl⟩
theorem Still.trans {a b c : World} (h : Still a b) (k : Still b c) : Still a c := by
  obtain ⟨j, rfl⟩ := k
  exact h.draw j
theorem Still.below {w w' : World} (h : Still w w') (B : Nat) : Below B w w' := by
  obtain ⟨j, rfl⟩ := h
  exact ⟨rfl, rfl, rfl, Nat.le_refl _, fun _ _ => rfl⟩
theorem Still.size {w w' : World} (h : Still w w') : w'.heap.size = w.heap.size := by
  obtain ⟨j, rfl⟩ := h
  rfl
theorem Ints.still {w w' : World} {a : Option Addr} {n : Nat} {zs : List Int} (h : Ints w a n zs) (hs : Still w w') : Ints w' a n zs := by
  obtain ⟨j, rfl⟩ := hs
  exact h
theorem Own.still {w w' : World} {B : Nat} {a : Option Addr} {n c : Nat} {zs : List Int} (h : Own w B a n c zs) (hs : Still w w') : Own w' B a n c zs := by
  obtain ⟨j, rfl⟩ := hs
  exact h
theorem still_quiet {P : Program} {f : FuncId} {args : Array Value} {w : World} {n : Nat} {v : Value}
    (h : Calls P f args (w.drewN n) fun e w' => e = .returned v ∧ Still (w.drewN n) w') : Calls P f args (w.drewN n) fun e w' => e = .returned v ∧ ∃ m, w' = w.drewN m :=
  h.mono fun _ _ ⟨he, m, hm⟩ => ⟨he, n + m, by rw [hm, World.drewN_drewN]⟩
theorem pure_quiet {P : Program} {f : FuncId} {args : Array Value} {w : World} {n : Nat} {v : Value}
    (h : Calls P f args (w.drewN n) fun e w' => e = .returned v ∧ w.drewN n = w') : Calls P f args (w.drewN n) fun e w' => e = .returned v ∧ ∃ m, w' = w.drewN m :=
  h.mono fun _ _ ⟨he, hm⟩ => ⟨he, n, hm.symm⟩
theorem pure_quiet2 {P : Program} {f : FuncId} {args : Array Value} {w : World} {k n : Nat} {v : Value}
    (h : Calls P f args (w.drewN (k + n)) fun e w' => e = .returned v ∧ w.drewN (k + n) = w') : Calls P f args (w.drewN (k + n)) fun e w' => e = .returned v ∧ ∃ m, w' = w.drewN (k + m) :=
  h.mono fun _ _ ⟨he, hm⟩ => ⟨he, n, hm.symm⟩
theorem still_quiet2 {P : Program} {f : FuncId} {args : Array Value} {w : World} {k n : Nat} {v : Value}
    (h : Calls P f args (w.drewN (k + n)) fun e w' => e = .returned v ∧ Still (w.drewN (k + n)) w') : Calls P f args (w.drewN (k + n)) fun e w' => e = .returned v ∧ ∃ m, w' = w.drewN (k + m) :=
  h.mono fun _ _ ⟨he, m, hm⟩ => ⟨he, n + m, by rw [hm, World.drewN_drewN, Nat.add_assoc]⟩
theorem below_dn {B : Nat} {a w : World} (h : Below B a w) (n : Nat) : Below B a (w.drewN n) := h.trans ⟨rfl, rfl, rfl, Nat.le_refl _, fun _ _ => rfl⟩
theorem ret_bool {a b : Bool} (h : a = b) : Ending.returned (.bool a) = .returned (.bool b) := by rw [h]
theorem ret_int {k : IntKind} {a b : Int} (h : a = b) : Ending.returned (.int k a) = .returned (.int k b) := by rw [h]
end Go.Proofs.Ytmppiefkeeanpaa
/- The contracts of the laws' own helpers on slices of numbers: a copy (toInt64S), a comparison (eqInt64S), marks written into a slice (markInt64S), marks asked for (heldInt64S). -/
namespace Go.Proofs.Ytmppiefkeeanpaa
open Go.RowKit

theorem info_int64 : (Try.prog.info? 2).map (fun i => (i.zero, i.size, i.bytes)) = some (some (.int .i64 0), 1, 8) := by kernel_rfl

theorem eqTo_all {xs ys : List Int} (hl : xs.length = ys.length) (h : ∀ i, i < xs.length → xs.getD i 0 = ys.getD i 0) : xs = ys := by
  apply List.ext_getElem hl
  intro i h1 h2
  have := h i h1
  simpa [List.getD_eq_getElem?_getD, h1, h2] using this

/-- The first k are alike. -/
def EqTo (xs ys : List Int) (k : Nat) : Prop := ∀ i, i < k → xs.getD i 0 = ys.getD i 0
theorem EqTo.zero (xs ys : List Int) : EqTo xs ys 0 := fun i hi => absurd hi (by omega)
theorem EqTo.succ {xs ys : List Int} {k : Nat} {x y : Int} (h : EqTo xs ys k) (hx : Hid (x = xs.getD k 0)) (hy : Hid (y = ys.getD k 0)) (e : x = y) : EqTo xs ys (k + 1) := by
  intro i hi
  rcases Nat.lt_or_ge i k with hlt | hge
  · exact h i hlt
  · have : i = k := by omega
    subst this; rw [← hx.out, ← hy.out]; exact e

set_option maxHeartbeats 400000 in
theorem eqInt64S_any (a b : Option Addr) (n m c d : Nat) (xs ys : List Int) (w : World) (hx : Ints w a n xs) (hy : Ints w b m ys) :
    Calls Try.prog 55 #[.slice a n c, .slice b m d] w fun e w' => e = .returned (.bool (decide (xs = ys))) ∧ ∃ j, w' = w.drewN j := by
  have HL := Lib.hid hx.1
  have HM := Lib.hid hy.1
  have hbd := hx.2.1
  have hbe := hy.2.1
  by_cases hnm : n = m
  · subst hnm
    have hne0 : ((n : Int) != (n : Int)) = false := by simp
    go_enter Try.func55, Try.ntmps55
    go_wp2
    go_loopw [5] (fun i wr => ∃ k : Nat, k ≤ n ∧ i = .int .i64 k ∧ EqTo xs ys k ∧ ∃ j, wr = w.drewN j) (fun i _ => n - (intOf i).toNat)
    case atStart => exact ⟨0, Nat.zero_le _, rfl, EqTo.zero _ _, 0, rfl⟩
    case round =>
      obtain ⟨k, hk, rfl, hg, j, rfl⟩ := hrel
      by_cases hlt : k < n
      · obtain ⟨b1, o1, x, rfl, hb1, hxk, hin1, hc1⟩ := hx.at_ hlt
        obtain ⟨b2, o2, y, rfl, hb2, hyk, hin2, hc2⟩ := hy.at_ hlt
        have hd1 : (w.drewN j).cell? ⟨b1, o1 + k, none⟩ = some (.int .i64 x) := hc1
        have hd2 : (w.drewN j).cell? ⟨b2, o2 + k, none⟩ = some (.int .i64 y) := hc2
        by_cases e : x = y
        · subst e
          go_wp2
          go_quiet (fail)
          go_wp2
          go_roundw
          case rel => exact ⟨k + 1, by omega, by go_num, hg.succ hxk hyk rfl, _, rfl⟩
          case measure => simp [intOf]; omega
        · have hne : (x != y) = true := by simpa using e
          go_wp2
          go_quiet (fail)
          go_wp2
          go_ret
          exact ⟨ret_bool (decide_eq_false (fun h => e (by rw [hxk.out, hyk.out, h]))).symm, _, World.drewN_drewN _ _ _⟩
      · obtain rfl : n = k := by omega
        go_wp2
        go_ret
        exact ⟨ret_bool (decide_eq_true (eqTo_all (HL.out.trans HM.out.symm) (by rw [HL.out]; exact hg))).symm, _, rfl⟩
  · have hne : ((n : Int) != (m : Int)) = true := by simp; omega
    go_enter Try.func55, Try.ntmps55
    go_wp2
    go_ret
    exact ⟨ret_bool (decide_eq_false (fun h => hnm (by rw [← HL.out, ← HM.out, h]))).symm, 0, rfl⟩

/-- The first k of zs, noughts behind. -/
def CopyTo (zs : List Int) (n k : Nat) : List Int := zs.take k ++ List.replicate (n - k) 0
theorem copyTo_zero (zs : List Int) (n : Nat) : CopyTo zs n 0 = List.replicate n 0 := by simp [CopyTo]
theorem copyTo_all {zs : List Int} {n : Nat} (h : zs.length = n) : CopyTo zs n n = zs := by subst h; simp [CopyTo]
theorem copyTo_succ {zs : List Int} {n k : Nat} {z : Int} (h : zs.length = n) (hk : k < n) (hz : Hid (z = zs.getD k 0)) : (CopyTo zs n k).set k z = CopyTo zs n (k + 1) := by
  subst h
  have e : z = zs[k] := by rw [hz.out]; simp [List.getD_eq_getElem?_getD, hk]
  subst e
  apply List.ext_getElem?
  intro i
  unfold CopyTo
  rw [List.getElem?_set]
  by_cases hi : k = i
  · subst hi
    have h1 : k < (zs.take k ++ List.replicate (zs.length - k) 0).length := by simp; omega
    rw [if_pos rfl, if_pos h1, List.getElem?_append_left (by simp; omega)]
    simp
  · rw [if_neg hi]
    simp only [List.getElem?_append, List.length_take, List.getElem?_take, List.getElem?_replicate, Nat.min_eq_left (show k ≤ zs.length by omega), Nat.min_eq_left (show k + 1 ≤ zs.length by omega)]
    repeat' split
    all_goals first | rfl | omega

set_option maxHeartbeats 400000 in
theorem toInt64S_any (a : Option Addr) (n c : Nat) (zs : List Int) (w : World) (h : Ints w a n zs) :
    Calls Try.prog 51 #[.slice a n c] w (MadeInts w zs) := by
  have HL := Lib.hid h.1
  have hbd := h.2.1
  obtain ⟨i0, hi, hz0, hz1, hz2⟩ := info_parts info_int64
  have HI := Lib.hid hi
  have HZ0 := Lib.hid hz0
  have HZ1 := Lib.hid hz1
  have HZ2 := Lib.hid hz2
  clear hi hz0 hz1 hz2
  go_enter Try.func51, Try.ntmps51
  go_wp2_with (at_make; refine wpList_make_full _ rfl _ _ 28 rfl w.heap.size 2 i0 (.int .i64 0) 1 Try.underlying28 HI.out HZ0.out HZ1.out _ _ _ _ n rfl rfl rfl rfl ?b2 ?b3 ?b4 ?_)
  case b2 => rw [HZ2.out]; omega
  case b3 => unfold maxLen; omega
  case b4 => exact Nat.le_refl _
  intro w1 hown hgrow
  have hb1 : Below w.heap.size w w1 := (Below.refl _ _).grown hgrow (Nat.le_refl _) (fun k hk => by cases hk)
  have hsz : w.heap.size < w1.heap.size := (hown.lt w.heap.size rfl).2
  have HO : w1.ownsRow w.heap.size 2 1 (.slice (some ⟨w.heap.size, 0, none⟩) n n) n ((CopyTo zs n 0).map (Value.int .i64)) := by
    rw [copyTo_zero]
    have e : (madeCells #[Value.int IntKind.i64 0] n).toList = (List.replicate n (0 : Int)).map (Value.int .i64) := by
      rw [toList_madeCells_one]; simp
    rw [← e]; exact hown
  clear hown hgrow
  go_wp2
  go_loopw [4] (fun i wr => ∃ k : Nat, k ≤ n ∧ i = .int .i64 k ∧ wr.ownsRow w.heap.size 2 1 (.slice (some ⟨w.heap.size, 0, none⟩) n n) n ((CopyTo zs n k).map (Value.int .i64)) ∧ Below w.heap.size w wr) (fun i _ => n - (intOf i).toNat)
  case atStart => exact ⟨0, Nat.zero_le _, rfl, HO, hb1⟩
  case round =>
    clear HO hb1 hsz
    obtain ⟨k, hk, rfl, hown, hbel⟩ := hrel
    by_cases hlt : k < n
    · obtain ⟨b, o, z, rfl, hb, hz, hin, hc⟩ := h.at_ hlt
      have hc1 : wr.cell? ⟨b, o + k, none⟩ = some (.int .i64 z) := (hbel.cell (by exact hb)).trans hc
      have hc2 := own_cell hown hlt
      generalize (CopyTo zs n k).getD k 0 = y at hc2
      have hf2 := hown.frozenAt k
      have HO2 := own_put hown k z
      rw [copyTo_succ HL.out hlt hz] at HO2
      have hbel2 : Below w.heap.size w (wr.setCell ⟨w.heap.size, k, none⟩ (.int .i64 z)) := hbel.setCell (Nat.le_refl _) _
      clear hc hown hbel
      go_wp2
      go_roundw
      case rel => exact ⟨k + 1, by omega, by go_num, HO2, hbel2⟩
      case measure => simp [intOf]; omega
    · obtain rfl : n = k := by omega
      go_wp2
      go_ret
      rw [copyTo_all HL.out] at hown
      exact ⟨_, _, _, rfl, ⟨hown, hbd, h.2.2.1⟩, hbel⟩

/-- The marks k, k + 1, .. -/
def marks (k : Int) (n : Nat) : List Int := (List.range n).map (fun i : Nat => k + (i : Int))
theorem marks_len (k : Int) (n : Nat) : (marks k n).length = n := by simp [marks]
theorem marks_getD (k : Int) (n i : Nat) (h : i < n) : (marks k n).getD i 0 = k + (i : Int) := by simp [marks, List.getD_eq_getElem?_getD, h]
theorem marks_mem {k z : Int} {n : Nat} (h : z ∈ marks k n) : k ≤ z ∧ z < k + n := by
  obtain ⟨i, hi, rfl⟩ := List.mem_map.1 h
  have := List.mem_range.1 hi
  exact ⟨by omega, by omega⟩
/-- The first j marks written over zs. -/
def MarkTo (zs : List Int) (k : Int) (j : Nat) : List Int := marks k j ++ zs.drop j
theorem markTo_zero (zs : List Int) (k : Int) : MarkTo zs k 0 = zs := by simp [MarkTo, marks]
theorem markTo_all {zs : List Int} {n : Nat} (k : Int) (h : zs.length = n) : MarkTo zs k n = marks k n := by subst h; simp [MarkTo]
theorem markTo_succ {zs : List Int} {n j : Nat} (k : Int) (h : zs.length = n) (hj : j < n) : (MarkTo zs k j).set j (k + (j : Int)) = MarkTo zs k (j + 1) := by
  subst h
  apply List.ext_getElem?
  intro i
  unfold MarkTo marks
  rw [List.getElem?_set]
  by_cases hi : j = i
  · subst hi
    have h1 : j < ((List.range j).map (fun i : Nat => k + (i : Int)) ++ zs.drop j).length := by simp; omega
    rw [if_pos rfl, if_pos h1, List.getElem?_append_left (by simp)]
    simp
  · rw [if_neg hi]
    simp only [List.getElem?_append, List.length_map, List.length_range, List.getElem?_map, List.getElem?_drop]
    by_cases h1 : i < j
    · rw [if_pos h1, if_pos (show i < j + 1 by omega), List.getElem?_range h1, List.getElem?_range (show i < j + 1 by omega)]
    · rw [if_neg h1, if_neg (show ¬ i < j + 1 by omega), show j + (i - j) = j + 1 + (i - (j + 1)) by omega]

end Go.Proofs.Ytmppiefkeeanpaa
/- The contracts of the laws' own helpers big and likeInts. -/
namespace Go.Proofs.Ytmppiefkeeanpaa
open Go.RowKit

theorem big_any (a : Option Addr) (n c : Nat) (w : World) : Calls Try.prog 8 #[.slice a n c] w fun e w' => e = .returned (.bool (decide (4096 < n))) ∧ w = w' := by
  go_enter Try.func8, Try.ntmps8
  go_wp2
  go_ret
  exact ⟨ret_bool (by simp only [decide_eq_decide]; omega), rfl⟩

end Go.Proofs.Ytmppiefkeeanpaa
/- Plain mathematics of lists of Terms: what each takes, the depth that is left, trees and their Terms in order, where a part begins, names rising. No Go text here. -/
namespace Go.Proofs.Ytmppiefkeeanpaa
open Go.RowKit

/-- A Term: its Op and its N. -/
abbrev Tm := Int × Int

/-- How many a Term of that Op takes; -1 of any other number. -/
def takesI (op : Int) : Int :=
  if op = 0 ∨ op = 1 then 0 else if op = 2 ∨ op = 3 ∨ op = 4 then 1 else if op = 17 then 3 else if 5 ≤ op ∧ op ≤ 16 then 2 else -1
theorem takesI_range (op : Int) : -1 ≤ takesI op ∧ takesI op ≤ 3 := by unfold takesI; split <;> (try split) <;> (try split) <;> (try split) <;> omega
theorem takesI_neg (op : Int) : takesI op = -1 ↔ op < 0 ∨ 17 < op := by unfold takesI; split <;> (try split) <;> (try split) <;> (try split) <;> omega

/-- A Term that may stand in an expression. -/
def tOkB (t : Tm) : Bool := decide (0 ≤ takesI t.1) && decide (0 ≤ t.2) && decide (t.2 ≤ 255) && (decide (t.1 ≤ 2) || decide (t.2 = 0))
theorem tOkB_iff (t : Tm) : tOkB t = true ↔ 0 ≤ takesI t.1 ∧ 0 ≤ t.2 ∧ t.2 ≤ 255 ∧ (t.1 ≤ 2 ∨ t.2 = 0) := by
  unfold tOkB; simp only [Bool.and_eq_true, Bool.or_eq_true, decide_eq_true_eq]; exact ⟨fun h => ⟨h.1.1.1, h.1.1.2, h.1.2, h.2⟩, fun h => ⟨⟨⟨h.1, h.2.1⟩, h.2.2.1⟩, h.2.2.2⟩⟩

/-- How many are left behind the Terms, from d on; none where one is wrong, or takes what is not there. -/
def runD : Int → List Tm → Option Int
  | d, [] => some d
  | d, t :: r => if tOkB t = true ∧ takesI t.1 ≤ d then runD (d + 1 - takesI t.1) r else none
theorem runD_append (d : Int) (a b : List Tm) : runD d (a ++ b) = (runD d a).bind (fun x => runD x b) := by
  induction a generalizing d with
  | nil => rfl
  | cons t r ih => simp only [List.cons_append, runD]; split <;> simp [ih]
theorem runD_nonneg {d x : Int} {ts : List Tm} (h : runD d ts = some x) (hd : 0 ≤ d) : 0 ≤ x := by
  induction ts generalizing d with
  | nil => simp [runD] at h; omega
  | cons t r ih =>
    simp only [runD] at h
    split at h
    · next hc => exact ih h (by omega)
    · cases h
theorem runD_pos {d x : Int} {ts : List Tm} (h : runD d ts = some x) (hd : 0 ≤ d) (hn : 0 < ts.length) : 1 ≤ x := by
  induction ts generalizing d with
  | nil => simp at hn
  | cons t r ih =>
    simp only [runD] at h
    split at h
    · next hc =>
      cases r with
      | nil => simp [runD] at h; omega
      | cons u s => exact ih h (by omega) (by simp)
    · cases h
theorem runD_le {d x : Int} {ts : List Tm} (h : runD d ts = some x) : x ≤ d + ts.length := by
  induction ts generalizing d with
  | nil => simp [runD] at h; simp; omega
  | cons t r ih =>
    simp only [runD] at h
    split at h
    · next hc =>
      have := ih h
      have hk := ((tOkB_iff t).1 hc.1).1
      simp; omega
    · cases h

/-- An expression. -/
def expB (ts : List Tm) : Bool := decide (ts.length ≤ 3000) && (runD 0 ts == some 1)
theorem expB_iff (ts : List Tm) : expB ts = true ↔ ts.length ≤ 3000 ∧ runD 0 ts = some 1 := by
  unfold expB; simp
theorem expB_long {ts : List Tm} (h : 3000 < ts.length) : expB ts = false := by
  unfold expB; rw [decide_eq_false (by omega)]; rfl

/-- The Term at a place. -/
def tmAt (ts : List Tm) (k : Nat) : Tm := ts.getD k (0, 0)
theorem tmAt_mem {ts : List Tm} {k : Nat} (h : k < ts.length) : tmAt ts k ∈ ts := by
  unfold tmAt; rw [List.getD_eq_getElem?_getD, List.getElem?_eq_getElem h]; exact List.getElem_mem h
theorem tm_snoc (ts : List Tm) (k : Nat) (h : k < ts.length) : ts.take (k + 1) = ts.take k ++ [tmAt ts k] := by
  unfold tmAt; rw [List.take_succ_eq_append_getElem h, List.getD_eq_getElem?_getD, List.getElem?_eq_getElem h]; rfl
theorem tm_split (ts : List Tm) (k : Nat) (h : k < ts.length) : ts = ts.take k ++ tmAt ts k :: ts.drop (k + 1) := by
  have h1 := List.take_append_drop (k + 1) ts
  rw [tm_snoc ts k h, List.append_assoc] at h1
  exact h1.symm
theorem tmAt_append_left {a b : List Tm} {k : Nat} (h : k < a.length) : tmAt (a ++ b) k = tmAt a k := by
  unfold tmAt; rw [List.getD_eq_getElem?_getD, List.getD_eq_getElem?_getD, List.getElem?_append_left h]
theorem tmAt_append_right {a b : List Tm} {k : Nat} : tmAt (a ++ b) (a.length + k) = tmAt b k := by
  unfold tmAt; rw [List.getD_eq_getElem?_getD, List.getD_eq_getElem?_getD, List.getElem?_append_right (by omega), Nat.add_sub_cancel_left]

theorem runD_step {ts : List Tm} {k : Nat} {d : Int} (hk : k < ts.length) (h : runD 0 (ts.take k) = some d) (ho : tOkB (tmAt ts k) = true) (ht : takesI (tmAt ts k).1 ≤ d) :
    runD 0 (ts.take (k + 1)) = some (d + 1 - takesI (tmAt ts k).1) := by
  rw [tm_snoc ts k hk, runD_append, h]; simp only [Option.bind_some, runD]; rw [if_pos ⟨ho, ht⟩]
theorem runD_bad {ts : List Tm} {k : Nat} {d : Int} (hk : k < ts.length) (h : runD 0 (ts.take k) = some d) (hb : tOkB (tmAt ts k) = false ∨ d < takesI (tmAt ts k).1) :
    runD 0 ts = none := by
  rw [tm_split ts k hk, runD_append, h]; simp only [Option.bind_some, runD]
  rw [if_neg]
  rintro ⟨h1, h2⟩
  rcases hb with hb | hb
  · rw [hb] at h1; cases h1
  · omega
theorem expB_bad {ts : List Tm} {k : Nat} {d : Int} (hk : k < ts.length) (h : runD 0 (ts.take k) = some d) (hb : tOkB (tmAt ts k) = false ∨ d < takesI (tmAt ts k).1) : expB ts = false := by
  unfold expB; rw [runD_bad hk h hb]; simp
theorem expB_end {ts : List Tm} {d : Int} (hl : ts.length ≤ 3000) (h : runD 0 ts = some d) : expB ts = (d == 1) := by
  unfold expB; rw [decide_eq_true hl, h]; simp
/-- Of what is right, each beginning is. -/
theorem runD_take {ts : List Tm} {x : Int} (h : runD 0 ts = some x) (k : Nat) : ∃ d, runD 0 (ts.take k) = some d ∧ 0 ≤ d := by
  have h1 := List.take_append_drop k ts
  rw [← h1, runD_append] at h
  cases hd : runD 0 (ts.take k) with
  | none => rw [hd] at h; cases h
  | some d => exact ⟨d, rfl, runD_nonneg hd (by omega)⟩
theorem runD_at {ts : List Tm} {x d : Int} {k : Nat} (h : runD 0 ts = some x) (hk : k < ts.length) (hd : runD 0 (ts.take k) = some d) :
    tOkB (tmAt ts k) = true ∧ takesI (tmAt ts k).1 ≤ d ∧ runD 0 (ts.take (k + 1)) = some (d + 1 - takesI (tmAt ts k).1) := by
  have h1 : tOkB (tmAt ts k) = true := by
    cases hb : tOkB (tmAt ts k) with
    | true => rfl
    | false => rw [runD_bad hk hd (.inl hb)] at h; cases h
  have h2 : takesI (tmAt ts k).1 ≤ d := by
    rcases Int.lt_or_le d (takesI (tmAt ts k).1) with hb | hb
    · rw [runD_bad hk hd (.inr hb)] at h; cases h
    · exact hb
  exact ⟨h1, h2, runD_step hk hd h1 h2⟩

/-! ### Where a part begins: back from a place, till nothing more is needed -/
def scan (ts : List Tm) : Nat → Int → Nat
  | 0, _ => 0
  | i + 1, need => if need - 1 + takesI (tmAt ts i).1 = 0 then i else scan ts i (need - 1 + takesI (tmAt ts i).1)
theorem scan_le (ts : List Tm) : ∀ (i : Nat) (need : Int), scan ts i need ≤ i := by
  intro i
  induction i with
  | zero => intro n; exact Nat.le_refl _
  | succ i ih =>
    intro n
    simp only [scan]
    split
    · omega
    · have := ih (n - 1 + takesI (tmAt ts i).1); omega
theorem scan_lt (ts : List Tm) (i : Nat) (need : Int) (h : 0 < i) : scan ts i need < i := by
  obtain ⟨j, rfl⟩ : ∃ j, i = j + 1 := ⟨i - 1, by omega⟩
  simp only [scan]
  split
  · omega
  · have := scan_le ts j (need - 1 + takesI (tmAt ts j).1); omega
/-- What FirstOf answers. -/
def firstI (ts : List Tm) (at_ : Int) : Int := if expB ts = true ∧ 0 ≤ at_ ∧ at_ < (ts.length : Int) then (scan ts (at_.toNat + 1) 1 : Nat) else -1

/-! ### Trees -/
inductive Tr where
  | node (op n : Int) (kids : List Tr)
mutual
def Tr.flat : Tr → List Tm
  | .node op n kids => Tr.flats kids ++ [(op, n)]
def Tr.flats : List Tr → List Tm
  | [] => []
  | t :: r => t.flat ++ Tr.flats r
end
mutual
def Tr.okT : Tr → Prop
  | .node op n kids => tOkB (op, n) = true ∧ (kids.length : Int) = takesI op ∧ Tr.oks kids
def Tr.oks : List Tr → Prop
  | [] => True
  | t :: r => t.okT ∧ Tr.oks r
end
theorem flats_append (a b : List Tr) : Tr.flats (a ++ b) = Tr.flats a ++ Tr.flats b := by
  induction a with
  | nil => simp [Tr.flats]
  | cons t r ih => simp [Tr.flats, ih]
theorem flats_one (t : Tr) : Tr.flats [t] = t.flat := by simp [Tr.flats]
theorem oks_append (a b : List Tr) : Tr.oks (a ++ b) ↔ Tr.oks a ∧ Tr.oks b := by
  induction a with
  | nil => simp [Tr.oks]
  | cons t r ih => simp [Tr.oks, ih, and_assoc]
theorem oks_iff (a : List Tr) : Tr.oks a ↔ ∀ t ∈ a, t.okT := by
  induction a with
  | nil => simp [Tr.oks]
  | cons t r ih => simp [Tr.oks, ih]
theorem flat_pos : ∀ t : Tr, 0 < t.flat.length
  | .node op n kids => by simp [Tr.flat]
mutual
theorem runD_flat : ∀ (t : Tr) (d : Int), 0 ≤ d → t.okT → runD d t.flat = some (d + 1)
  | .node op n kids, d, hd, h => by
    simp only [Tr.okT] at h
    simp only [Tr.flat]
    rw [runD_append, runD_flats kids d hd h.2.2]
    simp only [Option.bind_some, runD]
    rw [if_pos ⟨h.1, by have := h.2.1; omega⟩]
    congr 1
    omega
theorem runD_flats : ∀ (ts : List Tr) (d : Int), 0 ≤ d → Tr.oks ts → runD d (Tr.flats ts) = some (d + ts.length)
  | [], d, _, _ => by simp [Tr.flats, runD]
  | t :: r, d, hd, h => by
    simp only [Tr.oks] at h
    simp only [Tr.flats]
    rw [runD_append, runD_flat t d hd h.1]
    simp only [Option.bind_some]
    rw [runD_flats r (d + 1) (by omega) h.2]
    congr 1
    simp; omega
end
mutual
/-- Back over a whole tree one needs one less; with one needed it is where the tree begins. -/
theorem scan_flat : ∀ (t : Tr) (p q : List Tm) (m : Int), 1 ≤ m → t.okT →
    scan (p ++ (t.flat ++ q)) (p.length + t.flat.length) m = if m = 1 then p.length else scan (p ++ (t.flat ++ q)) p.length (m - 1)
  | .node op n kids, p, q, m, hm, h => by
    simp only [Tr.okT] at h
    have e1 : p.length + (Tr.node op n kids).flat.length = (p.length + (Tr.flats kids).length) + 1 := by simp [Tr.flat]; omega
    have e2 : tmAt (p ++ ((Tr.node op n kids).flat ++ q)) (p.length + (Tr.flats kids).length) = (op, n) := by
      rw [tmAt_append_right]
      simp only [Tr.flat, List.append_assoc]
      rw [show (Tr.flats kids).length = (Tr.flats kids).length + 0 from rfl, tmAt_append_right]
      rfl
    rw [e1]
    simp only [scan]
    rw [e2]
    simp only []
    have e3 : p ++ ((Tr.node op n kids).flat ++ q) = p ++ (Tr.flats kids ++ ((op, n) :: q)) := by simp [Tr.flat]
    rw [e3]
    cases kids with
    | nil =>
      have h0 : takesI op = 0 := by have := h.2.1; simp at this; omega
      rw [h0]
      simp only [Tr.flats, List.length_nil, Nat.add_zero]
      by_cases h1 : m = 1
      · subst h1; simp
      · rw [if_neg (by omega), if_neg h1]; congr 1; omega
    | cons k ks =>
      have hk : 1 ≤ takesI op := by have := h.2.1; simp at this; omega
      rw [if_neg (by omega)]
      have := scan_flats (k :: ks) p ((op, n) :: q) (m - 1 + takesI op) (by have := h.2.1; omega) (by simp) h.2.2
      rw [this]
      have e4 : m - 1 + takesI op - ((k :: ks).length : Int) = m - 1 := by have := h.2.1; omega
      rw [e4]
      by_cases h1 : m = 1
      · subst h1; simp
      · rw [if_neg (by omega), if_neg h1]
theorem scan_flats : ∀ (ts : List Tr) (p q : List Tm) (m : Int), (ts.length : Int) ≤ m → ts ≠ [] → Tr.oks ts →
    scan (p ++ (Tr.flats ts ++ q)) (p.length + (Tr.flats ts).length) m = if m - ts.length = 0 then p.length else scan (p ++ (Tr.flats ts ++ q)) p.length (m - ts.length)
  | [], _, _, _, _, h, _ => absurd rfl h
  | [t], p, q, m, hm, _, h => by
    simp only [Tr.oks] at h
    simp only [Tr.flats, List.append_nil]
    rw [scan_flat t p q m (by simpa using hm) h.1]
    by_cases h1 : m = 1
    · subst h1; simp
    · rw [if_neg h1, if_neg (by simp; omega)]; rfl
  | t :: u :: r, p, q, m, hm, _, h => by
    simp only [Tr.oks] at h
    have ih := scan_flats (u :: r) (p ++ t.flat) q m (by simp at hm ⊢; omega) (by simp) (by simp only [Tr.oks]; exact h.2)
    have e1 : p ++ (Tr.flats (t :: u :: r) ++ q) = p ++ t.flat ++ (Tr.flats (u :: r) ++ q) := by simp [Tr.flats]
    have e2 : p.length + (Tr.flats (t :: u :: r)).length = (p ++ t.flat).length + (Tr.flats (u :: r)).length := by simp [Tr.flats]; omega
    rw [e1, e2, ih, if_neg (by simp at hm ⊢; omega)]
    have e3 : p ++ t.flat ++ (Tr.flats (u :: r) ++ q) = p ++ (t.flat ++ (Tr.flats (u :: r) ++ q)) := by simp
    rw [e3]
    have := scan_flat t p (Tr.flats (u :: r) ++ q) (m - ((u :: r).length : Int)) (by simp at hm ⊢; omega) h.1
    rw [List.length_append, this]
    have e4 : m - ((u :: r).length : Int) - 1 = m - ((t :: u :: r).length : Int) := by simp; omega
    rw [e4]
    by_cases h1 : m - ((u :: r).length : Int) = 1
    · rw [if_pos h1, if_pos (by omega)]
    · rw [if_neg h1, if_neg (by omega)]
end

/-! ### The stack of trees behind some Terms -/
def stepS (S : List Tr) (t : Tm) : List Tr := S.take (S.length - (takesI t.1).toNat) ++ [.node t.1 t.2 (S.drop (S.length - (takesI t.1).toNat))]
def stackOf (ts : List Tm) : List Tr := ts.foldl stepS []
theorem stackOf_snoc (ts : List Tm) (t : Tm) : stackOf (ts ++ [t]) = stepS (stackOf ts) t := by simp [stackOf]
theorem stackOf_succ (ts : List Tm) (k : Nat) (h : k < ts.length) : stackOf (ts.take (k + 1)) = stepS (stackOf (ts.take k)) (tmAt ts k) := by
  rw [tm_snoc ts k h, stackOf_snoc]
theorem stack_is : ∀ (n : Nat) (ts : List Tm) (d : Int), ts.length = n → runD 0 ts = some d →
    ((stackOf ts).length : Int) = d ∧ Tr.flats (stackOf ts) = ts ∧ Tr.oks (stackOf ts) := by
  intro n
  induction n with
  | zero =>
    intro ts d hl h
    have : ts = [] := List.eq_nil_of_length_eq_zero hl
    subst this
    simp [runD] at h
    simp [stackOf, Tr.flats, Tr.oks]; omega
  | succ n ih =>
    intro ts d hl h
    have e := tm_snoc ts n (by omega)
    rw [List.take_of_length_le (by omega)] at e
    obtain ⟨c, hc, hc0⟩ := runD_take h n
    obtain ⟨h1, h2, h3⟩ := runD_at h (by omega) hc
    rw [List.take_of_length_le (by omega), h] at h3
    obtain ⟨i1, i2, i3⟩ := ih (ts.take n) c (by simp; omega) hc
    have hk := ((tOkB_iff _).1 h1).1
    rw [e, stackOf_snoc]
    generalize tmAt ts n = t at *
    generalize stackOf (ts.take n) = S at *
    unfold stepS
    have hd : S.length - (S.length - (takesI t.1).toNat) = (takesI t.1).toNat := by omega
    have hS := List.take_append_drop (S.length - (takesI t.1).toNat) S
    rw [← hS, flats_append] at i2
    rw [← hS, oks_append] at i3
    refine ⟨?_, ?_, ?_⟩
    · injection h3 with h3
      simp only [List.length_append, List.length_take, List.length_singleton]; omega
    · rw [flats_append, flats_one]
      simp only [Tr.flat]
      rw [← List.append_assoc, i2]
    · rw [oks_append]
      refine ⟨i3.1, ?_⟩
      simp only [Tr.oks, Tr.okT, and_true]
      refine ⟨h1, ?_, i3.2⟩
      rw [List.length_drop, hd]; omega
theorem stack_take {ts : List Tm} {x : Int} (h : runD 0 ts = some x) (k : Nat) : ∃ d : Int, runD 0 (ts.take k) = some d ∧ ((stackOf (ts.take k)).length : Int) = d ∧ Tr.flats (stackOf (ts.take k)) = ts.take k ∧ Tr.oks (stackOf (ts.take k)) := by
  obtain ⟨d, hd, _⟩ := runD_take h k
  exact ⟨d, hd, stack_is _ _ _ rfl hd⟩
/-- The tree of an expression. -/
theorem tree_of {ts : List Tm} (h : runD 0 ts = some 1) : ∃ op n kids, stackOf ts = [Tr.node op n kids] ∧ ts = Tr.flats kids ++ [(op, n)] ∧ tOkB (op, n) = true ∧ (kids.length : Int) = takesI op ∧ Tr.oks kids := by
  obtain ⟨h1, h2, h3⟩ := stack_is _ _ _ rfl h
  match hS : stackOf ts, h1 with
  | [Tr.node op n kids], _ =>
    rw [hS] at h2 h3
    rw [flats_one] at h2
    simp only [Tr.oks, Tr.okT, and_true] at h3
    exact ⟨op, n, kids, rfl, by rw [← h2]; rfl, h3.1, h3.2.1, h3.2.2⟩

/-! ### Names, rising -/
def Rise (l : List Int) : Prop := l.Pairwise (· < ·)
theorem rise_ext : ∀ {a b : List Int}, Rise a → Rise b → (∀ x, x ∈ a ↔ x ∈ b) → a = b := by
  intro a
  induction a with
  | nil =>
    intro b _ _ h
    cases b with
    | nil => rfl
    | cons y s => have := (h y).2 (by simp); simp at this
  | cons x r ih =>
    intro b ha hb h
    cases b with
    | nil => have := (h x).1 (by simp); simp at this
    | cons y s =>
      have ha' := List.pairwise_cons.1 ha
      have hb' := List.pairwise_cons.1 hb
      have hxy : x = y := by
        have h1 := (h x).1 (by simp)
        have h2 := (h y).2 (by simp)
        simp only [List.mem_cons] at h1 h2
        rcases h1 with h1 | h1
        · exact h1
        · rcases h2 with h2 | h2
          · exact h2.symm
          · have := ha'.1 y h2; have := hb'.1 x h1; omega
      subst hxy
      rw [ih ha'.2 hb'.2]
      intro z
      have hz := h z
      simp only [List.mem_cons] at hz
      constructor
      · intro hzr
        rcases hz.1 (.inr hzr) with e | e
        · have := ha'.1 z hzr; omega
        · exact e
      · intro hzs
        rcases hz.2 (.inr hzs) with e | e
        · have := hb'.1 z hzs; omega
        · exact e

/-- The names of the Terms of that Op. -/
def namesOf (op : Int) (ts : List Tm) : List Int := (ts.filter (fun t => t.1 == op)).map (·.2)
theorem mem_namesOf {op : Int} {ts : List Tm} {x : Int} : x ∈ namesOf op ts ↔ (op, x) ∈ ts := by
  unfold namesOf
  simp only [List.mem_map, List.mem_filter, beq_iff_eq]
  constructor
  · rintro ⟨⟨a, b⟩, ⟨h1, h2⟩, h3⟩; simp at h2 h3; subst h2 h3; exact h1
  · intro h; exact ⟨(op, x), ⟨h, rfl⟩, rfl⟩
theorem namesOf_append (op : Int) (a b : List Tm) : namesOf op (a ++ b) = namesOf op a ++ namesOf op b := by simp [namesOf]
end Go.Proofs.Ytmppiefkeeanpaa
