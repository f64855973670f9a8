/- Slices of bools: words; one more put behind; the laws' own helpers on them (eqBoolS, markBoolS, heldBoolS, toBoolS). -/
import Derived.Test.YtmooecbdpfhnlaaGreatJ13
namespace Go.Proofs.YtmooecbdpfhnlaaGreat
open Go.RowKit

def bAt (bs : List Bool) (i : Nat) : Bool := bs.getD i false
/-- The slice '.slice a n c' reads as the bools bs. -/
def Bools (w : World) (a : Option Addr) (n : Nat) (bs : List Bool) : Prop :=
  bs.length = n ∧ n ≤ 1048576 ∧ (0 < n → ∃ b o, a = some ⟨b, o, none⟩ ∧ b < w.heap.size ∧ ∀ i, i < n → w.cell? ⟨b, o + i, none⟩ = some (.bool (bAt bs i)))
theorem Bools.at_ {w : World} {a : Option Addr} {n : Nat} {bs : List Bool} {k : Nat} (h : Bools w a n bs) (hk : k < n) :
    ∃ b o z, a = some ⟨b, o, none⟩ ∧ b < w.heap.size ∧ Hid (z = bAt bs k) ∧ w.cell? ⟨b, o + k, none⟩ = some (.bool z) := by
  obtain ⟨hl, _, hc⟩ := h
  obtain ⟨b, o, rfl, hb, hcell⟩ := hc (by omega)
  exact ⟨b, o, _, rfl, hb, Lib.hid rfl, hcell k hk⟩
theorem Bools.below {w w' : World} {a : Option Addr} {n : Nat} {bs : List Bool} (h : Bools w a n bs) (hb : Below w.heap.size w w') : Bools w' a n bs := by
  obtain ⟨hl, hn, hc⟩ := h
  refine ⟨hl, hn, fun hp => ?_⟩
  obtain ⟨b, o, rfl, hbl, hcell⟩ := hc hp
  exact ⟨b, o, rfl, Nat.lt_of_lt_of_le hbl hb.size, fun i hi => (hb.cell (by exact hbl)).trans (hcell i hi)⟩
/-- .. of the call's own, from block B on. -/
def OwnB (w : World) (B : Nat) (a : Option Addr) (n c : Nat) (bs : List Bool) : Prop := w.ownsRow B 4 1 (.slice a n c) n (bs.map Value.bool) ∧ n ≤ 1048576
section
variable {w w' : World} {B : Nat} {a : Option Addr} {n c : Nat} {bs : List Bool} {row : Option Nat}
theorem OwnB.len (h : OwnB w B a n c bs) : bs.length = n := by have := h.1.1; simpa using this
theorem OwnB.reads (h : OwnB w B a n c bs) : Bools w a n bs := by
  have hlen := h.len
  obtain ⟨ho, hn⟩ := h
  refine ⟨hlen, hn, fun hp => ?_⟩
  rcases ho.2 with ⟨_, h0⟩ | ⟨g, cap, cur, e, _, hh, _⟩
  · exact absurd hp (by omega)
  · have ea : a = some ⟨g, 0, none⟩ := by injection e
    subst ea
    refine ⟨g, 0, rfl, (ho.lt g rfl).2, fun i hi => ?_⟩
    rw [Nat.zero_add, ho.cellAt i (by omega)]
    simp [bAt, List.getD_eq_getElem?_getD, List.getElem?_eq_getElem (show i < bs.length by omega)]
theorem OwnB.below (h : OwnB w B a n c bs) (hb : Below w.heap.size w w') : OwnB w' B a n c bs :=
  ⟨h.1.kept (row := none) ⟨hb.os, hb.tape, hb.output, hb.size, fun k hk _ => hb.block k hk⟩ (by cases a <;> simp [Value.ownBlock]), h.2⟩
theorem OwnB.base {B' : Nat} (h : OwnB w B a n c bs) (hB : B' ≤ B) : OwnB w B' a n c bs := by
  refine ⟨⟨h.1.1, ?_⟩, h.2⟩
  rcases h.1.2 with hn | ⟨g, cap, cur, e, hb, r⟩
  · exact .inl hn
  · exact .inr ⟨g, cap, cur, e, by omega, r⟩
theorem OwnB.alloc (h : OwnB w B a n c bs) (o : Obj) : OwnB (w.alloc o) B a n c bs := ⟨h.1.alloc o, h.2⟩
theorem OwnB.block (h : OwnB w B a n c bs) : ∀ g, (Value.slice a n c).ownBlock = some g → B ≤ g ∧ g < w.heap.size := h.1.lt
theorem OwnB.span {lo hi : Nat} (h : OwnB w B a n c bs) (hs : Span lo hi w w') (hB : hi ≤ B) : OwnB w' B a n c bs := ⟨ownsRow_span h.1 hs (fun g hg => .inr (Nat.le_trans hB (h.block g hg).1)), h.2⟩
theorem OwnB.inside {s : Sl} (h : OwnB w B s.1 s.2.1 s.2.2 bs) : SlIn B w.heap.size s := fun g hg => h.block g hg
theorem ownB_nil (w : World) (B : Nat) : OwnB w B none 0 0 [] := ⟨World.ownsRow_nil _ _ _ _, by omega⟩
end
/-- What a function that makes a slice of the bools bs leaves. -/
def MadeB (w : World) (bs : List Bool) (e : Ending) (w' : World) : Prop :=
  ∃ a n c, e = .returned (.slice a n c) ∧ OwnB w' w.heap.size a n c bs ∧ Below w.heap.size w w'
theorem info_bool : (Tryz.prog.info? 4).map (fun i => (i.zero, i.size, i.bytes)) = some (some (.bool false), 1, 1) := by kernel_rfl
section
variable {w : World} {B g n cap : Nat} {bs : List Bool}
theorem ownB_cell (h : w.ownsRow B 4 1 (.slice (some ⟨g, 0, none⟩) n cap) n (bs.map Value.bool)) {k : Nat} (hk : k < n) : w.cell? ⟨g, k, none⟩ = some (.bool (bAt bs k)) := by
  have hl : bs.length = n := by have := h.1; simpa using this
  rw [h.cellAt k (by omega)]
  simp [bAt, List.getD_eq_getElem?_getD, List.getElem?_eq_getElem (show k < bs.length by omega)]
theorem ownB_put (h : w.ownsRow B 4 1 (.slice (some ⟨g, 0, none⟩) n cap) n (bs.map Value.bool)) (k : Nat) (z : Bool) :
    (w.setCell ⟨g, k, none⟩ (.bool z)).ownsRow B 4 1 (.slice (some ⟨g, 0, none⟩) n cap) n ((bs.set k z).map Value.bool) := by
  rw [List.map_set]; exact (h.stored k _).1
end
/-- The first k are alike. -/
def EqB (xs ys : List Bool) (k : Nat) : Prop := ∀ i, i < k → bAt xs i = bAt ys i
theorem EqB.zero (xs ys : List Bool) : EqB xs ys 0 := fun i hi => absurd hi (by omega)
theorem EqB.succ {xs ys : List Bool} {k : Nat} {x y : Bool} (h : EqB xs ys k) (hx : Hid (x = bAt xs k)) (hy : Hid (y = bAt ys k)) (e : x = y) : EqB xs ys (k + 1) := by
  intro i hi
  rcases Nat.lt_or_ge i k with hlt | hge
  · exact h i hlt
  · have : i = k := by omega
    subst this; rw [← hx.out, ← hy.out]; exact e
/-- Marks. -/
def mB (k : Nat) : Bool := (k : Int) % 3 == 0
def marksB (k n : Nat) : List Bool := (List.range n).map (fun i : Nat => mB (k + i))
def MarkB (bs : List Bool) (k j : Nat) : List Bool := marksB k j ++ bs.drop j
theorem markB_zero (bs : List Bool) (k : Nat) : MarkB bs k 0 = bs := by simp [MarkB, marksB]
theorem markB_all {bs : List Bool} {n : Nat} (k : Nat) (h : bs.length = n) : MarkB bs k n = marksB k n := by subst h; simp [MarkB]
theorem markB_succ {bs : List Bool} {n j : Nat} (k : Nat) (h : bs.length = n) (hj : j < n) : (MarkB bs k j).set j (mB (k + j)) = MarkB bs k (j + 1) := by
  subst h
  apply List.ext_getElem?
  intro i
  unfold MarkB marksB
  rw [List.getElem?_set]
  by_cases hi : j = i
  · subst hi
    have h1 : j < ((List.range j).map (fun i : Nat => mB (k + i)) ++ bs.drop j).length := by simp; omega
    rw [if_pos rfl, if_pos h1, List.getElem?_append_left (by simp)]
    simp
  · rw [if_neg hi]
    simp only [List.getElem?_append, List.length_map, List.length_range, List.getElem?_map, List.getElem?_drop]
    by_cases h1 : i < j
    · rw [if_pos h1, if_pos (show i < j + 1 by omega), List.getElem?_range h1, List.getElem?_range (show i < j + 1 by omega)]
    · rw [if_neg h1, if_neg (show ¬ i < j + 1 by omega), show j + (i - j) = j + 1 + (i - (j + 1)) by omega]
set_option maxHeartbeats 800000 in
theorem eqBoolS_same (a b : Option Addr) (n m c d : Nat) (xs : List Bool) (w : World) (hx : Bools w a n xs) (hy : Bools w b m xs) :
    Calls Tryz.prog 39 #[.slice a n c, .slice b m d] w fun e w' => e = .returned (.bool true) ∧ Below w.heap.size w w' := by
  obtain rfl : n = m := by rw [← hx.1, ← hy.1]
  have hbd := hx.2.1
  have hne0 : ((n : Int) != (n : Int)) = false := by simp
  go_enter Tryz.func39, Tryz.ntmps39
  go_wp2
  go_loopw [5] (fun i wr => ∃ k : Nat, k ≤ n ∧ i = .int .i64 k ∧ Below w.heap.size w wr) (fun i _ => n - (intOf i).toNat)
  case atStart => exact ⟨0, Nat.zero_le _, rfl, Below.refl _ _⟩
  case round =>
    obtain ⟨k, hk, rfl, hbel⟩ := hrel
    by_cases hlt : k < n
    · obtain ⟨b1, o1, x, rfl, hb1, hxk, hc1⟩ := (hx.below hbel).at_ hlt
      obtain ⟨b2, o2, y, rfl, hb2, hyk, hc2⟩ := (hy.below hbel).at_ hlt
      obtain rfl : x = y := by rw [hxk.out, hyk.out]
      have hxx : (x != x) = false := by cases x <;> rfl
      clear hxk hyk
      go_wp2
      go_quiet (fail)
      rename_i nq
      have HB := Lib.hid (hbel.trans ((show Below wr.heap.size wr (wr.drewN nq) from ⟨rfl, rfl, rfl, Nat.le_refl _, fun _ _ => rfl⟩).mono hbel.size))
      clear hbel
      go_wp2
      go_roundw
      case rel => exact ⟨k + 1, by omega, by go_num, HB.out⟩
      case measure => simp [intOf]; omega
    · obtain rfl : n = k := by omega
      go_wp2
      go_ret
      exact ⟨rfl, hbel⟩
end Go.Proofs.YtmooecbdpfhnlaaGreat
