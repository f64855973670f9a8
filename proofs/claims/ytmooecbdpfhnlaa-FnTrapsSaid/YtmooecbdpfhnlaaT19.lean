/- Joined texts of this proof (Trim, Draw, DrawNat), in build order. -/
import Derived.Test.YtmooecbdpfhnlaaT18
/- The contracts of the two functions that strike noughts at the end. -/
namespace Go.Proofs.Ytmooecbdpfhnlaa
open Go.RowKit

end Go.Proofs.Ytmooecbdpfhnlaa
/- The contracts of the model's draws: a cursor over bytes; numbers below a bound. What is drawn is not told, only that it is within its bounds. -/
namespace Go.Proofs.Ytmooecbdpfhnlaa
open Go.RowKit

theorem in64_wrap (x : Int) : In64 (wrap64 x) := by
  have := bounds_i64 (wrap64_wf x)
  exact ⟨this.1, this.2⟩

/-- The bytes of the code, as the cursor at block p reads them. -/
def CodeAt (w : World) (p : Nat) (a : Option Addr) (n : Nat) : Prop :=
  n ≤ 4096 ∧ (0 < n → ∃ b o, a = some ⟨b, o, none⟩ ∧ b < p ∧ ∀ i, i < n → ∃ z : Int, 0 ≤ z ∧ z ≤ 255 ∧ w.cell? ⟨b, o + i, none⟩ = some (.int .u8 z))
/-- A cursor at block p. -/
def Cur (w : World) (p : Nat) : Prop :=
  ∃ a n c, CodeAt w p a n ∧ ∃ (i : Nat) (h : Int), i ≤ n ∧ In64 h ∧ w.heap[p]? = some (.cells #[.slice a n c, .int .i64 (i : Int), .int .i64 h] 119 (0, 0))

theorem CodeAt.only {w w' : World} {p : Nat} {a : Option Addr} {n : Nat} (h : CodeAt w p a n) (hg : w.grownBy w' (some p)) : CodeAt w' p a n := by
  refine ⟨h.1, fun h0 => ?_⟩
  obtain ⟨b, o, rfl, hb, hc⟩ := h.2 h0
  refine ⟨b, o, rfl, hb, fun i hi => ?_⟩
  obtain ⟨z, h1, h2, h3⟩ := hc i hi
  exact ⟨z, h1, h2, hg.cell h3 (by simp; omega)⟩
theorem Cur.lt {w : World} {p : Nat} (h : Cur w p) : p < w.heap.size := by
  obtain ⟨a, n, c, _, i, hh, _, _, hb⟩ := h
  rcases Nat.lt_or_ge p w.heap.size with hl | hl
  · exact hl
  · rw [Array.getElem?_eq_none hl] at hb; cases hb
theorem Cur.below {w w' : World} {p : Nat} (h : Cur w p) (hb : Below w.heap.size w w') : Cur w' p := by
  have hp := h.lt
  obtain ⟨a, n, c, hc, i, hh, h1, h2, h3⟩ := h
  exact ⟨a, n, c, hc.only ⟨hb.os, hb.tape, hb.output, hb.size, fun k hk _ => hb.block k hk⟩, i, hh, h1, h2, (hb.block p hp).trans h3⟩
theorem Cur.drewN {w : World} {p : Nat} (h : Cur w p) (k : Nat) : Cur (w.drewN k) p := h
/-- What is written to a block of the call's own that is no cursor. -/
theorem Cur.other {w w' : World} {p : Nat} {row : Option Nat} (h : Cur w p) (hg : w.grownBy w' row) (hr : ∀ g, row = some g → p < g) : Cur w' p := by
  have hp := h.lt
  obtain ⟨a, n, c, hc, i, hh, h1, h2, h3⟩ := h
  have hne : ∀ k, k ≤ p → some k ≠ row := fun k hk e => by have := hr k e.symm; omega
  refine ⟨a, n, c, ⟨hc.1, fun h0 => ?_⟩, i, hh, h1, h2, (hg.block p hp (hne p (Nat.le_refl _))).trans h3⟩
  obtain ⟨b, o, rfl, hb, hcc⟩ := hc.2 h0
  refine ⟨b, o, rfl, hb, fun j hj => ?_⟩
  obtain ⟨z, e1, e2, e3⟩ := hcc j hj
  exact ⟨z, e1, e2, hg.cell e3 (hne _ (by simp; omega))⟩

/-- A number from lo to hi is answered; the cursor has gone on, all else stands. -/
def DrewNum (w : World) (p : Nat) (lo hi : Int) (e : Ending) (w' : World) : Prop :=
  ∃ x : Int, lo ≤ x ∧ x ≤ hi ∧ e = .returned (.int .i64 x) ∧ Cur w' p ∧ w.grownBy w' (some p)

theorem only_trans {a b c : World} {p : Nat} (h : a.grownBy b (some p)) (k : b.grownBy c (some p)) : a.grownBy c (some p) :=
  ⟨k.os.trans h.os, k.tape.trans h.tape, k.output.trans h.output, Nat.le_trans h.size k.size, fun i hi hne => (k.block i (Nat.lt_of_lt_of_le hi h.size) hne).trans (h.block i hi hne)⟩
theorem only_draw {a b : World} {p : Nat} (h : a.grownBy b (some p)) (n : Nat) : a.grownBy (b.drewN n) (some p) := ⟨h.os, h.tape, h.output, h.size, h.block⟩
theorem only_put (w : World) (p j : Nat) (u : Value) : w.grownBy (w.setCell ⟨p, j, none⟩ u) (some p) :=
  ⟨rfl, rfl, rfl, by simp, fun k _ hk => heap_setCell_other w ⟨p, j, none⟩ k u (fun e => hk (by simp [e]))⟩

theorem cur_only (w : World) (p k : Nat) (u : Value) : w.grownBy ((w.drewN k).setCell ⟨p, 1, none⟩ u) (some p) := only_trans (only_draw (World.grownBy.refl w (some p)) k) (only_put (w.drewN k) p 1 u)
/-- A yes or no is answered; the cursor has gone on, all else stands. -/
def DrewBool (w : World) (p : Nat) (e : Ending) (w' : World) : Prop := ∃ b : Bool, e = .returned (.bool b) ∧ Cur w' p ∧ w.grownBy w' (some p)

theorem DrewNum.mono {w w' : World} {p : Nat} {lo hi lo' hi' : Int} {e : Ending} (h : DrewNum w p lo hi e w') (h1 : lo' ≤ lo) (h2 : hi ≤ hi') : DrewNum w p lo' hi' e w' := by
  obtain ⟨x, a, b, r⟩ := h
  exact ⟨x, by omega, by omega, r⟩

theorem only_below {w w' : World} (h : Below w.heap.size w w') (row : Option Nat) : w.grownBy w' row := ⟨h.os, h.tape, h.output, h.size, fun i hi _ => h.block i hi⟩
theorem only_more {a b c : World} {p : Nat} {row : Option Nat} (h : a.grownBy b (some p)) (k : b.grownBy c row) (hr : ∀ g, row = some g → a.heap.size ≤ g) : a.grownBy c (some p) :=
  ⟨k.os.trans h.os, k.tape.trans h.tape, k.output.trans h.output, Nat.le_trans h.size k.size, fun i hi hne => (k.block i (Nat.lt_of_lt_of_le hi h.size) (fun e => by have := hr i e.symm; omega)).trans (h.block i hi hne)⟩
theorem Cur.alloc {w : World} {p : Nat} (h : Cur w p) (o : Obj) : Cur (w.alloc o) p := h.below ((Below.refl _ _).alloc (Nat.le_refl _) o)
theorem only_alloc {a b : World} {p : Nat} (h : a.grownBy b (some p)) (o : Obj) : a.grownBy (b.alloc o) (some p) := only_more h (World.grownBy_alloc b o none) (fun g e => by cases e)

end Go.Proofs.Ytmooecbdpfhnlaa
/- The contracts of the model's draws of great numbers. -/
namespace Go.Proofs.Ytmooecbdpfhnlaa
open Go.RowKit

/-- The code, as the frame of a law opens it. -/
theorem code_of_row {w : World} {a : Option Addr} {len cap : Nat} {zs : List Int}
    (h : (a = none ∧ len = 0 ∧ cap = 0 ∧ zs = []) ∨
      ∃ x, a = some x ∧ len ≤ cap ∧ cap ≤ maxLen ∧ zs.length = cap ∧ (∀ i, i < zs.length → w.cell? (x.add i) = some (.int .u8 (zs.getD i 0))) ∧ ∀ n ∈ zs, (Lit.int .u8 n).wf = true)
    (hn : len ≤ 4096) : CodeAt w w.heap.size a len := by
  rcases h with ⟨rfl, rfl, rfl, rfl⟩ | ⟨x, rfl, hl, hm, hz, hc, hwf⟩
  · exact ⟨by omega, fun hp => absurd hp (by omega)⟩
  · refine ⟨hn, fun hp => ?_⟩
    obtain ⟨b, off, rfl, hcell⟩ := ints_at hc (by omega)
    refine ⟨b, off, rfl, World.block_lt_of_cell? w ⟨b, off + 0, none⟩ (hcell 0 (by omega)), fun i hi => ?_⟩
    have := bounds_u8 (hwf _ (getD_mem (show i < zs.length by omega)))
    exact ⟨_, this.1, by have := this.2; omega, hcell i (by omega)⟩
theorem CodeAt.below {w w' : World} {a : Option Addr} {n : Nat} (h : CodeAt w w.heap.size a n) (hb : Below w.heap.size w w') : CodeAt w' w.heap.size a n := by
  refine ⟨h.1, fun h0 => ?_⟩
  obtain ⟨b, o, rfl, hbl, hc⟩ := h.2 h0
  refine ⟨b, o, rfl, hbl, fun i hi => ?_⟩
  obtain ⟨z, h1, h2, h3⟩ := hc i hi
  exact ⟨z, h1, h2, (hb.cell (by exact hbl)).trans h3⟩
theorem CodeAt.up {w : World} {a : Option Addr} {n p q : Nat} (h : CodeAt w p a n) (hq : p ≤ q) : CodeAt w q a n := by
  refine ⟨h.1, fun h0 => ?_⟩
  obtain ⟨b, o, rfl, hbl, hc⟩ := h.2 h0
  exact ⟨b, o, rfl, by omega, hc⟩

/-- A new cursor. -/
def NewCur (w : World) (e : Ending) (w' : World) : Prop := ∃ p, e = .returned (.pointer (some ⟨p, 0, none⟩)) ∧ w.heap.size ≤ p ∧ Cur w' p ∧ Below w.heap.size w w'

/-- A list of numbers was drawn: of at most m numbers that fit; the cursor has gone on, all else stands. -/
def DrewInts (w : World) (p m : Nat) (e : Ending) (w' : World) : Prop :=
  ∃ a n c zs, e = .returned (.slice a n c) ∧ n ≤ m ∧ Own w' w.heap.size a n c zs ∧ Cur w' p ∧ w.grownBy w' (some p)

def lenOf : Value → Nat | .slice _ n _ => n | _ => 0

end Go.Proofs.Ytmooecbdpfhnlaa
