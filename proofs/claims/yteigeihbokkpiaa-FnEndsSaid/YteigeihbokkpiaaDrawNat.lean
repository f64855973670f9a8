/- The contracts of the model's draws of great numbers. -/
import Derived.Test.YteigeihbokkpiaaDraw
namespace Go.Proofs.Yteigeihbokkpiaa
open Go.RowKit

/-- The code, as the frame of a law opens it. -/
theorem code_of_row {w : World} {a : Option Addr} {len cap : Nat} {zs : List Int}
    (h : (a = none ∧ len = 0 ∧ cap = 0 ∧ zs = []) ∨
      ∃ x, a = some x ∧ len ≤ cap ∧ cap ≤ maxLen ∧ zs.length = cap ∧ (∀ i, i < zs.length → w.cell? (x.add i) = some (.int .u8 (zs.getD i 0))) ∧ ∀ n ∈ zs, (Lit.int .u8 n).wf = true)
    (hn : len ≤ 4096) : CodeAt w w.heap.size a len := by
  rcases h with ⟨rfl, rfl, rfl, rfl⟩ | ⟨x, rfl, hl, hm, hz, hc, hwf⟩
  · exact ⟨by omega, fun hp => absurd hp (by omega)⟩
  · refine ⟨hn, fun hp => ?_⟩
    obtain ⟨b, off, rfl, hcell⟩ := ints_at hc (by omega)
    refine ⟨b, off, rfl, World.block_lt_of_cell? w ⟨b, off + 0, none⟩ (hcell 0 (by omega)), fun i hi => ?_⟩
    have := bounds_u8 (hwf _ (getD_mem (show i < zs.length by omega)))
    exact ⟨_, this.1, by have := this.2; omega, hcell i (by omega)⟩
theorem CodeAt.below {w w' : World} {a : Option Addr} {n : Nat} (h : CodeAt w w.heap.size a n) (hb : Below w.heap.size w w') : CodeAt w' w.heap.size a n := by
  refine ⟨h.1, fun h0 => ?_⟩
  obtain ⟨b, o, rfl, hbl, hc⟩ := h.2 h0
  refine ⟨b, o, rfl, hbl, fun i hi => ?_⟩
  obtain ⟨z, h1, h2, h3⟩ := hc i hi
  exact ⟨z, h1, h2, (hb.cell (by exact hbl)).trans h3⟩
theorem CodeAt.up {w : World} {a : Option Addr} {n p q : Nat} (h : CodeAt w p a n) (hq : p ≤ q) : CodeAt w q a n := by
  refine ⟨h.1, fun h0 => ?_⟩
  obtain ⟨b, o, rfl, hbl, hc⟩ := h.2 h0
  exact ⟨b, o, rfl, by omega, hc⟩

/-- A new cursor. -/
def NewCur (w : World) (e : Ending) (w' : World) : Prop := ∃ p, e = .returned (.pointer (some ⟨p, 0, none⟩)) ∧ w.heap.size ≤ p ∧ Cur w' p ∧ Below w.heap.size w w'

set_option maxHeartbeats 400000 in
theorem l1New_any (a : Option Addr) (n c : Nat) (w : World) (h : CodeAt w w.heap.size a n) : Calls Try.prog 30 #[.slice a n c] w (NewCur w) := by
  have hn := h.1
  go_enter Try.func30, Try.ntmps30
  go_wp2_with fail
  go_loop [3, 4] (fun q i => ∃ (k : Nat) (x : Int), k ≤ n ∧ i = .int .i64 k ∧ q = .int .i64 x ∧ 0 ≤ x ∧ x ≤ 1073741823) (fun _ i => n - (intOf i).toNat)
  case atStart => exact ⟨0, 141421 + (n : Int), by omega, rfl, rfl, by omega, by omega⟩
  case round =>
    obtain ⟨k, x, hk, rfl, rfl, hx0, hx1⟩ := hrel
    by_cases hlt : k < n
    · obtain ⟨b, o, rfl, hb, hcc⟩ := h.2 (by omega)
      obtain ⟨z, hz0, hz1, hcz⟩ := hcc k hlt
      clear hcc
      go_wp2_with fail
      go_round
      case rel => exact ⟨k + 1, _, by omega, by go_num, rfl, (and30 _).1, (and30 _).2⟩
      case measure => simp [intOf]; omega
    · go_wp2_with fail
      go_ret
      refine ⟨_, rfl, Nat.le_refl _, ⟨a, n, c, ?_, 0, x, Nat.zero_le _, ⟨by omega, by omega⟩, heap_alloc_new w _⟩, (Below.refl _ _).alloc (Nat.le_refl _) _⟩
      exact h.below ((Below.refl _ _).alloc (Nat.le_refl _) _)

/-- A list of numbers was drawn: of at most m numbers that fit; the cursor has gone on, all else stands. -/
def DrewInts (w : World) (p m : Nat) (e : Ending) (w' : World) : Prop :=
  ∃ a n c zs, e = .returned (.slice a n c) ∧ n ≤ m ∧ Own w' w.heap.size a n c zs ∧ Cur w' p ∧ w.grownBy w' (some p)

theorem only_own {a b c : World} {p : Nat} {v : Option Addr} {n k : Nat} {zs : List Int} (h : a.grownBy b (some p)) (ho : Own b a.heap.size v n k zs) (hg : b.grownBy c (Value.slice v n k).ownBlock) : a.grownBy c (some p) :=
  only_more h hg (fun g e => (ho.block g e).1)
theorem cur_own {a b c : World} {p : Nat} {v : Option Addr} {n k : Nat} {zs : List Int} (h : Cur b p) (hp : p < a.heap.size) (ho : Own b a.heap.size v n k zs) (hg : b.grownBy c (Value.slice v n k).ownBlock) : Cur c p :=
  h.other hg (fun g e => Nat.lt_of_lt_of_le hp (ho.block g e).1)
theorem own_cur {a b c : World} {p : Nat} {v : Option Addr} {n k : Nat} {zs : List Int} (ho : Own b a.heap.size v n k zs) (hp : p < a.heap.size) (hg : b.grownBy c (some p)) : Own c a.heap.size v n k zs :=
  ho.other hg (fun g e => by cases e; exact hp)

def lenOf : Value → Nat | .slice _ n _ => n | _ => 0

end Go.Proofs.Yteigeihbokkpiaa
