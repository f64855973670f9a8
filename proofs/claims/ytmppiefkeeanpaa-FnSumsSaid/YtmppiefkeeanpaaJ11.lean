/- The contracts of the model's draws of great numbers. -/
import Derived.Test.YtmppiefkeeanpaaJ10
namespace Go.Proofs.Ytmppiefkeeanpaa
open Go.RowKit

/-- The code, as the frame of a law opens it. -/
theorem code_of_row {w : World} {a : Option Addr} {len cap : Nat} {zs : List Int}
    (h : (a = none ∧ len = 0 ∧ cap = 0 ∧ zs = []) ∨
      ∃ x, a = some x ∧ len ≤ cap ∧ cap ≤ maxLen ∧ zs.length = cap ∧ (∀ i, i < zs.length → w.cell? (x.add i) = some (.int .u8 (zs.getD i 0))) ∧ ∀ n ∈ zs, (Lit.int .u8 n).wf = true)
    (hn : len ≤ 4096) : CodeAt w w.heap.size a len := by
  rcases h with ⟨rfl, rfl, rfl, rfl⟩ | ⟨x, rfl, hl, hm, hz, hc, hwf⟩
  · exact ⟨by omega, fun hp => absurd hp (by omega)⟩
  · refine ⟨hn, fun hp => ?_⟩
    obtain ⟨b, off, rfl, hcell⟩ := ints_at hc (by omega)
    refine ⟨b, off, rfl, World.block_lt_of_cell? w ⟨b, off + 0, none⟩ (hcell 0 (by omega)), fun i hi => ?_⟩
    have := bounds_u8 (hwf _ (getD_mem (show i < zs.length by omega)))
    exact ⟨_, this.1, by have := this.2; omega, hcell i (by omega)⟩
theorem CodeAt.below {w w' : World} {a : Option Addr} {n : Nat} (h : CodeAt w w.heap.size a n) (hb : Below w.heap.size w w') : CodeAt w' w.heap.size a n := by
  refine ⟨h.1, fun h0 => ?_⟩
  obtain ⟨b, o, rfl, hbl, hc⟩ := h.2 h0
  refine ⟨b, o, rfl, hbl, fun i hi => ?_⟩
  obtain ⟨z, h1, h2, h3⟩ := hc i hi
  exact ⟨z, h1, h2, (hb.cell (by exact hbl)).trans h3⟩
theorem CodeAt.up {w : World} {a : Option Addr} {n p q : Nat} (h : CodeAt w p a n) (hq : p ≤ q) : CodeAt w q a n := by
  refine ⟨h.1, fun h0 => ?_⟩
  obtain ⟨b, o, rfl, hbl, hc⟩ := h.2 h0
  exact ⟨b, o, rfl, by omega, hc⟩

theorem only_own {a b c : World} {p : Nat} {v : Option Addr} {n k : Nat} {zs : List Int} (h : a.grownBy b (some p)) (ho : Own b a.heap.size v n k zs) (hg : b.grownBy c (Value.slice v n k).ownBlock) : a.grownBy c (some p) :=
  only_more h hg (fun g e => (ho.block g e).1)
theorem own_cur {a b c : World} {p : Nat} {v : Option Addr} {n k : Nat} {zs : List Int} (ho : Own b a.heap.size v n k zs) (hp : p < a.heap.size) (hg : b.grownBy c (some p)) : Own c a.heap.size v n k zs :=
  ho.other hg (fun g e => by cases e; exact hp)

def lenOf : Value → Nat | .slice _ n _ => n | _ => 0

end Go.Proofs.Ytmppiefkeeanpaa
