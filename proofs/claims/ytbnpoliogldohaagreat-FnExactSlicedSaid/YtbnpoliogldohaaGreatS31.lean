/- Joined texts of this proof (Trim, Draw, DrawNat), in build order. -/
import Derived.Test.YtbnpoliogldohaaGreatS30
import Derived.Test.YtbnpoliogldohaaGreatS11
/- The contracts of the two functions that strike noughts at the end. -/
namespace Go.Proofs.YtbnpoliogldohaaGreat
open Go.RowKit

end Go.Proofs.YtbnpoliogldohaaGreat
/- The contracts of the model's draws: a cursor over bytes; numbers below a bound. What is drawn is not told, only that it is within its bounds. -/
namespace Go.Proofs.YtbnpoliogldohaaGreat
open Go.RowKit

/-- The bytes of the code, as the cursor at block p reads them. -/
def CodeAt (w : World) (p : Nat) (a : Option Addr) (n : Nat) : Prop :=
  n ≤ 4096 ∧ (0 < n → ∃ b o, a = some ⟨b, o, none⟩ ∧ b < p ∧ ∀ i, i < n → ∃ z : Int, 0 ≤ z ∧ z ≤ 255 ∧ w.cell? ⟨b, o + i, none⟩ = some (.int .u8 z))
theorem CodeAt.only {w w' : World} {p : Nat} {a : Option Addr} {n : Nat} (h : CodeAt w p a n) (hg : w.grownBy w' (some p)) : CodeAt w' p a n := by
  refine ⟨h.1, fun h0 => ?_⟩
  obtain ⟨b, o, rfl, hb, hc⟩ := h.2 h0
  refine ⟨b, o, rfl, hb, fun i hi => ?_⟩
  obtain ⟨z, h1, h2, h3⟩ := hc i hi
  exact ⟨z, h1, h2, hg.cell h3 (by simp; omega)⟩
end Go.Proofs.YtbnpoliogldohaaGreat
/- The contracts of the model's draws of great numbers. -/
namespace Go.Proofs.YtbnpoliogldohaaGreat
open Go.RowKit

theorem CodeAt.below {w w' : World} {a : Option Addr} {n : Nat} (h : CodeAt w w.heap.size a n) (hb : Below w.heap.size w w') : CodeAt w' w.heap.size a n := by
  refine ⟨h.1, fun h0 => ?_⟩
  obtain ⟨b, o, rfl, hbl, hc⟩ := h.2 h0
  refine ⟨b, o, rfl, hbl, fun i hi => ?_⟩
  obtain ⟨z, h1, h2, h3⟩ := hc i hi
  exact ⟨z, h1, h2, (hb.cell (by exact hbl)).trans h3⟩
theorem CodeAt.up {w : World} {a : Option Addr} {n p q : Nat} (h : CodeAt w p a n) (hq : p ≤ q) : CodeAt w q a n := by
  refine ⟨h.1, fun h0 => ?_⟩
  obtain ⟨b, o, rfl, hbl, hc⟩ := h.2 h0
  exact ⟨b, o, rfl, by omega, hc⟩

def lenOf : Value → Nat | .slice _ n _ => n | _ => 0

end Go.Proofs.YtbnpoliogldohaaGreat
