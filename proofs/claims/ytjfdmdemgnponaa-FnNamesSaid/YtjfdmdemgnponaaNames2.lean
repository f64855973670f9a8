/- Two slices of numbers of the call's own: what a draw, a write elsewhere, and marks leave. -/
import Derived.Test.YtjfdmdemgnponaaSpecNames
import Derived.Test.YtjfdmdemgnponaaCopies
namespace Go.Proofs.Ytjfdmdemgnponaa
open Go.RowKit

theorem Own2.still {w w' : World} {B : Nat} {r s : Sl} {zs ys : List Int} (h : Own2 w B r s zs ys) (st : Still w w') : Own2 w' B r s zs ys := ⟨h.1.still st, h.2.1.still st, h.2.2⟩
theorem Own2.other {w w' : World} {B : Nat} {r s : Sl} {zs ys : List Int} {row : Option Nat} (h : Own2 w B r s zs ys) (hg : w.grownBy w' row) (hr : ∀ g, row = some g → g < B) : Own2 w' B r s zs ys := ⟨h.1.other hg hr, h.2.1.other hg hr, h.2.2⟩
theorem Own2.mark_left {w w' : World} {B : Nat} {r s : Sl} {zs zs' ys : List Int} (h : Own2 w B r s zs ys) (ho : Own w' B r.1 r.2.1 r.2.2 zs') (hg : w.grownBy w' (slV r).ownBlock) : Own2 w' B r s zs' ys := h.left ⟨hg, fun _ h => .inl h⟩ ho
theorem Own2.mark_right {w w' : World} {B : Nat} {r s : Sl} {zs ys ys' : List Int} (h : Own2 w B r s zs ys) (ho : Own w' B s.1 s.2.1 s.2.2 ys') (hg : w.grownBy w' (slV s).ownBlock) : Own2 w' B r s zs ys' := h.right ⟨hg, fun _ h => .inl h⟩ ho
end Go.Proofs.Ytjfdmdemgnponaa
