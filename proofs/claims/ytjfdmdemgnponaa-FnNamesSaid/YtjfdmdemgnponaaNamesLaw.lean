/- What the law of the names asks of the plain mathematics. -/
import Derived.Test.YtjfdmdemgnponaaPartsLaw
import Derived.Test.YtjfdmdemgnponaaNames2
namespace Go.Proofs.Ytjfdmdemgnponaa
open Go.RowKit

/-- Whether the number is among the first j. -/
def InTo (q : Bool) (y : Int) (ls : List Int) (j : Nat) : Prop := q = true ↔ y ∈ ls.take j
theorem InTo.start (y : Int) (ls : List Int) : InTo false y ls 0 := by unfold InTo; simp
theorem InTo.keep {y z : Int} {ls : List Int} {j : Nat} (h : InTo true y ls j) (hj : j < ls.length) (hz : Hid (z = ls.getD j 0)) : InTo true y ls (j + 1) := by
  unfold InTo at h ⊢
  rw [take_at hj hz, List.mem_append]
  exact ⟨fun h' => .inl (h.1 h'), fun _ => rfl⟩
theorem InTo.hit {y : Int} {ls : List Int} {j : Nat} {q : Bool} (_h : InTo q y ls j) (hj : j < ls.length) (hz : Hid (y = ls.getD j 0)) : InTo true y ls (j + 1) := by
  unfold InTo
  rw [take_at hj hz, List.mem_append]
  exact ⟨fun _ => .inr (by simp), fun _ => rfl⟩
theorem InTo.miss {y z : Int} {ls : List Int} {j : Nat} (h : InTo false y ls j) (hj : j < ls.length) (hz : Hid (z = ls.getD j 0)) (hne : z ≠ y) : InTo false y ls (j + 1) := by
  unfold InTo at h ⊢
  rw [take_at hj hz, List.mem_append, List.mem_singleton]
  constructor
  · intro h'; cases h'
  · rintro (h' | h')
    · exact h.2 h'
    · exact absurd h'.symm hne
theorem InTo.done {q : Bool} {y : Int} {ls : List Int} {n : Nat} (h : InTo q y ls n) (hn : ls.length ≤ n) (hy : y ∈ ls) : q = true := by
  unfold InTo at h
  rw [List.take_of_length_le hn] at h
  exact h.2 hy
end Go.Proofs.Ytjfdmdemgnponaa
