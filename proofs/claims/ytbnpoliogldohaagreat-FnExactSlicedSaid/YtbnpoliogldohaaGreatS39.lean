/- Joined texts of this proof (EachLaw, ConcatIn), in build order. -/
import Derived.Test.YtbnpoliogldohaaGreatS14
import Derived.RangeFuncNested
import Derived.RangeFuncBound
import Derived.RangeFuncCalls
import Derived.RangeFuncLeaves
import Derived.Test.YtbnpoliogldohaaGreatS36
import Derived.Test.YtbnpoliogldohaaGreatS7
import Derived.Test.YtbnpoliogldohaaGreatS3
/- A range over a function whose iterator writes cells of its own: what its contract says, and the law. -/
namespace Go.Proofs.YtbnpoliogldohaaGreat
open Go.RowKit

/-- The blocks from lo up to hi stay as they lay. -/
def Stay (lo hi : Nat) (W W' : World) : Prop := ∀ k, lo ≤ k → k < hi → W'.heap[k]? = W.heap[k]?
theorem Stay.refl (lo hi : Nat) (W : World) : Stay lo hi W W := fun _ _ _ => rfl
theorem Stay.trans {lo hi : Nat} {A B C : World} (h : Stay lo hi A B) (k : Stay lo hi B C) : Stay lo hi A C := fun i h1 h2 => (k i h1 h2).trans (h i h1 h2)
theorem Stay.put {lo hi l : Nat} (W : World) (o : Obj) (h : l < lo) : Stay lo hi W (W.putObj l o) := fun _ _ _ => World.putObj_heap_other (by omega)
theorem Stay.of_below {lo hi : Nat} {W W' : World} (h : Below hi W W') : Stay lo hi W W' := fun k _ h2 => h.block k h2
theorem Span.put {lo hi l : Nat} (W : World) (o : Obj) (h1 : lo ≤ l) (h2 : l < hi) : Span lo hi W (W.putObj l o) := ⟨rfl, rfl, rfl, by simp, fun _ _ _ => World.putObj_heap_other (by omega)⟩
theorem Span.drew {lo hi : Nat} (W : World) : Span lo hi W W.drew := ⟨rfl, rfl, rfl, Nat.le_refl _, fun _ _ _ => rfl⟩

/-- The contract of an iterator that writes cells of its own: its blocks lie from the heap's size at its call up to m, the heap's size at its first round; a round that goes on leaves them as they lay; whoever calls it minds no turn of theirs. What holds of x at the round's start: Info. -/
def SeqOwns {α : Type} (P : Program) (n g : Nat) (lb : Array Value) (encs : α → Array Value) (Info : Nat → Nat → α → World → Prop) (S Sp : List α → Prop) (w : World) : Prop :=
  ∀ (l : Nat) (J Jx : Nat → List α → World → Prop) (W : World), Below w.heap.size w W →
    (∀ m s A B, J m s A → Span W.heap.size m A B → J m s B) → (∀ m s A B, Jx m s A → Span W.heap.size m A B → Jx m s B) →
    (∀ W', Below W.heap.size W W' → J W'.heap.size [] W') →
    (∀ m pre x W1, J m pre W1 → Info W.heap.size m x W1 → YieldAt Fence.wide (n - 1) P l (encs x) W1 fun e W' =>
      (e = .returned (.bool true) ∧ J m (pre ++ [x]) W' ∧ Stay W.heap.size m W1 W' ∧ W1.heap.size ≤ W'.heap.size) ∨ (e = .returned (.bool false) ∧ Jx m (pre ++ [x]) W')) →
    CallsIn Fence.wide n P g (#[.func (.yield l) #[] #[]] ++ lb) W fun e W' => (∃ v, e = .returned v) ∧ ((∃ m xs, S xs ∧ J m xs W') ∨ (∃ m pre, Sp pre ∧ Jx m pre W'))

/-- How a round's body may be left. -/
def ownPostM {α : Type} (b m : Nat) (I : Nat → List α → World → Prop) (Ix : Code → Nat → List α → World → Prop) (xs : List α) (W : World) : Exit → Act → World → Prop
  | .normal, _, W' => KeepsFrom b W W' ∧ Stay (b + 2) m W W' ∧ I m xs W'
  | .ret, _, W' => KeepsFrom b W W' ∧ Ix .ret m xs W'
  | .exit id, _, W' => KeepsFrom b W W' ∧ Ix (.exit id) m xs W'
  | .goto t, _, W' => KeepsFrom b W W' ∧ Ix (.goto t) m xs W'
  | .panic _, _, _ => False
  | .outgrown, _, _ => False

section
variable {n : Nat} {P : Program} {w : World}
end
end Go.Proofs.YtbnpoliogldohaaGreat
/- The contracts of the library's slices.Grow (onto nothing) and slices.Concat at Inputs, and of the program's inputsOf. -/
namespace Go.Proofs.YtbnpoliogldohaaGreat
open Go.RowKit

theorem ownI_nil (w : World) (B : Nat) : OwnI w B none 0 0 [] := ⟨World.ownsRow_nil _ _ _ _, by omega, fun z hz => by simp at hz⟩
/-- The first k, one behind the other. -/
def flatT (tss : List (List Tm)) : Nat → List Tm
  | 0 => []
  | k + 1 => flatT tss k ++ tsAt tss k
end Go.Proofs.YtbnpoliogldohaaGreat
