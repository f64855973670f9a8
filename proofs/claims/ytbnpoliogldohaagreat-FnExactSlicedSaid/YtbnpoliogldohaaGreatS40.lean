/- The contract of the library's slices.Backward at Inputs: what its function value yields. -/
import Derived.Test.YtbnpoliogldohaaGreatS38
import Derived.RangeFuncNested
import Derived.RangeFuncBound
import Derived.RangeFuncCalls
import Derived.RangeFuncLeaves
import Derived.Shelf.Abstract
import Derived.Shelf.RegionOpen
import Derived.OwnWalkIn
import Derived.TacticsInMore
import Derived.LoopNIn
import Derived.LoopIn
namespace Go.Proofs.YtbnpoliogldohaaGreat
open Go.RowKit Go.Shelf
attribute [local go_sem] Oper.semAt_some

/-- The places below L, from the last one down. -/
def backTo (L k : Nat) : List { j : Nat // j < L } := (List.range k).filterMap (fun i => if h : i < L then some ⟨L - 1 - i, by omega⟩ else none)
/-- What yield is handed. -/
def encB (ts : List Tm) (L : Nat) (x : { j : Nat // j < L }) : Array Value := #[.int .i64 (x.1 : Int), .agg #[.int .i64 (tmAt ts x.1).1, .int .i64 (tmAt ts x.1).2]]
/-- All blocks below n₀ but the block b stand as they stood. -/
structure KeepBut (n₀ b : Nat) (W W' : World) : Prop where
  os : W'.os = W.os
  tape : W'.tape = W.tape
  output : W'.output = W.output
  size : W.heap.size ≤ W'.heap.size
  block : ∀ k, k < n₀ → k ≠ b → W'.heap[k]? = W.heap[k]?
theorem KeepBut.refl (n₀ b : Nat) (W : World) : KeepBut n₀ b W W := ⟨rfl, rfl, rfl, Nat.le_refl _, fun _ _ _ => rfl⟩
theorem KeepBut.trans {n₀ b : Nat} {A B C : World} (h : KeepBut n₀ b A B) (k : KeepBut n₀ b B C) : KeepBut n₀ b A C :=
  ⟨k.os.trans h.os, k.tape.trans h.tape, k.output.trans h.output, Nat.le_trans h.size k.size, fun i hi hne => (k.block i hi hne).trans (h.block i hi hne)⟩
theorem KeepBut.of_below {n₀ b : Nat} {A B : World} (h : Below n₀ A B) : KeepBut n₀ b A B := ⟨h.os, h.tape, h.output, h.size, fun k hk _ => h.block k hk⟩
theorem KeepBut.set {n₀ b j : Nat} (W : World) (v : Value) : KeepBut n₀ b W (W.setCell ⟨b, j, none⟩ v) := ⟨rfl, rfl, rfl, by simp, fun k _ hne => Below.heap_setCell _ _ _ k (fun e => hne e)⟩
theorem KeepBut.put {n₀ b l : Nat} (W : World) (o : Obj) (hl : n₀ ≤ l) : KeepBut n₀ b W (W.putObj l o) :=
  ⟨rfl, rfl, rfl, by simp, fun k hk _ => World.putObj_heap_other (by omega)⟩
end Go.Proofs.YtbnpoliogldohaaGreat
