/- 'make([]bool, n)', and stores into it. -/
import Derived.Test.YtmooecbdpfhnlaaGreatK17
import Derived.Deep.OwnRows
import Derived.Laws.Rows
namespace Go.Proofs.YtmooecbdpfhnlaaGreat
open Go.RowKit

theorem make_bools (n : Nat) (h : n ≤ 1048576) (w : World) : (Instr.makeSlice 39 (.int .i64 (n : Int)) (.int .i64 (n : Int))).run Tryz.prog w = .ok (.slice (some ⟨w.heap.size, 0, none⟩) n n) (w.alloc (.cells (madeCells #[.bool false] n) 4)) :=
  run_make_row' 39 4 (.bool false) 1 Tryz.underlying39 info_bool rfl .i64 .i64 n (by omega) (by omega) w
theorem own_madeB (w : World) (n : Nat) (h : n ≤ 1048576) : OwnB (w.alloc (.cells (madeCells #[.bool false] n) 4)) w.heap.size (some ⟨w.heap.size, 0, none⟩) n n (List.replicate n false) := by
  have e : (madeCells #[Value.bool false] n).toList = (List.replicate n false).map Value.bool := by
    rw [toList_madeCells_one]; simp
  have hs : (madeCells #[Value.bool false] n).size = n := by rw [← Array.length_toList, e]; simp
  refine ⟨⟨by simp, .inr ⟨w.heap.size, n, madeCells #[.bool false] n, rfl, Nat.le_refl _, World.alloc_heap_new w _, Nat.le_refl _, by unfold maxLen; omega, by rw [hs, Nat.mul_one], ?_⟩⟩, h⟩
  rw [e, List.take_of_length_le (by simp)]
/-- A bool is written. -/
theorem OwnB.put {w : World} {B g n c k : Nat} {bs : List Bool} (h : OwnB w B (some ⟨g, 0, none⟩) n c bs) (z : Bool) : OwnB (w.setCell ⟨g, k, none⟩ (.bool z)) B (some ⟨g, 0, none⟩) n c (bs.set k z) := by
  refine ⟨?_, h.2⟩
  rw [List.map_set]; exact (h.1.stored k _).1
theorem OwnB.cellB {w : World} {B g n c k : Nat} {bs : List Bool} (h : OwnB w B (some ⟨g, 0, none⟩) n c bs) (hk : k < n) : w.cell? ⟨g, k, none⟩ = some (.bool (bAt bs k)) := by
  have hl := h.len
  rw [h.1.cellAt k (by omega)]
  simp [bAt, List.getD_eq_getElem?_getD, List.getElem?_eq_getElem (show k < bs.length by omega)]
end Go.Proofs.YtmooecbdpfhnlaaGreat
