/- The contracts of the two functions NatOf: each makes the limbs of the number, in new memory. -/
import Derived.Test.YtnbeofnafdljhaaDoorPush
namespace Go.Proofs.YtnbeofnafdljhaaDoor
open Go.RowKit

theorem toL_len_64 {n : Int} (h : In64 n) : (toL n.toNat).length ≤ 5 := toL_len_lt (by have := h.2; omega)
theorem split_len {pre : List Int} {m : Nat} {n : Int} (h : In64 n) (e : toL n.toNat = pre ++ toL m) : pre.length ≤ 5 := by
  have := toL_len_64 h
  rw [e, List.length_append] at this; omega

set_option maxHeartbeats 400000 in
theorem natOf_any (n : Int) (w : World) (h : In64 n) :
    Calls Tryd.prog 8 #[.int .i64 n] w (MadeInts w (toL n.toNat)) := by
  go_enter Tryd.func8, Tryd.ntmps8
  go_wp2
  go_loopw [0, 3] (fun q v wr => ∃ (m : Int) (pre : List Int) (a : Option Addr) (l c : Nat), In64 m ∧ q = .int .i64 m ∧ v = .slice a l c ∧ Own wr w.heap.size a l c pre ∧ Hid (toL n.toNat = pre ++ toL m.toNat) ∧ Below w.heap.size w wr) (fun q _ _ => (intOf q).toNat)
  case atStart => exact ⟨n, [], none, 0, 0, h, rfl, rfl, own_nil _ _, rfl, Below.refl _ _⟩
  case round =>
    obtain ⟨m, pre, a, l, c, hm, rfl, rfl, hown, he, hbel⟩ := hrel
    have hl5 := split_len h he.out
    have hln := Lib.hid hown.len
    have hl6 : l ≤ 5 := by rw [← hln.out]; exact hl5
    clear hl5
    by_cases hp : 0 < m
    · have hmm : In64 (m % 10000) := ⟨by omega, by omega⟩
      have hbs := hbel.size
      have hmu : m ≤ 9223372036854775807 := hm.2
      go_wp2_with (at_builtin; refine wpList_push _ rfl _ _ rfl w.heap.size _ _ _ pre rfl (hown.alloc _) wr.heap.size (m % 10000) rfl (by simp) hmm (by omega) (by simp; omega) ?_)
      intro a1 c1 w1 hown1 hg1
      have hb1 := below_push (hbel.alloc hbs _) (hown.alloc _) (by simp; omega) hg1
      clear hown hg1
      go_wp2
      go_roundw
      case rel =>
        refine ⟨m / 10000, pre ++ [m % 10000], a1, l + 1, c1, ⟨by have := hm.1; omega, by have := hm.2; omega⟩, rfl, rfl, hown1, ?_, hb1⟩
        show toL n.toNat = _
        rw [he.out, toL_pos (by omega), List.append_assoc, List.singleton_append]
        congr 2
        · omega
        · congr 1; omega
      case measure => simp [intOf]; omega
    · go_wp2
      go_ret
      have e0 : m.toNat = 0 := by omega
      have he' := he.out
      rw [e0, toL_zero, List.append_nil] at he'
      rw [he']
      exact ⟨_, _, _, rfl, hown, hbel⟩

end Go.Proofs.YtnbeofnafdljhaaDoor
