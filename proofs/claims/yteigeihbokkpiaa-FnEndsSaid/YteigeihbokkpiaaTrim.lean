/- The contracts of the two functions that strike noughts at the end. -/
import Derived.Test.YteigeihbokkpiaaCmp
import Derived.Test.YteigeihbokkpiaaPush
namespace Go.Proofs.Yteigeihbokkpiaa
open Go.RowKit

theorem trimLen_zero {l : List Int} {k n : Nat} {z : Int} (h : trimLen l k = trimLen l n) (hp : 0 < k) (hz : Hid (z = l.getD (k - 1) 0)) (h0 : z = 0) : trimLen l (k - 1) = trimLen l n := by
  rw [← h]
  have e : k = k - 1 + 1 := by omega
  have hz' := hz.out
  rw [h0] at hz'
  rw [e, trimLen, if_pos hz'.symm]; simp
theorem trimLen_stop {l : List Int} {k n : Nat} {z : Int} (h : trimLen l k = trimLen l n) (hp : 0 < k) (hz : Hid (z = l.getD (k - 1) 0)) (h0 : z ≠ 0) : trimLen l n = k := by
  rw [← h]
  have e : k = k - 1 + 1 := by omega
  have hz' := hz.out
  rw [e, trimLen, if_neg (by rw [← hz']; exact h0)]
theorem ret_slice {a : Option Addr} {n m c : Nat} (h : n = m) : Ending.returned (.slice a n c) = .returned (.slice a m c) := by rw [h]

theorem ints_cut {w : World} {a : Option Addr} {n : Nat} {zs : List Int} {o : Obj} (k : Nat) (h : Ints w a n zs) (hk : k ≤ n) : Ints (w.alloc o) a k (zs.take k) := by
  obtain ⟨hl, hn, hin, hc⟩ := h
  refine ⟨by rw [List.length_take]; omega, by omega, fun z hz => hin z (List.mem_of_mem_take hz), fun hp => ?_⟩
  obtain ⟨b, off, rfl, hb, hcell⟩ := hc (by omega)
  refine ⟨b, off, rfl, by simp; omega, fun i hi => ?_⟩
  rw [World.cell?_alloc_lt w o ⟨b, off + i, none⟩ hb, hcell i (by omega)]
  simp [List.getD_eq_getElem?_getD, hi]

end Go.Proofs.Yteigeihbokkpiaa
