/- The contracts of the two functions that strike noughts at the end. -/
import Derived.Test.YtnbeofnafdljhaaDoorCmp
import Derived.Test.YtnbeofnafdljhaaDoorPush
namespace Go.Proofs.YtnbeofnafdljhaaDoor
open Go.RowKit

theorem trimLen_zero {l : List Int} {k n : Nat} {z : Int} (h : trimLen l k = trimLen l n) (hp : 0 < k) (hz : Hid (z = l.getD (k - 1) 0)) (h0 : z = 0) : trimLen l (k - 1) = trimLen l n := by
  rw [← h]
  have e : k = k - 1 + 1 := by omega
  have hz' := hz.out
  rw [h0] at hz'
  rw [e, trimLen, if_pos hz'.symm]; simp
theorem trimLen_stop {l : List Int} {k n : Nat} {z : Int} (h : trimLen l k = trimLen l n) (hp : 0 < k) (hz : Hid (z = l.getD (k - 1) 0)) (h0 : z ≠ 0) : trimLen l n = k := by
  rw [← h]
  have e : k = k - 1 + 1 := by omega
  have hz' := hz.out
  rw [e, trimLen, if_neg (by rw [← hz']; exact h0)]
theorem ret_slice {a : Option Addr} {n m c : Nat} (h : n = m) : Ending.returned (.slice a n c) = .returned (.slice a m c) := by rw [h]

set_option maxHeartbeats 400000 in
theorem trimmed_any (a : Option Addr) (n c : Nat) (l : List Int) (w : World) (h : Ints w a n l) (hnc : n ≤ c) :
    Calls Tryd.prog 25 #[.slice a n c] w fun e w' => e = .returned (.slice a (trimLen l n) c) ∧ w = w' := by
  have hbd := h.2.1
  go_enter Tryd.func25, Tryd.ntmps25
  go_wp2
  go_loop [3] (fun i => ∃ k : Nat, k ≤ n ∧ i = .int .i64 k ∧ Hid (trimLen l k = trimLen l n)) (fun i => (intOf i).toNat)
  case atStart => exact ⟨n, Nat.le_refl _, rfl, rfl⟩
  case round =>
    obtain ⟨k, hk, rfl, ht⟩ := hrel
    by_cases hp : 0 < k
    · obtain ⟨b, o, z, rfl, hb, hz, hin, hc⟩ := h.at_ (k := k - 1) (by omega)
      have hd : decide ((0 : Int) < (k : Int)) = true := by simp; omega
      by_cases h0 : z = 0
      · subst h0
        go_wp2
        go_round
        case rel => exact ⟨k - 1, by omega, by go_num, trimLen_zero ht.out hp hz rfl⟩
        case measure => simp [intOf]; omega
      · have hne : (z == 0) = false := by simpa using h0
        go_wp2
        go_ret
        exact ⟨ret_slice (trimLen_stop ht.out hp hz h0).symm, rfl⟩
    · have hk0 : k = 0 := by omega
      subst hk0
      go_wp2
      go_ret
      exact ⟨ret_slice (by rw [← ht.out]; rfl), rfl⟩
theorem ints_cut {w : World} {a : Option Addr} {n : Nat} {zs : List Int} {o : Obj} (k : Nat) (h : Ints w a n zs) (hk : k ≤ n) : Ints (w.alloc o) a k (zs.take k) := by
  obtain ⟨hl, hn, hin, hc⟩ := h
  refine ⟨by rw [List.length_take]; omega, by omega, fun z hz => hin z (List.mem_of_mem_take hz), fun hp => ?_⟩
  obtain ⟨b, off, rfl, hb, hcell⟩ := hc (by omega)
  refine ⟨b, off, rfl, by simp; omega, fun i hi => ?_⟩
  rw [World.cell?_alloc_lt w o ⟨b, off + i, none⟩ hb, hcell i (by omega)]
  simp [List.getD_eq_getElem?_getD, hi]

set_option maxHeartbeats 400000 in
theorem l1Trim_any (a : Option Addr) (n c : Nat) (l : List Int) (w : World) (h : Ints w a n l) (hnc : n ≤ c) (hgood : Good l) :
    Calls Tryd.prog 34 #[.slice a n c] w (MadeInts w (toL (val l))) := by
  have HT : Hid (l.take (trimLen l n) = toL (val l)) := by rw [← trim_toL hgood, h.1]; rfl
  have hbd := h.2.1
  go_enter Tryd.func34, Tryd.ntmps34
  go_wp2
  go_loop [3] (fun i => ∃ k : Nat, k ≤ n ∧ i = .int .i64 k ∧ Hid (trimLen l k = trimLen l n)) (fun i => (intOf i).toNat)
  case atStart => exact ⟨n, Nat.le_refl _, rfl, rfl⟩
  case round =>
    obtain ⟨k, hk, rfl, ht⟩ := hrel
    by_cases hp : 0 < k
    · obtain ⟨b, o, z, rfl, hb, hz, hin, hc⟩ := h.at_ (k := k - 1) (by omega)
      have hd : decide ((0 : Int) < (k : Int)) = true := by simp; omega
      by_cases h0 : z = 0
      · subst h0
        go_wp2
        go_round
        case rel => exact ⟨k - 1, by omega, by go_num, trimLen_zero ht.out hp hz rfl⟩
        case measure => simp [intOf]; omega
      · have hne : (z == 0) = false := by simpa using h0
        go_wp2_with (at_builtin; refine wpList_concat _ rfl _ _ rfl w.heap.size _ _ _ [] rfl (own_empty _ _ (Nat.le_refl _)) _ k _ (l.take k) rfl (ints_cut k h (by omega)) (by omega) (by simp) ?_)
        intro a1 c1 w1 hown1 hg1
        have hb1 := below_push ((Below.refl w.heap.size w).alloc (Nat.le_refl _) _) (own_empty w _ (Nat.le_refl _)) (by simp) hg1
        clear hg1
        have HO : Own w1 w.heap.size a1 k c1 (toL (val l)) := by rw [← HT.out, trimLen_stop ht.out hp hz h0]; exact hown1
        clear hown1
        go_wp2
        go_ret
        exact ⟨_, _, _, rfl, HO, hb1⟩
    · have hk0 : k = 0 := by omega
      subst hk0
      go_wp2_with (at_builtin; refine wpList_concat _ rfl _ _ rfl w.heap.size _ _ _ [] rfl (own_empty _ _ (Nat.le_refl _)) _ 0 _ (l.take 0) rfl (ints_cut 0 h (by omega)) (by omega) (by simp) ?_)
      intro a1 c1 w1 hown1 hg1
      have hb1 := below_push ((Below.refl w.heap.size w).alloc (Nat.le_refl _) _) (own_empty w _ (Nat.le_refl _)) (by simp) hg1
      clear hg1
      have HO : Own w1 w.heap.size a1 0 c1 (toL (val l)) := by rw [← HT.out, ← ht.out]; exact hown1
      clear hown1
      go_wp2
      go_ret
      exact ⟨_, _, _, rfl, HO, hb1⟩
end Go.Proofs.YtnbeofnafdljhaaDoor
