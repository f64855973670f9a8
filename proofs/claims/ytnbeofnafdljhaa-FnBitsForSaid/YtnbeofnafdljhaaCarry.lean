/- Sums of limbs carried over: plain lemmas, and the contract of the model's l1Carry. -/
import Derived.Test.YtnbeofnafdljhaaTrim
namespace Go.Proofs.Ytnbeofnafdljhaa
open Go.RowKit

theorem pow_pos (k : Nat) : 0 < 10000 ^ k := Nat.pow_pos (by omega)

theorem carry_step {d : List Int} {k T : Nat} {c s : Int} (hd : d.length = k) (hc : 0 ≤ c) (hcs : c ≤ s) (h : val d + 10000 ^ k * c.toNat = T) :
    val (d ++ [s % 10000]) + 10000 ^ (k + 1) * (s / 10000).toNat = T + 10000 ^ k * (s - c).toNat := by
  rw [val_snoc, hd, Nat.pow_succ, Nat.mul_assoc, Nat.add_assoc, ← Nat.mul_add, ← h, Nat.add_assoc, ← Nat.mul_add]
  congr 2
  omega

/-- All are from 0 to L. -/
def Upto (L : Int) (l : List Int) : Prop := ∀ z ∈ l, 0 ≤ z ∧ z ≤ L
theorem Upto.getD {L : Int} {l : List Int} (h : Upto L l) (hL : 0 ≤ L) (i : Nat) : 0 ≤ l.getD i 0 ∧ l.getD i 0 ≤ L := by
  by_cases hi : i < l.length
  · exact h _ (getD_mem hi)
  · rw [List.getD_eq_getElem?_getD, List.getElem?_eq_none (by omega)]; simpa using hL
theorem val_upto {L : Nat} {l : List Int} (h : Upto L l) : val l + L ≤ L * 10000 ^ l.length := by
  induction l with
  | nil => simp [val]
  | cons z r ih =>
    have h1 := ih (fun x hx => h x (List.mem_cons_of_mem _ hx))
    have h2 := h z (by simp)
    rw [val, List.length_cons, Nat.pow_succ]
    have h3 := Nat.mul_le_mul_right 10000 h1
    rw [Nat.add_mul, Nat.mul_assoc] at h3
    omega
theorem val_upto_lt {L : Nat} {l : List Int} (h : Upto L l) (hL : L < 1000000000000) : val l < 10000 ^ (l.length + 3) := by
  have h1 := val_upto h
  have h2 : L * 10000 ^ l.length ≤ 1000000000000 * 10000 ^ l.length := Nat.mul_le_mul_right _ (by omega)
  have h3 : 10000 ^ (l.length + 3) = 1000000000000 * 10000 ^ l.length := by rw [Nat.pow_add, Nat.mul_comm]
  have h4 := pow_pos l.length
  rcases Nat.eq_zero_or_pos L with h0 | h0
  · subst h0; omega
  · omega
theorem val_take_le (l : List Int) (k : Nat) : val (l.take k) ≤ val l := by rw [val_split l k]; omega
theorem carry_short {d l : List Int} {k : Nat} {c : Int} (h : val d + 10000 ^ k * c.toNat = val (l.take k)) (hc : 0 < c) (hv : val l < 10000 ^ (l.length + 3)) : k < l.length + 3 := by
  have h1 := val_take_le l k
  have h2 : 10000 ^ k * 1 ≤ 10000 ^ k * c.toNat := Nat.mul_le_mul_left _ (by omega)
  have h3 : 10000 ^ k < 10000 ^ (l.length + 3) := by omega
  exact (Nat.pow_lt_pow_iff_right (by omega)).1 h3

set_option maxHeartbeats 400000 in
theorem l1Carry_any (a : Option Addr) (n c : Nat) (l : List Int) (w : World) (h : Ints w a n l) (hn : n ≤ 1000) (L : Nat) (hL : L < 1000000000000) (hu : Upto L l) :
    Calls Try.prog 46 #[.slice a n c] w (MadeInts w (toL (val l))) := by
  have HL := Lib.hid h.1
  have HV := Lib.hid (val_upto_lt hu hL)
  go_enter Try.func46, Try.ntmps46
  go_wp2
  go_loopw [3, 4, 5] (fun v q i wr => ∃ (k : Nat) (d : List Int) (cy : Int) (a1 : Option Addr) (c1 : Nat), i = .int .i64 k ∧ q = .int .i64 cy ∧ v = .slice a1 k c1 ∧ 0 ≤ cy ∧ cy ≤ L ∧ k ≤ 1003 ∧ Good d ∧ Own wr w.heap.size a1 k c1 d ∧ Hid (val d + 10000 ^ k * cy.toNat = val (l.take k)) ∧ Below w.heap.size w wr)
    (fun _ q i _ => (n - (intOf i).toNat) * 1000000000001 + (intOf q).toNat)
  case atStart => exact ⟨0, [], 0, _, _, rfl, rfl, rfl, by omega, by omega, by omega, good_nil, own_empty _ _ (Nat.le_refl _), by simp [val, Hid], (Below.refl _ _).alloc (Nat.le_refl _) _⟩
  case round =>
    obtain ⟨k, d, cy, a1, c1, rfl, rfl, rfl, hc0, hc1, hk, hgd, hown, hv, hbel⟩ := hrel
    by_cases hgo : k < n ∨ 0 < cy
    · have hk2 : k ≤ 1002 := by
        by_cases hlt : k < n
        · omega
        · have := carry_short hv.out (by omega) HV.out
          rw [HL.out] at this; omega
      obtain ⟨z, hz⟩ : ∃ z, Hid (z = l.getD (k : Int).toNat 0) := ⟨_, rfl⟩
      have hz' : Hid (z = l.getD k 0) := by rw [hz.out]; rfl
      have hzb := hu.getD (by omega) k
      rw [← hz'.out] at hzb
      obtain ⟨hz0, hz1⟩ := hzb
      have hbs := hbel.size
      have hst := carry_step (s := z + cy) (by rw [hown.len]) hc0 (by omega) hv.out
      have HST : Hid (val (d ++ [(z + cy) % 10000]) + 10000 ^ (k + 1) * ((z + cy) / 10000).toNat = val (l.take (k + 1))) := by
        show _ = _
        rw [hst, val_take_succ, ← hz'.out, Int.add_sub_cancel]
      clear hst
      have hd1 : k < n ∨ (n ≤ k ∧ 0 < cy ∧ z ≤ 0) := by
        rcases Nat.lt_or_ge k n with h' | h'
        · exact .inl h'
        · refine .inr ⟨h', by omega, ?_⟩
          rw [hz'.out, List.getD_eq_getElem?_getD, List.getElem?_eq_none (by rw [HL.out]; exact h')]
          exact Int.le_refl _
      have hmm : In64 ((z + cy) % 10000) := ⟨by omega, by omega⟩
      have hgd1 : Good (d ++ [(z + cy) % 10000]) := hgd.snoc (by omega) (by omega)
      rcases hd1 with hlt | ⟨hge, hcp, hzz⟩
      all_goals
        go_wp2_with (first | (go_at_call 45; refine (l1Limb_any _ _ _ l _ (h.below hbel) _ (by omega) (by omega) z hz).mono ?_; rintro e w1 ⟨rfl, rfl⟩) | (at_builtin; refine wpList_push _ rfl _ _ rfl w.heap.size _ _ _ d rfl (hown.alloc _) wr.heap.size ((z + cy) % 10000) rfl (by simp) hmm (by omega) (by simp; omega) ?_))
        intro a2 c2 w1 hown1 hg1
        have hb1 := below_push (hbel.alloc hbs _) (hown.alloc _) (by simp; omega) hg1
        clear hown hg1 hv
        go_wp2
        go_roundw
        case rel => exact ⟨k + 1, _, (z + cy) / 10000, a2, c2, by go_num, rfl, rfl, by omega, by omega, by omega, hgd1, hown1, HST, hb1⟩
        case measure => simp [intOf]; omega
    · have hk0 : n ≤ k := by omega
      obtain rfl : cy = 0 := by omega
      have hvd : val d = val l := by
        have := hv.out
        rw [List.take_of_length_le (by rw [HL.out]; exact hk0)] at this
        simpa using this
      have hca := hown.cap
      go_wp2_with fail
      refine (l1Trim_any _ _ _ d _ hown.ints hca hgd).mono ?_
      rintro e w1 ⟨a2, n2, c2, rfl, hown1, hb1⟩
      go_wp2_with fail
      go_ret
      rw [hvd] at hown1
      exact ⟨_, _, _, rfl, hown1.base hbel.size, hbel.trans (hb1.mono hbel.size)⟩
end Go.Proofs.Ytnbeofnafdljhaa
