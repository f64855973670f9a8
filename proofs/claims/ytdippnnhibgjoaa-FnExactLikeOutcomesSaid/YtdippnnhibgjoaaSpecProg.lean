/- The contracts of the model's l3Size, l3Bits, l3Vars. -/
import Derived.Test.YtdippnnhibgjoaaProgLaw
import Derived.Test.YtdippnnhibgjoaaNatOk
namespace Go.Proofs.Ytdippnnhibgjoaa
open Go.RowKit

/-- How many bits a number has. -/
def bitsN (n : Nat) : Nat := if h : n = 0 then 0 else bitsN (n / 2) + 1
theorem bitsN_zero : bitsN 0 = 0 := by rw [bitsN]; rfl
theorem bitsN_pos {n : Nat} (h : 0 < n) : bitsN n = bitsN (n / 2) + 1 := by rw [bitsN, dif_neg (by omega)]
theorem bitsN_le : ∀ (j n : Nat), n < 2 ^ j → bitsN n ≤ j
  | 0, n, h => by have : n = 0 := by omega
                  subst this; rw [bitsN_zero]; exact Nat.le_refl _
  | j + 1, n, h => by
    rcases Nat.eq_zero_or_pos n with rfl | hp
    · rw [bitsN_zero]; omega
    · rw [bitsN_pos hp]
      have := bitsN_le j (n / 2) (by rw [Nat.pow_succ] at h; omega)
      omega
def progCells (r : PRow) : Array Value := #[.int .i64 r.width, slV r.lows, slV r.secrets, .int .i64 r.temps, slV r.arrays, slV r.body]

set_option maxHeartbeats 800000 in
theorem l3Size_any (r : PRow) (W : Nat) (w : World) (hW : r.width = (W : Int)) (h8 : W ≤ 8) :
    Calls Try.prog 82 #[progV r] w fun e w' => e = .returned (.int .i64 ((2 ^ W : Nat) : Int)) ∧ Below w.heap.size w w' := by
  obtain ⟨wd, ⟨a1, n1, c1⟩, ⟨a2, n2, c2⟩, tp, ⟨a3, n3, c3⟩, ⟨a4, n4, c4⟩, rows⟩ := r
  simp only [] at hW
  subst hW
  show Calls Try.prog 82 #[.agg #[.int .i64 (W : Int), .slice a1 n1 c1, .slice a2 n2 c2, .int .i64 tp, .slice a3 n3 c3, .slice a4 n4 c4]] w _
  have HB : Below w.heap.size w (w.alloc (.cells #[.int .i64 (W : Int), .slice a1 n1 c1, .slice a2 n2 c2, .int .i64 tp, .slice a3 n3 c3, .slice a4 n4 c4] 31)) := (Below.refl _ _).alloc (Nat.le_refl _) _
  go_enter Try.func82, Try.ntmps82
  go_wp2
  go_loop [3, 4] (fun q i => ∃ k : Nat, k ≤ W ∧ i = .int .i64 (k : Int) ∧ q = .int .i64 ((2 ^ k : Nat) : Int)) (fun _ i => W - (intOf i).toNat)
  case atStart => exact ⟨0, Nat.zero_le _, rfl, rfl⟩
  case round =>
    obtain ⟨k, hk, rfl, rfl⟩ := hrel
    by_cases hlt : k < W
    · have hp : 2 ^ k ≤ 2 ^ 8 := Nat.pow_le_pow_right (by omega) (by omega)
      have hs := Lib.hid (Nat.pow_succ (n := 2) (m := k))
      generalize (2 : Nat) ^ k = q at hp hs ⊢
      go_wp2
      go_round
      case rel => exact ⟨k + 1, by omega, by go_num, by rw [hs.out]; go_num⟩
      case measure => simp [intOf]; omega
    · obtain rfl : W = k := by omega
      go_wp2
      go_ret
      exact ⟨rfl, HB⟩
set_option maxHeartbeats 800000 in
theorem l3Bits_any (n : Int) (w : World) (hn : In64 n) :
    Calls Try.prog 83 #[.int .i64 n] w fun e w' => e = .returned (.int .i64 (bitsN n.toNat : Int)) ∧ w = w' := by
  have hb63 : bitsN n.toNat ≤ 63 := bitsN_le 63 _ (by have := hn.2; omega)
  obtain ⟨T, HT⟩ : ∃ T, Hid (bitsN n.toNat = T) := ⟨_, rfl⟩
  rw [HT.out] at hb63 ⊢
  have h1 := hn.1
  have h2 := hn.2
  go_enter Try.func83, Try.ntmps83
  go_wp2
  go_loop [0, 3] (fun q i => ∃ (m : Int) (k : Nat), In64 m ∧ q = .int .i64 m ∧ i = .int .i64 (k : Int) ∧ bitsN m.toNat + k = T) (fun q _ => (intOf q).toNat)
  case atStart => exact ⟨n, 0, hn, rfl, rfl, HT.out⟩
  case round =>
    obtain ⟨m, k, hm, rfl, rfl, hs⟩ := hrel
    have hm1 := hm.1
    have hm2 := hm.2
    by_cases hlt : 0 < m
    · have hbit := bitsN_pos (n := m.toNat) (by omega)
      have hkT : k < T := by omega
      have hdiv : (m / 2).toNat = m.toNat / 2 := by omega
      have htd : Int.tdiv m 2 = m / 2 := Int.tdiv_eq_ediv_of_nonneg (by omega)
      have HS : Hid (bitsN (Int.tdiv m 2).toNat + (k + 1) = T) := by rw [htd, hdiv]; exact Lib.hid (by omega)
      have H2 : Hid (In64 (Int.tdiv m 2)) := by rw [htd]; exact Lib.hid ⟨by omega, by omega⟩
      have H3 : Hid ((Int.tdiv m 2).toNat < m.toNat) := by rw [htd]; exact Lib.hid (by omega)
      have b1 := H2.out.1
      have b2 := H2.out.2
      clear hbit hdiv htd hs
      go_wp2
      go_round
      case rel => exact ⟨Int.tdiv m 2, k + 1, H2.out, by go_num, by go_num, HS.out⟩
      case measure => exact H3.out
    · have h0 : m.toNat = 0 := by omega
      rw [h0, bitsN_zero] at hs
      have hkT : k = T := by omega
      subst hkT
      go_wp2
      go_ret
      exact ⟨rfl, rfl⟩
theorem l3Vars_any (r : PRow) (w : World) (h1 : r.lows.2.1 ≤ 1048576) (h2 : r.secrets.2.1 ≤ 1048576) (h3 : 0 ≤ r.temps) (h4 : r.temps ≤ 1048576) :
    Calls Try.prog 122 #[progV r] w fun e w' => e = .returned (.int .i64 ((r.lows.2.1 : Int) + (r.secrets.2.1 : Int) + r.temps)) ∧ Below w.heap.size w w' := by
  obtain ⟨wd, ⟨a1, n1, c1⟩, ⟨a2, n2, c2⟩, tp, ⟨a3, n3, c3⟩, ⟨a4, n4, c4⟩, rows⟩ := r
  simp only [] at h1 h2 h3 h4
  show Calls Try.prog 122 #[.agg #[.int .i64 wd, .slice a1 n1 c1, .slice a2 n2 c2, .int .i64 tp, .slice a3 n3 c3, .slice a4 n4 c4]] w _
  go_enter Try.func122, Try.ntmps122
  go_wp2
  go_ret
  exact ⟨rfl, (Below.refl _ _).alloc (Nat.le_refl _) _⟩
end Go.Proofs.Ytdippnnhibgjoaa
