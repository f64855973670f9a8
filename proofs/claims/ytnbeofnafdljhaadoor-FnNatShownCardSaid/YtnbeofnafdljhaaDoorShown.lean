/- What is shown of a great number is its decimal digits; the contracts of the laws' own digits, of the draw for ShowNat. -/
import Derived.Test.YtnbeofnafdljhaaDoorLaid
import Derived.Test.YtnbeofnafdljhaaDoorDice
import Derived.Test.YtnbeofnafdljhaaDoorMulNat
import Derived.Test.YtnbeofnafdljhaaDoorNatOf
import Derived.Test.YtnbeofnafdljhaaDoorDrawPair
namespace Go.Proofs.YtnbeofnafdljhaaDoor
open Go.RowKit

theorem dig4 {hi lo : Nat} (h0 : 0 < hi) (h1 : lo < 10000) : Lib.decDigits (lo + 10000 * hi) = Lib.decDigits hi ++ (Lib.decDigits (lo + 10000)).drop 1 := by
  rw [digs_big (n := lo + 10000 * hi) (by omega), digs_big (n := (lo + 10000 * hi) / 10) (by omega), digs_big (n := (lo + 10000 * hi) / 10 / 10) (by omega), digs_big (n := (lo + 10000 * hi) / 10 / 10 / 10) (by omega)]
  rw [digs_big (n := lo + 10000) (by omega), digs_big (n := (lo + 10000) / 10) (by omega), digs_big (n := (lo + 10000) / 10 / 10) (by omega), digs_big (n := (lo + 10000) / 10 / 10 / 10) (by omega), digs_small (n := (lo + 10000) / 10 / 10 / 10 / 10) (by omega)]
  have e0 : (lo + 10000 * hi) / 10 / 10 / 10 / 10 = hi := by omega
  have e1 : (lo + 10000 * hi) / 10 / 10 / 10 % 10 = (lo + 10000) / 10 / 10 / 10 % 10 := by omega
  have e2 : (lo + 10000 * hi) / 10 / 10 % 10 = (lo + 10000) / 10 / 10 % 10 := by omega
  have e3 : (lo + 10000 * hi) / 10 % 10 = (lo + 10000) / 10 % 10 := by omega
  have e4 : (lo + 10000 * hi) % 10 = (lo + 10000) % 10 := by omega
  rw [e0, e1, e2, e3, e4]
  simp

theorem itoa_nat {z : Int} (h : 0 ≤ z) : Lib.itoa z = Lib.decDigits z.toNat := by unfold Lib.itoa; rw [if_neg (by omega)]

theorem showTo_digits {zs : List Int} (hg : Good zs) (ht : Tight zs) (hp : 0 < zs.length) : ∀ j, j < zs.length → 0 < val (zs.drop (zs.length - 1 - j)) ∧ showTo zs j = Lib.decDigits (val (zs.drop (zs.length - 1 - j))) := by
  intro j
  induction j with
  | zero =>
    intro _
    have hz := hg.getD (zs.length - 1)
    have e : zs.drop (zs.length - 1) = [zs.getD (zs.length - 1) 0] := by
      rw [List.drop_eq_getElem_cons (by omega), List.drop_of_length_le (by omega)]
      simp [List.getD_eq_getElem?_getD, show zs.length - 1 < zs.length by omega]
    rw [Nat.sub_zero, e]
    have hne := ht hp
    refine ⟨by simp only [val]; omega, ?_⟩
    simp only [showTo, val]
    rw [itoa_nat hz.1]; simp
  | succ j ih =>
    intro hj
    obtain ⟨h1, h2⟩ := ih (by omega)
    have hz := hg.getD (zs.length - 2 - j)
    have e : zs.drop (zs.length - 1 - (j + 1)) = zs.getD (zs.length - 2 - j) 0 :: zs.drop (zs.length - 1 - j) := by
      rw [List.drop_eq_getElem_cons (by omega), show zs.length - 1 - (j + 1) + 1 = zs.length - 1 - j by omega]
      congr 1
      simp [List.getD_eq_getElem?_getD, show zs.length - 2 - j = zs.length - 1 - (j + 1) by omega, show zs.length - 1 - (j + 1) < zs.length by omega]
    rw [e]
    refine ⟨by simp only [val]; omega, ?_⟩
    simp only [showTo, val]
    rw [h2, dig4 h1 (by omega), itoa_nat (by omega)]
    congr 3
    omega
theorem showL_digits {zs : List Int} (h : okB zs = true) : showL zs = Lib.decDigits (val zs) := by
  have g := (okB_iff zs).1 h
  by_cases h0 : zs.length = 0
  · rw [showL_nil h h0]
    have : zs = [] := List.eq_nil_of_length_eq_zero h0
    subst this
    rw [digs_small (by simp [val])]; rfl
  · rw [showL_yes h rfl (by omega)]
    have := (showTo_digits g.2.1 g.2.2 (by omega) (zs.length - 1) (by omega)).2
    rw [this, Nat.sub_self, List.drop_zero]
theorem show_ten {n : Nat} (h : 0 < n) : Lib.decDigits (n * 10) = Lib.decDigits n ++ [48] := by
  rw [digs_big (by omega)]
  have e1 : n * 10 / 10 = n := by omega
  have e2 : n * 10 % 10 = 0 := by omega
  rw [e1, e2]; rfl
theorem digs_len (n : Nat) : (Lib.decDigits n).length ≤ n + 1 := by
  induction n using Nat.strongRecOn with
  | _ n ih =>
    by_cases h : n < 10
    · rw [digs_small h]; simp
    · rw [digs_big (by omega), List.length_append]
      have := ih (n / 10) (by omega)
      simp; omega
theorem ok_small {n : Nat} (h : n < 10000 ^ 100) : okB (toL n) = true := by
  rw [okB_toL, decide_eq_true_eq]; exact toL_len_lt h

set_option maxHeartbeats 800000 in
theorem digits_any (n : Int) (w : World) (h0 : 0 ≤ n) (h1 : n ≤ 1152921504606846976) :
    Calls Tryd.prog 12 #[.int .i64 n] w fun e w' => e = .returned (.string ⟨(Lib.decDigits n.toNat).toArray⟩) ∧ Below w.heap.size w w' := by
  obtain ⟨k, rfl⟩ := Int.eq_ofNat_of_zero_le h0
  rw [Int.toNat_natCast]
  go_enter Tryd.func12, Tryd.ntmps12
  go_wp2_with fail
  go_loopw [0, 3] (fun nv sv wr => ∃ (m : Nat) (l : List UInt8), nv = .int .i64 m ∧ sv = .string ⟨l.toArray⟩ ∧ m ≤ k ∧ ((l = [] ∧ m = k) ∨ (l ≠ [] ∧ IntTo k m l)) ∧ l.length + m ≤ k + 1 ∧ Below w.heap.size w wr) (fun nv sv _ => (intOf nv).toNat + noText sv)
  case atStart => exact ⟨k, [], rfl, rfl, Nat.le_refl _, .inl ⟨rfl, rfl⟩, by simp, Below.refl _ _⟩
  case round =>
    obtain ⟨m, l, rfl, rfl, hm, hto, hl, hbel⟩ := hrel
    obtain ⟨d, HD⟩ : ∃ d, Hid (UInt8.ofNat (48 + m % 10) = d) := ⟨_, rfl⟩
    have hcv := conv_one (wr.alloc (.cells #[.int .u8 (48 + (m : Int) % 10)] 5)) wr.heap.size (48 + (m : Int) % 10) (by simp)
    rw [digit_byte, HD.out] at hcv
    have hbs := hbel.size
    have hb2 := hbel.alloc hbs (.cells #[.int .u8 (48 + (m : Int) % 10)] 5)
    rcases hto with ⟨rfl, rfl⟩ | ⟨hne, hto⟩
    · have hnx := Lib.hid (intTo_next (n := m) (m := m) (l := []) (by simp))
      rw [HD.out] at hnx
      go_wp2_with fail
      go_roundw
      case rel => exact ⟨m / 10, [d], by go_num, str_eq (app_one d []), by omega, .inr ⟨by simp, hnx⟩, by simp; omega, hb2⟩
      case measure =>
        have e1 : noText (.string ((⟨#[d]⟩ : ByteArray) ++ ⟨#[]⟩)) = 0 := noText_cons d []
        have e2 : noText (.string ⟨#[]⟩) = 1 := rfl
        rw [e1, e2]
        simp [intOf]; omega
    · obtain ⟨x, r, rfl⟩ := List.exists_cons_of_ne_nil hne
      obtain ⟨b, HB⟩ : ∃ b : ByteArray, Hid (b = ⟨(x :: r).toArray⟩) := ⟨_, rfl⟩
      rw [← HB.out]
      have hemp : b.toList.isEmpty = false := by rw [HB.out]; exact cons_some x r
      have hsz : b.size ≤ k + 1 := by rw [HB.out]; show (x :: r).toArray.size ≤ k + 1; simp at hl ⊢; omega
      rcases hto with ⟨hp, he⟩ | ⟨rfl, he⟩
      · have hnx := Lib.hid (intTo_next he)
        rw [HD.out] at hnx
        go_wp2_with fail
        go_roundw
        case rel => exact ⟨m / 10, d :: x :: r, by go_num, str_eq (by rw [HB.out]; exact app_one d (x :: r)), by omega, .inr ⟨by simp, hnx⟩, by simp at hl ⊢; omega, hb2⟩
        case measure =>
          have e1 : noText (.string ((⟨#[d]⟩ : ByteArray) ++ b)) = 0 := by rw [HB.out]; exact noText_cons d (x :: r)
          rw [e1]
          simp [intOf]; omega
      · go_wp2_with fail
        go_ret
        exact ⟨ret_str (by rw [HB.out, he]), hbel⟩

set_option maxHeartbeats 400000 in
theorem drawShowNat_any (a : Option Addr) (n c : Nat) (w : World) (h : CodeAt w w.heap.size a n) : Calls Tryd.prog 10 #[.slice a n c] w (DrewOne w) := by
  go_enter Tryd.func10, Tryd.ntmps10
  go_wp2_with fail
  refine (l1New_any a n c _ h).mono ?_
  rintro e w1 ⟨p, rfl, hp, hc1, hb1⟩
  go_wp2_with fail
  refine (l1DrawAny_any p _ hc1).mono ?_
  rintro e w2 ⟨a2, n2, c2, xs, rfl, hn2, hown2, hc2, hg2⟩
  go_wp2_with fail
  go_ret
  exact ⟨a2, n2, c2, xs, rfl, hown2.ints, below_cur hb1 hp hg2⟩
end Go.Proofs.YtnbeofnafdljhaaDoor
