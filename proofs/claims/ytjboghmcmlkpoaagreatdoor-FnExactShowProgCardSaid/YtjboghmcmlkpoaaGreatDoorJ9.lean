/- The contract of the model's l1Int: a number in decimal digits. -/
import Derived.Test.YtjboghmcmlkpoaaGreatDoorJ1
import Derived.Lib.ItoaNum
import Derived.Laws.BytesArg
import Derived.Laws.Concat
import Derived.Laws.Closers25
namespace Go.Proofs.YtjboghmcmlkpoaaGreatDoor
open Go.RowKit

theorem conv_one (W : World) (g : Nat) (z : Int) (hc : W.cell? ⟨g, 0, none⟩ = some (.int .u8 z)) :
    (convert 22 9 (.slice (some ⟨g, 0, none⟩) 1 1)).run Tryz.prog W = .ok (.string ⟨#[UInt8.ofNat z.toNat]⟩) W := by
  have := run_convert_bytes_arg (P := Tryz.prog) W 22 5 Tryz.underlying22 Tryz.underlying5 g 0 1 1 [z] rfl (fun i hi => by
    obtain rfl : i = 0 := by omega
    simpa using hc) 9 Tryz.underlying9
  simpa [strOfNums] using this
theorem add_one (W : World) (d : UInt8) (l : List UInt8) (hl : l.length ≤ 1000000) : (Op.stringOp .add ⟨#[d]⟩ ⟨l.toArray⟩).run Tryz.prog W = .ok (.string ⟨(d :: l).toArray⟩) W := by
  rw [run_string_add_sum W ⟨#[d]⟩ ⟨l.toArray⟩ (by show 1 + l.toArray.size ≤ _; simp; omega)]
  congr 2

theorem digs_small {n : Nat} (h : n < 10) : Lib.decDigits n = [UInt8.ofNat (48 + n)] := by rw [Lib.decDigits, dif_pos h]
theorem digs_big {n : Nat} (h : 10 ≤ n) : Lib.decDigits n = Lib.decDigits (n / 10) ++ [UInt8.ofNat (48 + n % 10)] := by rw [Lib.decDigits, dif_neg (by omega)]

/-- How far l1Int has come: the digits in l, the number m left. -/
def IntTo (n : Nat) (m : Nat) (l : List UInt8) : Prop := (0 < m ∧ Lib.decDigits n = Lib.decDigits m ++ l) ∨ (m = 0 ∧ Lib.decDigits n = l)
theorem intTo_next {n m : Nat} {l : List UInt8} (h : Lib.decDigits n = Lib.decDigits m ++ l) : IntTo n (m / 10) (UInt8.ofNat (48 + m % 10) :: l) := by
  by_cases h10 : m < 10
  · refine .inr ⟨by omega, ?_⟩
    rw [h, digs_small h10, List.singleton_append, Nat.mod_eq_of_lt h10]
  · refine .inl ⟨by omega, ?_⟩
    rw [h, digs_big (by omega), List.append_assoc, List.singleton_append]
/-- The byte of a digit, as the walk spells it. -/
theorem digit_byte (m : Nat) : (48 + (m : Int) % 10).toNat = 48 + m % 10 := by omega

theorem ret_str {a b : ByteArray} (h : a = b) : Ending.returned (.string a) = .returned (.string b) := by rw [h]

theorem cons_some (x : UInt8) (r : List UInt8) : (⟨(x :: r).toArray⟩ : ByteArray).toList.isEmpty = false := by
  rw [← decide_eq_emptyBytes]
  refine decide_eq_false fun h => ?_
  have : (x :: r).toArray.size = 0 := congrArg (fun b : ByteArray => b.data.size) h
  simp at this
/-- 1 for the empty string. -/
def noText : Value → Nat | .string b => (if b.size = 0 then 1 else 0) | _ => 0
theorem app_one (d : UInt8) (l : List UInt8) : (⟨#[d]⟩ : ByteArray) ++ ⟨l.toArray⟩ = ⟨(d :: l).toArray⟩ := by
  apply ByteArray.ext
  simp
theorem noText_cons (d : UInt8) (l : List UInt8) : noText (.string ((⟨#[d]⟩ : ByteArray) ++ ⟨l.toArray⟩)) = 0 := by
  rw [app_one]; simp [noText, ByteArray.size]
theorem str_eq {a b : ByteArray} (h : a = b) : Value.string a = .string b := by rw [h]

set_option maxHeartbeats 800000 in
theorem l1Int_any (n : Int) (w : World) (h0 : 0 ≤ n) (h1 : n ≤ 1152921504606846976) :
    Calls Tryz.prog 92 #[.int .i64 n] w fun e w' => e = .returned (.string ⟨(Lib.itoa n).toArray⟩) ∧ Below w.heap.size w w' := by
  obtain ⟨k, rfl⟩ := Int.eq_ofNat_of_zero_le h0
  have hneg : decide ((k : Int) < 0) = false := by simp
  have HT : Hid (Lib.itoa (k : Int) = Lib.decDigits k) := by show _ = _; unfold Lib.itoa; rw [if_neg (by omega)]; rfl
  go_enter Tryz.func92, Tryz.ntmps92
  go_wp2_with fail
  go_loopw [0, 3, 5] (fun nv sv _ wr => ∃ (m : Nat) (l : List UInt8), nv = .int .i64 m ∧ sv = .string ⟨l.toArray⟩ ∧ m ≤ k ∧ ((l = [] ∧ m = k) ∨ (l ≠ [] ∧ IntTo k m l)) ∧ l.length + m ≤ k + 1 ∧ Below w.heap.size w wr) (fun nv sv _ _ => (intOf nv).toNat + noText sv)
  case atStart => exact ⟨k, [], rfl, rfl, Nat.le_refl _, .inl ⟨rfl, rfl⟩, by simp, Below.refl _ _⟩
  case round =>
    obtain ⟨m, l, rfl, rfl, hm, hto, hl, hbel⟩ := hrel
    obtain ⟨d, HD⟩ : ∃ d, Hid (UInt8.ofNat (48 + m % 10) = d) := ⟨_, rfl⟩
    have hcv := conv_one (wr.alloc (.cells #[.int .u8 (48 + (m : Int) % 10)] 5)) wr.heap.size (48 + (m : Int) % 10) (by simp)
    rw [digit_byte, HD.out] at hcv
    have hbs := hbel.size
    have hb2 := hbel.alloc hbs (.cells #[.int .u8 (48 + (m : Int) % 10)] 5)
    have hmod : decide ((m : Int) % 10 < 0) = false := by simp; omega
    rcases hto with ⟨rfl, rfl⟩ | ⟨hne, hto⟩
    · have hnx := Lib.hid (intTo_next (n := m) (m := m) (l := []) (by simp))
      rw [HD.out] at hnx
      go_wp2_with fail
      go_roundw
      case rel => exact ⟨m / 10, [d], by go_num, str_eq (app_one d []), by omega, .inr ⟨by simp, hnx⟩, by simp; omega, hb2⟩
      case measure =>
        have e1 : noText (.string ((⟨#[d]⟩ : ByteArray) ++ ⟨#[]⟩)) = 0 := noText_cons d []
        have e2 : noText (.string ⟨#[]⟩) = 1 := rfl
        rw [e1, e2]
        simp [intOf]; omega
    · obtain ⟨x, r, rfl⟩ := List.exists_cons_of_ne_nil hne
      obtain ⟨b, HB⟩ : ∃ b : ByteArray, Hid (b = ⟨(x :: r).toArray⟩) := ⟨_, rfl⟩
      rw [← HB.out]
      have hemp : b.toList.isEmpty = false := by rw [HB.out]; exact cons_some x r
      have hsz : b.size ≤ k + 1 := by rw [HB.out]; show (x :: r).toArray.size ≤ k + 1; simp at hl ⊢; omega
      rcases hto with ⟨hp, he⟩ | ⟨rfl, he⟩
      · have hnx := Lib.hid (intTo_next he)
        rw [HD.out] at hnx
        have hne0 : ((m : Int) != 0) = true := by simp; omega
        go_wp2_with fail
        go_roundw
        case rel => exact ⟨m / 10, d :: x :: r, by go_num, str_eq (by rw [HB.out]; exact app_one d (x :: r)), by omega, .inr ⟨by simp, hnx⟩, by simp at hl ⊢; omega, hb2⟩
        case measure =>
          have e1 : noText (.string ((⟨#[d]⟩ : ByteArray) ++ b)) = 0 := by rw [HB.out]; exact noText_cons d (x :: r)
          rw [e1]
          simp [intOf]; omega
      · go_wp2_with fail
        go_ret
        exact ⟨ret_str (by rw [HB.out, HT.out, he]), hbel⟩
end Go.Proofs.YtjboghmcmlkpoaaGreatDoor
