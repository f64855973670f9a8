/- Joined texts of this proof (ValueMath, SpecVal0, CodeHead, SpecVal1), in build order. -/
import Derived.Test.YtflojbjeloilaaaJ3
import Derived.IntWalk
import Derived.Test.YtflojbjeloilaaaJ12
/- Plain mathematics of values: what a Term makes of values below 2^W, the stack of an expression, its first trap. No Go text here. -/
namespace Go.Proofs.Ytflojbjeloilaaa
open Go.RowKit

/-- Masked by 2^W - 1, a number is its rest by 2^W. -/
theorem and_pow (z : Int) (W : Nat) (hW : W ≤ 8) : bits .and .i64 z (((2 ^ W : Nat) : Int) - 1) = z % ((2 ^ W : Nat) : Int) := by
  have hp : 2 ^ W ≤ 2 ^ 8 := Nat.pow_le_pow_right (by omega) hW
  have h0 : 0 < 2 ^ W := Nat.pow_pos (by omega)
  have e : (((2 ^ W : Nat) : Int) - 1) = ((2 ^ W - 1 : Nat) : Int) := by omega
  rw [e]
  have h1 : (BitVec.ofInt 64 ((2 ^ W - 1 : Nat) : Int)).toNat = 2 ^ W - 1 := by
    rw [BitVec.ofInt_natCast, BitVec.toNat_ofNat]; exact Nat.mod_eq_of_lt (by omega)
  show IntKind.i64.wrap ((BitVec.ofInt 64 z &&& BitVec.ofInt 64 ((2 ^ W - 1 : Nat) : Int)).toNat : Int) = _
  rw [BitVec.toNat_and, h1, Nat.and_two_pow_sub_one_eq_mod, BitVec.toNat_ofInt]
  have hm : (z % ((2 ^ 64 : Nat) : Int)).toNat % 2 ^ W < 2 ^ W := Nat.mod_lt _ h0
  rw [IntWalk.i64_in _ (by omega)]
  have hnn : 0 ≤ z % ((2 ^ 64 : Nat) : Int) := Int.emod_nonneg _ (by decide)
  rw [Int.natCast_emod, Int.toNat_of_nonneg hnn]
  apply Int.emod_emod_of_dvd
  have : (2 ^ W) ∣ (2 ^ 64 : Nat) := Nat.pow_dvd_pow 2 (by omega)
  exact Int.ofNat_dvd.2 this

theorem ofInt_small {a : Nat} (h : a < 256) : (BitVec.ofInt 64 (a : Int)).toNat = a := by
  rw [BitVec.ofInt_natCast, BitVec.toNat_ofNat]; exact Nat.mod_eq_of_lt (by omega)
theorem lt256 {a W : Nat} (h : a < 2 ^ W) (hW : W ≤ 8) : a < 256 := Nat.lt_of_lt_of_le h (Nat.pow_le_pow_right (by omega) hW)
theorem and_small {a b : Nat} (h : a < 256) (h' : b < 256) : bits .and .i64 (a : Int) (b : Int) = ((a &&& b : Nat) : Int) := by
  show IntKind.i64.wrap ((BitVec.ofInt 64 (a : Int) &&& BitVec.ofInt 64 (b : Int)).toNat : Int) = _
  rw [BitVec.toNat_and, ofInt_small h, ofInt_small h']
  have : a &&& b < 2 ^ 8 := Nat.and_lt_two_pow a h'
  exact IntWalk.i64_in _ (by omega)
theorem or_small {a b : Nat} (h : a < 256) (h' : b < 256) : bits .or .i64 (a : Int) (b : Int) = ((a ||| b : Nat) : Int) := by
  show IntKind.i64.wrap ((BitVec.ofInt 64 (a : Int) ||| BitVec.ofInt 64 (b : Int)).toNat : Int) = _
  rw [BitVec.toNat_or, ofInt_small h, ofInt_small h']
  have : a ||| b < 2 ^ 8 := Nat.or_lt_two_pow h h'
  exact IntWalk.i64_in _ (by omega)
theorem xor_small {a b : Nat} (h : a < 256) (h' : b < 256) : bits .xor .i64 (a : Int) (b : Int) = ((a ^^^ b : Nat) : Int) := by
  show IntKind.i64.wrap ((BitVec.ofInt 64 (a : Int) ^^^ BitVec.ofInt 64 (b : Int)).toNat : Int) = _
  rw [BitVec.toNat_xor, ofInt_small h, ofInt_small h']
  have : a ^^^ b < 2 ^ 8 := Nat.xor_lt_two_pow h h'
  exact IntWalk.i64_in _ (by omega)

/-- Bit by bit: and (0), or (1), xor (2). -/
def bitF (how a b : Nat) : Nat := if how = 1 then a ||| b else if how = 2 then a ^^^ b else a &&& b
/-- .. of one bit each. -/
def bit1 (how x y : Nat) : Nat := if how = 1 then max x y else if how = 2 then (x + y) % 2 else x * y
theorem bitF_succ (how a b k : Nat) : bitF how a b % 2 ^ (k + 1) = bitF how a b % 2 ^ k + bit1 how (a / 2 ^ k % 2) (b / 2 ^ k % 2) * 2 ^ k := by
  have e : ∀ x : Nat, x / 2 ^ k % 2 = (x.testBit k).toNat := fun x => by rw [Nat.toNat_testBit]
  rw [Nat.mod_pow_succ, e, e, e, Nat.mul_comm]
  congr 2
  unfold bitF bit1
  split
  · rw [Nat.testBit_or]; cases a.testBit k <;> cases b.testBit k <;> rfl
  · split
    · rw [Nat.testBit_xor]; cases a.testBit k <;> cases b.testBit k <;> rfl
    · rw [Nat.testBit_and]; cases a.testBit k <;> cases b.testBit k <;> rfl
theorem bitF_lt {W a b : Nat} (how : Nat) (h : a < 2 ^ W) (h' : b < 2 ^ W) : bitF how a b < 2 ^ W := by
  unfold bitF
  split
  · exact Nat.or_lt_two_pow h h'
  · split
    · exact Nat.xor_lt_two_pow h h'
    · exact Nat.and_lt_two_pow a h'

/-- What a Term of two (or, of Ops 3 and 4, of one) makes of values below S; by 0 it is 0. -/
def opN (S : Nat) (op : Int) (a b : Nat) : Nat :=
  if op = 3 then S - 1 - a else if op = 4 then (S - a) % S else if op = 5 then (a + b) % S else if op = 6 then (a + S - b) % S else if op = 7 then a * b % S
  else if op = 8 then a / b else if op = 9 then (if b = 0 then 0 else a % b) else if op = 10 then bitF 0 a b else if op = 11 then bitF 1 a b else if op = 12 then bitF 2 a b
  else if op = 13 then a * 2 ^ b % S else if op = 14 then a / 2 ^ b else if op = 15 then (if a = b then 1 else 0) else (if a < b then 1 else 0)
theorem opN_lt {W a b : Nat} (op : Int) (hW : 1 ≤ W) (h : a < 2 ^ W) (h' : b < 2 ^ W) : opN (2 ^ W) op a b < 2 ^ W := by
  have h2 : 2 ^ 1 ≤ 2 ^ W := Nat.pow_le_pow_right (by omega) hW
  have h0 : 0 < 2 ^ W := by omega
  unfold opN
  by_cases k3 : op = 3
  · rw [if_pos k3]
    omega
  rw [if_neg k3]
  by_cases k4 : op = 4
  · rw [if_pos k4]
    exact Nat.mod_lt _ h0
  rw [if_neg k4]
  by_cases k5 : op = 5
  · rw [if_pos k5]
    exact Nat.mod_lt _ h0
  rw [if_neg k5]
  by_cases k6 : op = 6
  · rw [if_pos k6]
    exact Nat.mod_lt _ h0
  rw [if_neg k6]
  by_cases k7 : op = 7
  · rw [if_pos k7]
    exact Nat.mod_lt _ h0
  rw [if_neg k7]
  by_cases k8 : op = 8
  · rw [if_pos k8]
    exact Nat.lt_of_le_of_lt (Nat.div_le_self _ _) h
  rw [if_neg k8]
  by_cases k9 : op = 9
  · rw [if_pos k9]
    by_cases hb : b = 0
    · rw [if_pos hb]; exact h0
    · rw [if_neg hb]; exact Nat.lt_of_le_of_lt (Nat.mod_le _ _) h
  rw [if_neg k9]
  by_cases k10 : op = 10
  · rw [if_pos k10]
    exact bitF_lt _ h h'
  rw [if_neg k10]
  by_cases k11 : op = 11
  · rw [if_pos k11]
    exact bitF_lt _ h h'
  rw [if_neg k11]
  by_cases k12 : op = 12
  · rw [if_pos k12]
    exact bitF_lt _ h h'
  rw [if_neg k12]
  by_cases k13 : op = 13
  · rw [if_pos k13]
    exact Nat.mod_lt _ h0
  rw [if_neg k13]
  by_cases k14 : op = 14
  · rw [if_pos k14]
    exact Nat.lt_of_le_of_lt (Nat.div_le_self _ _) h
  rw [if_neg k14]
  by_cases k15 : op = 15
  · rw [if_pos k15]
    by_cases hb : a = b
    · rw [if_pos hb]; omega
    · rw [if_neg hb]; exact h0
  rw [if_neg k15]
  by_cases hb : a < b
  · rw [if_pos hb]; omega
  · rw [if_neg hb]; exact h0

/-- The value that a Term makes, and its trap, of a stack of values. -/
def valT (S : Nat) (V : List Int) (C : List (List Int)) (t : Tm) (inn : List Nat) : Nat × Int :=
  if t.1 = 0 then (t.2.toNat, 0) else if t.1 = 1 then ((V.getD t.2.toNat 0).toNat, 0)
  else if t.1 = 2 then (if inn.getD 0 0 < (C.getD t.2.toNat []).length then (((C.getD t.2.toNat []).getD (inn.getD 0 0) 0).toNat, 0) else (0, 2))
  else if t.1 = 17 then ((if inn.getD 0 0 = 0 then inn.getD 2 0 else inn.getD 1 0), 0)
  else if t.1 = 3 ∨ t.1 = 4 then (opN S t.1 (inn.getD 0 0) 0, 0)
  else (opN S t.1 (inn.getD 0 0) (inn.getD 1 0), if inn.getD 1 0 = 0 ∧ (t.1 = 8 ∨ t.1 = 9) then 1 else 0)
def innS (st : List Nat) (t : Tm) : List Nat := st.drop (st.length - (takesI t.1).toNat)
def stepV (S : Nat) (V : List Int) (C : List (List Int)) (st : List Nat) (t : Tm) : List Nat := st.take (st.length - (takesI t.1).toNat) ++ [(valT S V C t (innS st t)).1]
def stkV (S : Nat) (V : List Int) (C : List (List Int)) (ts : List Tm) : List Nat := ts.foldl (stepV S V C) []
theorem stkV_snoc (S : Nat) (V : List Int) (C : List (List Int)) (ts : List Tm) (t : Tm) : stkV S V C (ts ++ [t]) = stepV S V C (stkV S V C ts) t := by simp [stkV]
theorem stkV_succ (S : Nat) (V : List Int) (C : List (List Int)) (ts : List Tm) (k : Nat) (h : k < ts.length) : stkV S V C (ts.take (k + 1)) = stepV S V C (stkV S V C (ts.take k)) (tmAt ts k) := by rw [tm_snoc ts k h, stkV_snoc]
/-- The trap of the Term at k. -/
def badV (S : Nat) (V : List Int) (C : List (List Int)) (ts : List Tm) (k : Nat) : Int := (valT S V C (tmAt ts k) (innS (stkV S V C (ts.take k)) (tmAt ts k))).2
/-- The first trap among the first k Terms. -/
def trapV (S : Nat) (V : List Int) (C : List (List Int)) (ts : List Tm) : Nat → Int
  | 0 => 0
  | k + 1 => if trapV S V C ts k = 0 then badV S V C ts k else trapV S V C ts k
theorem trapV_on {S : Nat} {V : List Int} {C : List (List Int)} {ts : List Tm} {k : Nat} (h : trapV S V C ts k ≠ 0) : ∀ m, k ≤ m → trapV S V C ts m = trapV S V C ts k := by
  intro m hm
  induction m with
  | zero => have : k = 0 := by omega
            subst this; rfl
  | succ m ih =>
    rcases Nat.lt_or_ge m k with hlt | hge
    · have : k = m + 1 := by omega
      subst this; rfl
    · have e := ih hge
      rw [trapV, if_neg (by rw [e]; exact h), e]
theorem valT_trap (S : Nat) (V : List Int) (C : List (List Int)) (t : Tm) (inn : List Nat) : (valT S V C t inn).2 = 0 ∨ (valT S V C t inn).2 = 1 ∨ (valT S V C t inn).2 = 2 := by
  unfold valT; repeat' split
  all_goals simp
theorem trapV_range (S : Nat) (V : List Int) (C : List (List Int)) (ts : List Tm) : ∀ k, trapV S V C ts k = 0 ∨ trapV S V C ts k = 1 ∨ trapV S V C ts k = 2
  | 0 => .inl rfl
  | k + 1 => by
    rw [trapV]; split
    · exact valT_trap _ _ _ _ _
    · exact trapV_range S V C ts k

/-- The values of an environment are from 0 to below S. -/
def valsB (S : Nat) (V : List Int) : Bool := V.all (fun z => decide (0 ≤ z) && decide (z < (S : Int)))
def InEnv (S : Nat) (V : List Int) (C : List (List Int)) : Prop := (∀ z ∈ V, 0 ≤ z ∧ z < (S : Int)) ∧ ∀ cs ∈ C, ∀ z ∈ cs, 0 ≤ z ∧ z < (S : Int)
theorem getD_in {S : Nat} (hS : 0 < S) {V : List Int} (h : ∀ z ∈ V, 0 ≤ z ∧ z < (S : Int)) (i : Nat) : 0 ≤ V.getD i 0 ∧ V.getD i 0 < (S : Int) := by
  rw [List.getD_eq_getElem?_getD]
  rcases Nat.lt_or_ge i V.length with hlt | hge
  · rw [List.getElem?_eq_getElem hlt]; exact h _ (List.getElem_mem hlt)
  · rw [List.getElem?_eq_none hge]; simp; omega
theorem getD_cells {S : Nat} {C : List (List Int)} (h : ∀ cs ∈ C, ∀ z ∈ cs, 0 ≤ z ∧ z < (S : Int)) (i : Nat) : ∀ z ∈ C.getD i [], 0 ≤ z ∧ z < (S : Int) := by
  rw [List.getD_eq_getElem?_getD]
  rcases Nat.lt_or_ge i C.length with hlt | hge
  · rw [List.getElem?_eq_getElem hlt]; exact h _ (List.getElem_mem hlt)
  · rw [List.getElem?_eq_none hge]; simp
theorem getD_nat {S : Nat} (hS : 0 < S) {st : List Nat} (h : ∀ x ∈ st, x < S) (i : Nat) : st.getD i 0 < S := by
  rw [List.getD_eq_getElem?_getD]
  rcases Nat.lt_or_ge i st.length with hlt | hge
  · rw [List.getElem?_eq_getElem hlt]; exact h _ (List.getElem_mem hlt)
  · rw [List.getElem?_eq_none hge]; simpa using hS
theorem valT_lt {W : Nat} (hW : 1 ≤ W) {V : List Int} {C : List (List Int)} (he : InEnv (2 ^ W) V C) {t : Tm} (ht : t.1 = 0 → t.2 < ((2 ^ W : Nat) : Int)) {inn : List Nat} (hi : ∀ x ∈ inn, x < 2 ^ W) : (valT (2 ^ W) V C t inn).1 < 2 ^ W := by
  have h0 : 0 < 2 ^ W := Nat.pow_pos (by omega)
  have g := getD_nat h0 hi
  unfold valT
  split
  · rename_i e; have := ht e; simp only []; omega
  split
  · have := getD_in h0 he.1 t.2.toNat; simp only []; omega
  split
  · split
    · have := getD_in h0 (getD_cells he.2 t.2.toNat) (inn.getD 0 0); simp only []; omega
    · exact h0
  split
  · simp only []; split
    · exact g 2
    · exact g 1
  split
  · exact opN_lt _ hW (g 0) h0
  · exact opN_lt _ hW (g 0) (g 1)
theorem innS_mem {st : List Nat} {t : Tm} {x : Nat} (h : x ∈ innS st t) : x ∈ st := List.mem_of_mem_drop h
theorem stepV_lt {W : Nat} (hW : 1 ≤ W) {V : List Int} {C : List (List Int)} (he : InEnv (2 ^ W) V C) {t : Tm} (ht : t.1 = 0 → t.2 < ((2 ^ W : Nat) : Int)) {st : List Nat} (hi : ∀ x ∈ st, x < 2 ^ W) : ∀ x ∈ stepV (2 ^ W) V C st t, x < 2 ^ W := by
  intro x hx
  rw [stepV, List.mem_append] at hx
  rcases hx with hx | hx
  · exact hi x (List.mem_of_mem_take hx)
  · rw [List.mem_singleton] at hx
    rw [hx]
    exact valT_lt hW he ht (fun y hy => hi y (innS_mem hy))
/-- The stack is as high as the depth tells. -/
theorem stkV_len (S : Nat) (V : List Int) (C : List (List Int)) (ts : List Tm) {x : Int} (h : runD 0 ts = some x) : ∀ k, k ≤ ts.length → ∃ d : Int, runD 0 (ts.take k) = some d ∧ ((stkV S V C (ts.take k)).length : Int) = d := by
  intro k
  induction k with
  | zero => intro _; exact ⟨0, rfl, rfl⟩
  | succ k ih =>
    intro hk
    obtain ⟨d, hd, hl⟩ := ih (by omega)
    obtain ⟨ho, ht, hs⟩ := runD_at h (by omega : k < ts.length) hd
    refine ⟨_, hs, ?_⟩
    rw [stkV_succ _ _ _ _ _ (by omega), stepV]
    have := (tOkB_iff _).1 ho
    simp only [List.length_append, List.length_take, List.length_singleton]
    omega
end Go.Proofs.Ytflojbjeloilaaa
/- The contracts of the model's l5Bit, l5Shift, l5Bits, l5Op: what a Term makes of values. -/
namespace Go.Proofs.Ytflojbjeloilaaa
open Go.RowKit

def shiftF (up : Bool) (S a k : Nat) : Nat := match up with | true => a * 2 ^ k % S | false => a / 2 ^ k
theorem shiftF_zero (up : Bool) {S a : Nat} (h : a < S) : shiftF up S a 0 = a := by cases up <;> simp [shiftF, Nat.mod_eq_of_lt h]
theorem shiftF_nought (up : Bool) (S k : Nat) : shiftF up S 0 k = 0 := by cases up <;> simp [shiftF]
theorem shiftF_up (S a k : Nat) (hk : 0 < k) : shiftF true S (a * 2 % S) (k - 1) = shiftF true S a k := by
  obtain ⟨j, rfl⟩ : ∃ j, k = j + 1 := ⟨k - 1, by omega⟩
  simp only [shiftF, Nat.add_sub_cancel]
  rw [Nat.mod_mul_mod, Nat.pow_succ, Nat.mul_assoc, Nat.mul_comm 2]
theorem shiftF_down (S a k : Nat) (hk : 0 < k) : shiftF false S (a / 2) (k - 1) = shiftF false S a k := by
  obtain ⟨j, rfl⟩ : ∃ j, k = j + 1 := ⟨k - 1, by omega⟩
  simp only [shiftF, Nat.add_sub_cancel]
  rw [Nat.div_div_eq_div_mul, Nat.pow_succ, Nat.mul_comm 2]
def bi (b : Bool) : Nat := if b = true then 1 else 0

theorem l5Bit_any (b : Bool) (w : World) : Calls Try.prog 130 #[.bool b] w fun e w' => e = .returned (.int .i64 (bi b : Int)) ∧ w = w' := by
  cases b
  all_goals
    go_enter Try.func130, Try.ntmps130
    go_wp2
    go_ret
    exact ⟨rfl, rfl⟩
set_option maxHeartbeats 800000 in
theorem l5Shift_any (up : Bool) (S a k : Nat) (w : World) (hS : S ≤ 256) (ha : a < S) (hk : k < 256) :
    Calls Try.prog 129 #[.int .i64 (S : Int), .int .i64 (a : Int), .int .i64 (k : Int), .bool up] w fun e w' => e = .returned (.int .i64 (shiftF up S a k : Int)) ∧ w = w' := by
  obtain ⟨R, HR⟩ : ∃ R, Hid (shiftF up S a k = R) := ⟨_, rfl⟩
  rw [HR.out]
  go_enter Try.func129, Try.ntmps129
  go_wp2
  go_loop [1, 2] (fun q i => ∃ x y : Nat, x < S ∧ y < 256 ∧ q = .int .i64 (x : Int) ∧ i = .int .i64 (y : Int) ∧ Hid (shiftF up S x y = R)) (fun _ i => (intOf i).toNat)
  case atStart => exact ⟨a, k, ha, hk, rfl, rfl, HR⟩
  case round =>
    obtain ⟨x, y, hx, hy, rfl, rfl, hs⟩ := hrel
    clear HR ha hk
    by_cases hy0 : 0 < y
    · by_cases hx0 : 0 < x
      · cases up with
        | true =>
          have hm : Int.tmod ((x : Int) * 2) (S : Int) = ((x * 2 % S : Nat) : Int) := by
            rw [Int.tmod_eq_emod_of_nonneg (by omega)]; rfl
          have hn := Lib.hid (shiftF_up S x y hy0)
          have hl : x * 2 % S < S := Nat.mod_lt _ (by omega)
          go_wp2
          go_round
          case rel => exact ⟨x * 2 % S, y - 1, hl, by omega, by go_num, by go_num, by rw [hn.out]; exact hs⟩
          case measure => simp [intOf]; omega
        | false =>
          have hm : Int.tdiv (x : Int) 2 = ((x / 2 : Nat) : Int) := by
            rw [Int.tdiv_eq_ediv_of_nonneg (by omega)]; rfl
          have hn := Lib.hid (shiftF_down S x y hy0)
          have hl : x / 2 < S := by omega
          go_wp2
          go_round
          case rel => exact ⟨x / 2, y - 1, hl, by omega, by go_num, by go_num, by rw [hn.out]; exact hs⟩
          case measure => simp [intOf]; omega
      · have : x = 0 := by omega
        subst this
        have hR := hs.out
        rw [shiftF_nought] at hR
        subst hR
        go_wp2
        go_ret
        exact ⟨rfl, rfl⟩
    · have : y = 0 := by omega
      subst this
      have hR := hs.out
      rw [shiftF_zero _ hx] at hR
      subst hR
      go_wp2
      go_ret
      exact ⟨rfl, rfl⟩
set_option maxHeartbeats 1600000 in
theorem l5Bits_any (how W a b : Nat) (w : World) (hh : how ≤ 2) (hW : W ≤ 8) (ha : a < 2 ^ W) (hb : b < 2 ^ W) :
    Calls Try.prog 128 #[.int .i64 ((2 ^ W : Nat) : Int), .int .i64 (a : Int), .int .i64 (b : Int), .int .i64 (how : Int)] w fun e w' => e = .returned (.int .i64 (bitF how a b : Int)) ∧ w = w' := by
  have hS : 2 ^ W ≤ 2 ^ 8 := Nat.pow_le_pow_right (by omega) hW
  have HR := Lib.hid (Nat.mod_eq_of_lt (bitF_lt how ha hb))
  have HL := Lib.hid (bitF_lt how ha hb)
  have HST := Lib.hid (fun k => bitF_succ how a b k)
  obtain ⟨R, HR0⟩ : ∃ R, Hid (bitF how a b = R) := ⟨_, rfl⟩
  simp only [HR0.out] at HR HL HST ⊢
  obtain ⟨S, HS⟩ : ∃ S : Nat, Hid (2 ^ W = S) := ⟨_, Lib.hid rfl⟩
  simp only [HS.out] at hS ha hb HR HL ⊢
  have hh3 : how = 0 ∨ how = 1 ∨ how = 2 := by omega
  rcases hh3 with rfl | rfl | rfl
  · rw [show ((0 : Nat) : Int) = 0 from rfl]
    go_enter Try.func128, Try.ntmps128
    go_wp2
    go_loop [9, 10] (fun q i => ∃ k : Nat, k ≤ W ∧ i = .int .i64 ((2 ^ k : Nat) : Int) ∧ q = .int .i64 ((R % 2 ^ k : Nat) : Int)) (fun _ i => S - (intOf i).toNat)
    case atStart => exact ⟨0, Nat.zero_le _, rfl, by rw [Nat.pow_zero, Nat.mod_one]; rfl⟩
    case round =>
      obtain ⟨k, hk, rfl, rfl⟩ := hrel
      by_cases hlt : k < W
      · have hu : 2 ^ k < S := by rw [← HS.out]; exact Nat.pow_lt_pow_right (by omega) hlt
        have hu0 : 0 < 2 ^ k := Nat.pow_pos (by omega)
        have hst := Lib.hid (HST.out k)
        have hsu := Lib.hid (Nat.pow_succ (n := 2) (m := k))
        have hrm : R % 2 ^ k < 2 ^ k := Nat.mod_lt _ hu0
        obtain ⟨u, HU⟩ : ∃ u : Nat, Hid (2 ^ k = u) := ⟨_, Lib.hid rfl⟩
        obtain ⟨u', HU'⟩ : ∃ r : Nat, Hid (2 ^ (k + 1) = r) := ⟨_, Lib.hid rfl⟩
        simp only [HU.out, HU'.out] at hu hu0 hst hsu hrm ⊢
        obtain ⟨r, HQ⟩ : ∃ r : Nat, Hid (R % u = r) := ⟨_, Lib.hid rfl⟩
        obtain ⟨r', HQ'⟩ : ∃ r : Nat, Hid (R % u' = r) := ⟨_, Lib.hid rfl⟩
        simp only [HQ.out, HQ'.out] at hst hrm ⊢
        have d1 : Int.tdiv (a : Int) (u : Int) = ((a / u : Nat) : Int) := by rw [Int.tdiv_eq_ediv_of_nonneg (by omega)]; rfl
        have d2 : Int.tdiv (b : Int) (u : Int) = ((b / u : Nat) : Int) := by rw [Int.tdiv_eq_ediv_of_nonneg (by omega)]; rfl
        have m1 : Int.tmod ((a / u : Nat) : Int) 2 = ((a / u % 2 : Nat) : Int) := by rw [Int.tmod_eq_emod_of_nonneg (Int.natCast_nonneg _)]; rfl
        have m2 : Int.tmod ((b / u : Nat) : Int) 2 = ((b / u % 2 : Nat) : Int) := by rw [Int.tmod_eq_emod_of_nonneg (Int.natCast_nonneg _)]; rfl
        have q1 : a / u ≤ a := Nat.div_le_self _ _
        have q2 : b / u ≤ b := Nat.div_le_self _ _
        generalize a / u = A at d1 m1 hst q1
        generalize b / u = B at d2 m2 hst q2
        have p1 : A % 2 < 2 := Nat.mod_lt _ (by omega)
        have p2 : B % 2 < 2 := Nat.mod_lt _ (by omega)
        generalize A % 2 = x at m1 hst p1
        generalize B % 2 = y at m2 hst p2
        have hx : x = 0 ∨ x = 1 := by omega
        have hy : y = 0 ∨ y = 1 := by omega
        clear p1 p2
        rcases hx with rfl | rfl <;> rcases hy with rfl | rfl
        all_goals
          have hst' := hst.out
          simp [bit1] at hst'
          have HE := Lib.hid hst'
          clear hst' hst
          go_wp2
          go_round
          case rel => exact ⟨k + 1, by omega, by rw [HU'.out, hsu.out]; go_num, by rw [HU'.out, HQ'.out, HE.out] <;> first | rfl | go_num | simp⟩
          case measure => simp [intOf]; omega
      · obtain rfl : W = k := by omega
        rw [HS.out, HR.out]
        clear HR HL HST
        go_wp2
        go_ret
        exact ⟨rfl, rfl⟩
  · rw [show ((1 : Nat) : Int) = 1 from rfl]
    go_enter Try.func128, Try.ntmps128
    go_wp2
    go_loopw [9, 10] (fun q i wr => ∃ k : Nat, k ≤ W ∧ i = .int .i64 ((2 ^ k : Nat) : Int) ∧ q = .int .i64 ((R % 2 ^ k : Nat) : Int) ∧ Hid (w = wr)) (fun _ i _ => S - (intOf i).toNat)
    case atStart => exact ⟨0, Nat.zero_le _, rfl, by rw [Nat.pow_zero, Nat.mod_one]; rfl, Lib.hid rfl⟩
    case round =>
      obtain ⟨k, hk, rfl, rfl, HWR⟩ := hrel
      by_cases hlt : k < W
      · have hu : 2 ^ k < S := by rw [← HS.out]; exact Nat.pow_lt_pow_right (by omega) hlt
        have hu0 : 0 < 2 ^ k := Nat.pow_pos (by omega)
        have hst := Lib.hid (HST.out k)
        have hsu := Lib.hid (Nat.pow_succ (n := 2) (m := k))
        have hrm : R % 2 ^ k < 2 ^ k := Nat.mod_lt _ hu0
        obtain ⟨u, HU⟩ : ∃ u : Nat, Hid (2 ^ k = u) := ⟨_, Lib.hid rfl⟩
        obtain ⟨u', HU'⟩ : ∃ r : Nat, Hid (2 ^ (k + 1) = r) := ⟨_, Lib.hid rfl⟩
        simp only [HU.out, HU'.out] at hu hu0 hst hsu hrm ⊢
        obtain ⟨r, HQ⟩ : ∃ r : Nat, Hid (R % u = r) := ⟨_, Lib.hid rfl⟩
        obtain ⟨r', HQ'⟩ : ∃ r : Nat, Hid (R % u' = r) := ⟨_, Lib.hid rfl⟩
        simp only [HQ.out, HQ'.out] at hst hrm ⊢
        have d1 : Int.tdiv (a : Int) (u : Int) = ((a / u : Nat) : Int) := by rw [Int.tdiv_eq_ediv_of_nonneg (by omega)]; rfl
        have d2 : Int.tdiv (b : Int) (u : Int) = ((b / u : Nat) : Int) := by rw [Int.tdiv_eq_ediv_of_nonneg (by omega)]; rfl
        have m1 : Int.tmod ((a / u : Nat) : Int) 2 = ((a / u % 2 : Nat) : Int) := by rw [Int.tmod_eq_emod_of_nonneg (Int.natCast_nonneg _)]; rfl
        have m2 : Int.tmod ((b / u : Nat) : Int) 2 = ((b / u % 2 : Nat) : Int) := by rw [Int.tmod_eq_emod_of_nonneg (Int.natCast_nonneg _)]; rfl
        have q1 : a / u ≤ a := Nat.div_le_self _ _
        have q2 : b / u ≤ b := Nat.div_le_self _ _
        generalize a / u = A at d1 m1 hst q1
        generalize b / u = B at d2 m2 hst q2
        have p1 : A % 2 < 2 := Nat.mod_lt _ (by omega)
        have p2 : B % 2 < 2 := Nat.mod_lt _ (by omega)
        generalize A % 2 = x at m1 hst p1
        generalize B % 2 = y at m2 hst p2
        have hx : x = 0 ∨ x = 1 := by omega
        have hy : y = 0 ∨ y = 1 := by omega
        clear p1 p2
        rcases hx with rfl | rfl <;> rcases hy with rfl | rfl
        all_goals
          have hst' := hst.out
          simp [bit1] at hst'
          have HE := Lib.hid hst'
          clear hst' hst
          have x00 : max (0 : Int) 0 = 0 := rfl
          have x01 : max (0 : Int) 1 = 1 := rfl
          have x10 : max (1 : Int) 0 = 1 := rfl
          have x11 : max (1 : Int) 1 = 1 := rfl
          go_wp2_with fail
          refine (l1Max_any _ _ _).mono ?_
          rintro e w1 ⟨rfl, rfl⟩
          go_wp2
          go_roundw
          case rel => exact ⟨k + 1, by omega, by rw [HU'.out, hsu.out]; go_num, by rw [HU'.out, HQ'.out, HE.out] <;> first | rfl | go_num | simp, HWR⟩
          case measure => simp [intOf]; omega
      · obtain rfl : W = k := by omega
        rw [HS.out, HR.out]
        clear HR HL HST
        go_wp2
        go_ret
        exact ⟨rfl, HWR.out⟩
  · rw [show ((2 : Nat) : Int) = 2 from rfl]
    go_enter Try.func128, Try.ntmps128
    go_wp2
    go_loop [9, 10] (fun q i => ∃ k : Nat, k ≤ W ∧ i = .int .i64 ((2 ^ k : Nat) : Int) ∧ q = .int .i64 ((R % 2 ^ k : Nat) : Int)) (fun _ i => S - (intOf i).toNat)
    case atStart => exact ⟨0, Nat.zero_le _, rfl, by rw [Nat.pow_zero, Nat.mod_one]; rfl⟩
    case round =>
      obtain ⟨k, hk, rfl, rfl⟩ := hrel
      by_cases hlt : k < W
      · have hu : 2 ^ k < S := by rw [← HS.out]; exact Nat.pow_lt_pow_right (by omega) hlt
        have hu0 : 0 < 2 ^ k := Nat.pow_pos (by omega)
        have hst := Lib.hid (HST.out k)
        have hsu := Lib.hid (Nat.pow_succ (n := 2) (m := k))
        have hrm : R % 2 ^ k < 2 ^ k := Nat.mod_lt _ hu0
        obtain ⟨u, HU⟩ : ∃ u : Nat, Hid (2 ^ k = u) := ⟨_, Lib.hid rfl⟩
        obtain ⟨u', HU'⟩ : ∃ r : Nat, Hid (2 ^ (k + 1) = r) := ⟨_, Lib.hid rfl⟩
        simp only [HU.out, HU'.out] at hu hu0 hst hsu hrm ⊢
        obtain ⟨r, HQ⟩ : ∃ r : Nat, Hid (R % u = r) := ⟨_, Lib.hid rfl⟩
        obtain ⟨r', HQ'⟩ : ∃ r : Nat, Hid (R % u' = r) := ⟨_, Lib.hid rfl⟩
        simp only [HQ.out, HQ'.out] at hst hrm ⊢
        have d1 : Int.tdiv (a : Int) (u : Int) = ((a / u : Nat) : Int) := by rw [Int.tdiv_eq_ediv_of_nonneg (by omega)]; rfl
        have d2 : Int.tdiv (b : Int) (u : Int) = ((b / u : Nat) : Int) := by rw [Int.tdiv_eq_ediv_of_nonneg (by omega)]; rfl
        have m1 : Int.tmod ((a / u : Nat) : Int) 2 = ((a / u % 2 : Nat) : Int) := by rw [Int.tmod_eq_emod_of_nonneg (Int.natCast_nonneg _)]; rfl
        have m2 : Int.tmod ((b / u : Nat) : Int) 2 = ((b / u % 2 : Nat) : Int) := by rw [Int.tmod_eq_emod_of_nonneg (Int.natCast_nonneg _)]; rfl
        have q1 : a / u ≤ a := Nat.div_le_self _ _
        have q2 : b / u ≤ b := Nat.div_le_self _ _
        generalize a / u = A at d1 m1 hst q1
        generalize b / u = B at d2 m2 hst q2
        have p1 : A % 2 < 2 := Nat.mod_lt _ (by omega)
        have p2 : B % 2 < 2 := Nat.mod_lt _ (by omega)
        generalize A % 2 = x at m1 hst p1
        generalize B % 2 = y at m2 hst p2
        have hx : x = 0 ∨ x = 1 := by omega
        have hy : y = 0 ∨ y = 1 := by omega
        clear p1 p2
        rcases hx with rfl | rfl <;> rcases hy with rfl | rfl
        all_goals
          have hst' := hst.out
          simp [bit1] at hst'
          have HE := Lib.hid hst'
          clear hst' hst
          go_wp2
          go_round
          case rel => exact ⟨k + 1, by omega, by rw [HU'.out, hsu.out]; go_num, by rw [HU'.out, HQ'.out, HE.out] <;> first | rfl | go_num | simp⟩
          case measure => simp [intOf]; omega
      · obtain rfl : W = k := by omega
        rw [HS.out, HR.out]
        clear HR HL HST
        go_wp2
        go_ret
        exact ⟨rfl, rfl⟩
set_option maxHeartbeats 1600000 in
theorem l5Op_any (W a b : Nat) (op : Int) (w : World) (hW : W ≤ 8) (ha : a < 2 ^ W) (hb : b < 2 ^ W) (h3 : 3 ≤ op) (h16 : op ≤ 16) :
    Calls Try.prog 118 #[.int .i64 ((2 ^ W : Nat) : Int), .int .i64 op, .int .i64 (a : Int), .int .i64 (b : Int)] w fun e w' => e = .returned (.int .i64 (opN (2 ^ W) op a b : Int)) ∧ w = w' := by
  have hS : 2 ^ W ≤ 2 ^ 8 := Nat.pow_le_pow_right (by omega) hW
  have HBT := Lib.hid (fun (how : Nat) (hh : how ≤ 2) (w' : World) => l5Bits_any how W a b w' hh hW ha hb)
  obtain ⟨S, HS⟩ : ∃ S : Nat, Hid (2 ^ W = S) := ⟨_, Lib.hid rfl⟩
  simp only [HS.out] at hS ha hb HBT ⊢
  clear HS hW
  have hmul : a * b ≤ 255 * 255 := Nat.mul_le_mul (by omega) (by omega)
  obtain ⟨R, HR⟩ : ∃ R, Hid (opN S op a b = R) := ⟨_, rfl⟩
  rw [HR.out]
  by_cases k3 : op = 3
  · subst k3
    have hR : R = S - 1 - a := by rw [← HR.out]; rfl
    subst hR
    go_enter Try.func118, Try.ntmps118
    go_wp2
    go_ret
    exact ⟨by first | rfl | go_num, rfl⟩
  by_cases k4 : op = 4
  · subst k4
    have hR : R = (S - a) % S := by rw [← HR.out]; rfl
    subst hR
    have hm : Int.tmod ((S : Int) - (a : Int)) (S : Int) = (((S - a) % S : Nat) : Int) := by rw [Int.tmod_eq_emod_of_nonneg (by omega), show ((S : Int) - (a : Int)) = ((S - a : Nat) : Int) by omega]; rfl
    go_enter Try.func118, Try.ntmps118
    go_wp2
    go_ret
    exact ⟨by first | rfl | go_num, rfl⟩
  by_cases k5 : op = 5
  · subst k5
    have hR : R = (a + b) % S := by rw [← HR.out]; rfl
    subst hR
    have hm : Int.tmod ((a : Int) + (b : Int)) (S : Int) = (((a + b) % S : Nat) : Int) := by rw [Int.tmod_eq_emod_of_nonneg (by omega)]; rfl
    go_enter Try.func118, Try.ntmps118
    go_wp2
    go_ret
    exact ⟨by first | rfl | go_num, rfl⟩
  by_cases k6 : op = 6
  · subst k6
    have hR : R = (a + S - b) % S := by rw [← HR.out]; rfl
    subst hR
    have hm : Int.tmod ((a : Int) - (b : Int) + (S : Int)) (S : Int) = (((a + S - b) % S : Nat) : Int) := by rw [Int.tmod_eq_emod_of_nonneg (by omega), show ((a : Int) - (b : Int) + (S : Int)) = ((a + S - b : Nat) : Int) by omega]; rfl
    go_enter Try.func118, Try.ntmps118
    go_wp2
    go_ret
    exact ⟨by first | rfl | go_num, rfl⟩
  by_cases k7 : op = 7
  · subst k7
    have hR : R = a * b % S := by rw [← HR.out]; rfl
    subst hR
    have hm : Int.tmod ((a : Int) * (b : Int)) (S : Int) = ((a * b % S : Nat) : Int) := by rw [Int.tmod_eq_emod_of_nonneg (Int.mul_nonneg (by omega) (by omega))]; rfl
    have hlo : 0 ≤ (a : Int) * (b : Int) := Int.mul_nonneg (by omega) (by omega)
    have hhi : (a : Int) * (b : Int) ≤ 65025 := Int.le_trans (Int.ofNat_le.2 hmul) (by decide)
    clear hmul
    go_enter Try.func118, Try.ntmps118
    go_wp2
    go_ret
    exact ⟨by first | rfl | go_num, rfl⟩
  by_cases k8 : op = 8
  · subst k8
    by_cases h0 : b = 0
    · subst h0
      have hR : R = 0 := by rw [← HR.out]; exact Nat.div_zero a
      subst hR
      go_enter Try.func118, Try.ntmps118
      go_wp2
      go_ret
      exact ⟨rfl, rfl⟩
    · obtain ⟨q, HQ⟩ : ∃ q, Hid (a / b = q) := ⟨_, rfl⟩
      have hR : R = q := by rw [← HR.out]; exact HQ.out
      have hbi : ¬ (b : Int) = 0 := by omega
      have hm : Int.tdiv (a : Int) (b : Int) = (q : Int) := by rw [Int.tdiv_eq_ediv_of_nonneg (Int.natCast_nonneg _), ← HQ.out]; rfl
      have hle : q ≤ a := by rw [← HQ.out]; exact Nat.div_le_self _ _
      subst hR
      clear hmul
      go_enter Try.func118, Try.ntmps118
      go_wp2
      go_ret
      exact ⟨by first | rfl | go_num, rfl⟩
  by_cases k9 : op = 9
  · subst k9
    by_cases h0 : b = 0
    · subst h0
      have hR : R = 0 := by rw [← HR.out]; rfl
      subst hR
      go_enter Try.func118, Try.ntmps118
      go_wp2
      go_ret
      exact ⟨rfl, rfl⟩
    · obtain ⟨q, HQ⟩ : ∃ q, Hid (a % b = q) := ⟨_, rfl⟩
      have hR : R = q := by rw [← HR.out]; exact (if_neg h0).trans HQ.out
      have hbi : ¬ (b : Int) = 0 := by omega
      have hm : Int.tmod (a : Int) (b : Int) = (q : Int) := by rw [Int.tmod_eq_emod_of_nonneg (Int.natCast_nonneg _), ← HQ.out]; rfl
      have hle : q ≤ a := by rw [← HQ.out]; exact Nat.mod_le _ _
      subst hR
      clear hmul
      go_enter Try.func118, Try.ntmps118
      go_wp2
      go_ret
      exact ⟨by first | rfl | go_num, rfl⟩
  by_cases k10 : op = 10
  · subst k10
    have hR : R = bitF 0 a b := by rw [← HR.out]; rfl
    subst hR
    go_enter Try.func118, Try.ntmps118
    go_wp2_with fail
    refine (HBT.out 0 (by omega) _).mono ?_
    rintro e w1 ⟨rfl, rfl⟩
    go_wp2
    go_ret
    exact ⟨by first | rfl | go_num, rfl⟩
  by_cases k11 : op = 11
  · subst k11
    have hR : R = bitF 1 a b := by rw [← HR.out]; rfl
    subst hR
    go_enter Try.func118, Try.ntmps118
    go_wp2_with fail
    refine (HBT.out 1 (by omega) _).mono ?_
    rintro e w1 ⟨rfl, rfl⟩
    go_wp2
    go_ret
    exact ⟨by first | rfl | go_num, rfl⟩
  by_cases k12 : op = 12
  · subst k12
    have hR : R = bitF 2 a b := by rw [← HR.out]; rfl
    subst hR
    go_enter Try.func118, Try.ntmps118
    go_wp2_with fail
    refine (HBT.out 2 (by omega) _).mono ?_
    rintro e w1 ⟨rfl, rfl⟩
    go_wp2
    go_ret
    exact ⟨by first | rfl | go_num, rfl⟩
  by_cases k13 : op = 13
  · subst k13
    have hR : R = shiftF true S a b := by rw [← HR.out]; rfl
    subst hR
    go_enter Try.func118, Try.ntmps118
    go_wp2_with fail
    refine (l5Shift_any true S a b _ hS ha (by omega)).mono ?_
    rintro e w1 ⟨rfl, rfl⟩
    go_wp2
    go_ret
    exact ⟨by first | rfl | go_num, rfl⟩
  by_cases k14 : op = 14
  · subst k14
    have hR : R = shiftF false S a b := by rw [← HR.out]; rfl
    subst hR
    go_enter Try.func118, Try.ntmps118
    go_wp2_with fail
    refine (l5Shift_any false S a b _ hS ha (by omega)).mono ?_
    rintro e w1 ⟨rfl, rfl⟩
    go_wp2
    go_ret
    exact ⟨by first | rfl | go_num, rfl⟩
  by_cases k15 : op = 15
  · subst k15
    by_cases hab : a = b
    · have hd : ((a : Int) == (b : Int)) = true := by simp; omega
      have hR : R = bi true := by rw [← HR.out]; exact if_pos hab
      subst hR
      clear hab
      go_enter Try.func118, Try.ntmps118
      go_wp2_with fail
      refine (l5Bit_any _ _).mono ?_
      rintro e w1 ⟨rfl, rfl⟩
      go_wp2
      go_ret
      exact ⟨rfl, rfl⟩
    · have hd : ((a : Int) == (b : Int)) = false := by simp; omega
      have hR : R = bi false := by rw [← HR.out]; exact if_neg hab
      subst hR
      clear hab
      go_enter Try.func118, Try.ntmps118
      go_wp2_with fail
      refine (l5Bit_any _ _).mono ?_
      rintro e w1 ⟨rfl, rfl⟩
      go_wp2
      go_ret
      exact ⟨rfl, rfl⟩
  have k16 : op = 16 := by omega
  subst k16
  have hR : R = bi (decide (a < b)) := by
    rw [← HR.out]
    show (if a < b then 1 else 0) = _
    unfold bi
    simp
  subst hR
  go_enter Try.func118, Try.ntmps118
  go_wp2_with fail
  refine (l5Bit_any _ _).mono ?_
  rintro e w1 ⟨rfl, rfl⟩
  go_wp2
  go_ret
  exact ⟨rfl, rfl⟩
end Go.Proofs.Ytflojbjeloilaaa
/- What a right program's head is. -/
namespace Go.Proofs.Ytflojbjeloilaaa
open Go.RowKit

theorem code_head {p : Prg} (h : codeB p = 0) : 1 ≤ p.width ∧ p.width ≤ 8 ∧ p.lows.length ≤ 3 ∧ p.secrets.length ≤ 3 ∧ 0 ≤ p.temps ∧ p.temps ≤ 6 ∧ p.arrays.length ≤ 2 ∧ p.body.length ≤ 40 := by
  unfold codeB at h
  split at h
  · exact absurd h (by decide)
  split at h
  · exact absurd h (by decide)
  split at h
  · exact absurd h (by decide)
  rename_i h1 h2 h3
  have hr : roomB p = true := by simpa using h3
  have hi : inpB p = true := by simpa using h2
  have hw : 1 ≤ p.width ∧ p.width ≤ 8 := by simpa using h1
  simp only [roomB, Bool.and_eq_true, decide_eq_true_eq] at hr
  simp only [inpB, inputsB, Bool.and_eq_true, decide_eq_true_eq] at hi
  exact ⟨hw.1, hw.2, hi.1.1.2, hi.1.2.2, hr.1.1.1.1, hr.1.1.1.2, hr.1.1.2, hr.1.2⟩
theorem code_lim {w : World} {r : PRow} {p : Prg} (hp : ProgAt w r p) (h : codeB p = 0) : Lim r p.width.toNat (p.lows.length + p.secrets.length) p.temps.toNat p.arrays.length := by
  obtain ⟨h1, h2, h3, h4, h5, h6, h7, h8⟩ := code_head h
  have e1 := hp.lows.1
  have e2 := hp.secrets.1
  have e3 := hp.arrays.1
  have e4 := hp.width
  have e5 := hp.temps
  exact ⟨by omega, by omega, by omega, by omega, by omega, by omega, by omega, by omega⟩
end Go.Proofs.Ytflojbjeloilaaa
/- Words for environments (two cells: a slice of numbers, a slice of slices of numbers); the contracts of the model's l5Values and EnvOk. -/
namespace Go.Proofs.Ytflojbjeloilaaa
open Go.RowKit

structure Envr where
  vars : List Int
  cells : List (List Int)
deriving DecidableEq
structure ERow where
  vars : Sl
  cells : Sl
  rows : List Sl
def envV (r : ERow) : Value := .agg #[slV r.vars, slV r.cells]
def intsAt (css : List (List Int)) (i : Nat) : List Int := css.getD i []
/-- The slice '.slice a n c' of slices of numbers reads az css; rs are its slices. -/
def IntsSS (w : World) (a : Option Addr) (n : Nat) (rs : List Sl) (css : List (List Int)) : Prop :=
  rs.length = n ∧ css.length = n ∧ n ≤ 1048576 ∧ (0 < n → ∃ b o, a = some ⟨b, o, none⟩ ∧ b < w.heap.size ∧ ∀ i, i < n → w.cell? ⟨b, o + i, none⟩ = some (slV (slAt rs i))) ∧
  ∀ i, i < n → Ints w (slAt rs i).1 (slAt rs i).2.1 (intsAt css i)
theorem IntsSS.at_ {w : World} {a : Option Addr} {n : Nat} {rs : List Sl} {css : List (List Int)} (h : IntsSS w a n rs css) {k : Nat} (hk : k < n) :
    ∃ b o a1 n1 c1, a = some ⟨b, o, none⟩ ∧ b < w.heap.size ∧ Hid (slAt rs k = (a1, n1, c1)) ∧ w.cell? ⟨b, o + k, none⟩ = some (.slice a1 n1 c1) ∧ Ints w a1 n1 (intsAt css k) := by
  obtain ⟨_, _, _, h3, h4⟩ := h
  obtain ⟨b, o, rfl, hb, hc⟩ := h3 (by omega)
  exact ⟨b, o, _, _, _, rfl, hb, rfl, hc k hk, h4 k hk⟩
theorem IntsSS.below {w w' : World} {a : Option Addr} {n : Nat} {rs : List Sl} {css : List (List Int)} (h : IntsSS w a n rs css) (hb : Below w.heap.size w w') : IntsSS w' a n rs css := by
  obtain ⟨h1, h2, h0, h3, h4⟩ := h
  refine ⟨h1, h2, h0, fun hp => ?_, fun i hi => (h4 i hi).below hb⟩
  obtain ⟨b, o, rfl, hbl, hc⟩ := h3 hp
  exact ⟨b, o, rfl, Nat.lt_of_lt_of_le hbl hb.size, fun i hi => (hb.cell hbl).trans (hc i hi)⟩
structure EnvAt (w : World) (r : ERow) (v : Envr) : Prop where
  vars : Ints w r.vars.1 r.vars.2.1 v.vars
  cells : IntsSS w r.cells.1 r.cells.2.1 r.rows v.cells
theorem EnvAt.below {w w' : World} {r : ERow} {v : Envr} (h : EnvAt w r v) (hb : Below w.heap.size w w') : EnvAt w' r v := ⟨h.vars.below hb, h.cells.below hb⟩

def valB (S : Nat) (m : Int) (zs : List Int) : Bool := decide ((zs.length : Int) = m) && valsB S zs
def cellsB (S : Nat) (az : List Int) (css : List (List Int)) : Bool := (List.range css.length).all (fun i => valB S (az.getD i 0) (intsAt css i))
/-- What EnvOk answers. -/
noncomputable def envB (p : Prg) (v : Envr) : Bool :=
  ((codeB p == 0) && valB (2 ^ p.width.toNat) ((p.lows.length : Int) + (p.secrets.length : Int) + p.temps) v.vars) && (decide (v.cells.length = p.arrays.length) && cellsB (2 ^ p.width.toNat) p.arrays v.cells)

def okZ (S : Nat) (z : Int) : Bool := decide (0 ≤ z) && decide (z < (S : Int))
def AllI (f : Int → Bool) (zs : List Int) (k : Nat) : Prop := ∀ i, i < k → f (zs.getD i 0) = true
theorem AllI.zero (f : Int → Bool) (zs : List Int) : AllI f zs 0 := fun i hi => absurd hi (by omega)
theorem AllI.succ {f : Int → Bool} {zs : List Int} {k : Nat} {z : Int} (h : AllI f zs k) (hz : Hid (z = zs.getD k 0)) (ht : f z = true) : AllI f zs (k + 1) := by
  intro i hi
  rcases Nat.lt_or_ge i k with hlt | hge
  · exact h i hlt
  · have : i = k := by omega
    subst this; rw [← hz.out]; exact ht
theorem allI_all {S : Nat} {zs : List Int} (h : AllI (okZ S) zs zs.length) : valsB S zs = true := by
  unfold valsB
  rw [List.all_eq_true]
  intro z hz
  obtain ⟨i, hi, rfl⟩ := List.getElem_of_mem hz
  have := h i hi
  rw [List.getD_eq_getElem?_getD, List.getElem?_eq_getElem hi] at this
  exact this
theorem allI_bad {S : Nat} {zs : List Int} {k : Nat} {z : Int} (hk : k < zs.length) (hz : Hid (z = zs.getD k 0)) (ht : okZ S z = false) : valsB S zs = false := by
  rw [← Bool.not_eq_true]
  unfold valsB
  rw [List.all_eq_true]
  intro h
  have := h _ (getD_mem hk)
  rw [← hz.out] at this
  have e : okZ S z = true := this
  rw [ht] at e
  exact absurd e (by simp)
def AllC (S : Nat) (az : List Int) (css : List (List Int)) (k : Nat) : Prop := ∀ i, i < k → valB S (az.getD i 0) (intsAt css i) = true
theorem AllC.succ {S : Nat} {az : List Int} {css : List (List Int)} {k : Nat} {z : Int} (h : AllC S az css k) (hz : Hid (z = az.getD k 0)) (ht : valB S z (intsAt css k) = true) : AllC S az css (k + 1) := by
  intro i hi
  rcases Nat.lt_or_ge i k with hlt | hge
  · exact h i hlt
  · have : i = k := by omega
    subst this; rw [← hz.out]; exact ht
theorem allC_all {S : Nat} {az : List Int} {css : List (List Int)} (h : AllC S az css css.length) : cellsB S az css = true := by
  unfold cellsB
  rw [List.all_eq_true]
  intro i hi
  exact h i (List.mem_range.1 hi)
theorem allC_bad {S : Nat} {az : List Int} {css : List (List Int)} {k : Nat} {z : Int} (hk : k < css.length) (hz : Hid (z = az.getD k 0)) (ht : valB S z (intsAt css k) = false) : cellsB S az css = false := by
  rw [← Bool.not_eq_true]
  unfold cellsB
  rw [List.all_eq_true]
  intro h
  have := h k (List.mem_range.2 hk)
  rw [← hz.out, ht] at this
  exact absurd this (by simp)

structure VBox (w wi : World) (c0 c1 : List Value) : Prop where
  prg : Blk wi w.heap.size 28 c0
  env : Blk wi (w.heap.size + 1) 74 c1
  bel : Below w.heap.size w wi
theorem VBox.below {w wi wj : World} {c0 c1 : List Value} (h : VBox w wi c0 c1) (hb : Below wi.heap.size wi wj) : VBox w wj c0 c1 :=
  ⟨h.prg.below hb h.prg.lt, h.env.below hb h.env.lt, h.bel.trans (hb.mono h.bel.size)⟩
theorem vbox_new (w : World) (c0 c1 : List Value) : VBox w ((w.alloc (.cells c0.toArray 28)).alloc (.cells c1.toArray 74)) c0 c1 :=
  ⟨(Blk.new w _ _).alloc _, by simpa using Blk.new (w.alloc _) 74 c1, ((Below.refl _ _).alloc (Nat.le_refl _) _).alloc (by simp) _⟩
end Go.Proofs.Ytflojbjeloilaaa
