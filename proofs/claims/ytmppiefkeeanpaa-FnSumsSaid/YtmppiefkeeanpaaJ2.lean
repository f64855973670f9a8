/- Joined texts of this proof (ValueMath, NatOk, Takes, Term, Later, TermCopies), in build order. -/
import Derived.Test.YtmppiefkeeanpaaJ1
import Derived.IntWalk
/- Plain mathematics of values: what a Term makes of values below 2^W, the stack of an expression, its first trap. No Go text here. -/
namespace Go.Proofs.Ytmppiefkeeanpaa
open Go.RowKit

/-- Masked by 2^W - 1, a number is its rest by 2^W. -/
theorem and_pow (z : Int) (W : Nat) (hW : W ≤ 8) : bits .and .i64 z (((2 ^ W : Nat) : Int) - 1) = z % ((2 ^ W : Nat) : Int) := by
  have hp : 2 ^ W ≤ 2 ^ 8 := Nat.pow_le_pow_right (by omega) hW
  have h0 : 0 < 2 ^ W := Nat.pow_pos (by omega)
  have e : (((2 ^ W : Nat) : Int) - 1) = ((2 ^ W - 1 : Nat) : Int) := by omega
  rw [e]
  have h1 : (BitVec.ofInt 64 ((2 ^ W - 1 : Nat) : Int)).toNat = 2 ^ W - 1 := by
    rw [BitVec.ofInt_natCast, BitVec.toNat_ofNat]; exact Nat.mod_eq_of_lt (by omega)
  show IntKind.i64.wrap ((BitVec.ofInt 64 z &&& BitVec.ofInt 64 ((2 ^ W - 1 : Nat) : Int)).toNat : Int) = _
  rw [BitVec.toNat_and, h1, Nat.and_two_pow_sub_one_eq_mod, BitVec.toNat_ofInt]
  have hm : (z % ((2 ^ 64 : Nat) : Int)).toNat % 2 ^ W < 2 ^ W := Nat.mod_lt _ h0
  rw [IntWalk.i64_in _ (by omega)]
  have hnn : 0 ≤ z % ((2 ^ 64 : Nat) : Int) := Int.emod_nonneg _ (by decide)
  rw [Int.natCast_emod, Int.toNat_of_nonneg hnn]
  apply Int.emod_emod_of_dvd
  have : (2 ^ W) ∣ (2 ^ 64 : Nat) := Nat.pow_dvd_pow 2 (by omega)
  exact Int.ofNat_dvd.2 this

theorem ofInt_small {a : Nat} (h : a < 256) : (BitVec.ofInt 64 (a : Int)).toNat = a := by
  rw [BitVec.ofInt_natCast, BitVec.toNat_ofNat]; exact Nat.mod_eq_of_lt (by omega)
theorem lt256 {a W : Nat} (h : a < 2 ^ W) (hW : W ≤ 8) : a < 256 := Nat.lt_of_lt_of_le h (Nat.pow_le_pow_right (by omega) hW)
theorem and_small {a b : Nat} (h : a < 256) (h' : b < 256) : bits .and .i64 (a : Int) (b : Int) = ((a &&& b : Nat) : Int) := by
  show IntKind.i64.wrap ((BitVec.ofInt 64 (a : Int) &&& BitVec.ofInt 64 (b : Int)).toNat : Int) = _
  rw [BitVec.toNat_and, ofInt_small h, ofInt_small h']
  have : a &&& b < 2 ^ 8 := Nat.and_lt_two_pow a h'
  exact IntWalk.i64_in _ (by omega)
theorem or_small {a b : Nat} (h : a < 256) (h' : b < 256) : bits .or .i64 (a : Int) (b : Int) = ((a ||| b : Nat) : Int) := by
  show IntKind.i64.wrap ((BitVec.ofInt 64 (a : Int) ||| BitVec.ofInt 64 (b : Int)).toNat : Int) = _
  rw [BitVec.toNat_or, ofInt_small h, ofInt_small h']
  have : a ||| b < 2 ^ 8 := Nat.or_lt_two_pow h h'
  exact IntWalk.i64_in _ (by omega)
theorem xor_small {a b : Nat} (h : a < 256) (h' : b < 256) : bits .xor .i64 (a : Int) (b : Int) = ((a ^^^ b : Nat) : Int) := by
  show IntKind.i64.wrap ((BitVec.ofInt 64 (a : Int) ^^^ BitVec.ofInt 64 (b : Int)).toNat : Int) = _
  rw [BitVec.toNat_xor, ofInt_small h, ofInt_small h']
  have : a ^^^ b < 2 ^ 8 := Nat.xor_lt_two_pow h h'
  exact IntWalk.i64_in _ (by omega)

/-- Bit by bit: and (0), or (1), xor (2). -/
def bitF (how a b : Nat) : Nat := if how = 1 then a ||| b else if how = 2 then a ^^^ b else a &&& b
/-- .. of one bit each. -/
def bit1 (how x y : Nat) : Nat := if how = 1 then max x y else if how = 2 then (x + y) % 2 else x * y
theorem bitF_succ (how a b k : Nat) : bitF how a b % 2 ^ (k + 1) = bitF how a b % 2 ^ k + bit1 how (a / 2 ^ k % 2) (b / 2 ^ k % 2) * 2 ^ k := by
  have e : ∀ x : Nat, x / 2 ^ k % 2 = (x.testBit k).toNat := fun x => by rw [Nat.toNat_testBit]
  rw [Nat.mod_pow_succ, e, e, e, Nat.mul_comm]
  congr 2
  unfold bitF bit1
  split
  · rw [Nat.testBit_or]; cases a.testBit k <;> cases b.testBit k <;> rfl
  · split
    · rw [Nat.testBit_xor]; cases a.testBit k <;> cases b.testBit k <;> rfl
    · rw [Nat.testBit_and]; cases a.testBit k <;> cases b.testBit k <;> rfl
theorem bitF_lt {W a b : Nat} (how : Nat) (h : a < 2 ^ W) (h' : b < 2 ^ W) : bitF how a b < 2 ^ W := by
  unfold bitF
  split
  · exact Nat.or_lt_two_pow h h'
  · split
    · exact Nat.xor_lt_two_pow h h'
    · exact Nat.and_lt_two_pow a h'

/-- What a Term of two (or, of Ops 3 and 4, of one) makes of values below S; by 0 it is 0. -/
def opN (S : Nat) (op : Int) (a b : Nat) : Nat :=
  if op = 3 then S - 1 - a else if op = 4 then (S - a) % S else if op = 5 then (a + b) % S else if op = 6 then (a + S - b) % S else if op = 7 then a * b % S
  else if op = 8 then a / b else if op = 9 then (if b = 0 then 0 else a % b) else if op = 10 then bitF 0 a b else if op = 11 then bitF 1 a b else if op = 12 then bitF 2 a b
  else if op = 13 then a * 2 ^ b % S else if op = 14 then a / 2 ^ b else if op = 15 then (if a = b then 1 else 0) else (if a < b then 1 else 0)
theorem opN_lt {W a b : Nat} (op : Int) (hW : 1 ≤ W) (h : a < 2 ^ W) (h' : b < 2 ^ W) : opN (2 ^ W) op a b < 2 ^ W := by
  have h2 : 2 ^ 1 ≤ 2 ^ W := Nat.pow_le_pow_right (by omega) hW
  have h0 : 0 < 2 ^ W := by omega
  unfold opN
  by_cases k3 : op = 3
  · rw [if_pos k3]
    omega
  rw [if_neg k3]
  by_cases k4 : op = 4
  · rw [if_pos k4]
    exact Nat.mod_lt _ h0
  rw [if_neg k4]
  by_cases k5 : op = 5
  · rw [if_pos k5]
    exact Nat.mod_lt _ h0
  rw [if_neg k5]
  by_cases k6 : op = 6
  · rw [if_pos k6]
    exact Nat.mod_lt _ h0
  rw [if_neg k6]
  by_cases k7 : op = 7
  · rw [if_pos k7]
    exact Nat.mod_lt _ h0
  rw [if_neg k7]
  by_cases k8 : op = 8
  · rw [if_pos k8]
    exact Nat.lt_of_le_of_lt (Nat.div_le_self _ _) h
  rw [if_neg k8]
  by_cases k9 : op = 9
  · rw [if_pos k9]
    by_cases hb : b = 0
    · rw [if_pos hb]; exact h0
    · rw [if_neg hb]; exact Nat.lt_of_le_of_lt (Nat.mod_le _ _) h
  rw [if_neg k9]
  by_cases k10 : op = 10
  · rw [if_pos k10]
    exact bitF_lt _ h h'
  rw [if_neg k10]
  by_cases k11 : op = 11
  · rw [if_pos k11]
    exact bitF_lt _ h h'
  rw [if_neg k11]
  by_cases k12 : op = 12
  · rw [if_pos k12]
    exact bitF_lt _ h h'
  rw [if_neg k12]
  by_cases k13 : op = 13
  · rw [if_pos k13]
    exact Nat.mod_lt _ h0
  rw [if_neg k13]
  by_cases k14 : op = 14
  · rw [if_pos k14]
    exact Nat.lt_of_le_of_lt (Nat.div_le_self _ _) h
  rw [if_neg k14]
  by_cases k15 : op = 15
  · rw [if_pos k15]
    by_cases hb : a = b
    · rw [if_pos hb]; omega
    · rw [if_neg hb]; exact h0
  rw [if_neg k15]
  by_cases hb : a < b
  · rw [if_pos hb]; omega
  · rw [if_neg hb]; exact h0

/-- The value that a Term makes, and its trap, of a stack of values. -/
def valT (S : Nat) (V : List Int) (C : List (List Int)) (t : Tm) (inn : List Nat) : Nat × Int :=
  if t.1 = 0 then (t.2.toNat, 0) else if t.1 = 1 then ((V.getD t.2.toNat 0).toNat, 0)
  else if t.1 = 2 then (if inn.getD 0 0 < (C.getD t.2.toNat []).length then (((C.getD t.2.toNat []).getD (inn.getD 0 0) 0).toNat, 0) else (0, 2))
  else if t.1 = 17 then ((if inn.getD 0 0 = 0 then inn.getD 2 0 else inn.getD 1 0), 0)
  else if t.1 = 3 ∨ t.1 = 4 then (opN S t.1 (inn.getD 0 0) 0, 0)
  else (opN S t.1 (inn.getD 0 0) (inn.getD 1 0), if inn.getD 1 0 = 0 ∧ (t.1 = 8 ∨ t.1 = 9) then 1 else 0)
def innS (st : List Nat) (t : Tm) : List Nat := st.drop (st.length - (takesI t.1).toNat)
def stepV (S : Nat) (V : List Int) (C : List (List Int)) (st : List Nat) (t : Tm) : List Nat := st.take (st.length - (takesI t.1).toNat) ++ [(valT S V C t (innS st t)).1]
def stkV (S : Nat) (V : List Int) (C : List (List Int)) (ts : List Tm) : List Nat := ts.foldl (stepV S V C) []
theorem stkV_snoc (S : Nat) (V : List Int) (C : List (List Int)) (ts : List Tm) (t : Tm) : stkV S V C (ts ++ [t]) = stepV S V C (stkV S V C ts) t := by simp [stkV]
theorem stkV_succ (S : Nat) (V : List Int) (C : List (List Int)) (ts : List Tm) (k : Nat) (h : k < ts.length) : stkV S V C (ts.take (k + 1)) = stepV S V C (stkV S V C (ts.take k)) (tmAt ts k) := by rw [tm_snoc ts k h, stkV_snoc]
/-- The trap of the Term at k. -/
def badV (S : Nat) (V : List Int) (C : List (List Int)) (ts : List Tm) (k : Nat) : Int := (valT S V C (tmAt ts k) (innS (stkV S V C (ts.take k)) (tmAt ts k))).2
/-- The first trap among the first k Terms. -/
def trapV (S : Nat) (V : List Int) (C : List (List Int)) (ts : List Tm) : Nat → Int
  | 0 => 0
  | k + 1 => if trapV S V C ts k = 0 then badV S V C ts k else trapV S V C ts k
theorem trapV_on {S : Nat} {V : List Int} {C : List (List Int)} {ts : List Tm} {k : Nat} (h : trapV S V C ts k ≠ 0) : ∀ m, k ≤ m → trapV S V C ts m = trapV S V C ts k := by
  intro m hm
  induction m with
  | zero => have : k = 0 := by omega
            subst this; rfl
  | succ m ih =>
    rcases Nat.lt_or_ge m k with hlt | hge
    · have : k = m + 1 := by omega
      subst this; rfl
    · have e := ih hge
      rw [trapV, if_neg (by rw [e]; exact h), e]
theorem valT_trap (S : Nat) (V : List Int) (C : List (List Int)) (t : Tm) (inn : List Nat) : (valT S V C t inn).2 = 0 ∨ (valT S V C t inn).2 = 1 ∨ (valT S V C t inn).2 = 2 := by
  unfold valT; repeat' split
  all_goals simp
theorem trapV_range (S : Nat) (V : List Int) (C : List (List Int)) (ts : List Tm) : ∀ k, trapV S V C ts k = 0 ∨ trapV S V C ts k = 1 ∨ trapV S V C ts k = 2
  | 0 => .inl rfl
  | k + 1 => by
    rw [trapV]; split
    · exact valT_trap _ _ _ _ _
    · exact trapV_range S V C ts k

/-- The values of an environment are from 0 to below S. -/
def valsB (S : Nat) (V : List Int) : Bool := V.all (fun z => decide (0 ≤ z) && decide (z < (S : Int)))
def InEnv (S : Nat) (V : List Int) (C : List (List Int)) : Prop := (∀ z ∈ V, 0 ≤ z ∧ z < (S : Int)) ∧ ∀ cs ∈ C, ∀ z ∈ cs, 0 ≤ z ∧ z < (S : Int)
theorem getD_in {S : Nat} (hS : 0 < S) {V : List Int} (h : ∀ z ∈ V, 0 ≤ z ∧ z < (S : Int)) (i : Nat) : 0 ≤ V.getD i 0 ∧ V.getD i 0 < (S : Int) := by
  rw [List.getD_eq_getElem?_getD]
  rcases Nat.lt_or_ge i V.length with hlt | hge
  · rw [List.getElem?_eq_getElem hlt]; exact h _ (List.getElem_mem hlt)
  · rw [List.getElem?_eq_none hge]; simp; omega
theorem getD_cells {S : Nat} {C : List (List Int)} (h : ∀ cs ∈ C, ∀ z ∈ cs, 0 ≤ z ∧ z < (S : Int)) (i : Nat) : ∀ z ∈ C.getD i [], 0 ≤ z ∧ z < (S : Int) := by
  rw [List.getD_eq_getElem?_getD]
  rcases Nat.lt_or_ge i C.length with hlt | hge
  · rw [List.getElem?_eq_getElem hlt]; exact h _ (List.getElem_mem hlt)
  · rw [List.getElem?_eq_none hge]; simp
theorem getD_nat {S : Nat} (hS : 0 < S) {st : List Nat} (h : ∀ x ∈ st, x < S) (i : Nat) : st.getD i 0 < S := by
  rw [List.getD_eq_getElem?_getD]
  rcases Nat.lt_or_ge i st.length with hlt | hge
  · rw [List.getElem?_eq_getElem hlt]; exact h _ (List.getElem_mem hlt)
  · rw [List.getElem?_eq_none hge]; simpa using hS
theorem valT_lt {W : Nat} (hW : 1 ≤ W) {V : List Int} {C : List (List Int)} (he : InEnv (2 ^ W) V C) {t : Tm} (ht : t.1 = 0 → t.2 < ((2 ^ W : Nat) : Int)) {inn : List Nat} (hi : ∀ x ∈ inn, x < 2 ^ W) : (valT (2 ^ W) V C t inn).1 < 2 ^ W := by
  have h0 : 0 < 2 ^ W := Nat.pow_pos (by omega)
  have g := getD_nat h0 hi
  unfold valT
  split
  · rename_i e; have := ht e; simp only []; omega
  split
  · have := getD_in h0 he.1 t.2.toNat; simp only []; omega
  split
  · split
    · have := getD_in h0 (getD_cells he.2 t.2.toNat) (inn.getD 0 0); simp only []; omega
    · exact h0
  split
  · simp only []; split
    · exact g 2
    · exact g 1
  split
  · exact opN_lt _ hW (g 0) h0
  · exact opN_lt _ hW (g 0) (g 1)
theorem innS_mem {st : List Nat} {t : Tm} {x : Nat} (h : x ∈ innS st t) : x ∈ st := List.mem_of_mem_drop h
theorem stepV_lt {W : Nat} (hW : 1 ≤ W) {V : List Int} {C : List (List Int)} (he : InEnv (2 ^ W) V C) {t : Tm} (ht : t.1 = 0 → t.2 < ((2 ^ W : Nat) : Int)) {st : List Nat} (hi : ∀ x ∈ st, x < 2 ^ W) : ∀ x ∈ stepV (2 ^ W) V C st t, x < 2 ^ W := by
  intro x hx
  rw [stepV, List.mem_append] at hx
  rcases hx with hx | hx
  · exact hi x (List.mem_of_mem_take hx)
  · rw [List.mem_singleton] at hx
    rw [hx]
    exact valT_lt hW he ht (fun y hy => hi y (innS_mem hy))
/-- The stack is as high as the depth tells. -/
theorem stkV_len (S : Nat) (V : List Int) (C : List (List Int)) (ts : List Tm) {x : Int} (h : runD 0 ts = some x) : ∀ k, k ≤ ts.length → ∃ d : Int, runD 0 (ts.take k) = some d ∧ ((stkV S V C (ts.take k)).length : Int) = d := by
  intro k
  induction k with
  | zero => intro _; exact ⟨0, rfl, rfl⟩
  | succ k ih =>
    intro hk
    obtain ⟨d, hd, hl⟩ := ih (by omega)
    obtain ⟨ho, ht, hs⟩ := runD_at h (by omega : k < ts.length) hd
    refine ⟨_, hs, ?_⟩
    rw [stkV_succ _ _ _ _ _ (by omega), stepV]
    have := (tOkB_iff _).1 ho
    simp only [List.length_append, List.length_take, List.length_singleton]
    omega
end Go.Proofs.Ytmppiefkeeanpaa
/- The contracts of the two functions NatOk (the program's and the model's): each answers 'okB' of the numbers, and leaves the world as it is. -/
namespace Go.Proofs.Ytmppiefkeeanpaa
open Go.RowKit

theorem in_any (x lo hi : Int) (w : World) :
    Calls Try.prog 73 #[.int .i64 x, .int .i64 lo, .int .i64 hi] w fun e w' => e = .returned (.bool (decide (lo ≤ x) && decide (x ≤ hi))) ∧ w = w' := by
  by_cases h1 : lo ≤ x
  · by_cases h2 : x ≤ hi
    · go_enter Try.func73, Try.ntmps73
      go_wp2
      go_ret
      exact ⟨ret_bool (by simp [h1, h2]), rfl⟩
    · go_enter Try.func73, Try.ntmps73
      go_wp2
      go_ret
      exact ⟨ret_bool (by rw [decide_eq_false (p := x ≤ hi) (by omega)]), rfl⟩
  · go_enter Try.func73, Try.ntmps73
    go_wp2
    go_ret
    exact ⟨ret_bool (by rw [decide_eq_false (p := lo ≤ x) (by omega), Bool.false_and]), rfl⟩

end Go.Proofs.Ytmppiefkeeanpaa
/- The contracts of the two functions TakesOf (the program's and the model's), and of the program's termOk. -/
namespace Go.Proofs.Ytmppiefkeeanpaa
open Go.RowKit

theorem takesI_mid {op : Int} (h : 5 ≤ op) (h' : op ≤ 16) : takesI op = 2 := by unfold takesI; rw [if_neg (by omega), if_neg (by omega), if_neg (by omega), if_pos ⟨h, h'⟩]
theorem takesI_out {op : Int} (h : op < 0 ∨ 17 < op) : takesI op = -1 := (takesI_neg op).2 h

set_option maxHeartbeats 400000 in
theorem takes_any (op : Int) (w : World) :
    Calls Try.prog 64 #[.int .i64 op] w fun e w' => e = .returned (.int .i64 (takesI op)) ∧ w = w' := by
  have hc : op = 0 ∨ op = 1 ∨ op = 2 ∨ op = 3 ∨ op = 4 ∨ op = 17 ∨ (5 ≤ op ∧ op ≤ 16) ∨ (op < 0 ∨ 17 < op) := by omega
  rcases hc with rfl | rfl | rfl | rfl | rfl | rfl | ⟨h5, h16⟩ | h
  iterate 6
    · go_enter Try.func64, Try.ntmps64
      go_wp2
      go_ret
      exact ⟨rfl, rfl⟩
  · have e := takesI_mid h5 h16
    have HE := Lib.hid e
    clear e
    have n0 : (op == 0) = false := by simp; omega
    have n1 : (op == 1) = false := by simp; omega
    have n2 : (op == 2) = false := by simp; omega
    have n3 : (op == 3) = false := by simp; omega
    have n4 : (op == 4) = false := by simp; omega
    have n17 : (op == 17) = false := by simp; omega
    go_enter Try.func64, Try.ntmps64
    go_wp2
    go_ret
    exact ⟨ret_int HE.out.symm, rfl⟩
  · have e := takesI_out h
    have HE := Lib.hid e
    clear e
    have n0 : (op == 0) = false := by simp; omega
    have n1 : (op == 1) = false := by simp; omega
    have n2 : (op == 2) = false := by simp; omega
    have n3 : (op == 3) = false := by simp; omega
    have n4 : (op == 4) = false := by simp; omega
    have n17 : (op == 17) = false := by simp; omega
    rcases h with h | h
    all_goals
      go_enter Try.func64, Try.ntmps64
      go_wp2
      go_ret
      exact ⟨ret_int HE.out.symm, rfl⟩

theorem takes_row (k : Nat) (hk : k ≤ 17) : ([Value.int IntKind.i64 0, Value.int IntKind.i64 0, Value.int IntKind.i64 1, Value.int IntKind.i64 1, Value.int IntKind.i64 1, Value.int IntKind.i64 2, Value.int IntKind.i64 2, Value.int IntKind.i64 2, Value.int IntKind.i64 2, Value.int IntKind.i64 2, Value.int IntKind.i64 2, Value.int IntKind.i64 2, Value.int IntKind.i64 2, Value.int IntKind.i64 2, Value.int IntKind.i64 2, Value.int IntKind.i64 2, Value.int IntKind.i64 2, Value.int IntKind.i64 3] : List Value)[k]? = some (.int .i64 (takesI k)) := by
  match k, hk with
  | 0, _ => rfl
  | 1, _ => rfl
  | 2, _ => rfl
  | 3, _ => rfl
  | 4, _ => rfl
  | 5, _ => rfl
  | 6, _ => rfl
  | 7, _ => rfl
  | 8, _ => rfl
  | 9, _ => rfl
  | 10, _ => rfl
  | 11, _ => rfl
  | 12, _ => rfl
  | 13, _ => rfl
  | 14, _ => rfl
  | 15, _ => rfl
  | 16, _ => rfl
  | 17, _ => rfl
  | j + 18, h => exact absurd h (by omega)

set_option maxHeartbeats 400000 in
theorem specTakes_any (op : Int) (w : World) :
    Calls Try.prog 67 #[.int .i64 op] w fun e w' => e = .returned (.int .i64 (takesI op)) ∧ Below w.heap.size w w' := by
  by_cases h : 0 ≤ op ∧ op ≤ 17
  · obtain ⟨k, rfl⟩ := Int.eq_ofNat_of_zero_le h.1
    have hk : k ≤ 17 := by omega
    clear h
    have hb : (decide ((0 : Int) ≤ (k : Int)) && decide ((k : Int) ≤ 17)) = true := by simp; omega
    have HB := Lib.hid hb
    clear hb
    have hrow := takes_row k hk
    generalize takesI (k : Int) = q at hrow ⊢
    go_enter Try.func67, Try.ntmps67
    go_wp2_with fail
    refine (in_any _ _ _ _).mono ?_
    rintro e w' ⟨rfl, rfl⟩
    rw [HB.out]
    go_wp2
    go_ret
    exact ⟨rfl, (Below.refl _ _).alloc (Nat.le_refl _) _⟩
  · have e : takesI op = -1 := takesI_out (by omega)
    have HE := Lib.hid e
    clear e
    have hb : (decide (0 ≤ op) && decide (op ≤ 17)) = false := by
      by_cases h0 : 0 ≤ op
      · rw [decide_eq_true h0, decide_eq_false (by omega)]; rfl
      · rw [decide_eq_false h0]; rfl
    have HB := Lib.hid hb
    clear hb
    go_enter Try.func67, Try.ntmps67
    go_wp2_with fail
    refine (in_any _ _ _ _).mono ?_
    rintro e w' ⟨rfl, rfl⟩
    rw [HB.out]
    go_wp2_with fail
    go_ret
    exact ⟨ret_int HE.out.symm, Below.refl _ _⟩
end Go.Proofs.Ytmppiefkeeanpaa
/- Words for slices of Terms in memory; the contracts of termOk and of the two functions ExpOk (the program's and the model's). -/
namespace Go.Proofs.Ytmppiefkeeanpaa
open Go.RowKit

def InTm (t : Tm) : Prop := In64 t.1 ∧ In64 t.2

/-- The slice '.slice a n c' reads as the Terms ts. -/
def Terms (w : World) (a : Option Addr) (n : Nat) (ts : List Tm) : Prop :=
  ts.length = n ∧ n ≤ 1048576 ∧ (∀ t ∈ ts, InTm t) ∧
  (0 < n → ∃ b o, a = some ⟨b, o, none⟩ ∧ b < w.heap.size ∧ ∀ i, i < n → w.cell? ⟨b, o + i * 2, none⟩ = some (.int .i64 (tmAt ts i).1) ∧ w.cell? ⟨b, o + i * 2 + 1, none⟩ = some (.int .i64 (tmAt ts i).2))

theorem Terms.at_ {w : World} {a : Option Addr} {n : Nat} {ts : List Tm} {k : Nat} (h : Terms w a n ts) (hk : k < n) :
    ∃ b o x y, a = some ⟨b, o, none⟩ ∧ b < w.heap.size ∧ Hid (tmAt ts k = (x, y)) ∧ In64 x ∧ In64 y ∧ w.cell? ⟨b, o + k * 2, none⟩ = some (.int .i64 x) ∧ w.cell? ⟨b, o + k * 2 + 1, none⟩ = some (.int .i64 y) := by
  obtain ⟨hl, _, hin, hc⟩ := h
  obtain ⟨b, o, rfl, hb, hcell⟩ := hc (by omega)
  have hm := hin _ (tmAt_mem (k := k) (by omega))
  exact ⟨b, o, _, _, rfl, hb, rfl, hm.1, hm.2, (hcell k hk).1, (hcell k hk).2⟩
theorem Terms.below {w w' : World} {a : Option Addr} {n : Nat} {ts : List Tm} {B : Nat} (h : Terms w a n ts) (hB : w.heap.size ≤ B) (hb : Below B w w') : Terms w' a n ts := by
  obtain ⟨hl, hn, hin, hc⟩ := h
  refine ⟨hl, hn, hin, fun hp => ?_⟩
  obtain ⟨b, o, rfl, hbl, hcell⟩ := hc hp
  exact ⟨b, o, rfl, Nat.lt_of_lt_of_le hbl hb.size, fun i hi => ⟨(hb.cell (Nat.lt_of_lt_of_le hbl hB)).trans (hcell i hi).1, (hb.cell (Nat.lt_of_lt_of_le hbl hB)).trans (hcell i hi).2⟩⟩

theorem tOkB_leaf {op n : Int} (h : op = 0 ∨ op = 1 ∨ op = 2) : tOkB (op, n) = (decide (0 ≤ n) && decide (n ≤ 255)) := by
  rcases h with rfl | rfl | rfl <;> (rw [Bool.eq_iff_iff, tOkB_iff]; simp [takesI])
theorem tOkB_op {op n : Int} (h : ¬ (op = 0 ∨ op = 1 ∨ op = 2)) : tOkB (op, n) = (decide (0 ≤ takesI op) && (n == 0)) := by
  rw [Bool.eq_iff_iff, tOkB_iff]
  simp only [Bool.and_eq_true, decide_eq_true_eq, beq_iff_eq]
  constructor
  · rintro ⟨h1, h2, h3, h4⟩
    refine ⟨h1, ?_⟩
    rcases h4 with h4 | h4
    · have : op < 0 := by omega
      have := (takesI_neg op).2 (.inl this)
      omega
    · exact h4
  · rintro ⟨h1, h2⟩
    exact ⟨h1, by omega, by omega, .inr h2⟩

set_option maxHeartbeats 800000 in
theorem termOk_any (op n : Int) (w : World) :
    Calls Try.prog 84 #[.agg #[.int .i64 op, .int .i64 n]] w fun e w' => e = .returned (.bool (tOkB (op, n))) ∧ Below w.heap.size w w' := by
  by_cases hl : op = 0 ∨ op = 1 ∨ op = 2
  · have HE := Lib.hid (tOkB_leaf (n := n) hl)
    by_cases h0 : 0 ≤ n
    · rcases hl with rfl | rfl | rfl
      all_goals
        go_enter Try.func84, Try.ntmps84
        go_wp2
        go_ret
        exact ⟨ret_bool (by rw [HE.out]; simp [h0]), (Below.refl _ _).alloc (Nat.le_refl _) _⟩
    · rcases hl with rfl | rfl | rfl
      all_goals
        go_enter Try.func84, Try.ntmps84
        go_wp2
        go_ret
        exact ⟨ret_bool (by rw [HE.out, decide_eq_false (by omega)]; rfl), (Below.refl _ _).alloc (Nat.le_refl _) _⟩
  · have HE := Lib.hid (tOkB_op (n := n) hl)
    have n0 : (op == 0) = false := by simp; omega
    have n1 : (op == 1) = false := by simp; omega
    have n2 : (op == 2) = false := by simp; omega
    obtain ⟨q, HQ⟩ : ∃ q, Hid (takesI op = q) := ⟨_, rfl⟩
    clear hl
    by_cases h0 : 0 ≤ q
    · go_enter Try.func84, Try.ntmps84
      go_wp2_with fail
      refine (takes_any _ _).mono ?_
      rintro e w1 ⟨rfl, rfl⟩
      rw [HQ.out]
      go_wp2
      go_ret
      exact ⟨ret_bool (by rw [HE.out, HQ.out]; simp [h0]), (Below.refl _ _).alloc (Nat.le_refl _) _⟩
    · go_enter Try.func84, Try.ntmps84
      go_wp2_with fail
      refine (takes_any _ _).mono ?_
      rintro e w1 ⟨rfl, rfl⟩
      rw [HQ.out]
      go_wp2
      go_ret
      exact ⟨ret_bool (by rw [HE.out, HQ.out, decide_eq_false (by omega)]; rfl), (Below.refl _ _).alloc (Nat.le_refl _) _⟩

set_option maxHeartbeats 800000 in
theorem expOk_any (a : Option Addr) (n c : Nat) (ts : List Tm) (w : World) (h : Terms w a n ts) :
    Calls Try.prog 61 #[.slice a n c] w fun e w' => e = .returned (.bool (expB ts)) ∧ Below w.heap.size w w' := by
  have HL := Lib.hid h.1
  have hbd := h.2.1
  by_cases hn : 3000 < n
  · go_enter Try.func61, Try.ntmps61
    go_wp2
    go_ret
    exact ⟨ret_bool (expB_long (by rw [HL.out]; exact hn)).symm, Below.refl _ _⟩
  · go_enter Try.func61, Try.ntmps61
    go_wp2
    go_loopw [3, 12] (fun l i wr => ∃ (k : Nat) (d : Int), k ≤ n ∧ i = .int .i64 k ∧ l = .int .i64 d ∧ 0 ≤ d ∧ d ≤ k ∧ Hid (runD 0 (ts.take k) = some d) ∧ Below w.heap.size w wr) (fun _ i _ => n - (intOf i).toNat)
    case atStart => exact ⟨0, 0, Nat.zero_le _, rfl, rfl, by omega, by omega, rfl, Below.refl _ _⟩
    case round =>
      obtain ⟨k, d, hk, rfl, rfl, hd0, hd1, hr, hbel⟩ := hrel
      by_cases hlt : k < n
      · obtain ⟨b, o, x, y, rfl, hb, hz, hin1, hin2, hc1, hc2⟩ := (h.below (Nat.le_refl _) hbel).at_ hlt
        obtain ⟨q, HQ⟩ : ∃ q, Hid (takesI x = q) := ⟨_, rfl⟩
        have hq := takesI_range x
        rw [HQ.out] at hq
        obtain ⟨hq0, hq1⟩ := hq
        obtain ⟨okq, HOK⟩ : ∃ okq, Hid (tOkB (x, y) = okq) := ⟨_, rfl⟩
        go_wp2_with fail
        refine (takes_any _ _).mono ?_
        rintro e w1 ⟨rfl, rfl⟩
        rw [HQ.out]
        go_wp2_with fail
        refine (termOk_any _ _ _).mono ?_
        rintro e w1 ⟨rfl, hb1⟩
        have ht1 : Below w.heap.size w w1 := (hbel.alloc hbel.size _).trans (hb1.mono (by have := hbel.size; simp; omega))
        rw [HOK.out]
        clear hb1 hbel hc1 hc2
        cases okq with
        | false =>
          go_wp2
          go_ret
          exact ⟨ret_bool (expB_bad (by rw [HL.out]; exact hlt) hr.out (.inl (by rw [hz.out, HOK.out]))).symm, ht1⟩
        | true =>
          by_cases hqd : d < q
          · go_wp2
            go_ret
            exact ⟨ret_bool (expB_bad (by rw [HL.out]; exact hlt) hr.out (.inr (by rw [hz.out, HQ.out]; exact hqd))).symm, ht1⟩
          · have HR := Lib.hid (runD_step (by rw [HL.out]; exact hlt) hr.out (by rw [hz.out, HOK.out]) (by rw [hz.out, HQ.out]; omega))
            have hq2 : 0 ≤ q := by have := ((tOkB_iff _).1 HOK.out).1; rw [HQ.out] at this; exact this
            go_wp2
            go_roundw
            case rel => exact ⟨k + 1, d + (1 - q), by omega, by go_num, rfl, by omega, by omega, by show _ = _; rw [HR.out, hz.out, HQ.out]; congr 1; omega, ht1⟩
            case measure => simp [intOf]; omega
      · obtain rfl : n = k := by omega
        have hr2 : runD 0 ts = some d := by have := hr.out; rwa [List.take_of_length_le (by rw [HL.out]; exact Nat.le_refl _)] at this
        have HF := Lib.hid (expB_end (by rw [HL.out]; omega) hr2)
        clear hr2
        go_wp2
        go_ret
        exact ⟨ret_bool HF.out.symm, hbel⟩

theorem tOkB_false {x y q : Int} (hq : Hid (takesI x = q)) (h : q < 0 ∨ y < 0 ∨ 255 < y ∨ (2 < x ∧ y ≠ 0)) : tOkB (x, y) = false := by
  rw [← Bool.not_eq_true, tOkB_iff]
  rintro ⟨h1, h2, h3, h4⟩
  simp only [hq.out] at h1 h2 h3 h4
  omega
theorem tOkB_true {x y q : Int} (hq : Hid (takesI x = q)) (h0 : 0 ≤ q) (h1 : 0 ≤ y) (h2 : y ≤ 255) (h3 : x ≤ 2 ∨ y = 0) : tOkB (x, y) = true :=
  (tOkB_iff _).2 ⟨by simp only [hq.out]; exact h0, h1, h2, h3⟩

set_option maxHeartbeats 1600000 in
theorem specExpOk_any (a : Option Addr) (n c : Nat) (ts : List Tm) (w : World) (h : Terms w a n ts) :
    Calls Try.prog 66 #[.slice a n c] w fun e w' => e = .returned (.bool (expB ts)) ∧ Below w.heap.size w w' := by
  have HL := Lib.hid h.1
  have hbd := h.2.1
  by_cases hn : 3000 < n
  · go_enter Try.func66, Try.ntmps66
    go_wp2
    go_ret
    exact ⟨ret_bool (expB_long (by rw [HL.out]; exact hn)).symm, Below.refl _ _⟩
  · go_enter Try.func66, Try.ntmps66
    go_wp2
    go_loopw [3, 4] (fun l i wr => ∃ (k : Nat) (d : Int), k ≤ n ∧ i = .int .i64 k ∧ l = .int .i64 d ∧ 0 ≤ d ∧ d ≤ k ∧ Hid (runD 0 (ts.take k) = some d) ∧ Below w.heap.size w wr) (fun _ i _ => n - (intOf i).toNat)
    case atStart => exact ⟨0, 0, Nat.zero_le _, rfl, rfl, by omega, by omega, rfl, Below.refl _ _⟩
    case round =>
      obtain ⟨k, d, hk, rfl, rfl, hd0, hd1, hr, hbel⟩ := hrel
      by_cases hlt : k < n
      · obtain ⟨b, o, x, y, rfl, hb, hz, hin1, hin2, hc1, hc2⟩ := (h.below (Nat.le_refl _) hbel).at_ hlt
        obtain ⟨q, HQ⟩ : ∃ q, Hid (takesI x = q) := ⟨_, rfl⟩
        have hq := takesI_range x
        rw [HQ.out] at hq
        obtain ⟨hq0, hq1⟩ := hq
        go_wp2_with fail
        refine (specTakes_any _ _).mono ?_
        rintro e w1 ⟨rfl, hb1⟩
        have ht1 : Below w.heap.size w w1 := hbel.trans (hb1.mono hbel.size)
        have hd1' : w1.cell? ⟨b, o + k * 2, none⟩ = some (.int .i64 x) := (hb1.cell hb).trans hc1
        have hd2' : w1.cell? ⟨b, o + k * 2 + 1, none⟩ = some (.int .i64 y) := (hb1.cell hb).trans hc2
        rw [HQ.out]
        clear hb1 hbel hc1 hc2
        by_cases hqn : q < 0
        · go_wp2_with fail
          go_ret
          exact ⟨ret_bool (expB_bad (by rw [HL.out]; exact hlt) hr.out (.inl (by rw [hz.out]; exact tOkB_false HQ (.inl hqn)))).symm, ht1⟩
        by_cases hqd : d < q
        · go_wp2_with fail
          go_ret
          exact ⟨ret_bool (expB_bad (by rw [HL.out]; exact hlt) hr.out (.inr (by rw [hz.out]; show d < takesI x; rw [HQ.out]; exact hqd))).symm, ht1⟩
        obtain ⟨inq, HI⟩ : ∃ inq, Hid ((decide (0 ≤ y) && decide (y ≤ 255)) = inq) := ⟨_, rfl⟩
        cases inq with
        | false =>
          have hyy : y < 0 ∨ 255 < y := by have := HI.out; simp at this; omega
          go_wp2_with fail
          refine (in_any _ _ _ _).mono ?_
          rintro e w2 ⟨rfl, rfl⟩
          rw [HI.out]
          go_wp2_with fail
          go_ret
          exact ⟨ret_bool (expB_bad (by rw [HL.out]; exact hlt) hr.out (.inl (by rw [hz.out]; exact tOkB_false HQ (by omega)))).symm, ht1⟩
        | true =>
          have hy0 : 0 ≤ y := by have := HI.out; simp at this; omega
          have hy1 : y ≤ 255 := by have := HI.out; simp at this; omega
          by_cases hx2 : 2 < x
          · by_cases hyz : y = 0
            · subst hyz
              have HR := Lib.hid (runD_step (by rw [HL.out]; exact hlt) hr.out (by rw [hz.out]; exact tOkB_true HQ (by omega) hy0 hy1 (.inr rfl)) (by rw [hz.out]; show takesI x ≤ d; rw [HQ.out]; omega))
              go_wp2_with fail
              refine (in_any _ _ _ _).mono ?_
              rintro e w2 ⟨rfl, rfl⟩
              rw [HI.out]
              go_wp2_with fail
              go_roundw
              case rel => exact ⟨k + 1, d - q + 1, by omega, by go_num, rfl, by omega, by omega, by show _ = _; rw [HR.out, hz.out]; show some (d + 1 - takesI x) = _; rw [HQ.out]; congr 1; omega, ht1⟩
              case measure => simp [intOf]; omega
            · have hne : (y != 0) = true := by simpa using hyz
              go_wp2_with fail
              refine (in_any _ _ _ _).mono ?_
              rintro e w2 ⟨rfl, rfl⟩
              rw [HI.out]
              go_wp2_with fail
              go_ret
              exact ⟨ret_bool (expB_bad (by rw [HL.out]; exact hlt) hr.out (.inl (by rw [hz.out]; exact tOkB_false HQ (.inr (.inr (.inr ⟨hx2, hyz⟩)))))).symm, ht1⟩
          · have HR := Lib.hid (runD_step (by rw [HL.out]; exact hlt) hr.out (by rw [hz.out]; exact tOkB_true HQ (by omega) hy0 hy1 (.inl (by omega))) (by rw [hz.out]; show takesI x ≤ d; rw [HQ.out]; omega))
            go_wp2_with fail
            refine (in_any _ _ _ _).mono ?_
            rintro e w2 ⟨rfl, rfl⟩
            rw [HI.out]
            go_wp2_with fail
            go_roundw
            case rel => exact ⟨k + 1, d - q + 1, by omega, by go_num, rfl, by omega, by omega, by show _ = _; rw [HR.out, hz.out]; show some (d + 1 - takesI x) = _; rw [HQ.out]; congr 1; omega, ht1⟩
            case measure => simp [intOf]; omega
      · obtain rfl : n = k := by omega
        have hr2 : runD 0 ts = some d := by have := hr.out; rwa [List.take_of_length_le (by rw [HL.out]; exact Nat.le_refl _)] at this
        have HF := Lib.hid (expB_end (by rw [HL.out]; omega) hr2)
        clear hr2
        go_wp2
        go_ret
        exact ⟨ret_bool HF.out.symm, hbel⟩
end Go.Proofs.Ytmppiefkeeanpaa
/- A region that draws its order, whose own operations only read and whose callees leave what was there as it was: walked once, in the text's order, in the class of later worlds. -/
namespace Go.Proofs.Ytmppiefkeeanpaa
open Go.RowKit

/-- A world in which all that lay in w lies as it did. -/
structure Lat (w : World) where
  wd : World
  ok : Below w.heap.size w wd
instance (w : World) : Inhabited (Lat w) := ⟨⟨w, Below.refl _ _⟩⟩

theorem wp_region_lat {id : Nat} {Q : Exit → Act → World → Prop} {a : Act} {w : World} {l : List Oper} (hm : Try.prog.follows .mixedOrders = true) (hB : Region.lexB .any l.toArray = true)
    (h : wpQuiet Try.prog l.toArray (fun w' => ∃ p : Lat w, w' = p.wd) (fun a' => ∀ w', (∃ p : Lat w, w' = p.wd) → Q .normal a' w') l a) : (Code.region id l.toArray true).wp Try.prog Q a w :=
  wp_region_quiet (C := fun w' => ∃ p : Lat w, w' = p.wd) hm hB ⟨⟨w.drewN 1, ⟨rfl, rfl, rfl, Nat.le_refl _, fun _ _ => rfl⟩⟩, rfl⟩ (by simpa using h)
theorem lat_cell {w : World} {b o : Nat} {v : Value} (hb : b < w.heap.size) (h : w.cell? ⟨b, o, none⟩ = some v) (p : Lat w) : p.wd.cell? ⟨b, o, none⟩ = some v := (p.ok.cell hb).trans h
theorem lat_calls {f : FuncId} {args : Array Value} {w : World} {p : Lat w} {v : Value} (h : Calls Try.prog f args p.wd fun e w' => e = .returned v ∧ Below p.wd.heap.size p.wd w') :
    Calls Try.prog f args p.wd fun e w'' => e = .returned v ∧ ∃ q : Lat w, w'' = q.wd :=
  h.mono fun _ w'' ⟨he, hb⟩ => ⟨he, ⟨w'', p.ok.trans (hb.mono p.ok.size)⟩, rfl⟩
end Go.Proofs.Ytmppiefkeeanpaa
/- The contracts of the laws' own helpers on slices of Terms: a copy (toTermS), a comparison (eqTermS), marks written (markTermS), marks asked for (heldTermS). -/
namespace Go.Proofs.Ytmppiefkeeanpaa
open Go.RowKit

/-- The cells of some Terms. -/
def flatV (ts : List Tm) : List Value := ts.flatMap (fun t => [.int .i64 t.1, .int .i64 t.2])
theorem flatV_len (ts : List Tm) : (flatV ts).length = ts.length * 2 := by
  induction ts with
  | nil => rfl
  | cons t r ih => simp only [flatV, List.flatMap_cons, List.length_append] at ih ⊢; simp only [List.length_cons, List.length_nil]; omega
theorem flatV_append (a b : List Tm) : flatV (a ++ b) = flatV a ++ flatV b := by simp [flatV]
theorem flatV_at : ∀ (ts : List Tm) (k : Nat), k < ts.length → (flatV ts)[k * 2]? = some (.int .i64 (tmAt ts k).1) ∧ (flatV ts)[k * 2 + 1]? = some (.int .i64 (tmAt ts k).2)
  | [], k, h => absurd h (by simp)
  | t :: r, 0, _ => ⟨rfl, rfl⟩
  | t :: r, k + 1, h => by
    have ih := flatV_at r k (by simpa using h)
    have e1 : (k + 1) * 2 = k * 2 + 2 := by omega
    rw [e1]
    exact ih

/-- A slice of Terms that the call made itself, from block B on. -/
def OwnT (w : World) (B : Nat) (a : Option Addr) (n c : Nat) (ts : List Tm) : Prop :=
  w.ownsRow B 47 2 (.slice a n c) n (flatV ts) ∧ n ≤ 1048576 ∧ ∀ t ∈ ts, InTm t

section
variable {w w' : World} {B : Nat} {a : Option Addr} {n c : Nat} {ts : List Tm}
theorem OwnT.len (h : OwnT w B a n c ts) : ts.length = n := by have := h.1.1; rw [flatV_len] at this; omega
theorem OwnT.terms (h : OwnT w B a n c ts) : Terms w a n ts := by
  have hlen := h.len
  obtain ⟨ho, hn, hin⟩ := h
  refine ⟨hlen, hn, hin, fun hp => ?_⟩
  rcases ho.2 with ⟨_, h0⟩ | ⟨g, cap, cur, e, _, hh, _⟩
  · exact absurd hp (by omega)
  · have ea : a = some ⟨g, 0, none⟩ := by injection e
    subst ea
    refine ⟨g, 0, rfl, (ho.lt g rfl).2, fun i hi => ?_⟩
    rw [Nat.zero_add, ho.cellAt (i * 2) (by omega), ho.cellAt (i * 2 + 1) (by omega)]
    exact flatV_at ts i (by omega)
theorem OwnT.below (h : OwnT w B a n c ts) (hb : Below w.heap.size w w') : OwnT w' B a n c ts :=
  ⟨h.1.kept (row := none) ⟨hb.os, hb.tape, hb.output, hb.size, fun k hk _ => hb.block k hk⟩ (by cases a <;> simp [Value.ownBlock]), h.2⟩
theorem OwnT.base {B' : Nat} (h : OwnT w B a n c ts) (hB : B' ≤ B) : OwnT w B' a n c ts := by
  refine ⟨⟨h.1.1, ?_⟩, h.2⟩
  rcases h.1.2 with hn | ⟨g, cap, cur, e, hb, r⟩
  · exact .inl hn
  · exact .inr ⟨g, cap, cur, e, by omega, r⟩
theorem OwnT.alloc (h : OwnT w B a n c ts) (o : Obj) : OwnT (w.alloc o) B a n c ts := ⟨h.1.alloc o, h.2⟩
theorem OwnT.block (h : OwnT w B a n c ts) : ∀ g, (Value.slice a n c).ownBlock = some g → B ≤ g ∧ g < w.heap.size := h.1.lt
theorem OwnT.apart {row : Option Nat} (h : OwnT w B a n c ts) (hg : w.grownBy w' row) (hr : ∀ g, (Value.slice a n c).ownBlock = some g → row ≠ some g) : OwnT w' B a n c ts := by
  refine ⟨h.1.kept hg ?_, h.2⟩
  cases hv : (Value.slice a n c).ownBlock with
  | none => exact .inl rfl
  | some g => exact .inr fun e => hr g hv e.symm
theorem OwnT.cap (h : OwnT w B a n c ts) : n ≤ c := by
  rcases h.1.2 with ⟨e, h0⟩ | ⟨g, cap, cur, e, hb, hg, hnc, _⟩
  · omega
  · injection e with e1 e2 e3
    omega
end
/-- What a function that makes a slice of the Terms ts leaves. -/
def MadeT (w : World) (ts : List Tm) (e : Ending) (w' : World) : Prop :=
  ∃ a n c, e = .returned (.slice a n c) ∧ OwnT w' w.heap.size a n c ts ∧ Below w.heap.size w w'

theorem info_term : (Try.prog.info? 47).map (fun i => (i.zero, i.size, i.bytes)) = some (some (.agg #[.int .i64 0, .int .i64 0]), 2, 16) := by kernel_rfl
theorem flatV_set : ∀ (ts : List Tm) (k : Nat) (t : Tm), k < ts.length → flatV (ts.set k t) = ((flatV ts).set (k * 2) (.int .i64 t.1)).set (k * 2 + 1) (.int .i64 t.2)
  | [], k, _, h => absurd h (by simp)
  | u :: r, 0, t, _ => rfl
  | u :: r, k + 1, t, h => by
    have ih := flatV_set r k t (by simpa using h)
    have e1 : (k + 1) * 2 = k * 2 + 2 := by omega
    rw [e1]
    show Value.int .i64 u.1 :: Value.int .i64 u.2 :: flatV (r.set k t) = _
    rw [ih]
    rfl
theorem own_put2 {w : World} {B g n cap : Nat} {ts : List Tm} (h : w.ownsRow B 47 2 (.slice (some ⟨g, 0, none⟩) n cap) n (flatV ts)) (k : Nat) (hk : k < ts.length) (x y : Int) :
    ((w.setCell ⟨g, k * 2, none⟩ (.int .i64 x)).setCell ⟨g, k * 2 + 1, none⟩ (.int .i64 y)).ownsRow B 47 2 (.slice (some ⟨g, 0, none⟩) n cap) n (flatV (ts.set k (x, y))) := by
  rw [flatV_set ts k (x, y) hk]; exact ((h.stored (k * 2) _).1.stored (k * 2 + 1) _).1
theorem own_cell2 {w : World} {B g n cap : Nat} {ts : List Tm} (h : w.ownsRow B 47 2 (.slice (some ⟨g, 0, none⟩) n cap) n (flatV ts)) {k : Nat} (hk : k < n) :
    w.cell? ⟨g, k * 2, none⟩ = some (.int .i64 (tmAt ts k).1) ∧ w.cell? ⟨g, k * 2 + 1, none⟩ = some (.int .i64 (tmAt ts k).2) := by
  have hl : ts.length = n := by have := h.1; rw [flatV_len] at this; omega
  rw [h.cellAt (k * 2) (by omega), h.cellAt (k * 2 + 1) (by omega)]
  exact flatV_at ts k (by omega)

theorem szTermS_any (a : Option Addr) (n c : Nat) (w : World) (h : n ≤ 1048576) :
    Calls Try.prog 28 #[.slice a n c, .int .i64 1048576] w fun e w' => e = .returned (.int .i64 (1048576 - (n : Int))) ∧ w = w' := by
  go_enter Try.func28, Try.ntmps28
  go_wp2
  go_ret
  exact ⟨rfl, rfl⟩
theorem szTermS_big (a : Option Addr) (n c : Nat) (w : World) (h : 1048576 < n) (hm : n ≤ maxLen) :
    Calls Try.prog 28 #[.slice a n c, .int .i64 1048576] w fun e w' => e = .returned (.int .i64 (-1)) ∧ w = w' := by
  unfold maxLen at hm
  go_enter Try.func28, Try.ntmps28
  go_wp2
  go_ret
  exact ⟨rfl, rfl⟩
theorem noughts (n : Nat) : (madeCells #[Value.int .i64 0, Value.int .i64 0] (n * 2)).toList = flatV (List.replicate n (0, 0)) := by
  have e : (madeCells #[Value.int .i64 0, Value.int .i64 0] (n * 2)).toList = (List.range (n * 2)).map (fun i => (#[Value.int .i64 0, Value.int .i64 0] : Array Value)[i % 2]!) := by simp [madeCells]
  rw [e]
  clear e
  induction n with
  | zero => rfl
  | succ n ih =>
    rw [show (n + 1) * 2 = n * 2 + 1 + 1 by omega, List.range_succ, List.range_succ, List.map_append, List.map_append, ih, List.replicate_succ', flatV_append, List.append_assoc]
    congr 1
    simp only [List.map_cons, List.map_nil]
    rw [show n * 2 % 2 = 0 by omega, show (n * 2 + 1) % 2 = 1 by omega]
    rfl
/-- The first k of ts, noughts behind. -/
def CopyT (ts : List Tm) (n k : Nat) : List Tm := ts.take k ++ List.replicate (n - k) (0, 0)
theorem copyT_zero (ts : List Tm) (n : Nat) : CopyT ts n 0 = List.replicate n (0, 0) := by simp [CopyT]
theorem copyT_all {ts : List Tm} {n : Nat} (h : ts.length = n) : CopyT ts n n = ts := by subst h; simp [CopyT]
theorem copyT_len {ts : List Tm} {n k : Nat} (h : ts.length = n) (hk : k ≤ n) : (CopyT ts n k).length = n := by simp [CopyT]; omega
theorem copyT_succ {ts : List Tm} {n k : Nat} {t : Tm} (h : ts.length = n) (hk : k < n) (ht : Hid (tmAt ts k = t)) : (CopyT ts n k).set k t = CopyT ts n (k + 1) := by
  unfold CopyT
  rw [tm_snoc ts k (by omega), ht.out, List.set_append_right _ _ (by simp; omega), show k - (ts.take k).length = 0 by simp; omega, show n - k = (n - (k + 1)) + 1 by omega, List.replicate_succ, List.set_cons_zero]
  simp
set_option maxHeartbeats 400000 in
theorem toTerm_any (x y : Int) (w : World) :
    Calls Try.prog 58 #[.agg #[.int .i64 x, .int .i64 y]] w fun e w' => e = .returned (.agg #[.int .i64 x, .int .i64 y]) ∧ Below w.heap.size w w' := by
  go_enter Try.func58, Try.ntmps58
  go_wp2
  exact bodyPost_ret (v := .agg #[.int .i64 x, .int .i64 y]) (by simp [results, Try.results58, go_sem]) rfl ⟨rfl, (((Below.refl _ _).alloc (Nat.le_refl _) _).alloc (by simp) _).alloc (by simp; omega) _⟩

set_option maxHeartbeats 800000 in
theorem toTermS_any (a : Option Addr) (n c : Nat) (ts : List Tm) (w : World) (h : Terms w a n ts) :
    Calls Try.prog 29 #[.slice a n c] w (MadeT w ts) := by
  have HL := Lib.hid h.1
  have hbd := h.2.1
  obtain ⟨i0, hi, hz0, hz1, hz2⟩ := info_parts info_term
  have HI := Lib.hid hi
  have HZ0 := Lib.hid hz0
  have HZ1 := Lib.hid hz1
  have HZ2 := Lib.hid hz2
  clear hi hz0 hz1 hz2
  go_enter Try.func29, Try.ntmps29
  go_wp2_with (at_make; refine wpList_make_full _ rfl _ _ 37 rfl w.heap.size 47 i0 (.agg #[.int .i64 0, .int .i64 0]) 2 Try.underlying37 HI.out HZ0.out HZ1.out _ _ _ _ n rfl rfl rfl rfl ?b2 ?b3 ?b4 ?_)
  case b2 => rw [HZ2.out]; omega
  case b3 => unfold maxLen; omega
  case b4 => exact Nat.le_refl _
  intro w1 hown hgrow
  have hb1 : Below w.heap.size w w1 := (Below.refl _ _).grown hgrow (Nat.le_refl _) (fun k hk => by cases hk)
  have hsz : w.heap.size < w1.heap.size := (hown.lt w.heap.size rfl).2
  have HO : w1.ownsRow w.heap.size 47 2 (.slice (some ⟨w.heap.size, 0, none⟩) n n) n (flatV (CopyT ts n 0)) := by
    rw [copyT_zero, ← noughts]; exact hown
  clear hown hgrow
  go_wp2
  go_loopw [4] (fun i wr => ∃ k : Nat, k ≤ n ∧ i = .int .i64 k ∧ wr.ownsRow w.heap.size 47 2 (.slice (some ⟨w.heap.size, 0, none⟩) n n) n (flatV (CopyT ts n k)) ∧ Below w.heap.size w wr) (fun i _ => n - (intOf i).toNat)
  case atStart => exact ⟨0, Nat.zero_le _, rfl, HO, hb1⟩
  case round =>
    clear HO hb1 hsz
    obtain ⟨k, hk, rfl, hown, hbel⟩ := hrel
    by_cases hlt : k < n
    · obtain ⟨b, o, x, y, rfl, hb, hz, hin1, hin2, hc1, hc2⟩ := (h.below (Nat.le_refl _) hbel).at_ hlt
      go_wp2_with fail
      refine (toTerm_any _ _ _).mono ?_
      rintro e w2 ⟨rfl, hb2⟩
      have hown2 : w2.ownsRow w.heap.size 47 2 (.slice (some ⟨w.heap.size, 0, none⟩) n n) n (flatV (CopyT ts n k)) := hown.kept (row := none) ⟨hb2.os, hb2.tape, hb2.output, hb2.size, fun k hk _ => hb2.block k hk⟩ (.inr (by simp [Value.ownBlock]))
      have hbel2 : Below w.heap.size w w2 := hbel.trans (hb2.mono hbel.size)
      obtain ⟨hd1, hd2⟩ := own_cell2 hown2 hlt
      generalize (tmAt (CopyT ts n k) k).1 = q1 at hd1
      generalize (tmAt (CopyT ts n k) k).2 = q2 at hd2
      have hf1 := hown2.frozenAt (k * 2)
      have hf2 := hown2.frozenAt (k * 2 + 1)
      have HO2 := own_put2 hown2 k (by rw [copyT_len HL.out hk]; exact hlt) x y
      rw [copyT_succ HL.out hlt hz] at HO2
      have hbel3 : Below w.heap.size w ((w2.setCell ⟨w.heap.size, k * 2, none⟩ (.int .i64 x)).setCell ⟨w.heap.size, k * 2 + 1, none⟩ (.int .i64 y)) := (hbel2.setCell (Nat.le_refl _) _).setCell (Nat.le_refl _) _
      clear hc1 hc2 hown hbel hown2 hbel2 hb2
      go_wp2
      go_roundw
      case rel => exact ⟨k + 1, by omega, by go_num, HO2, hbel3⟩
      case measure => simp [intOf]; omega
    · obtain rfl : n = k := by omega
      go_wp2
      go_ret
      rw [copyT_all HL.out] at hown
      exact ⟨_, _, _, rfl, ⟨hown, hbd, h.2.2.1⟩, hbel⟩
set_option maxHeartbeats 400000 in
theorem eqTerm_any (x y x' y' : Int) (w : World) :
    Calls Try.prog 59 #[.agg #[.int .i64 x, .int .i64 y], .agg #[.int .i64 x', .int .i64 y']] w fun e w' => e = .returned (.bool (decide ((x, y) = (x', y')))) ∧ Below w.heap.size w w' := by
  by_cases h1 : x = x'
  · subst h1
    have hne0 : (x != x) = false := by simp
    by_cases h2 : y = y'
    · subst h2
      have hne1 : (y != y) = false := by simp
      go_enter Try.func59, Try.ntmps59
      go_wp2
      go_ret
      exact ⟨ret_bool (by simp), ((Below.refl _ _).alloc (Nat.le_refl _) _).alloc (by simp) _⟩
    · have hne1 : (y != y') = true := by simpa using h2
      go_enter Try.func59, Try.ntmps59
      go_wp2
      go_ret
      exact ⟨ret_bool (by simp [h2]), ((Below.refl _ _).alloc (Nat.le_refl _) _).alloc (by simp) _⟩
  · have hne1 : (x != x') = true := by simpa using h1
    go_enter Try.func59, Try.ntmps59
    go_wp2
    go_ret
    exact ⟨ret_bool (by simp [h1]), ((Below.refl _ _).alloc (Nat.le_refl _) _).alloc (by simp) _⟩

/-- The first k are alike. -/
def EqTm (xs ys : List Tm) (k : Nat) : Prop := ∀ i, i < k → tmAt xs i = tmAt ys i
theorem EqTm.zero (xs ys : List Tm) : EqTm xs ys 0 := fun i hi => absurd hi (by omega)
theorem EqTm.succ {xs ys : List Tm} {k : Nat} {t u : Tm} (h : EqTm xs ys k) (hx : Hid (tmAt xs k = t)) (hy : Hid (tmAt ys k = u)) (e : t = u) : EqTm xs ys (k + 1) := by
  intro i hi
  rcases Nat.lt_or_ge i k with hlt | hge
  · exact h i hlt
  · have : i = k := by omega
    subst this; rw [hx.out, hy.out]; exact e
theorem eqTm_all {xs ys : List Tm} (hl : xs.length = ys.length) (h : EqTm xs ys xs.length) : xs = ys := by
  apply List.ext_getElem hl
  intro i h1 h2
  have := h i h1
  simpa [tmAt, List.getD_eq_getElem?_getD, h1, h2] using this

set_option maxHeartbeats 800000 in
theorem eqTermS_any (a b : Option Addr) (n m c d : Nat) (xs ys : List Tm) (w : World) (hx : Terms w a n xs) (hy : Terms w b m ys) :
    Calls Try.prog 30 #[.slice a n c, .slice b m d] w fun e w' => e = .returned (.bool (decide (xs = ys))) ∧ Below w.heap.size w w' := by
  have HL := Lib.hid hx.1
  have HM := Lib.hid hy.1
  have hbd := hx.2.1
  have hbe := hy.2.1
  by_cases hnm : n = m
  · subst hnm
    have hne0 : ((n : Int) != (n : Int)) = false := by simp
    go_enter Try.func30, Try.ntmps30
    go_wp2
    go_loopw [5] (fun i wr => ∃ k : Nat, k ≤ n ∧ i = .int .i64 k ∧ EqTm xs ys k ∧ Below w.heap.size w wr) (fun i _ => n - (intOf i).toNat)
    case atStart => exact ⟨0, Nat.zero_le _, rfl, EqTm.zero _ _, Below.refl _ _⟩
    case round =>
      obtain ⟨k, hk, rfl, hg, hbel⟩ := hrel
      by_cases hlt : k < n
      · obtain ⟨b1, o1, x1, y1, rfl, hb1, hxk, hin1, hin2, hc1, hc2⟩ := (hx.below (Nat.le_refl _) hbel).at_ hlt
        obtain ⟨b2, o2, x2, y2, rfl, hb2, hyk, hin3, hin4, hc3, hc4⟩ := (hy.below (Nat.le_refl _) hbel).at_ hlt
        have f1 := lat_cell hb1 hc1
        have f2 := lat_cell hb1 hc2
        have f3 := lat_cell hb2 hc3
        have f4 := lat_cell hb2 hc4
        clear hc1 hc2 hc3 hc4
        obtain ⟨q, HQ⟩ : ∃ q, Hid (decide ((x1, y1) = (x2, y2)) = q) := ⟨_, rfl⟩
        have hcon : ∀ p : Lat wr, Calls Try.prog 59 #[.agg #[.int .i64 x1, .int .i64 y1], .agg #[.int .i64 x2, .int .i64 y2]] p.wd fun e w' => e = .returned (.bool q) ∧ Below p.wd.heap.size p.wd w' := fun p => by
          rw [← HQ.out]; exact eqTerm_any _ _ _ _ _
        have HC := Lib.hid hcon
        clear hcon
        cases q with
        | true =>
          have HE := Lib.hid (of_decide_eq_true HQ.out)
          go_wp2
          refine wp_region_lat (by kernel_rfl) (by kernel_rfl) ?_
          repeat (quiet_step ((go_at_call 59; exact lat_calls (HC.out _))))
          refine wpQuiet_nil ?_
          intro _ hw'
          obtain ⟨⟨wq, hwq⟩, hw''⟩ := hw'
          subst hw''
          have ht := hbel.trans (hwq.mono hbel.size)
          clear f1 f2 f3 f4 HC
          go_wp2
          go_roundw
          case rel => exact ⟨k + 1, by omega, by go_num, hg.succ hxk hyk HE.out, ht⟩
          case measure => simp [intOf]; omega
        | false =>
          have HE := Lib.hid (of_decide_eq_false HQ.out)
          go_wp2
          refine wp_region_lat (by kernel_rfl) (by kernel_rfl) ?_
          repeat (quiet_step ((go_at_call 59; exact lat_calls (HC.out _))))
          refine wpQuiet_nil ?_
          intro _ hw'
          obtain ⟨⟨wq, hwq⟩, hw''⟩ := hw'
          subst hw''
          have ht := hbel.trans (hwq.mono hbel.size)
          clear f1 f2 f3 f4 HC
          go_wp2
          go_ret
          exact ⟨ret_bool (decide_eq_false (fun h => HE.out (by rw [← hxk.out, ← hyk.out, h]))).symm, ht⟩
      · obtain rfl : n = k := by omega
        go_wp2
        go_ret
        exact ⟨ret_bool (decide_eq_true (eqTm_all (HL.out.trans HM.out.symm) (by rw [HL.out]; exact hg))).symm, hbel⟩
  · have hne : ((n : Int) != (m : Int)) = true := by simp; omega
    go_enter Try.func30, Try.ntmps30
    go_wp2
    go_ret
    exact ⟨ret_bool (decide_eq_false (fun h => hnm (by rw [← HL.out, ← HM.out, h]))).symm, Below.refl _ _⟩

/-- The Terms marked: k, k + 1; k + 2, k + 3; .. -/
def marksT (k : Int) (n : Nat) : List Tm := (List.range n).map (fun i : Nat => (k + 2 * (i : Int), k + 2 * (i : Int) + 1))
theorem marksT_len (k : Int) (n : Nat) : (marksT k n).length = n := by simp [marksT]
theorem marksT_at (k : Int) (n i : Nat) (h : i < n) : tmAt (marksT k n) i = (k + 2 * (i : Int), k + 2 * (i : Int) + 1) := by simp [marksT, tmAt, List.getD_eq_getElem?_getD, h]
theorem marksT_in {k : Int} {n : Nat} {t : Tm} (h : t ∈ marksT k n) (h0 : 0 ≤ k) (h1 : k ≤ 4194304) (hn : n ≤ 1048576) : InTm t := by
  obtain ⟨i, hi, rfl⟩ := List.mem_map.1 h
  have := List.mem_range.1 hi
  exact ⟨⟨by simp only []; omega, by simp only []; omega⟩, ⟨by simp only []; omega, by simp only []; omega⟩⟩
/-- The first j Terms marked. -/
def MarkT (ts : List Tm) (k : Int) (j : Nat) : List Tm := marksT k j ++ ts.drop j
theorem markT_zero (ts : List Tm) (k : Int) : MarkT ts k 0 = ts := by simp [MarkT, marksT]
theorem markT_all {ts : List Tm} {n : Nat} (k : Int) (h : ts.length = n) : MarkT ts k n = marksT k n := by subst h; simp [MarkT]
theorem markT_len {ts : List Tm} {n j : Nat} (k : Int) (h : ts.length = n) (hj : j ≤ n) : (MarkT ts k j).length = n := by simp [MarkT, marksT]; omega
theorem markT_succ {ts : List Tm} {n j : Nat} (k : Int) (h : ts.length = n) (hj : j < n) : (MarkT ts k j).set j (k + 2 * (j : Int), k + 2 * (j : Int) + 1) = MarkT ts k (j + 1) := by
  unfold MarkT
  have e1 : marksT k (j + 1) = marksT k j ++ [(k + 2 * (j : Int), k + 2 * (j : Int) + 1)] := by simp [marksT, List.range_succ]
  rw [e1, List.set_append_right _ _ (by rw [marksT_len]; exact Nat.le_refl _), marksT_len, Nat.sub_self, List.drop_eq_getElem_cons (by omega), List.set_cons_zero]
  simp

end Go.Proofs.Ytmppiefkeeanpaa
