/- Joined texts of this proof (ValueMath, SpecStepsOf, SpecVal0, SpecProg, SpecRoom, SpecInputs), in build order. -/
import Derived.Test.YtbnpoliogldohaaGreatS1
import Derived.IntWalk
import Derived.Test.YtbnpoliogldohaaGreatS7
/- Plain mathematics of values: what a Term makes of values below 2^W, the stack of an expression, its first trap. No Go text here. -/
namespace Go.Proofs.YtbnpoliogldohaaGreat
open Go.RowKit

/-- Bit by bit: and (0), or (1), xor (2). -/
def bitF (how a b : Nat) : Nat := if how = 1 then a ||| b else if how = 2 then a ^^^ b else a &&& b
/-- .. of one bit each. -/
def bit1 (how x y : Nat) : Nat := if how = 1 then max x y else if how = 2 then (x + y) % 2 else x * y
theorem bitF_lt {W a b : Nat} (how : Nat) (h : a < 2 ^ W) (h' : b < 2 ^ W) : bitF how a b < 2 ^ W := by
  unfold bitF
  split
  · exact Nat.or_lt_two_pow h h'
  · split
    · exact Nat.xor_lt_two_pow h h'
    · exact Nat.and_lt_two_pow a h'

/-- What a Term of two (or, of Ops 3 and 4, of one) makes of values below S; by 0 it is 0. -/
def opN (S : Nat) (op : Int) (a b : Nat) : Nat :=
  if op = 3 then S - 1 - a else if op = 4 then (S - a) % S else if op = 5 then (a + b) % S else if op = 6 then (a + S - b) % S else if op = 7 then a * b % S
  else if op = 8 then a / b else if op = 9 then (if b = 0 then 0 else a % b) else if op = 10 then bitF 0 a b else if op = 11 then bitF 1 a b else if op = 12 then bitF 2 a b
  else if op = 13 then a * 2 ^ b % S else if op = 14 then a / 2 ^ b else if op = 15 then (if a = b then 1 else 0) else (if a < b then 1 else 0)
theorem opN_lt {W a b : Nat} (op : Int) (hW : 1 ≤ W) (h : a < 2 ^ W) (h' : b < 2 ^ W) : opN (2 ^ W) op a b < 2 ^ W := by
  have h2 : 2 ^ 1 ≤ 2 ^ W := Nat.pow_le_pow_right (by omega) hW
  have h0 : 0 < 2 ^ W := by omega
  unfold opN
  by_cases k3 : op = 3
  · rw [if_pos k3]
    omega
  rw [if_neg k3]
  by_cases k4 : op = 4
  · rw [if_pos k4]
    exact Nat.mod_lt _ h0
  rw [if_neg k4]
  by_cases k5 : op = 5
  · rw [if_pos k5]
    exact Nat.mod_lt _ h0
  rw [if_neg k5]
  by_cases k6 : op = 6
  · rw [if_pos k6]
    exact Nat.mod_lt _ h0
  rw [if_neg k6]
  by_cases k7 : op = 7
  · rw [if_pos k7]
    exact Nat.mod_lt _ h0
  rw [if_neg k7]
  by_cases k8 : op = 8
  · rw [if_pos k8]
    exact Nat.lt_of_le_of_lt (Nat.div_le_self _ _) h
  rw [if_neg k8]
  by_cases k9 : op = 9
  · rw [if_pos k9]
    by_cases hb : b = 0
    · rw [if_pos hb]; exact h0
    · rw [if_neg hb]; exact Nat.lt_of_le_of_lt (Nat.mod_le _ _) h
  rw [if_neg k9]
  by_cases k10 : op = 10
  · rw [if_pos k10]
    exact bitF_lt _ h h'
  rw [if_neg k10]
  by_cases k11 : op = 11
  · rw [if_pos k11]
    exact bitF_lt _ h h'
  rw [if_neg k11]
  by_cases k12 : op = 12
  · rw [if_pos k12]
    exact bitF_lt _ h h'
  rw [if_neg k12]
  by_cases k13 : op = 13
  · rw [if_pos k13]
    exact Nat.mod_lt _ h0
  rw [if_neg k13]
  by_cases k14 : op = 14
  · rw [if_pos k14]
    exact Nat.lt_of_le_of_lt (Nat.div_le_self _ _) h
  rw [if_neg k14]
  by_cases k15 : op = 15
  · rw [if_pos k15]
    by_cases hb : a = b
    · rw [if_pos hb]; omega
    · rw [if_neg hb]; exact h0
  rw [if_neg k15]
  by_cases hb : a < b
  · rw [if_pos hb]; omega
  · rw [if_neg hb]; exact h0

/-- The value that a Term makes, and its trap, of a stack of values. -/
def valT (S : Nat) (V : List Int) (C : List (List Int)) (t : Tm) (inn : List Nat) : Nat × Int :=
  if t.1 = 0 then (t.2.toNat, 0) else if t.1 = 1 then ((V.getD t.2.toNat 0).toNat, 0)
  else if t.1 = 2 then (if inn.getD 0 0 < (C.getD t.2.toNat []).length then (((C.getD t.2.toNat []).getD (inn.getD 0 0) 0).toNat, 0) else (0, 2))
  else if t.1 = 17 then ((if inn.getD 0 0 = 0 then inn.getD 2 0 else inn.getD 1 0), 0)
  else if t.1 = 3 ∨ t.1 = 4 then (opN S t.1 (inn.getD 0 0) 0, 0)
  else (opN S t.1 (inn.getD 0 0) (inn.getD 1 0), if inn.getD 1 0 = 0 ∧ (t.1 = 8 ∨ t.1 = 9) then 1 else 0)
def innS (st : List Nat) (t : Tm) : List Nat := st.drop (st.length - (takesI t.1).toNat)
def stepV (S : Nat) (V : List Int) (C : List (List Int)) (st : List Nat) (t : Tm) : List Nat := st.take (st.length - (takesI t.1).toNat) ++ [(valT S V C t (innS st t)).1]
def stkV (S : Nat) (V : List Int) (C : List (List Int)) (ts : List Tm) : List Nat := ts.foldl (stepV S V C) []
theorem stkV_snoc (S : Nat) (V : List Int) (C : List (List Int)) (ts : List Tm) (t : Tm) : stkV S V C (ts ++ [t]) = stepV S V C (stkV S V C ts) t := by simp [stkV]
theorem stkV_succ (S : Nat) (V : List Int) (C : List (List Int)) (ts : List Tm) (k : Nat) (h : k < ts.length) : stkV S V C (ts.take (k + 1)) = stepV S V C (stkV S V C (ts.take k)) (tmAt ts k) := by rw [tm_snoc ts k h, stkV_snoc]
/-- The trap of the Term at k. -/
def badV (S : Nat) (V : List Int) (C : List (List Int)) (ts : List Tm) (k : Nat) : Int := (valT S V C (tmAt ts k) (innS (stkV S V C (ts.take k)) (tmAt ts k))).2
/-- The first trap among the first k Terms. -/
def trapV (S : Nat) (V : List Int) (C : List (List Int)) (ts : List Tm) : Nat → Int
  | 0 => 0
  | k + 1 => if trapV S V C ts k = 0 then badV S V C ts k else trapV S V C ts k
theorem valT_trap (S : Nat) (V : List Int) (C : List (List Int)) (t : Tm) (inn : List Nat) : (valT S V C t inn).2 = 0 ∨ (valT S V C t inn).2 = 1 ∨ (valT S V C t inn).2 = 2 := by
  unfold valT; repeat' split
  all_goals simp
theorem trapV_range (S : Nat) (V : List Int) (C : List (List Int)) (ts : List Tm) : ∀ k, trapV S V C ts k = 0 ∨ trapV S V C ts k = 1 ∨ trapV S V C ts k = 2
  | 0 => .inl rfl
  | k + 1 => by
    rw [trapV]; split
    · exact valT_trap _ _ _ _ _
    · exact trapV_range S V C ts k

/-- The values of an environment are from 0 to below S. -/
def valsB (S : Nat) (V : List Int) : Bool := V.all (fun z => decide (0 ≤ z) && decide (z < (S : Int)))
def InEnv (S : Nat) (V : List Int) (C : List (List Int)) : Prop := (∀ z ∈ V, 0 ≤ z ∧ z < (S : Int)) ∧ ∀ cs ∈ C, ∀ z ∈ cs, 0 ≤ z ∧ z < (S : Int)
theorem getD_in {S : Nat} (hS : 0 < S) {V : List Int} (h : ∀ z ∈ V, 0 ≤ z ∧ z < (S : Int)) (i : Nat) : 0 ≤ V.getD i 0 ∧ V.getD i 0 < (S : Int) := by
  rw [List.getD_eq_getElem?_getD]
  rcases Nat.lt_or_ge i V.length with hlt | hge
  · rw [List.getElem?_eq_getElem hlt]; exact h _ (List.getElem_mem hlt)
  · rw [List.getElem?_eq_none hge]; simp; omega
theorem getD_cells {S : Nat} {C : List (List Int)} (h : ∀ cs ∈ C, ∀ z ∈ cs, 0 ≤ z ∧ z < (S : Int)) (i : Nat) : ∀ z ∈ C.getD i [], 0 ≤ z ∧ z < (S : Int) := by
  rw [List.getD_eq_getElem?_getD]
  rcases Nat.lt_or_ge i C.length with hlt | hge
  · rw [List.getElem?_eq_getElem hlt]; exact h _ (List.getElem_mem hlt)
  · rw [List.getElem?_eq_none hge]; simp
theorem getD_nat {S : Nat} (hS : 0 < S) {st : List Nat} (h : ∀ x ∈ st, x < S) (i : Nat) : st.getD i 0 < S := by
  rw [List.getD_eq_getElem?_getD]
  rcases Nat.lt_or_ge i st.length with hlt | hge
  · rw [List.getElem?_eq_getElem hlt]; exact h _ (List.getElem_mem hlt)
  · rw [List.getElem?_eq_none hge]; simpa using hS
theorem valT_lt {W : Nat} (hW : 1 ≤ W) {V : List Int} {C : List (List Int)} (he : InEnv (2 ^ W) V C) {t : Tm} (ht : t.1 = 0 → t.2 < ((2 ^ W : Nat) : Int)) {inn : List Nat} (hi : ∀ x ∈ inn, x < 2 ^ W) : (valT (2 ^ W) V C t inn).1 < 2 ^ W := by
  have h0 : 0 < 2 ^ W := Nat.pow_pos (by omega)
  have g := getD_nat h0 hi
  unfold valT
  split
  · rename_i e; have := ht e; simp only []; omega
  split
  · have := getD_in h0 he.1 t.2.toNat; simp only []; omega
  split
  · split
    · have := getD_in h0 (getD_cells he.2 t.2.toNat) (inn.getD 0 0); simp only []; omega
    · exact h0
  split
  · simp only []; split
    · exact g 2
    · exact g 1
  split
  · exact opN_lt _ hW (g 0) h0
  · exact opN_lt _ hW (g 0) (g 1)
theorem innS_mem {st : List Nat} {t : Tm} {x : Nat} (h : x ∈ innS st t) : x ∈ st := List.mem_of_mem_drop h
theorem stepV_lt {W : Nat} (hW : 1 ≤ W) {V : List Int} {C : List (List Int)} (he : InEnv (2 ^ W) V C) {t : Tm} (ht : t.1 = 0 → t.2 < ((2 ^ W : Nat) : Int)) {st : List Nat} (hi : ∀ x ∈ st, x < 2 ^ W) : ∀ x ∈ stepV (2 ^ W) V C st t, x < 2 ^ W := by
  intro x hx
  rw [stepV, List.mem_append] at hx
  rcases hx with hx | hx
  · exact hi x (List.mem_of_mem_take hx)
  · rw [List.mem_singleton] at hx
    rw [hx]
    exact valT_lt hW he ht (fun y hy => hi y (innS_mem hy))
end Go.Proofs.YtbnpoliogldohaaGreat
/- The contract of the model's l3Steps. -/
namespace Go.Proofs.YtbnpoliogldohaaGreat
open Go.RowKit

theorem steps_none {ss : List Stm} {i t : Nat} (h : Steps ss i i t) : t = 0 := by
  cases h with
  | nil => rfl
  | plain _ _ _ _ p => have := (steps_small p).1; omega
  | one _ _ _ p q => have := (steps_small p).1; have := (steps_small q).1; omega
  | two _ _ _ p p' q => have := (steps_small p).1; have := (steps_small p').1; have := (steps_small q).1; omega
  | loop _ _ _ _ _ p q => have := (steps_small p).1; have := (steps_small q).1; omega
  | attempt _ _ _ p p' q => have := (steps_small p).1; have := (steps_small p').1; have := (steps_small q).1; omega
theorem end_plain {ss : List Stm} {i : Nat} (hi : i < ss.length) (h2 : opAt ss i ≠ 2) (h5 : opAt ss i ≠ 5) (h8 : opAt ss i ≠ 8) : endOf ss i = (-1, -1) := by
  rw [end_eq hi rfl, if_neg h5, if_neg h2, if_neg h8]
theorem Stmts.still {w w' : World} {a : Option Addr} {n : Nat} {rs : List SRow} {ss : List Stm} (h : Stmts w a n rs ss) (hs : Still w w') : Stmts w' a n rs ss := h.below (hs.below _)
theorem l1Max_any (x y : Int) (w : World) : Calls Tryz.prog 151 #[.int .i64 x, .int .i64 y] w fun e w' => e = .returned (.int .i64 (max x y)) ∧ w = w' := by
  by_cases h : x > y
  · go_enter Tryz.func151, Tryz.ntmps151
    go_wp2
    go_ret
    exact ⟨ret_int (by omega), rfl⟩
  · go_enter Tryz.func151, Tryz.ntmps151
    go_wp2
    go_ret
    exact ⟨ret_int (by omega), rfl⟩
/-- The contract, at a part. -/
def StepsAt (a : Option Addr) (n c : Nat) (rs : List SRow) (ss : List Stm) (i : Nat) : Prop :=
  ∀ (w : World) (j s : Nat), Stmts w a n rs ss → j ≤ n → Steps ss i j s → Calls Tryz.prog 162 #[.slice a n c, .int .i64 (i : Int), .int .i64 (j : Int)] w fun e w' => e = .returned (.int .i64 (s : Int)) ∧ Still w w'
theorem StepsAt.succ {a : Option Addr} {n c : Nat} {rs : List SRow} {ss : List Stm} {i : Nat} (h : StepsAt a n c rs ss (i + 1)) (w : World) (j s : Nat) (hs : Stmts w a n rs ss) (hj : j ≤ n) (ht : Steps ss (i + 1) j s) :
    Calls Tryz.prog 162 #[.slice a n c, .int .i64 ((i : Int) + 1), .int .i64 (j : Int)] w fun e w' => e = .returned (.int .i64 (s : Int)) ∧ Still w w' := by
  have := h w j s hs hj ht
  rwa [show ((i + 1 : Nat) : Int) = (i : Int) + 1 by omega] at this
set_option maxRecDepth 20000 in
set_option maxHeartbeats 1600000 in
theorem steps_at (a : Option Addr) (n c : Nat) (rs : List SRow) (ss : List Stm) (i : Nat) (h40 : n ≤ 40) (HI : Hid (∀ k, i < k → StepsAt a n c rs ss k)) : StepsAt a n c rs ss i := by
  intro w j s h hj hst
  have hbig := steps_bound hst (by omega)
  have hij := (steps_small hst).1
  have HL := Lib.hid h.2.1
  go_enter Tryz.func162, Tryz.ntmps162
  go_wp2
  go_loopw [7, 8] (fun q x wr => ∃ k u t : Nat, i ≤ k ∧ k ≤ j ∧ x = .int .i64 (k : Int) ∧ q = .int .i64 (u : Int) ∧ u + t = s ∧ Hid (Steps ss k j t) ∧ Still w wr) (fun _ x _ => j - (intOf x).toNat)
  case atStart => exact ⟨i, 0, s, Nat.le_refl _, hij, rfl, rfl, by omega, Lib.hid hst, Still.refl _⟩
  case round =>
    clear hst
    obtain ⟨k, u, t, hik, hkj, rfl, rfl, hut, HT, hstill⟩ := hrel
    have h' := h.still hstill
    by_cases hlt : k < j
    case neg =>
      obtain rfl : k = j := by omega
      have h0 := steps_none HT.out
      subst h0
      have e0 : u = s := by omega
      subst e0
      clear h'
      go_wp2
      go_ret
      exact ⟨rfl, hstill⟩
    have hend := l3End_any a n c rs ss k wr h' (by omega)
    obtain ⟨b, o, x, y, _, _, _, _, _, _, ts, us, rfl, hb, hz, hin1, hin2, hc1, hc2, _⟩ := h'.at_ (k := k) (by omega)
    have hop : opAt ss k = x := by rw [opAt, hz.out]
    have HS := Lib.hid h'
    clear h'
    have hst := HT.out
    clear HT
    cases hst with
    | nil => omega
    | @plain _ _ s1 hi h2 h5 h8 p =>
      rw [end_plain hi h2 h5 h8] at hend
      rw [hop] at h2 h5 h8
      have k2 : (x == 2) = false := by simpa using h2
      have k5 : (x == 5) = false := by simpa using h5
      have k8 : (x == 8) = false := by simpa using h8
      have HP := Lib.hid p
      have HC := Lib.hid hend
      have hub : u + s1 + 1 < 3656158440062976 := by omega
      have HU := Lib.hid hut
      clear hend h2 h5 h8 hop hc2 p hut hbig
      go_wp2_with (go_at_call 187; refine HC.out.mono ?_; rintro e w' ⟨rfl, rfl⟩)
      go_roundw
      case rel => exact ⟨k + 1, u + 1, s1, by omega, by omega, by go_num, by go_num, by have := HU.out; omega, HP, hstill⟩
      case measure => simp [intOf]; omega
    | @one _ e _ s1 t1 hi h2 he p q =>
      rw [he] at hend
      obtain rfl : x = 2 := hop.symm.trans h2
      have q1 := (steps_small p).1
      have q2 := (steps_small q).1
      have HP := Lib.hid ((HI.out (k + 1) (by omega)).succ wr e s1 HS.out (by omega) p)
      have HQ := Lib.hid q
      have HC := Lib.hid hend
      have hub : u + s1 + t1 + 1 < 3656158440062976 := by omega
      have HU := Lib.hid hut
      clear hend he h2 hop hc2 p q hut hbig
      go_wp2_with (go_at_call 187; refine HC.out.mono ?_; rintro e w' ⟨rfl, rfl⟩)
      refine HP.out.mono ?_
      rintro e w1 ⟨rfl, hw1⟩
      have hst2 := hstill.trans hw1
      go_wp2
      go_roundw
      case rel => exact ⟨e + 1, u + 1 + s1, t1, by omega, by omega, by go_num, by go_num, by have := HU.out; omega, HQ, hst2⟩
      case measure => simp [intOf]; omega
    | @two _ m e _ s1 s2 t1 hi h2 he p p' q =>
      rw [he] at hend
      obtain rfl : x = 2 := hop.symm.trans h2
      have q1 := (steps_small p).1
      have q2 := (steps_small p').1
      have q3 := (steps_small q).1
      have HP := Lib.hid ((HI.out (k + 1) (by omega)).succ wr m s1 HS.out (by omega) p)
      have HP2 : Hid (∀ w', Still wr w' → Calls Tryz.prog 162 #[.slice (some ⟨b, o, none⟩) n c, .int .i64 ((m : Int) + 1), .int .i64 (e : Int)] w' fun e w'' => e = .returned (.int .i64 (s2 : Int)) ∧ Still w' w'') := Lib.hid (fun w' hw' => (HI.out (m + 1) (by omega)).succ w' e s2 (HS.out.still hw') (by omega) p')
      have HQ := Lib.hid q
      have HC := Lib.hid hend
      have hub : u + max s1 s2 + t1 + 1 < 3656158440062976 := by omega
      have HU := Lib.hid hut
      clear hend he h2 hop hc2 p p' q hut hbig
      go_wp2_with (go_at_call 187; refine HC.out.mono ?_; rintro e w' ⟨rfl, rfl⟩)
      refine HP.out.mono ?_
      rintro e w1 ⟨rfl, hw1⟩
      have hst2 := hstill.trans hw1
      go_wp2_with fail
      refine (HP2.out _ hw1).mono ?_
      rintro e w2 ⟨rfl, hw2⟩
      have hst3 := hst2.trans hw2
      go_wp2_with (go_at_call 151; refine (l1Max_any _ _ _).mono ?_; rintro e w' ⟨rfl, rfl⟩; rw [show max (s1 : Int) (s2 : Int) = ((max s1 s2 : Nat) : Int) by omega])
      go_roundw
      case rel => exact ⟨e + 1, u + 1 + max s1 s2, t1, by omega, by omega, by go_num, by go_num, by have := HU.out; omega, HQ, hst3⟩
      case measure => simp [intOf]; omega
    | @loop _ e _ kk s1 t1 hi h5 he hk h4 p q =>
      rw [he] at hend
      obtain rfl : x = 5 := hop.symm.trans h5
      obtain rfl : y = (kk : Int) := by rw [hz.out] at hk; exact hk
      have q1 := (steps_small p).1
      have q2 := (steps_small q).1
      have HP : Hid (∀ w', Still wr w' → Calls Tryz.prog 162 #[.slice (some ⟨b, o, none⟩) n c, .int .i64 ((k : Int) + 1), .int .i64 (e : Int)] w' fun e w'' => e = .returned (.int .i64 (s1 : Int)) ∧ Still w' w'') := Lib.hid (fun w' hw' => (HI.out (k + 1) (by omega)).succ w' e s1 (HS.out.still hw') (by omega) p)
      have HQ := Lib.hid q
      have HC := Lib.hid hend
      obtain ⟨X, HX⟩ : ∃ X : Nat, Hid (kk * (1 + s1) = X) := ⟨_, Lib.hid rfl⟩
      have hub : u + X + t1 + 1 < 3656158440062976 := by rw [HX.out] at hut; omega
      have hs1 := steps_bound p (by omega)
      have HU := Lib.hid hut
      rw [HX.out] at HU
      have hmul : (kk : Int) * (1 + (s1 : Int)) = (X : Int) := by rw [← HX.out]; push_cast; rfl
      have f1 : ∀ n, (wr.drewN n).cell? ⟨b, o + k * 4, none⟩ = some (.int .i64 5) := fun _ => hc1
      have f2 : ∀ n, (wr.drewN n).cell? ⟨b, o + k * 4 + 1, none⟩ = some (.int .i64 (kk : Int)) := fun _ => hc2
      clear hend he h5 hop p q hut hbig hk
      go_wp2_with (go_at_call 187; refine HC.out.mono ?_; rintro e w' ⟨rfl, rfl⟩)
      go_quiet ((go_at_call 162; exact still_quiet (HP.out _ (Still.drew _ _))))
      clear f1 f2 hc1 hc2 hmul
      go_wp2
      go_roundw
      case rel => exact ⟨e + 1, u + 1 + X, t1, by omega, by omega, by go_num, by go_num, by have := HU.out; omega, HQ, hstill.draw _⟩
      case measure => simp [intOf]; omega
    | @attempt _ m e _ s1 s2 t1 hi h8 he p p' q =>
      rw [he] at hend
      obtain rfl : x = 8 := hop.symm.trans h8
      have q1 := (steps_small p).1
      have q2 := (steps_small p').1
      have q3 := (steps_small q).1
      have HP := Lib.hid ((HI.out (k + 1) (by omega)).succ wr m s1 HS.out (by omega) p)
      have HP2 : Hid (∀ w', Still wr w' → Calls Tryz.prog 162 #[.slice (some ⟨b, o, none⟩) n c, .int .i64 ((m : Int) + 1), .int .i64 (e : Int)] w' fun e w'' => e = .returned (.int .i64 (s2 : Int)) ∧ Still w' w'') := Lib.hid (fun w' hw' => (HI.out (m + 1) (by omega)).succ w' e s2 (HS.out.still hw') (by omega) p')
      have HQ := Lib.hid q
      have HC := Lib.hid hend
      have hub : u + s1 + s2 + t1 + 1 < 3656158440062976 := by omega
      have HU := Lib.hid hut
      clear hend he h8 hop hc2 p p' q hut hbig
      go_wp2_with (go_at_call 187; refine HC.out.mono ?_; rintro e w' ⟨rfl, rfl⟩)
      refine HP.out.mono ?_
      rintro e w1 ⟨rfl, hw1⟩
      have hst2 := hstill.trans hw1
      go_wp2_with fail
      refine (HP2.out _ hw1).mono ?_
      rintro e w2 ⟨rfl, hw2⟩
      have hst3 := hst2.trans hw2
      go_wp2
      go_roundw
      case rel => exact ⟨e + 1, u + 1 + s1 + s2, t1, by omega, by omega, by go_num, by go_num, by have := HU.out; omega, HQ, hst3⟩
      case measure => simp [intOf]; omega
theorem steps_all (a : Option Addr) (n c : Nat) (rs : List SRow) (ss : List Stm) (h40 : n ≤ 40) : ∀ (d i : Nat), n - i ≤ d → StepsAt a n c rs ss i
  | 0, i, hd => by
    refine steps_at a n c rs ss i h40 (Lib.hid (fun k hk => ?_))
    intro w j s h hj hst
    have := (steps_small hst).1
    omega
  | d + 1, i, hd => by
    refine steps_at a n c rs ss i h40 (Lib.hid (fun k hk => ?_))
    exact steps_all a n c rs ss h40 d k (by omega)
theorem l3Steps_any (a : Option Addr) (n c : Nat) (rs : List SRow) (ss : List Stm) (i j s : Nat) (w : World) (h : Stmts w a n rs ss) (h40 : n ≤ 40) (hj : j ≤ n) (hs : Steps ss i j s) :
    Calls Tryz.prog 162 #[.slice a n c, .int .i64 (i : Int), .int .i64 (j : Int)] w fun e w' => e = .returned (.int .i64 (s : Int)) ∧ Still w w' := steps_all a n c rs ss h40 _ i (Nat.le_refl _) w j s h hj hs
end Go.Proofs.YtbnpoliogldohaaGreat
/- The contracts of the model's l5Bit, l5Shift, l5Bits, l5Op: what a Term makes of values. -/
namespace Go.Proofs.YtbnpoliogldohaaGreat
open Go.RowKit

def shiftF (up : Bool) (S a k : Nat) : Nat := match up with | true => a * 2 ^ k % S | false => a / 2 ^ k
def bi (b : Bool) : Nat := if b = true then 1 else 0

end Go.Proofs.YtbnpoliogldohaaGreat
/- The contracts of the model's l3Size, l3Bits, l3Vars. -/
namespace Go.Proofs.YtbnpoliogldohaaGreat
open Go.RowKit

/-- How many bits a number has. -/
def bitsN (n : Nat) : Nat := if h : n = 0 then 0 else bitsN (n / 2) + 1
theorem bitsN_zero : bitsN 0 = 0 := by rw [bitsN]; rfl
theorem bitsN_pos {n : Nat} (h : 0 < n) : bitsN n = bitsN (n / 2) + 1 := by rw [bitsN, dif_neg (by omega)]
theorem bitsN_le : ∀ (j n : Nat), n < 2 ^ j → bitsN n ≤ j
  | 0, n, h => by have : n = 0 := by omega
                  subst this; rw [bitsN_zero]; exact Nat.le_refl _
  | j + 1, n, h => by
    rcases Nat.eq_zero_or_pos n with rfl | hp
    · rw [bitsN_zero]; omega
    · rw [bitsN_pos hp]
      have := bitsN_le j (n / 2) (by rw [Nat.pow_succ] at h; omega)
      omega
def progCells (r : PRow) : Array Value := #[.int .i64 r.width, slV r.lows, slV r.secrets, .int .i64 r.temps, slV r.arrays, slV r.body]

set_option maxHeartbeats 800000 in
theorem l3Size_any (r : PRow) (W : Nat) (w : World) (hW : r.width = (W : Int)) (h8 : W ≤ 8) :
    Calls Tryz.prog 171 #[progV r] w fun e w' => e = .returned (.int .i64 ((2 ^ W : Nat) : Int)) ∧ Below w.heap.size w w' := by
  obtain ⟨wd, ⟨a1, n1, c1⟩, ⟨a2, n2, c2⟩, tp, ⟨a3, n3, c3⟩, ⟨a4, n4, c4⟩, rows⟩ := r
  simp only [] at hW
  subst hW
  show Calls Tryz.prog 171 #[.agg #[.int .i64 (W : Int), .slice a1 n1 c1, .slice a2 n2 c2, .int .i64 tp, .slice a3 n3 c3, .slice a4 n4 c4]] w _
  have HB : Below w.heap.size w (w.alloc (.cells #[.int .i64 (W : Int), .slice a1 n1 c1, .slice a2 n2 c2, .int .i64 tp, .slice a3 n3 c3, .slice a4 n4 c4] 28)) := (Below.refl _ _).alloc (Nat.le_refl _) _
  go_enter Tryz.func171, Tryz.ntmps171
  go_wp2
  go_loop [3, 4] (fun q i => ∃ k : Nat, k ≤ W ∧ i = .int .i64 (k : Int) ∧ q = .int .i64 ((2 ^ k : Nat) : Int)) (fun _ i => W - (intOf i).toNat)
  case atStart => exact ⟨0, Nat.zero_le _, rfl, rfl⟩
  case round =>
    obtain ⟨k, hk, rfl, rfl⟩ := hrel
    by_cases hlt : k < W
    · have hp : 2 ^ k ≤ 2 ^ 8 := Nat.pow_le_pow_right (by omega) (by omega)
      have hs := Lib.hid (Nat.pow_succ (n := 2) (m := k))
      generalize (2 : Nat) ^ k = q at hp hs ⊢
      go_wp2
      go_round
      case rel => exact ⟨k + 1, by omega, by go_num, by rw [hs.out]; go_num⟩
      case measure => simp [intOf]; omega
    · obtain rfl : W = k := by omega
      go_wp2
      go_ret
      exact ⟨rfl, HB⟩
set_option maxHeartbeats 800000 in
theorem l3Bits_any (n : Int) (w : World) (hn : In64 n) :
    Calls Tryz.prog 201 #[.int .i64 n] w fun e w' => e = .returned (.int .i64 (bitsN n.toNat : Int)) ∧ w = w' := by
  have hb63 : bitsN n.toNat ≤ 63 := bitsN_le 63 _ (by have := hn.2; omega)
  obtain ⟨T, HT⟩ : ∃ T, Hid (bitsN n.toNat = T) := ⟨_, rfl⟩
  rw [HT.out] at hb63 ⊢
  have h1 := hn.1
  have h2 := hn.2
  go_enter Tryz.func201, Tryz.ntmps201
  go_wp2
  go_loop [0, 3] (fun q i => ∃ (m : Int) (k : Nat), In64 m ∧ q = .int .i64 m ∧ i = .int .i64 (k : Int) ∧ bitsN m.toNat + k = T) (fun q _ => (intOf q).toNat)
  case atStart => exact ⟨n, 0, hn, rfl, rfl, HT.out⟩
  case round =>
    obtain ⟨m, k, hm, rfl, rfl, hs⟩ := hrel
    have hm1 := hm.1
    have hm2 := hm.2
    by_cases hlt : 0 < m
    · have hbit := bitsN_pos (n := m.toNat) (by omega)
      have hkT : k < T := by omega
      have hdiv : (m / 2).toNat = m.toNat / 2 := by omega
      have htd : Int.tdiv m 2 = m / 2 := Int.tdiv_eq_ediv_of_nonneg (by omega)
      have HS : Hid (bitsN (Int.tdiv m 2).toNat + (k + 1) = T) := by rw [htd, hdiv]; exact Lib.hid (by omega)
      have H2 : Hid (In64 (Int.tdiv m 2)) := by rw [htd]; exact Lib.hid ⟨by omega, by omega⟩
      have H3 : Hid ((Int.tdiv m 2).toNat < m.toNat) := by rw [htd]; exact Lib.hid (by omega)
      have b1 := H2.out.1
      have b2 := H2.out.2
      clear hbit hdiv htd hs
      go_wp2
      go_round
      case rel => exact ⟨Int.tdiv m 2, k + 1, H2.out, by go_num, by go_num, HS.out⟩
      case measure => exact H3.out
    · have h0 : m.toNat = 0 := by omega
      rw [h0, bitsN_zero] at hs
      have hkT : k = T := by omega
      subst hkT
      go_wp2
      go_ret
      exact ⟨rfl, rfl⟩
theorem l3Vars_any (r : PRow) (w : World) (h1 : r.lows.2.1 ≤ 1048576) (h2 : r.secrets.2.1 ≤ 1048576) (h3 : 0 ≤ r.temps) (h4 : r.temps ≤ 1048576) :
    Calls Tryz.prog 82 #[progV r] w fun e w' => e = .returned (.int .i64 ((r.lows.2.1 : Int) + (r.secrets.2.1 : Int) + r.temps)) ∧ Below w.heap.size w w' := by
  obtain ⟨wd, ⟨a1, n1, c1⟩, ⟨a2, n2, c2⟩, tp, ⟨a3, n3, c3⟩, ⟨a4, n4, c4⟩, rows⟩ := r
  simp only [] at h1 h2 h3 h4
  show Calls Tryz.prog 82 #[.agg #[.int .i64 wd, .slice a1 n1 c1, .slice a2 n2 c2, .int .i64 tp, .slice a3 n3 c3, .slice a4 n4 c4]] w _
  go_enter Tryz.func82, Tryz.ntmps82
  go_wp2
  go_ret
  exact ⟨rfl, (Below.refl _ _).alloc (Nat.le_refl _) _⟩
end Go.Proofs.YtbnpoliogldohaaGreat
/- The contracts of the model's l3AllBits and l3Room. -/
namespace Go.Proofs.YtbnpoliogldohaaGreat
open Go.RowKit

/-- The bits of the first k inputs' greatest values. -/
def bitsTo (ts : List Tm) : Nat → Nat
  | 0 => 0
  | k + 1 => bitsTo ts k + bitsN (tmAt ts k).1.toNat
theorem bits63 {z : Int} (h : In64 z) : bitsN z.toNat ≤ 63 := bitsN_le 63 _ (by have := h.2; omega)
def roomB (p : Prg) : Bool :=
  (decide (0 ≤ p.temps) && decide (p.temps ≤ 6)) && decide (p.arrays.length ≤ 2) && decide (p.body.length ≤ 40) && p.arrays.all (fun z => decide (1 ≤ z) && decide (z ≤ 6))
/-- The first k are sizes of arrays. -/
def CellsTo (zs : List Int) (k : Nat) : Prop := ∀ i, i < k → 1 ≤ zs.getD i 0 ∧ zs.getD i 0 ≤ 6
theorem CellsTo.succ {zs : List Int} {k : Nat} {z : Int} (h : CellsTo zs k) (hz : Hid (z = zs.getD k 0)) (h0 : 1 ≤ z) (h1 : z ≤ 6) : CellsTo zs (k + 1) := by
  intro i hi
  rcases Nat.lt_or_ge i k with hlt | hge
  · exact h i hlt
  · have : i = k := by omega
    subst this; rw [← hz.out]; exact ⟨h0, h1⟩
theorem cellsTo_all (zs : List Int) : zs.all (fun z => decide (1 ≤ z) && decide (z ≤ 6)) = true ↔ CellsTo zs zs.length := by
  rw [List.all_eq_true]
  constructor
  · intro h i hi
    have := h _ (getD_mem hi)
    simpa using this
  · intro h z hz
    obtain ⟨i, hi, rfl⟩ := List.getElem_of_mem hz
    have := h i hi
    rw [List.getD_eq_getElem?_getD, List.getElem?_eq_getElem hi] at this
    simpa using this
theorem cells_bad {zs : List Int} {k : Nat} {z : Int} (hk : k < zs.length) (hz : Hid (z = zs.getD k 0)) (h : ¬ (1 ≤ z ∧ z ≤ 6)) : zs.all (fun z => decide (1 ≤ z) && decide (z ≤ 6)) = false := by
  rw [← Bool.not_eq_true, cellsTo_all]
  intro hg
  have := hg k hk
  rw [← hz.out] at this
  exact h this

set_option maxHeartbeats 1600000 in
theorem l3AllBits_any (r : PRow) (p : Prg) (w : World) (h : ProgAt w r p) :
    Calls Tryz.prog 158 #[progV r] w fun e w' => e = .returned (.int .i64 ((bitsTo p.lows p.lows.length + bitsTo p.secrets p.secrets.length : Nat) : Int)) ∧ Below w.heap.size w w' := by
  obtain ⟨wd, ⟨a1, n1, c1⟩, ⟨a2, n2, c2⟩, tp, ⟨a3, n3, c3⟩, ⟨a4, n4, c4⟩, rows⟩ := r
  obtain ⟨pw, pl, ps, pt, pa, pb⟩ := p
  obtain ⟨e1, e2, i1, i2, h1, h2, h3, h4⟩ := h
  simp only [] at e1 e2 i1 i2 h1 h2 h3 h4
  subst e1 e2
  clear h3 h4
  show Calls Tryz.prog 158 #[.agg #[.int .i64 wd, .slice a1 n1 c1, .slice a2 n2 c2, .int .i64 tp, .slice a3 n3 c3, .slice a4 n4 c4]] w _
  have HB : Below w.heap.size w (w.alloc (.cells #[.int .i64 wd, .slice a1 n1 c1, .slice a2 n2 c2, .int .i64 tp, .slice a3 n3 c3, .slice a4 n4 c4] 28)) := (Below.refl _ _).alloc (Nat.le_refl _) _
  have HT1 := Lib.hid (h1.below (Nat.le_refl _) HB)
  have HT2 := Lib.hid (h2.below (Nat.le_refl _) HB)
  have HL1 := Lib.hid h1.1
  have HL2 := Lib.hid h2.1
  have hn1 := h1.2.1
  have hn2 := h2.2.1
  simp only [HL1.out, HL2.out]
  clear h1 h2
  go_enter Tryz.func158, Tryz.ntmps158
  go_wp2
  go_loop [3, 4] (fun q i => ∃ k : Nat, k ≤ n1 ∧ i = .int .i64 (k : Int) ∧ bitsTo pl k ≤ 63 * k ∧ q = .int .i64 (bitsTo pl k : Int)) (fun _ i => n1 - (intOf i).toNat)
  case atStart => exact ⟨0, Nat.zero_le _, rfl, Nat.le_refl _, rfl⟩
  case round =>
    obtain ⟨k, hk, rfl, hs, rfl⟩ := hrel
    by_cases hlt : k < n1
    · obtain ⟨b, o, x, y, rfl, hb, hz, hin1, hin2, hc1, hc2⟩ := HT1.out.at_ hlt
      have hb63 := bits63 hin1
      have hst : bitsTo pl (k + 1) = bitsTo pl k + bitsN x.toNat := by simp only [bitsTo, hz.out]
      have HS := Lib.hid hst
      clear hst hc2
      generalize bitsTo pl k = Q at hs HS ⊢
      go_wp2_with fail
      refine (l3Bits_any _ _ hin1).mono ?_
      rintro e w1 ⟨rfl, rfl⟩
      generalize bitsN x.toNat = V at hb63 HS ⊢
      go_wp2
      go_round
      case rel => exact ⟨k + 1, by omega, by go_num, by rw [HS.out]; omega, by rw [HS.out]; go_num⟩
      case measure => simp [intOf]; omega
    · obtain rfl : n1 = k := by omega
      obtain ⟨Q, HQ⟩ : ∃ Q, Hid (bitsTo pl n1 = Q) := ⟨_, rfl⟩
      rw [HQ.out] at hs ⊢
      go_wp2
      go_loop [3, 5] (fun q i => ∃ k : Nat, k ≤ n2 ∧ i = .int .i64 (k : Int) ∧ bitsTo ps k ≤ 63 * k ∧ q = .int .i64 ((Q + bitsTo ps k : Nat) : Int)) (fun _ i => n2 - (intOf i).toNat)
      case atStart => exact ⟨0, Nat.zero_le _, rfl, Nat.le_refl _, rfl⟩
      case round =>
        obtain ⟨k, hk, rfl, hs2, rfl⟩ := hrel
        by_cases hlt : k < n2
        · obtain ⟨b, o, x, y, rfl, hb, hz, hin1, hin2, hc1, hc2⟩ := HT2.out.at_ hlt
          have hb63 := bits63 hin1
          have hst : bitsTo ps (k + 1) = bitsTo ps k + bitsN x.toNat := by simp only [bitsTo, hz.out]
          have HS := Lib.hid hst
          clear hst hc2
          generalize bitsTo ps k = R at hs2 HS ⊢
          go_wp2_with fail
          refine (l3Bits_any _ _ hin1).mono ?_
          rintro e w1 ⟨rfl, rfl⟩
          generalize bitsN x.toNat = V at hb63 HS ⊢
          go_wp2
          go_round
          case rel => exact ⟨k + 1, by omega, by go_num, by rw [HS.out]; omega, by rw [HS.out]; go_num⟩
          case measure => simp [intOf]; omega
        · obtain rfl : n2 = k := by omega
          obtain ⟨R, HR⟩ : ∃ R, Hid (bitsTo ps n2 = R) := ⟨_, rfl⟩
          rw [HR.out] at hs2 ⊢
          go_wp2
          go_ret
          exact ⟨ret_int (by rw [HQ.out, HR.out]), HB⟩
set_option maxHeartbeats 1600000 in
theorem l3Room_any (r : PRow) (p : Prg) (w : World) (h : ProgAt w r p) :
    Calls Tryz.prog 159 #[progV r] w fun e w' => e = .returned (.bool (roomB p)) ∧ Below w.heap.size w w' := by
  obtain ⟨wd, ⟨a1, n1, c1⟩, ⟨a2, n2, c2⟩, tp, ⟨a3, n3, c3⟩, ⟨a4, n4, c4⟩, rows⟩ := r
  obtain ⟨pw, pl, ps, pt, pa, pb⟩ := p
  obtain ⟨e1, e2, i1, i2, h1, h2, h3, h4⟩ := h
  simp only [] at e1 e2 i1 i2 h1 h2 h3 h4
  subst e1 e2
  clear h1 h2
  show Calls Tryz.prog 159 #[.agg #[.int .i64 wd, .slice a1 n1 c1, .slice a2 n2 c2, .int .i64 tp, .slice a3 n3 c3, .slice a4 n4 c4]] w _
  have HB : Below w.heap.size w (w.alloc (.cells #[.int .i64 wd, .slice a1 n1 c1, .slice a2 n2 c2, .int .i64 tp, .slice a3 n3 c3, .slice a4 n4 c4] 28)) := (Below.refl _ _).alloc (Nat.le_refl _) _
  have HT3 := Lib.hid (h3.below HB)
  have HL3 := Lib.hid h3.1
  have HL4 := Lib.hid h4.2.1
  have hn3 := h3.2.1
  have hn4 := h4.2.2.1
  obtain ⟨R, HR⟩ : ∃ R, Hid (roomB ⟨wd, pl, ps, tp, pa, pb⟩ = R) := ⟨_, rfl⟩
  have hroom : roomB ⟨wd, pl, ps, tp, pa, pb⟩ = ((decide (0 ≤ tp) && decide (tp ≤ 6)) && decide (n3 ≤ 2) && decide (n4 ≤ 40) && pa.all (fun z => decide (1 ≤ z) && decide (z ≤ 6))) := by
    simp only [roomB, HL3.out, HL4.out]
  rw [HR.out] at hroom
  have HRM := Lib.hid hroom
  simp only [HR.out]
  clear hroom h3 h4 HR
  go_enter Tryz.func159, Tryz.ntmps159
  by_cases ht : 0 ≤ tp ∧ tp ≤ 6
  case neg =>
    have hd : (decide (0 ≤ tp) && decide (tp ≤ 6)) = false := by rw [← Bool.not_eq_true]; simpa using ht
    go_wp2_with (go_at_call 87; refine (in_any _ _ _ _).mono ?_; rintro e w' ⟨rfl, rfl⟩; rw [hd])
    go_ret
    exact ⟨ret_bool (by rw [HRM.out, hd]; rfl), HB⟩
  have hd : (decide (0 ≤ tp) && decide (tp ≤ 6)) = true := by simpa using ht
  have HD := Lib.hid hd
  clear hd ht
  by_cases ha : n3 ≤ 2
  case neg =>
    have hd2 : decide ((n3 : Int) > 2) = true := by simp; omega
    go_wp2_with (go_at_call 87; refine (in_any _ _ _ _).mono ?_; rintro e w' ⟨rfl, rfl⟩; rw [HD.out])
    go_ret
    exact ⟨ret_bool (by rw [HRM.out, HD.out, decide_eq_false ha]; rfl), HB⟩
  have hd2 : decide ((n3 : Int) > 2) = false := by simp; omega
  by_cases hs : n4 ≤ 40
  case neg =>
    have hd3 : decide ((n4 : Int) > 40) = true := by simp; omega
    go_wp2_with (go_at_call 87; refine (in_any _ _ _ _).mono ?_; rintro e w' ⟨rfl, rfl⟩; rw [HD.out])
    go_ret
    exact ⟨ret_bool (by rw [HRM.out, HD.out, decide_eq_true ha, decide_eq_false hs]; rfl), HB⟩
  have hd3 : decide ((n4 : Int) > 40) = false := by simp; omega
  have HX : Hid (R = pa.all (fun z => decide (1 ≤ z) && decide (z ≤ 6))) := Lib.hid (by rw [HRM.out, HD.out, decide_eq_true ha, decide_eq_true hs]; simp only [Bool.true_and])
  clear HRM
  go_wp2_with (go_at_call 87; refine (in_any _ _ _ _).mono ?_; rintro e w' ⟨rfl, rfl⟩; rw [HD.out])
  go_loop [3] (fun i => ∃ k : Nat, k ≤ n3 ∧ i = .int .i64 (k : Int) ∧ CellsTo pa k) (fun i => n3 - (intOf i).toNat)
  case atStart => exact ⟨0, Nat.zero_le _, rfl, fun i hi => absurd hi (by omega)⟩
  case round =>
    obtain ⟨k, hk, rfl, hg⟩ := hrel
    by_cases hlt : k < n3
    · obtain ⟨b, o, z, rfl, hb, hz, hin, hc⟩ := HT3.out.at_ hlt
      by_cases h0 : 1 ≤ z ∧ z ≤ 6
      · have hd : (decide (1 ≤ z) && decide (z ≤ 6)) = true := by simp [h0]
        go_wp2_with (go_at_call 87; refine (in_any _ _ _ _).mono ?_; rintro e w' ⟨rfl, rfl⟩; rw [hd])
        go_round
        case rel => exact ⟨k + 1, by omega, by go_num, hg.succ hz (by omega) (by omega)⟩
        case measure => simp [intOf]; omega
      · have hd : (decide (1 ≤ z) && decide (z ≤ 6)) = false := by rw [← Bool.not_eq_true]; simpa using h0
        go_wp2_with (go_at_call 87; refine (in_any _ _ _ _).mono ?_; rintro e w' ⟨rfl, rfl⟩; rw [hd])
        go_ret
        exact ⟨ret_bool (by rw [HX.out]; exact (cells_bad (by rw [HL3.out]; exact hlt) hz h0).symm), HB⟩
    · obtain rfl : n3 = k := by omega
      go_wp2
      go_ret
      exact ⟨ret_bool (by rw [HX.out]; exact ((cellsTo_all pa).2 (by rw [HL3.out]; exact hg)).symm), HB⟩
end Go.Proofs.YtbnpoliogldohaaGreat
/- The contract of the model's l3Inputs. -/
namespace Go.Proofs.YtbnpoliogldohaaGreat
open Go.RowKit

/-- A right input: its greatest value below S; its budget, none for a low one. -/
def inpOk (S : Nat) (low : Bool) (t : Tm) : Bool :=
  (decide (0 ≤ t.1) && decide (t.1 ≤ (S : Int) - 1)) && (decide (0 ≤ t.2) && decide (t.2 ≤ 99)) && !(low && t.2 != 0)
def inputsB (S : Nat) (low : Bool) (ts : List Tm) : Bool := ts.all (inpOk S low) && decide (ts.length ≤ 3)
def InpTo (S : Nat) (low : Bool) (ts : List Tm) (k : Nat) : Prop := ∀ i, i < k → inpOk S low (tmAt ts i) = true
theorem InpTo.succ {S : Nat} {low : Bool} {ts : List Tm} {k : Nat} {t : Tm} (h : InpTo S low ts k) (hz : Hid (tmAt ts k = t)) (ht : inpOk S low t = true) : InpTo S low ts (k + 1) := by
  intro i hi
  rcases Nat.lt_or_ge i k with hlt | hge
  · exact h i hlt
  · have : i = k := by omega
    subst this; rw [hz.out]; exact ht
theorem inpTo_all {S : Nat} {low : Bool} {ts : List Tm} (h : InpTo S low ts ts.length) : ts.all (inpOk S low) = true := by
  rw [List.all_eq_true]
  intro z hz
  obtain ⟨i, hi, rfl⟩ := List.getElem_of_mem hz
  have := h i hi
  rw [tmAt, List.getD_eq_getElem?_getD, List.getElem?_eq_getElem hi] at this
  simpa using this
theorem inp_bad {S : Nat} {low : Bool} {ts : List Tm} {k : Nat} {t : Tm} (hk : k < ts.length) (hz : Hid (tmAt ts k = t)) (ht : inpOk S low t = false) : inputsB S low ts = false := by
  have : ts.all (inpOk S low) = false := by
    rw [← Bool.not_eq_true, List.all_eq_true]
    intro h
    have := h _ (tmAt_mem hk)
    rw [hz.out, ht] at this
    exact absurd this (by simp)
  unfold inputsB
  rw [this]; rfl

theorem in_lat {w : World} (x lo hi : Int) {v : Bool} (hv : (decide (lo ≤ x) && decide (x ≤ hi)) = v) (p : Lat w) :
    Calls Tryz.prog 87 #[.int .i64 x, .int .i64 lo, .int .i64 hi] p.wd fun e w' => e = .returned (.bool v) ∧ Below p.wd.heap.size p.wd w' :=
  (in_any x lo hi p.wd).mono fun _ _ ⟨he, hw⟩ => ⟨by rw [he, hv], by rw [← hw]; exact Below.refl _ _⟩
set_option maxHeartbeats 3200000 in
theorem l3Inputs_any (r : PRow) (W : Nat) (a : Option Addr) (n c : Nat) (low : Bool) (ts : List Tm) (w : World) (hW : r.width = (W : Int)) (h8 : W ≤ 8) (h : Terms w a n ts) :
    Calls Tryz.prog 157 #[progV r, .slice a n c, .bool low] w fun e w' => e = .returned (.bool (inputsB (2 ^ W) low ts)) ∧ Below w.heap.size w w' := by
  have HC0 : Hid (∀ w' : World, Calls Tryz.prog 171 #[progV r] w' fun e w'' => e = .returned (.int .i64 ((2 ^ W : Nat) : Int)) ∧ Below w'.heap.size w' w'') := Lib.hid (fun w' => l3Size_any r W w' hW h8)
  obtain ⟨wd, ⟨a1, n1, c1⟩, ⟨a2, n2, c2⟩, tp, ⟨a3, n3, c3⟩, ⟨a4, n4, c4⟩, rows⟩ := r
  clear hW
  have hS : 2 ^ W ≤ 2 ^ 8 := Nat.pow_le_pow_right (by omega) h8
  obtain ⟨S, HS⟩ : ∃ S : Nat, Hid (2 ^ W = S) := ⟨_, Lib.hid rfl⟩
  simp only [HS.out] at hS HC0 ⊢
  clear HS h8
  show Calls Tryz.prog 157 #[.agg #[.int .i64 wd, .slice a1 n1 c1, .slice a2 n2 c2, .int .i64 tp, .slice a3 n3 c3, .slice a4 n4 c4], .slice a n c, .bool low] w _
  have HL := Lib.hid h.1
  have hbd := h.2.1
  obtain ⟨wa, HW⟩ : ∃ wa, Hid (wa = w.alloc (.cells #[.int .i64 wd, .slice a1 n1 c1, .slice a2 n2 c2, .int .i64 tp, .slice a3 n3 c3, .slice a4 n4 c4] 28)) := ⟨_, rfl⟩
  have BX : Blk wa w.heap.size 28 [.int .i64 wd, .slice a1 n1 c1, .slice a2 n2 c2, .int .i64 tp, .slice a3 n3 c3, .slice a4 n4 c4] := by rw [HW.out]; exact Blk.new w _ _
  have HB : Below w.heap.size w wa := by rw [HW.out]; exact (Below.refl _ _).alloc (Nat.le_refl _) _
  go_enter Tryz.func157, Tryz.ntmps157
  go_wp2
  rw [← HW.out]
  go_loopw [7] (fun i wr => ∃ k : Nat, k ≤ n ∧ i = .int .i64 (k : Int) ∧ InpTo S low ts k ∧ Below wa.heap.size wa wr) (fun i _ => n - (intOf i).toNat)
  case atStart => exact ⟨0, Nat.zero_le _, rfl, fun i hi => absurd hi (by omega), Below.refl _ _⟩
  case round =>
    obtain ⟨k, hk, rfl, hg, hbl⟩ := hrel
    have hbel := HB.trans (hbl.mono HB.size)
    have B1 := BX.below hbl BX.lt
    by_cases hlt : k < n
    · obtain ⟨b, o, x, y, rfl, hb, hz, hin1, hin2, hc1, hc2⟩ := (h.below (Nat.le_refl _) hbel).at_ hlt
      have f1 := lat_cell hb hc1
      have f2 := lat_cell hb hc2
      have g0 := lat_cell B1.lt (B1.cell (j := 0) rfl)
      have g1 := lat_cell B1.lt (B1.cell (j := 1) rfl)
      have g2 := lat_cell B1.lt (B1.cell (j := 2) rfl)
      have g3 := lat_cell B1.lt (B1.cell (j := 3) rfl)
      have g4 := lat_cell B1.lt (B1.cell (j := 4) rfl)
      have g5 := lat_cell B1.lt (B1.cell (j := 5) rfl)
      clear hc1 hc2 B1
      have HC1 : Hid (∀ p : Lat wr, Calls Tryz.prog 171 #[.agg #[.int .i64 wd, .slice a1 n1 c1, .slice a2 n2 c2, .int .i64 tp, .slice a3 n3 c3, .slice a4 n4 c4]] p.wd fun e w' => e = .returned (.int .i64 (S : Int)) ∧ Below p.wd.heap.size p.wd w') := Lib.hid (fun p => HC0.out p.wd)
      by_cases hA : 0 ≤ x ∧ x ≤ (S : Int) - 1
      case neg =>
        have hd : (decide (0 ≤ x) && decide (x ≤ (S : Int) - 1)) = false := by rw [← Bool.not_eq_true]; simpa using hA
        have HC2 := Lib.hid (in_lat (w := wr) (v := false) x 0 ((S : Int) - 1) hd)
        have HF := Lib.hid (show inpOk S low (x, y) = false by unfold inpOk; simp only [hd, Bool.false_and])
        clear hd hA
        go_wp2
        refine wp_region_lat (by kernel_rfl) (by kernel_rfl) ?_
        repeat (go_big_quiet_step (first | (go_at_call 171; exact lat_calls (HC1.out _)) | (go_at_call 87; first | exact lat_calls (HC2.out _))))
        refine wpQuiet_nil ?_
        intro _ hw'
        obtain ⟨⟨wq, hwq⟩, hw''⟩ := hw'
        subst hw''
        have ht := hbl.trans (hwq.mono hbl.size)
        have ht2 := HB.trans (ht.mono HB.size)
        clear f1 f2 g0 g1 g2 g3 g4 g5 HC1 HC2
        go_wp2
        go_ret
        exact ⟨ret_bool (inp_bad (by rw [HL.out]; exact hlt) hz HF.out).symm, ht2⟩
      have hd : (decide (0 ≤ x) && decide (x ≤ (S : Int) - 1)) = true := by simpa using hA
      have HC2 := Lib.hid (in_lat (w := wr) (v := true) x 0 ((S : Int) - 1) hd)
      by_cases hY : 0 ≤ y ∧ y ≤ 99
      case neg =>
        have hd2 : (decide (0 ≤ y) && decide (y ≤ 99)) = false := by rw [← Bool.not_eq_true]; simpa using hY
        have HC3 := Lib.hid (in_lat (w := wr) (v := false) y 0 99 hd2)
        have HF := Lib.hid (show inpOk S low (x, y) = false by unfold inpOk; simp only [hd, hd2, Bool.and_false, Bool.false_and])
        clear hd hd2 hA hY
        go_wp2
        refine wp_region_lat (by kernel_rfl) (by kernel_rfl) ?_
        repeat (go_big_quiet_step (first | (go_at_call 171; exact lat_calls (HC1.out _)) | (go_at_call 87; first | with_reducible exact lat_calls (HC2.out _) | with_reducible exact lat_calls (HC3.out _))))
        refine wpQuiet_nil ?_
        intro _ hw'
        obtain ⟨⟨wq, hwq⟩, hw''⟩ := hw'
        subst hw''
        have ht := hbl.trans (hwq.mono hbl.size)
        have ht2 := HB.trans (ht.mono HB.size)
        clear f1 f2 g0 g1 g2 g3 g4 g5 HC1 HC2 HC3
        go_wp2
        go_ret
        exact ⟨ret_bool (inp_bad (by rw [HL.out]; exact hlt) hz HF.out).symm, ht2⟩
      have hd2 : (decide (0 ≤ y) && decide (y ≤ 99)) = true := by simpa using hY
      have HC3 := Lib.hid (in_lat (w := wr) (v := true) y 0 99 hd2)
      cases low with
      | false =>
        have HF := Lib.hid (show inpOk S false (x, y) = true by unfold inpOk; simp only [hd, hd2, Bool.and_true, Bool.false_and, Bool.not_false])
        clear hd hd2 hA hY
        go_wp2
        refine wp_region_lat (by kernel_rfl) (by kernel_rfl) ?_
        repeat (go_big_quiet_step (first | (go_at_call 171; exact lat_calls (HC1.out _)) | (go_at_call 87; first | with_reducible exact lat_calls (HC2.out _) | with_reducible exact lat_calls (HC3.out _))))
        refine wpQuiet_nil ?_
        intro _ hw'
        obtain ⟨⟨wq, hwq⟩, hw''⟩ := hw'
        subst hw''
        have ht := hbl.trans (hwq.mono hbl.size)
        have ht2 := HB.trans (ht.mono HB.size)
        clear f1 f2 g0 g1 g2 g3 g4 g5 HC1 HC2 HC3
        go_wp2
        go_roundw
        case rel => exact ⟨k + 1, by omega, by go_num, hg.succ hz HF.out, ht⟩
        case measure => simp [intOf]; omega
      | true =>
        by_cases h0 : y = 0
        case neg =>
          have hne : (y != 0) = true := by simpa using h0
          have HF := Lib.hid (show inpOk S true (x, y) = false by unfold inpOk; simp only [hd, hd2, hne, Bool.and_self, Bool.not_true, Bool.and_false])
          clear hd hd2 hA hY
          go_wp2
          refine wp_region_lat (by kernel_rfl) (by kernel_rfl) ?_
          repeat (go_big_quiet_step (first | (go_at_call 171; exact lat_calls (HC1.out _)) | (go_at_call 87; first | with_reducible exact lat_calls (HC2.out _) | with_reducible exact lat_calls (HC3.out _))))
          refine wpQuiet_nil ?_
          intro _ hw'
          obtain ⟨⟨wq, hwq⟩, hw''⟩ := hw'
          subst hw''
          have ht := hbl.trans (hwq.mono hbl.size)
          have ht2 := HB.trans (ht.mono HB.size)
          clear f1 f2 g0 g1 g2 g3 g4 g5 HC1 HC2 HC3
          go_wp2
          go_ret
          exact ⟨ret_bool (inp_bad (by rw [HL.out]; exact hlt) hz HF.out).symm, ht2⟩
        subst h0
        have HF := Lib.hid (show inpOk S true (x, 0) = true by unfold inpOk; simp only [hd, hd2]; rfl)
        clear hd hd2 hA hY
        go_wp2
        refine wp_region_lat (by kernel_rfl) (by kernel_rfl) ?_
        repeat (go_big_quiet_step (first | (go_at_call 171; exact lat_calls (HC1.out _)) | (go_at_call 87; first | with_reducible exact lat_calls (HC2.out _) | with_reducible exact lat_calls (HC3.out _))))
        refine wpQuiet_nil ?_
        intro _ hw'
        obtain ⟨⟨wq, hwq⟩, hw''⟩ := hw'
        subst hw''
        have ht := hbl.trans (hwq.mono hbl.size)
        have ht2 := HB.trans (ht.mono HB.size)
        clear f1 f2 g0 g1 g2 g3 g4 g5 HC1 HC2 HC3
        go_wp2
        go_roundw
        case rel => exact ⟨k + 1, by omega, by go_num, hg.succ hz HF.out, ht⟩
        case measure => simp [intOf]; omega
    · obtain rfl : n = k := by omega
      by_cases h3 : n ≤ 3
      · have hd : decide ((n : Int) ≤ 3) = true := by simp; omega
        go_wp2
        go_ret
        exact ⟨ret_bool (by unfold inputsB; rw [inpTo_all (by rw [HL.out]; exact hg), HL.out, decide_eq_true h3]; rfl), hbel⟩
      · have hd : decide ((n : Int) ≤ 3) = false := by simp; omega
        go_wp2
        go_ret
        exact ⟨ret_bool (by unfold inputsB; rw [HL.out, decide_eq_false h3]; simp), hbel⟩
end Go.Proofs.YtbnpoliogldohaaGreat
