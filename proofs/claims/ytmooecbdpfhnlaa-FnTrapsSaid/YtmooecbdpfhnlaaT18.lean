/- Joined texts of this proof (ValueMath, SpecVal1, EnvCopies, Math, Cmp, Push), in build order. -/
import Derived.Test.YtmooecbdpfhnlaaT1
import Derived.IntWalk
import Derived.Test.YtmooecbdpfhnlaaT15
import Derived.Test.YtmooecbdpfhnlaaT9
/- Plain mathematics of values: what a Term makes of values below 2^W, the stack of an expression, its first trap. No Go text here. -/
namespace Go.Proofs.Ytmooecbdpfhnlaa
open Go.RowKit

/-- Masked by 2^W - 1, a number is its rest by 2^W. -/
theorem and_pow (z : Int) (W : Nat) (hW : W ≤ 8) : bits .and .i64 z (((2 ^ W : Nat) : Int) - 1) = z % ((2 ^ W : Nat) : Int) := by
  have hp : 2 ^ W ≤ 2 ^ 8 := Nat.pow_le_pow_right (by omega) hW
  have h0 : 0 < 2 ^ W := Nat.pow_pos (by omega)
  have e : (((2 ^ W : Nat) : Int) - 1) = ((2 ^ W - 1 : Nat) : Int) := by omega
  rw [e]
  have h1 : (BitVec.ofInt 64 ((2 ^ W - 1 : Nat) : Int)).toNat = 2 ^ W - 1 := by
    rw [BitVec.ofInt_natCast, BitVec.toNat_ofNat]; exact Nat.mod_eq_of_lt (by omega)
  show IntKind.i64.wrap ((BitVec.ofInt 64 z &&& BitVec.ofInt 64 ((2 ^ W - 1 : Nat) : Int)).toNat : Int) = _
  rw [BitVec.toNat_and, h1, Nat.and_two_pow_sub_one_eq_mod, BitVec.toNat_ofInt]
  have hm : (z % ((2 ^ 64 : Nat) : Int)).toNat % 2 ^ W < 2 ^ W := Nat.mod_lt _ h0
  rw [IntWalk.i64_in _ (by omega)]
  have hnn : 0 ≤ z % ((2 ^ 64 : Nat) : Int) := Int.emod_nonneg _ (by decide)
  rw [Int.natCast_emod, Int.toNat_of_nonneg hnn]
  apply Int.emod_emod_of_dvd
  have : (2 ^ W) ∣ (2 ^ 64 : Nat) := Nat.pow_dvd_pow 2 (by omega)
  exact Int.ofNat_dvd.2 this

theorem ofInt_small {a : Nat} (h : a < 256) : (BitVec.ofInt 64 (a : Int)).toNat = a := by
  rw [BitVec.ofInt_natCast, BitVec.toNat_ofNat]; exact Nat.mod_eq_of_lt (by omega)
theorem lt256 {a W : Nat} (h : a < 2 ^ W) (hW : W ≤ 8) : a < 256 := Nat.lt_of_lt_of_le h (Nat.pow_le_pow_right (by omega) hW)
theorem and_small {a b : Nat} (h : a < 256) (h' : b < 256) : bits .and .i64 (a : Int) (b : Int) = ((a &&& b : Nat) : Int) := by
  show IntKind.i64.wrap ((BitVec.ofInt 64 (a : Int) &&& BitVec.ofInt 64 (b : Int)).toNat : Int) = _
  rw [BitVec.toNat_and, ofInt_small h, ofInt_small h']
  have : a &&& b < 2 ^ 8 := Nat.and_lt_two_pow a h'
  exact IntWalk.i64_in _ (by omega)
theorem or_small {a b : Nat} (h : a < 256) (h' : b < 256) : bits .or .i64 (a : Int) (b : Int) = ((a ||| b : Nat) : Int) := by
  show IntKind.i64.wrap ((BitVec.ofInt 64 (a : Int) ||| BitVec.ofInt 64 (b : Int)).toNat : Int) = _
  rw [BitVec.toNat_or, ofInt_small h, ofInt_small h']
  have : a ||| b < 2 ^ 8 := Nat.or_lt_two_pow h h'
  exact IntWalk.i64_in _ (by omega)
theorem xor_small {a b : Nat} (h : a < 256) (h' : b < 256) : bits .xor .i64 (a : Int) (b : Int) = ((a ^^^ b : Nat) : Int) := by
  show IntKind.i64.wrap ((BitVec.ofInt 64 (a : Int) ^^^ BitVec.ofInt 64 (b : Int)).toNat : Int) = _
  rw [BitVec.toNat_xor, ofInt_small h, ofInt_small h']
  have : a ^^^ b < 2 ^ 8 := Nat.xor_lt_two_pow h h'
  exact IntWalk.i64_in _ (by omega)

/-- Bit by bit: and (0), or (1), xor (2). -/
def bitF (how a b : Nat) : Nat := if how = 1 then a ||| b else if how = 2 then a ^^^ b else a &&& b
/-- .. of one bit each. -/
def bit1 (how x y : Nat) : Nat := if how = 1 then max x y else if how = 2 then (x + y) % 2 else x * y
theorem bitF_lt {W a b : Nat} (how : Nat) (h : a < 2 ^ W) (h' : b < 2 ^ W) : bitF how a b < 2 ^ W := by
  unfold bitF
  split
  · exact Nat.or_lt_two_pow h h'
  · split
    · exact Nat.xor_lt_two_pow h h'
    · exact Nat.and_lt_two_pow a h'

/-- What a Term of two (or, of Ops 3 and 4, of one) makes of values below S; by 0 it is 0. -/
def opN (S : Nat) (op : Int) (a b : Nat) : Nat :=
  if op = 3 then S - 1 - a else if op = 4 then (S - a) % S else if op = 5 then (a + b) % S else if op = 6 then (a + S - b) % S else if op = 7 then a * b % S
  else if op = 8 then a / b else if op = 9 then (if b = 0 then 0 else a % b) else if op = 10 then bitF 0 a b else if op = 11 then bitF 1 a b else if op = 12 then bitF 2 a b
  else if op = 13 then a * 2 ^ b % S else if op = 14 then a / 2 ^ b else if op = 15 then (if a = b then 1 else 0) else (if a < b then 1 else 0)
theorem opN_lt {W a b : Nat} (op : Int) (hW : 1 ≤ W) (h : a < 2 ^ W) (h' : b < 2 ^ W) : opN (2 ^ W) op a b < 2 ^ W := by
  have h2 : 2 ^ 1 ≤ 2 ^ W := Nat.pow_le_pow_right (by omega) hW
  have h0 : 0 < 2 ^ W := by omega
  unfold opN
  by_cases k3 : op = 3
  · rw [if_pos k3]
    omega
  rw [if_neg k3]
  by_cases k4 : op = 4
  · rw [if_pos k4]
    exact Nat.mod_lt _ h0
  rw [if_neg k4]
  by_cases k5 : op = 5
  · rw [if_pos k5]
    exact Nat.mod_lt _ h0
  rw [if_neg k5]
  by_cases k6 : op = 6
  · rw [if_pos k6]
    exact Nat.mod_lt _ h0
  rw [if_neg k6]
  by_cases k7 : op = 7
  · rw [if_pos k7]
    exact Nat.mod_lt _ h0
  rw [if_neg k7]
  by_cases k8 : op = 8
  · rw [if_pos k8]
    exact Nat.lt_of_le_of_lt (Nat.div_le_self _ _) h
  rw [if_neg k8]
  by_cases k9 : op = 9
  · rw [if_pos k9]
    by_cases hb : b = 0
    · rw [if_pos hb]; exact h0
    · rw [if_neg hb]; exact Nat.lt_of_le_of_lt (Nat.mod_le _ _) h
  rw [if_neg k9]
  by_cases k10 : op = 10
  · rw [if_pos k10]
    exact bitF_lt _ h h'
  rw [if_neg k10]
  by_cases k11 : op = 11
  · rw [if_pos k11]
    exact bitF_lt _ h h'
  rw [if_neg k11]
  by_cases k12 : op = 12
  · rw [if_pos k12]
    exact bitF_lt _ h h'
  rw [if_neg k12]
  by_cases k13 : op = 13
  · rw [if_pos k13]
    exact Nat.mod_lt _ h0
  rw [if_neg k13]
  by_cases k14 : op = 14
  · rw [if_pos k14]
    exact Nat.lt_of_le_of_lt (Nat.div_le_self _ _) h
  rw [if_neg k14]
  by_cases k15 : op = 15
  · rw [if_pos k15]
    by_cases hb : a = b
    · rw [if_pos hb]; omega
    · rw [if_neg hb]; exact h0
  rw [if_neg k15]
  by_cases hb : a < b
  · rw [if_pos hb]; omega
  · rw [if_neg hb]; exact h0

/-- The value that a Term makes, and its trap, of a stack of values. -/
def valT (S : Nat) (V : List Int) (C : List (List Int)) (t : Tm) (inn : List Nat) : Nat × Int :=
  if t.1 = 0 then (t.2.toNat, 0) else if t.1 = 1 then ((V.getD t.2.toNat 0).toNat, 0)
  else if t.1 = 2 then (if inn.getD 0 0 < (C.getD t.2.toNat []).length then (((C.getD t.2.toNat []).getD (inn.getD 0 0) 0).toNat, 0) else (0, 2))
  else if t.1 = 17 then ((if inn.getD 0 0 = 0 then inn.getD 2 0 else inn.getD 1 0), 0)
  else if t.1 = 3 ∨ t.1 = 4 then (opN S t.1 (inn.getD 0 0) 0, 0)
  else (opN S t.1 (inn.getD 0 0) (inn.getD 1 0), if inn.getD 1 0 = 0 ∧ (t.1 = 8 ∨ t.1 = 9) then 1 else 0)
def innS (st : List Nat) (t : Tm) : List Nat := st.drop (st.length - (takesI t.1).toNat)
def stepV (S : Nat) (V : List Int) (C : List (List Int)) (st : List Nat) (t : Tm) : List Nat := st.take (st.length - (takesI t.1).toNat) ++ [(valT S V C t (innS st t)).1]
def stkV (S : Nat) (V : List Int) (C : List (List Int)) (ts : List Tm) : List Nat := ts.foldl (stepV S V C) []
theorem stkV_snoc (S : Nat) (V : List Int) (C : List (List Int)) (ts : List Tm) (t : Tm) : stkV S V C (ts ++ [t]) = stepV S V C (stkV S V C ts) t := by simp [stkV]
theorem stkV_succ (S : Nat) (V : List Int) (C : List (List Int)) (ts : List Tm) (k : Nat) (h : k < ts.length) : stkV S V C (ts.take (k + 1)) = stepV S V C (stkV S V C (ts.take k)) (tmAt ts k) := by rw [tm_snoc ts k h, stkV_snoc]
/-- The trap of the Term at k. -/
def badV (S : Nat) (V : List Int) (C : List (List Int)) (ts : List Tm) (k : Nat) : Int := (valT S V C (tmAt ts k) (innS (stkV S V C (ts.take k)) (tmAt ts k))).2
/-- The first trap among the first k Terms. -/
def trapV (S : Nat) (V : List Int) (C : List (List Int)) (ts : List Tm) : Nat → Int
  | 0 => 0
  | k + 1 => if trapV S V C ts k = 0 then badV S V C ts k else trapV S V C ts k
theorem trapV_on {S : Nat} {V : List Int} {C : List (List Int)} {ts : List Tm} {k : Nat} (h : trapV S V C ts k ≠ 0) : ∀ m, k ≤ m → trapV S V C ts m = trapV S V C ts k := by
  intro m hm
  induction m with
  | zero => have : k = 0 := by omega
            subst this; rfl
  | succ m ih =>
    rcases Nat.lt_or_ge m k with hlt | hge
    · have : k = m + 1 := by omega
      subst this; rfl
    · have e := ih hge
      rw [trapV, if_neg (by rw [e]; exact h), e]
/-- The values of an environment are from 0 to below S. -/
def valsB (S : Nat) (V : List Int) : Bool := V.all (fun z => decide (0 ≤ z) && decide (z < (S : Int)))
def InEnv (S : Nat) (V : List Int) (C : List (List Int)) : Prop := (∀ z ∈ V, 0 ≤ z ∧ z < (S : Int)) ∧ ∀ cs ∈ C, ∀ z ∈ cs, 0 ≤ z ∧ z < (S : Int)
theorem getD_in {S : Nat} (hS : 0 < S) {V : List Int} (h : ∀ z ∈ V, 0 ≤ z ∧ z < (S : Int)) (i : Nat) : 0 ≤ V.getD i 0 ∧ V.getD i 0 < (S : Int) := by
  rw [List.getD_eq_getElem?_getD]
  rcases Nat.lt_or_ge i V.length with hlt | hge
  · rw [List.getElem?_eq_getElem hlt]; exact h _ (List.getElem_mem hlt)
  · rw [List.getElem?_eq_none hge]; simp; omega
theorem getD_cells {S : Nat} {C : List (List Int)} (h : ∀ cs ∈ C, ∀ z ∈ cs, 0 ≤ z ∧ z < (S : Int)) (i : Nat) : ∀ z ∈ C.getD i [], 0 ≤ z ∧ z < (S : Int) := by
  rw [List.getD_eq_getElem?_getD]
  rcases Nat.lt_or_ge i C.length with hlt | hge
  · rw [List.getElem?_eq_getElem hlt]; exact h _ (List.getElem_mem hlt)
  · rw [List.getElem?_eq_none hge]; simp
theorem getD_nat {S : Nat} (hS : 0 < S) {st : List Nat} (h : ∀ x ∈ st, x < S) (i : Nat) : st.getD i 0 < S := by
  rw [List.getD_eq_getElem?_getD]
  rcases Nat.lt_or_ge i st.length with hlt | hge
  · rw [List.getElem?_eq_getElem hlt]; exact h _ (List.getElem_mem hlt)
  · rw [List.getElem?_eq_none hge]; simpa using hS
theorem valT_lt {W : Nat} (hW : 1 ≤ W) {V : List Int} {C : List (List Int)} (he : InEnv (2 ^ W) V C) {t : Tm} (ht : t.1 = 0 → t.2 < ((2 ^ W : Nat) : Int)) {inn : List Nat} (hi : ∀ x ∈ inn, x < 2 ^ W) : (valT (2 ^ W) V C t inn).1 < 2 ^ W := by
  have h0 : 0 < 2 ^ W := Nat.pow_pos (by omega)
  have g := getD_nat h0 hi
  unfold valT
  split
  · rename_i e; have := ht e; simp only []; omega
  split
  · have := getD_in h0 he.1 t.2.toNat; simp only []; omega
  split
  · split
    · have := getD_in h0 (getD_cells he.2 t.2.toNat) (inn.getD 0 0); simp only []; omega
    · exact h0
  split
  · simp only []; split
    · exact g 2
    · exact g 1
  split
  · exact opN_lt _ hW (g 0) h0
  · exact opN_lt _ hW (g 0) (g 1)
theorem innS_mem {st : List Nat} {t : Tm} {x : Nat} (h : x ∈ innS st t) : x ∈ st := List.mem_of_mem_drop h
theorem stepV_lt {W : Nat} (hW : 1 ≤ W) {V : List Int} {C : List (List Int)} (he : InEnv (2 ^ W) V C) {t : Tm} (ht : t.1 = 0 → t.2 < ((2 ^ W : Nat) : Int)) {st : List Nat} (hi : ∀ x ∈ st, x < 2 ^ W) : ∀ x ∈ stepV (2 ^ W) V C st t, x < 2 ^ W := by
  intro x hx
  rw [stepV, List.mem_append] at hx
  rcases hx with hx | hx
  · exact hi x (List.mem_of_mem_take hx)
  · rw [List.mem_singleton] at hx
    rw [hx]
    exact valT_lt hW he ht (fun y hy => hi y (innS_mem hy))
/-- The stack is as high as the depth tells. -/
theorem stkV_len (S : Nat) (V : List Int) (C : List (List Int)) (ts : List Tm) {x : Int} (h : runD 0 ts = some x) : ∀ k, k ≤ ts.length → ∃ d : Int, runD 0 (ts.take k) = some d ∧ ((stkV S V C (ts.take k)).length : Int) = d := by
  intro k
  induction k with
  | zero => intro _; exact ⟨0, rfl, rfl⟩
  | succ k ih =>
    intro hk
    obtain ⟨d, hd, hl⟩ := ih (by omega)
    obtain ⟨ho, ht, hs⟩ := runD_at h (by omega : k < ts.length) hd
    refine ⟨_, hs, ?_⟩
    rw [stkV_succ _ _ _ _ _ (by omega), stepV]
    have := (tOkB_iff _).1 ho
    simp only [List.length_append, List.length_take, List.length_singleton]
    omega
end Go.Proofs.Ytmooecbdpfhnlaa
/- Words for environments (two cells: a slice of numbers, a slice of slices of numbers); the contracts of the model's l5Values and EnvOk. -/
namespace Go.Proofs.Ytmooecbdpfhnlaa
open Go.RowKit

structure Envr where
  vars : List Int
  cells : List (List Int)
deriving DecidableEq
structure ERow where
  vars : Sl
  cells : Sl
  rows : List Sl
def envV (r : ERow) : Value := .agg #[slV r.vars, slV r.cells]
def intsAt (css : List (List Int)) (i : Nat) : List Int := css.getD i []
/-- The slice '.slice a n c' of slices of numbers reads az css; rs are its slices. -/
def IntsSS (w : World) (a : Option Addr) (n : Nat) (rs : List Sl) (css : List (List Int)) : Prop :=
  rs.length = n ∧ css.length = n ∧ n ≤ 1048576 ∧ (0 < n → ∃ b o, a = some ⟨b, o, none⟩ ∧ b < w.heap.size ∧ ∀ i, i < n → w.cell? ⟨b, o + i, none⟩ = some (slV (slAt rs i))) ∧
  ∀ i, i < n → Ints w (slAt rs i).1 (slAt rs i).2.1 (intsAt css i)
theorem IntsSS.at_ {w : World} {a : Option Addr} {n : Nat} {rs : List Sl} {css : List (List Int)} (h : IntsSS w a n rs css) {k : Nat} (hk : k < n) :
    ∃ b o a1 n1 c1, a = some ⟨b, o, none⟩ ∧ b < w.heap.size ∧ Hid (slAt rs k = (a1, n1, c1)) ∧ w.cell? ⟨b, o + k, none⟩ = some (.slice a1 n1 c1) ∧ Ints w a1 n1 (intsAt css k) := by
  obtain ⟨_, _, _, h3, h4⟩ := h
  obtain ⟨b, o, rfl, hb, hc⟩ := h3 (by omega)
  exact ⟨b, o, _, _, _, rfl, hb, rfl, hc k hk, h4 k hk⟩
theorem IntsSS.below {w w' : World} {a : Option Addr} {n : Nat} {rs : List Sl} {css : List (List Int)} (h : IntsSS w a n rs css) (hb : Below w.heap.size w w') : IntsSS w' a n rs css := by
  obtain ⟨h1, h2, h0, h3, h4⟩ := h
  refine ⟨h1, h2, h0, fun hp => ?_, fun i hi => (h4 i hi).below hb⟩
  obtain ⟨b, o, rfl, hbl, hc⟩ := h3 hp
  exact ⟨b, o, rfl, Nat.lt_of_lt_of_le hbl hb.size, fun i hi => (hb.cell hbl).trans (hc i hi)⟩
structure EnvAt (w : World) (r : ERow) (v : Envr) : Prop where
  vars : Ints w r.vars.1 r.vars.2.1 v.vars
  cells : IntsSS w r.cells.1 r.cells.2.1 r.rows v.cells
theorem EnvAt.below {w w' : World} {r : ERow} {v : Envr} (h : EnvAt w r v) (hb : Below w.heap.size w w') : EnvAt w' r v := ⟨h.vars.below hb, h.cells.below hb⟩

def valB (S : Nat) (m : Int) (zs : List Int) : Bool := decide ((zs.length : Int) = m) && valsB S zs
def cellsB (S : Nat) (az : List Int) (css : List (List Int)) : Bool := (List.range css.length).all (fun i => valB S (az.getD i 0) (intsAt css i))
/-- What EnvOk answers. -/
noncomputable def envB (p : Prg) (v : Envr) : Bool :=
  ((codeB p == 0) && valB (2 ^ p.width.toNat) ((p.lows.length : Int) + (p.secrets.length : Int) + p.temps) v.vars) && (decide (v.cells.length = p.arrays.length) && cellsB (2 ^ p.width.toNat) p.arrays v.cells)

def okZ (S : Nat) (z : Int) : Bool := decide (0 ≤ z) && decide (z < (S : Int))
def AllI (f : Int → Bool) (zs : List Int) (k : Nat) : Prop := ∀ i, i < k → f (zs.getD i 0) = true
theorem AllI.zero (f : Int → Bool) (zs : List Int) : AllI f zs 0 := fun i hi => absurd hi (by omega)
theorem AllI.succ {f : Int → Bool} {zs : List Int} {k : Nat} {z : Int} (h : AllI f zs k) (hz : Hid (z = zs.getD k 0)) (ht : f z = true) : AllI f zs (k + 1) := by
  intro i hi
  rcases Nat.lt_or_ge i k with hlt | hge
  · exact h i hlt
  · have : i = k := by omega
    subst this; rw [← hz.out]; exact ht
theorem allI_all {S : Nat} {zs : List Int} (h : AllI (okZ S) zs zs.length) : valsB S zs = true := by
  unfold valsB
  rw [List.all_eq_true]
  intro z hz
  obtain ⟨i, hi, rfl⟩ := List.getElem_of_mem hz
  have := h i hi
  rw [List.getD_eq_getElem?_getD, List.getElem?_eq_getElem hi] at this
  exact this
theorem allI_bad {S : Nat} {zs : List Int} {k : Nat} {z : Int} (hk : k < zs.length) (hz : Hid (z = zs.getD k 0)) (ht : okZ S z = false) : valsB S zs = false := by
  rw [← Bool.not_eq_true]
  unfold valsB
  rw [List.all_eq_true]
  intro h
  have := h _ (getD_mem hk)
  rw [← hz.out] at this
  have e : okZ S z = true := this
  rw [ht] at e
  exact absurd e (by simp)
def AllC (S : Nat) (az : List Int) (css : List (List Int)) (k : Nat) : Prop := ∀ i, i < k → valB S (az.getD i 0) (intsAt css i) = true
theorem AllC.succ {S : Nat} {az : List Int} {css : List (List Int)} {k : Nat} {z : Int} (h : AllC S az css k) (hz : Hid (z = az.getD k 0)) (ht : valB S z (intsAt css k) = true) : AllC S az css (k + 1) := by
  intro i hi
  rcases Nat.lt_or_ge i k with hlt | hge
  · exact h i hlt
  · have : i = k := by omega
    subst this; rw [← hz.out]; exact ht
theorem allC_all {S : Nat} {az : List Int} {css : List (List Int)} (h : AllC S az css css.length) : cellsB S az css = true := by
  unfold cellsB
  rw [List.all_eq_true]
  intro i hi
  exact h i (List.mem_range.1 hi)
theorem allC_bad {S : Nat} {az : List Int} {css : List (List Int)} {k : Nat} {z : Int} (hk : k < css.length) (hz : Hid (z = az.getD k 0)) (ht : valB S z (intsAt css k) = false) : cellsB S az css = false := by
  rw [← Bool.not_eq_true]
  unfold cellsB
  rw [List.all_eq_true]
  intro h
  have := h k (List.mem_range.2 hk)
  rw [← hz.out, ht] at this
  exact absurd this (by simp)

structure VBox (w wi : World) (c0 c1 : List Value) : Prop where
  prg : Blk wi w.heap.size 28 c0
  env : Blk wi (w.heap.size + 1) 53 c1
  bel : Below w.heap.size w wi
theorem VBox.below {w wi wj : World} {c0 c1 : List Value} (h : VBox w wi c0 c1) (hb : Below wi.heap.size wi wj) : VBox w wj c0 c1 :=
  ⟨h.prg.below hb h.prg.lt, h.env.below hb h.env.lt, h.bel.trans (hb.mono h.bel.size)⟩
theorem vbox_new (w : World) (c0 c1 : List Value) : VBox w ((w.alloc (.cells c0.toArray 28)).alloc (.cells c1.toArray 53)) c0 c1 :=
  ⟨(Blk.new w _ _).alloc _, by simpa using Blk.new (w.alloc _) 53 c1, ((Below.refl _ _).alloc (Nat.le_refl _) _).alloc (by simp) _⟩
end Go.Proofs.Ytmooecbdpfhnlaa
/- The laws' own helpers on environments: toInt64SS, toEnv, eqInt64SS, eqEnv; what szInt64SS, szEnv answer; what an argument that is an environment is. -/
namespace Go.Proofs.Ytmooecbdpfhnlaa
open Go.RowKit Go.ChangeShapes Go.WideShapes

/-- A slice of slices of numbers of the call's own, from block B on. -/
def OwnIS (w : World) (B : Nat) (a : Option Addr) (n c : Nat) (rs : List Sl) (css : List (List Int)) : Prop :=
  w.ownsRow B 25 1 (.slice a n c) n (rs.map slV) ∧ n ≤ 1048576 ∧ css.length = n ∧ ∀ i, i < n → Own w B (slAt rs i).1 (slAt rs i).2.1 (slAt rs i).2.2 (intsAt css i)
section
variable {w w' : World} {B : Nat} {a : Option Addr} {n c : Nat} {rs : List Sl} {css : List (List Int)}
theorem OwnIS.len (h : OwnIS w B a n c rs css) : rs.length = n := by have := h.1.1; simpa using this
theorem OwnIS.reads (h : OwnIS w B a n c rs css) : IntsSS w a n rs css := by
  have hlen := h.len
  obtain ⟨ho, hn, ht, hi⟩ := h
  refine ⟨hlen, ht, hn, fun hp => ?_, fun i h' => (hi i h').ints⟩
  rcases ho.2 with ⟨_, h0⟩ | ⟨g, cap, cur, e, _, hh, _⟩
  · exact absurd hp (by omega)
  · have ea : a = some ⟨g, 0, none⟩ := by injection e
    subst ea
    refine ⟨g, 0, rfl, (ho.lt g rfl).2, fun i h' => ?_⟩
    rw [Nat.zero_add, ho.cellAt i (by omega)]
    simp [slAt, List.getD_eq_getElem?_getD, List.getElem?_eq_getElem (show i < rs.length by omega)]
theorem OwnIS.below (h : OwnIS w B a n c rs css) (hb : Below w.heap.size w w') : OwnIS w' B a n c rs css :=
  ⟨h.1.kept (row := none) ⟨hb.os, hb.tape, hb.output, hb.size, fun k hk _ => hb.block k hk⟩ (by cases a <;> simp [Value.ownBlock]), h.2.1, h.2.2.1, fun i hi => (h.2.2.2 i hi).below hb⟩
theorem OwnIS.set (h : OwnIS w B a n c rs css) {b j : Nat} (hb : b < B) (v : Value) : OwnIS (w.setCell ⟨b, j, none⟩ v) B a n c rs css := by
  refine ⟨h.1.kept (grown_set _ _ _ _) ?_, h.2.1, h.2.2.1, fun i hi => (h.2.2.2 i hi).set hb v⟩
  cases hv : (Value.slice a n c).ownBlock with
  | none => exact .inl rfl
  | some g =>
    refine .inr fun e => ?_
    have := (h.1.lt g hv).1
    injection e with e
    omega
end
theorem info_ints : (Try.prog.info? 25).map (fun i => (i.zero, i.size, i.bytes)) = some (some (.slice none 0 0), 1, 24) := by kernel_rfl
/-- The first rows qs, empty ones behind. -/
def CopyR (qs : List Sl) (n : Nat) : List Sl := qs ++ List.replicate (n - qs.length) (none, 0, 0)
def RowsI (w : World) (B : Nat) (qs : List Sl) (css : List (List Int)) : Prop := ∀ i, i < qs.length → Own w B (slAt qs i).1 (slAt qs i).2.1 (slAt qs i).2.2 (intsAt css i)
theorem RowsI.succ {w w' : World} {B : Nat} {qs : List Sl} {css : List (List Int)} {r : Sl} (h : RowsI w B qs css) (hb : Below w.heap.size w w') (hr : Own w' w.heap.size r.1 r.2.1 r.2.2 (intsAt css qs.length)) (hB : B ≤ w.heap.size) : RowsI w' B (qs ++ [r]) css := by
  intro i hi
  rcases Nat.lt_or_ge i qs.length with hlt | hge
  · rw [show slAt (qs ++ [r]) i = slAt qs i from getD_left _ _ _ _ hlt]
    exact (h i hlt).below hb
  · have e : i = qs.length := by simp at hi; omega
    subst e
    rw [show slAt (qs ++ [r]) qs.length = r from getD_last _ _ _ _ rfl]
    exact hr.base hB
theorem RowsI.set {w : World} {B : Nat} {qs : List Sl} {css : List (List Int)} (h : RowsI w B qs css) {b j : Nat} (hb : b < B) (v : Value) : RowsI (w.setCell ⟨b, j, none⟩ v) B qs css := fun i hi => (h i hi).set hb v
def MadeIS (w : World) (css : List (List Int)) (e : Ending) (w' : World) : Prop := ∃ a n c rs, e = .returned (.slice a n c) ∧ OwnIS w' w.heap.size a n c rs css ∧ Below w.heap.size w w'

end Go.Proofs.Ytmooecbdpfhnlaa
/- Plain mathematics of lists of limbs in base 10000: their value, the one list of a number, sums of limbs. No Go text here. -/
namespace Go.Proofs.Ytmooecbdpfhnlaa
open Go.RowKit

/-- The value of a list of limbs, the lowest first. -/
def val : List Int → Nat
  | [] => 0
  | z :: r => z.toNat + 10000 * val r

/-- The limbs of a number (with fuel). -/
def toLF : Nat → Nat → List Int
  | 0, _ => []
  | f + 1, n => if n = 0 then [] else ((n % 10000 : Nat) : Int) :: toLF f (n / 10000)
def toL (n : Nat) : List Int := toLF n n

/-- All limbs are limbs. -/
def Good (l : List Int) : Prop := ∀ z ∈ l, 0 ≤ z ∧ z ≤ 9999
theorem Good.to {l : List Int} (h : Good l) : GoodTo l l.length := fun _ hi => h _ (getD_mem hi)
theorem Good.getD {l : List Int} (h : Good l) (i : Nat) : 0 ≤ l.getD i 0 ∧ l.getD i 0 ≤ 9999 := by
  by_cases hi : i < l.length
  · exact h _ (getD_mem hi)
  · rw [List.getD_eq_getElem?_getD, List.getElem?_eq_none (by omega)]; simp
theorem Good.take {l : List Int} (h : Good l) (k : Nat) : Good (l.take k) := fun z hz => h z (List.mem_of_mem_take hz)
theorem Good.snoc {l : List Int} {z : Int} (h : Good l) (h0 : 0 ≤ z) (h1 : z ≤ 9999) : Good (l ++ [z]) := by
  intro x hx
  rcases List.mem_append.1 hx with h' | h'
  · exact h x h'
  · rw [List.mem_singleton] at h'; subst h'; exact ⟨h0, h1⟩

/-- No nought at the end. -/
def Tight (l : List Int) : Prop := 0 < l.length → l.getD (l.length - 1) 0 ≠ 0
/-! ### The value of what is put together -/
/-- How long a list is without noughts at its end. -/
def trimLen (l : List Int) : Nat → Nat
  | 0 => 0
  | n + 1 => if l.getD n 0 = 0 then trimLen l n else n + 1
end Go.Proofs.Ytmooecbdpfhnlaa
/- The contracts of the functions that compare great numbers. -/
namespace Go.Proofs.Ytmooecbdpfhnlaa
open Go.RowKit

/-- -1, 0 or 1. -/
def cmpI (x y : Int) : Int := if x < y then -1 else if y < x then 1 else 0
/-! ### What the limbs say of the values -/
/-- From place k on they are alike. -/
def EqFrom (xs ys : List Int) (k : Nat) : Prop := ∀ i, k ≤ i → xs.getD i 0 = ys.getD i 0
/-- What CmpNat answers. -/
def cmpB (xs ys : List Int) : Int := if okB xs = true ∧ okB ys = true then cmpI (val xs) (val ys) else 2

end Go.Proofs.Ytmooecbdpfhnlaa
/- Laws for the walk over Try.prog: 'append' of one number to a row of the call's own; an empty row; a cut row. -/
namespace Go.Proofs.Ytmooecbdpfhnlaa
open Go.RowKit

theorem info_i64 : (Try.prog.info? 2).map (fun i => (i.zero, i.size, i.bytes)) = some (some (.int .i64 0), 1, 8) := by kernel_rfl

theorem Own.alloc {w : World} {B : Nat} {a : Option Addr} {n c : Nat} {zs : List Int} (h : Own w B a n c zs) (o : Obj) : Own (w.alloc o) B a n c zs := ⟨h.1.alloc o, h.2⟩
theorem own_nil (w : World) (B : Nat) : Own w B none 0 0 [] := ⟨World.ownsRow_nil _ _ _ _, by omega, fun z hz => by simp at hz⟩
theorem own_empty (w : World) (B : Nat) (hB : B ≤ w.heap.size) : Own (w.alloc (.cells #[] 2)) B (some ⟨w.heap.size, 0, none⟩) 0 0 [] :=
  ⟨World.ownsRow_lit w #[] 0 hB (by unfold maxLen; omega) rfl, by omega, fun z hz => by simp at hz⟩
/-- The first k numbers of a row of the call's own are such a row. -/
theorem Own.cut {w : World} {B : Nat} {a : Option Addr} {n c k : Nat} {zs : List Int} (h : Own w B a n c zs) (hk : k ≤ n) : Own w B a k c (zs.take k) := by
  have hl := h.len
  obtain ⟨⟨h1, h2⟩, hn, hin⟩ := h
  refine ⟨⟨by simp; omega, ?_⟩, by omega, fun z hz => hin z (List.mem_of_mem_take hz)⟩
  rcases h2 with ⟨e, h0⟩ | ⟨g, cap, cur, e, hb, hg, hnc, hcm, hcs, ht⟩
  · have : k = 0 := by omega
    subst this
    injection e with e1 e2 e3
    subst e1 e3
    exact .inl ⟨rfl, rfl⟩
  · injection e with e1 e2 e3
    subst e1 e3
    refine .inr ⟨g, c, cur, rfl, hb, hg, by omega, hcm, hcs, ?_⟩
    rw [List.map_take, ← ht, List.take_take, Nat.mul_one, Nat.mul_one, Nat.min_eq_left hk]

theorem wpList_push {ops : Array Oper} {rest : List Oper} {o : Oper} {ac : Act} {Q : Exit → Act → World → Prop} (w : World) (hgd : o.guard = none) (s x : Operand)
    (ho : o.op = .call { callee := .builtin .append, args := #[s, x], argTypes := #[25, 25] })
    (B : Nat) (a : Option Addr) (n c : Nat) (zs : List Int) (hs : ac.eval s = .slice a n c) (hown : Own w B a n c zs)
    (g : Nat) (z : Int) (hx : ac.eval x = .slice (some ⟨g, 0, none⟩) 1 1) (hc : w.cell? ⟨g, 0, none⟩ = some (.int .i64 z)) (hz : In64 z) (hn : n < 1048576) (hB : B ≤ w.heap.size)
    (h : ∀ a1 c1 w', Own w' B a1 (n + 1) c1 (zs ++ [z]) → w.grownBy w' (Value.slice a n c).ownBlock → wpList Try.prog ops Q rest (ac.put o.dst (.slice a1 (n + 1) c1)) w') : wpList Try.prog ops Q (o :: rest) ac w := by
  obtain ⟨i0, hi, hz0, hz1, hz2⟩ := info_parts info_i64
  refine wpList_append_own w hgd s x 25 ho B 2 i0 (.int .i64 0) 1 8 Try.underlying25 hi hz0 hz1 hz2 rfl (by omega) (.slice a n c) n (zs.map (Value.int .i64)) hs hown.1
    ⟨g, 0, none⟩ 1 1 [.int .i64 z] hx rfl ?_ ?_ ?_ ?_ hB ?_
  · intro j u hj
    match j, hj with
    | 0, hj => simp at hj; subst hj; simpa [Addr.add] using hc
  · intro u hu; simp at hu; subst hu; rfl
  · unfold maxLen; omega
  · omega
  · intro v' w' h1 h2 _
    have hf : ∃ a1 c1, v' = .slice a1 (n + 1) c1 := by
      rcases h1.2 with ⟨_, h0⟩ | ⟨g', cap, cur, e, _⟩
      · omega
      · exact ⟨_, _, e⟩
    obtain ⟨a1, c1, rfl⟩ := hf
    refine h a1 c1 w' ⟨by simpa using h1, by omega, fun y hy => ?_⟩ h2
    rcases List.mem_append.1 hy with hy | hy
    · exact hown.2.2 y hy
    · rw [List.mem_singleton] at hy; subst hy; exact hz

/-- Behind such an append: what lies below B is as it was. -/
theorem below_push {w0 w w' : World} {B : Nat} {a : Option Addr} {n c : Nat} {zs : List Int} (hb : Below B w0 w) (hown : Own w B a n c zs) (hB : B ≤ w.heap.size) (hg : w.grownBy w' (Value.slice a n c).ownBlock) : Below B w0 w' :=
  hb.grown hg hB (fun k hk => (hown.block k hk).1)

theorem Own.cap {w : World} {B : Nat} {a : Option Addr} {n c : Nat} {zs : List Int} (h : Own w B a n c zs) : n ≤ c := by
  rcases h.1.2 with ⟨e, h0⟩ | ⟨g, cap, cur, e, hb, hg, hnc, _⟩
  · omega
  · injection e with e1 e2 e3
    omega

end Go.Proofs.Ytmooecbdpfhnlaa
