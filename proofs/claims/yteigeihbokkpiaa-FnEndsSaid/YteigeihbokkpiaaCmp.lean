/- The contracts of the functions that compare great numbers. -/
import Derived.Test.YteigeihbokkpiaaNatOk
import Derived.Test.YteigeihbokkpiaaMath
namespace Go.Proofs.Yteigeihbokkpiaa
open Go.RowKit

/-- -1, 0 or 1. -/
def cmpI (x y : Int) : Int := if x < y then -1 else if y < x then 1 else 0
theorem cmpI_lt {x y : Int} (h : x < y) : cmpI x y = -1 := by unfold cmpI; rw [if_pos h]
theorem cmpI_gt {x y : Int} (h : y < x) : cmpI x y = 1 := by unfold cmpI; rw [if_neg (by omega), if_pos h]
theorem cmpI_eq (x : Int) : cmpI x x = 0 := by unfold cmpI; rw [if_neg (by omega), if_neg (by omega)]

/-! ### What the limbs say of the values -/
theorem val_ge {l : List Int} (hg : Good l) (ht : Tight l) (hp : 0 < l.length) : 10000 ^ (l.length - 1) ≤ val l := by
  have e : l = l.take (l.length - 1) ++ [l.getD (l.length - 1) 0] := by
    have := take_snoc' l (l.length - 1) (by omega)
    rw [Nat.sub_add_cancel hp, List.take_length] at this
    exact this
  have h1 := ht hp
  have h2 := (hg.getD (l.length - 1)).1
  have hv : val l = val (l.take (l.length - 1)) + 10000 ^ (l.length - 1) * (l.getD (l.length - 1) 0).toNat := by
    have := val_take_succ l (l.length - 1)
    rw [Nat.sub_add_cancel hp, List.take_length] at this
    exact this
  rw [hv]
  have h3 : 1 ≤ (l.getD (l.length - 1) 0).toNat := by omega
  have := Nat.mul_le_mul_left (10000 ^ (l.length - 1)) h3
  omega
theorem val_lt_of_len {a b : List Int} (ga : Good a) (gb : Good b) (tb : Tight b) (h : a.length < b.length) : val a < val b := by
  have h1 := val_lt ga
  have h2 := val_ge gb tb (by omega)
  have h3 : 10000 ^ a.length ≤ 10000 ^ (b.length - 1) := Nat.pow_le_pow_right (by omega) (by omega)
  omega
/-- From place k on they are alike. -/
def EqFrom (xs ys : List Int) (k : Nat) : Prop := ∀ i, k ≤ i → xs.getD i 0 = ys.getD i 0
theorem EqFrom.pred {xs ys : List Int} {k : Nat} {x y : Int} (h : EqFrom xs ys k) (hp : 0 < k) (hx : Hid (x = xs.getD (k - 1) 0)) (hy : Hid (y = ys.getD (k - 1) 0)) (e : x = y) : EqFrom xs ys (k - 1) := by
  intro i hi
  rcases Nat.lt_or_ge i k with hlt | hge
  · have : i = k - 1 := by omega
    subst this; rw [← hx.out, ← hy.out]; exact e
  · exact h i hge
theorem eqFrom_end {xs ys : List Int} {n : Nat} (hx : xs.length ≤ n) (hy : ys.length ≤ n) : EqFrom xs ys n := by
  intro i hi
  rw [List.getD_eq_getElem?_getD, List.getD_eq_getElem?_getD, List.getElem?_eq_none (by omega), List.getElem?_eq_none (by omega)]
theorem val_split (l : List Int) (k : Nat) : val l = val (l.take k) + 10000 ^ k * val (l.drop k) := by
  by_cases h : k ≤ l.length
  · have := val_append (l.take k) (l.drop k)
    rw [List.take_append_drop, List.length_take, Nat.min_eq_left h] at this
    exact this
  · rw [List.take_of_length_le (by omega), List.drop_of_length_le (by omega)]; simp [val]
theorem val_congr {a b : List Int} (h : ∀ i, a.getD i 0 = b.getD i 0) : val a = val b := by
  induction a generalizing b with
  | nil =>
    induction b with
    | nil => rfl
    | cons y r ih =>
      have h0 := h 0
      simp at h0
      subst h0
      have := ih (fun i => by have := h (i + 1); simpa using this)
      simp only [val] at this ⊢; omega
  | cons x r ih =>
    cases b with
    | nil =>
      have h0 := h 0
      simp at h0
      subst h0
      have := ih (b := []) (fun i => by have := h (i + 1); simpa using this)
      simp only [val] at this ⊢; omega
    | cons y s =>
      have h0 := h 0
      simp at h0
      subst h0
      rw [val, val, ih (fun i => by have := h (i + 1); simpa using this)]
theorem drop_congr {xs ys : List Int} {k : Nat} (h : EqFrom xs ys k) : val (xs.drop k) = val (ys.drop k) := by
  apply val_congr
  intro i
  have := h (k + i) (by omega)
  simpa [List.getD_eq_getElem?_getD, List.getElem?_drop] using this
theorem val_lt_at {xs ys : List Int} {k : Nat} {x y : Int} (gx : Good xs) (hp : 0 < k) (h : EqFrom xs ys k) (hx : Hid (x = xs.getD (k - 1) 0)) (hy : Hid (y = ys.getD (k - 1) 0)) (hlt : x < y) : val xs < val ys := by
  rw [val_split xs k, val_split ys k, drop_congr h]
  have e : k - 1 + 1 = k := by omega
  have h1 := val_take_succ xs (k - 1)
  have h2 := val_take_succ ys (k - 1)
  rw [e] at h1 h2
  rw [h1, h2, ← hx.out, ← hy.out]
  have h3 : val (xs.take (k - 1)) < 10000 ^ (k - 1) := by
    have h4 := val_lt (gx.take (k - 1))
    have h5 : 10000 ^ (xs.take (k - 1)).length ≤ 10000 ^ (k - 1) := Nat.pow_le_pow_right (by omega) (by rw [List.length_take]; omega)
    omega
  have h6 := (gx.getD (k - 1)).1
  rw [← hx.out] at h6
  have h7 : x.toNat + 1 ≤ y.toNat := by omega
  have h8 := Nat.mul_le_mul_left (10000 ^ (k - 1)) h7
  rw [Nat.mul_add] at h8
  omega
theorem val_eq_at {xs ys : List Int} (h : EqFrom xs ys 0) : val xs = val ys := val_congr (fun i => h i (by omega))

/-- What CmpNat answers. -/
def cmpB (xs ys : List Int) : Int := if okB xs = true ∧ okB ys = true then cmpI (val xs) (val ys) else 2

end Go.Proofs.Yteigeihbokkpiaa
