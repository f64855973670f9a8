/- The contracts of the two functions AddNat. -/
import Derived.Test.YtnbeofnafdljhaaDoorAdd
namespace Go.Proofs.YtnbeofnafdljhaaDoor
open Go.RowKit

/-- What a function that makes a slice of numbers, and a yes or no, leaves. -/
def PairInts (w : World) (zs : List Int) (b : Bool) (e : Ending) (w' : World) : Prop :=
  ∃ a n c, e = .returned (.tuple #[.slice a n c, .bool b]) ∧ Own w' w.heap.size a n c zs ∧ Below w.heap.size w w'

/-- Is there an answer: are both right, and is v no greater than may be? -/
def fitB (xs ys : List Int) (v : Nat) : Bool := okB xs && okB ys && okB (toL v)
def fitL (xs ys : List Int) (v : Nat) : List Int := if fitB xs ys v then toL v else []

theorem ret_pair {v : Value} {b b' : Bool} (h : b = b') : Ending.returned (.tuple #[v, .bool b]) = .returned (.tuple #[v, .bool b']) := by rw [h]
theorem fit_no {xs ys : List Int} {v : Nat} (h : okB xs = false ∨ okB ys = false) : fitB xs ys v = false := by
  unfold fitB; rcases h with h | h <;> simp [h]
theorem fitL_no {xs ys : List Int} {v : Nat} (h : okB xs = false ∨ okB ys = false) : fitL xs ys v = [] := by
  unfold fitL; rw [fit_no h]; rfl
theorem fit_no3 {xs ys : List Int} {v : Nat} (h : okB (toL v) = false) : fitB xs ys v = false := by unfold fitB; simp [h]
theorem fitL_no3 {xs ys : List Int} {v : Nat} (h : okB (toL v) = false) : fitL xs ys v = [] := by unfold fitL; rw [fit_no3 h]; rfl
theorem fit_yes {xs ys : List Int} {v : Nat} (h1 : okB xs = true) (h2 : okB ys = true) (h3 : okB (toL v) = true) : fitB xs ys v = true := by unfold fitB; simp [h1, h2, h3]
theorem fitL_yes {xs ys : List Int} {v : Nat} (h1 : okB xs = true) (h2 : okB ys = true) (h3 : okB (toL v) = true) : fitL xs ys v = toL v := by unfold fitL; rw [fit_yes h1 h2 h3]; rfl

/-- The sums, limb by limb. -/
def sumTo (xs ys : List Int) (k : Nat) : List Int := (List.range k).map (fun i => xs.getD i 0 + ys.getD i 0)
theorem sumTo_succ {xs ys : List Int} {k : Nat} {x y : Int} (hx : Hid (x = xs.getD k 0)) (hy : Hid (y = ys.getD k 0)) : sumTo xs ys k ++ [x + y] = sumTo xs ys (k + 1) := by
  unfold sumTo; rw [List.range_succ, List.map_append, hx.out, hy.out]; rfl
theorem sumTo_upto {xs ys : List Int} (gx : Good xs) (gy : Good ys) (k : Nat) : Upto ((19998 : Nat) : Int) (sumTo xs ys k) := by
  intro z hz
  obtain ⟨i, _, rfl⟩ := List.mem_map.1 hz
  have h1 := gx.getD i
  have h2 := gy.getD i
  exact ⟨by omega, by omega⟩
theorem sumTo_val {xs ys : List Int} (gx : Good xs) (gy : Good ys) (k : Nat) : val (sumTo xs ys k) = val (xs.take k) + val (ys.take k) := by
  induction k with
  | zero => simp [sumTo, val]
  | succ k ih =>
    have h1 := gx.getD k
    have h2 := gy.getD k
    have hl : (sumTo xs ys k).length = k := by simp [sumTo]
    rw [← sumTo_succ rfl rfl, val_snoc, ih, val_take_succ, val_take_succ, hl, Int.toNat_add h1.1 h2.1, Nat.mul_add]; omega

end Go.Proofs.YtnbeofnafdljhaaDoor
