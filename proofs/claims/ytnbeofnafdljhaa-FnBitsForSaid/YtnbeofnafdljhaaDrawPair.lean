/- The contracts of the model's draws of two great numbers, of one for BitsFor; of the laws' own small helpers. -/
import Derived.Test.YtnbeofnafdljhaaDrawNat
import Derived.Test.YtnbeofnafdljhaaBits
import Derived.Test.YtnbeofnafdljhaaCopies
namespace Go.Proofs.Ytnbeofnafdljhaa
open Go.RowKit

/-- Two lists of numbers were drawn. -/
def DrewPair (w : World) (e : Ending) (w' : World) : Prop :=
  ∃ a n c xs b m d ys, e = .returned (.tuple #[.slice a n c, .slice b m d]) ∧ n ≤ 102 ∧ m ≤ 102 ∧ Ints w' a n xs ∧ Ints w' b m ys ∧ Below w.heap.size w w'
def DrewOne (w : World) (e : Ending) (w' : World) : Prop :=
  ∃ a n c xs, e = .returned (.slice a n c) ∧ Ints w' a n xs ∧ Below w.heap.size w w'

theorem below_cur {w w1 w2 : World} {p : Nat} (hb : Below w.heap.size w w1) (hp : w.heap.size ≤ p) (hg : w1.grownBy w2 (some p)) : Below w.heap.size w w2 :=
  hb.grown hg hb.size (fun k e => by cases e; exact hp)

set_option maxHeartbeats 400000 in
theorem drawAddNat_any (a : Option Addr) (n c : Nat) (w : World) (h : CodeAt w w.heap.size a n) : Calls Try.prog 15 #[.slice a n c] w (DrewPair w) := by
  go_enter Try.func15, Try.ntmps15
  go_wp2_with fail
  refine (l1New_any a n c _ h).mono ?_
  rintro e w1 ⟨p, rfl, hp, hc1, hb1⟩
  have hpl := hc1.lt
  go_wp2_with fail
  refine (l1DrawAny_any p _ hc1).mono ?_
  rintro e w2 ⟨a2, n2, c2, xs, rfl, hn2, hown2, hc2, hg2⟩
  have hb2 := below_cur hb1 hp hg2
  go_wp2_with fail
  refine (l1DrawAny_any p _ hc2).mono ?_
  rintro e w3 ⟨a3, n3, c3, ys, rfl, hn3, hown3, hc3, hg3⟩
  have hb3 := below_cur hb2 hp hg3
  have hown23 := hown2.other hg3 (fun g e => by cases e; exact hpl)
  go_wp2_with fail
  go_ret2
  exact ⟨a2, n2, c2, xs, a3, n3, c3, ys, rfl, hn2, hn3, hown23.ints, hown3.ints, hb3⟩

set_option maxHeartbeats 400000 in
theorem drawMulNat_any (a : Option Addr) (n c : Nat) (w : World) (h : CodeAt w w.heap.size a n) : Calls Try.prog 22 #[.slice a n c] w (DrewPair w) := by
  go_enter Try.func22, Try.ntmps22
  go_wp2_with fail
  refine (drawAddNat_any a n c _ h).mono ?_
  rintro e w1 ⟨a2, n2, c2, xs, a3, n3, c3, ys, rfl, hn2, hn3, hi2, hi3, hb3⟩
  go_wp2_with fail
  go_ret2
  exact ⟨a2, n2, c2, xs, a3, n3, c3, ys, rfl, hn2, hn3, hi2, hi3, hb3⟩

set_option maxHeartbeats 400000 in
theorem drawCmpNat_any (a : Option Addr) (n c : Nat) (w : World) (h : CodeAt w w.heap.size a n) : Calls Try.prog 23 #[.slice a n c] w (DrewPair w) := by
  go_enter Try.func23, Try.ntmps23
  go_wp2_with fail
  refine (l1New_any a n c _ h).mono ?_
  rintro e w1 ⟨p, rfl, hp, hc1, hb1⟩
  have hpl := hc1.lt
  go_wp2_with fail
  refine (l1DrawAny_any p _ hc1).mono ?_
  rintro e w2 ⟨a2, n2, c2, xs, rfl, hn2, hown2, hc2, hg2⟩
  have hb2 := below_cur hb1 hp hg2
  go_wp2_with fail
  refine (l1Once_any p _ 3 hc2 (by omega) (by omega)).mono ?_
  rintro e w3 ⟨bb, rfl, hc3, hg3⟩
  have hb3 := below_cur hb2 hp hg3
  have hown23 := hown2.other hg3 (fun g e => by cases e; exact hpl)
  clear hown2 hb2 hg2 hg3 hc2
  cases bb with
  | true =>
    have hown4 := hown23.alloc (.cells #[] 2)
    have hsz := hb3.size
    go_wp2_with (at_builtin; refine wpList_concat _ rfl _ _ rfl w.heap.size _ _ _ [] rfl (own_empty w3 _ hsz) _ n2 _ xs rfl hown4.ints (by omega) (by simp; omega) ?_)
    intro a5 c5 w5 hown5 hg5
    have hb5 := below_push (hb3.alloc hsz _) (own_empty w3 _ hsz) (by simp; omega) hg5
    have hown25 := hown4.apart hg5 (K := w3.heap.size) (fun g hg => (hown23.block g hg).2) (fun g hg => ((own_empty w3 w3.heap.size (Nat.le_refl _)).block g hg).1)
    clear hg5 hown4
    go_wp2_with fail
    go_ret2
    exact ⟨a2, n2, c2, xs, a5, n2, c5, _, rfl, hn2, hn2, hown25.ints, hown5.ints, hb5⟩
  | false =>
    go_wp2_with fail
    refine (l1DrawAny_any p _ hc3).mono ?_
    rintro e w4 ⟨a4, n4, c4, ys, rfl, hn4, hown4, hc4, hg4⟩
    have hb4 := below_cur hb3 hp hg4
    have hown24 := hown23.other hg4 (fun g e => by cases e; exact hpl)
    go_wp2_with fail
    go_ret2
    exact ⟨a2, n2, c2, xs, a4, n4, c4, ys, rfl, hn2, hn4, hown24.ints, hown4.ints, hb4⟩

set_option maxHeartbeats 400000 in
theorem drawBitsFor_any (a : Option Addr) (n c : Nat) (w : World) (h : CodeAt w w.heap.size a n) : Calls Try.prog 26 #[.slice a n c] w (DrewOne w) := by
  go_enter Try.func26, Try.ntmps26
  go_wp2_with fail
  refine (l1New_any a n c _ h).mono ?_
  rintro e w1 ⟨p, rfl, hp, hc1, hb1⟩
  have hpl := hc1.lt
  go_wp2_with fail
  refine (l1Once_any p _ 2 hc1 (by omega) (by omega)).mono ?_
  rintro e w2 ⟨bb, rfl, hc2, hg2⟩
  have hb2 := below_cur hb1 hp hg2
  clear hg2
  cases bb with
  | false =>
    go_wp2_with fail
    refine (l1DrawAny_any p _ hc2).mono ?_
    rintro e w3 ⟨a3, n3, c3, ys, rfl, hn3, hown3, hc3, hg3⟩
    go_wp2_with fail
    go_ret
    exact ⟨a3, n3, c3, ys, rfl, hown3.ints, below_cur hb2 hp hg3⟩
  | true =>
    go_wp2_with fail
    refine (l1Below_any p _ 60 hc2 (by omega) (by omega)).mono ?_
    rintro e w3 ⟨x, hx0, hx1, rfl, hc3, hg3⟩
    have hb3 := below_cur hb2 hp hg3
    clear hg3
    go_wp2_with fail
    refine (specPowerNat_any _ _).mono ?_
    rintro e w4 ⟨a4, n4, c4, rfl, hown4, hb4⟩
    have hb34 := hb3.trans (hb4.mono hb3.size)
    have hc4 := hc3.below hb4
    have hp3 := hc3.lt
    clear hb4 hc3
    go_wp2_with fail
    refine (l1Once_any p _ 2 hc4 (by omega) (by omega)).mono ?_
    rintro e w5 ⟨b2, rfl, hc5, hg5⟩
    have hb5 := below_cur hb34 hp hg5
    have hown5 := hown4.other hg5 (fun g e => by cases e; exact hp3)
    clear hg5 hown4
    cases b2 with
    | false =>
      go_wp2_with fail
      go_ret
      exact ⟨a4, n4, c4, _, rfl, hown5.ints, hb5⟩
    | true =>
      have hone := own_one w5 w5.heap.size 1 ⟨by omega, by omega⟩ (Nat.le_refl _)
      have hown6 := hown5.alloc (.cells #[.int .i64 1] 2)
      have hb6 := hb5.alloc hb5.size (.cells #[.int .i64 1] 2)
      go_wp2_with fail
      refine (specAddNat_any _ _ _ _ _ _ _ _ _ hown6.ints hone.ints).mono ?_
      rintro e w7 ⟨a7, n7, c7, rfl, hown7, hb7⟩
      go_wp2_with fail
      go_ret
      exact ⟨a7, n7, c7, _, rfl, hown7.ints, hb6.trans (hb7.mono hb6.size)⟩

theorem big_any (a : Option Addr) (n c : Nat) (w : World) : Calls Try.prog 14 #[.slice a n c] w fun e w' => e = .returned (.bool (decide (4096 < n))) ∧ w = w' := by
  go_enter Try.func14, Try.ntmps14
  go_wp2
  go_ret
  exact ⟨ret_bool (by simp only [decide_eq_decide]; omega), rfl⟩

set_option maxHeartbeats 400000 in
theorem likeInts_any (a b : Option Addr) (n m c d : Nat) (xs ys : List Int) (w : World) (hx : Ints w a n xs) (hy : Ints w b m ys) :
    Calls Try.prog 18 #[.slice a n c, .slice b m d] w fun e w' => e = .returned (.bool (decide (xs = ys))) ∧ Still w w' := by
  have HL := Lib.hid hx.1
  have HM := Lib.hid hy.1
  have hbd := hx.2.1
  have hbe := hy.2.1
  by_cases hnm : n = m
  · subst hnm
    have hne0 : ((n : Int) != (n : Int)) = false := by simp
    go_enter Try.func18, Try.ntmps18
    go_wp2
    go_loopw [5] (fun i wr => ∃ k : Nat, k ≤ n ∧ i = .int .i64 k ∧ EqTo xs ys k ∧ Still w wr) (fun i _ => n - (intOf i).toNat)
    case atStart => exact ⟨0, Nat.zero_le _, rfl, EqTo.zero _ _, Still.refl _⟩
    case round =>
      obtain ⟨k, hk, rfl, hg, hst⟩ := hrel
      by_cases hlt : k < n
      · obtain ⟨b1, o1, x, rfl, hb1, hxk, hin1, hc1⟩ := (hx.still hst).at_ hlt
        obtain ⟨b2, o2, y, rfl, hb2, hyk, hin2, hc2⟩ := (hy.still hst).at_ hlt
        by_cases e : x = y
        · subst e
          go_wp2
          go_quiet (fail)
          go_wp2
          go_roundw
          case rel => exact ⟨k + 1, by omega, by go_num, hg.succ hxk hyk rfl, hst.draw _⟩
          case measure => simp [intOf]; omega
        · have hne : (x != y) = true := by simpa using e
          go_wp2
          go_quiet (fail)
          go_wp2
          go_ret
          exact ⟨ret_bool (decide_eq_false (fun h => e (by rw [hxk.out, hyk.out, h]))).symm, hst.draw _⟩
      · obtain rfl : n = k := by omega
        go_wp2
        go_ret
        exact ⟨ret_bool (decide_eq_true (eqTo_all (HL.out.trans HM.out.symm) (by rw [HL.out]; exact hg))).symm, hst⟩
  · have hne : ((n : Int) != (m : Int)) = true := by simp; omega
    go_enter Try.func18, Try.ntmps18
    go_wp2
    go_ret
    exact ⟨ret_bool (decide_eq_false (fun h => hnm (by rw [← HL.out, ← HM.out, h]))).symm, Still.refl _⟩
end Go.Proofs.Ytnbeofnafdljhaa
