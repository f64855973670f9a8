/- The contracts of the two functions AddNat. -/
import Derived.Test.YtnbeofnafdljhaaAdd
namespace Go.Proofs.Ytnbeofnafdljhaa
open Go.RowKit

/-- What a function that makes a slice of numbers, and a yes or no, leaves. -/
def PairInts (w : World) (zs : List Int) (b : Bool) (e : Ending) (w' : World) : Prop :=
  ∃ a n c, e = .returned (.tuple #[.slice a n c, .bool b]) ∧ Own w' w.heap.size a n c zs ∧ Below w.heap.size w w'

/-- Is there an answer: are both right, and is v no greater than may be? -/
def fitB (xs ys : List Int) (v : Nat) : Bool := okB xs && okB ys && okB (toL v)
def fitL (xs ys : List Int) (v : Nat) : List Int := if fitB xs ys v then toL v else []

theorem ret_pair {v : Value} {b b' : Bool} (h : b = b') : Ending.returned (.tuple #[v, .bool b]) = .returned (.tuple #[v, .bool b']) := by rw [h]
theorem fit_no {xs ys : List Int} {v : Nat} (h : okB xs = false ∨ okB ys = false) : fitB xs ys v = false := by
  unfold fitB; rcases h with h | h <;> simp [h]
theorem fitL_no {xs ys : List Int} {v : Nat} (h : okB xs = false ∨ okB ys = false) : fitL xs ys v = [] := by
  unfold fitL; rw [fit_no h]; rfl
theorem fit_no3 {xs ys : List Int} {v : Nat} (h : okB (toL v) = false) : fitB xs ys v = false := by unfold fitB; simp [h]
theorem fitL_no3 {xs ys : List Int} {v : Nat} (h : okB (toL v) = false) : fitL xs ys v = [] := by unfold fitL; rw [fit_no3 h]; rfl
theorem fit_yes {xs ys : List Int} {v : Nat} (h1 : okB xs = true) (h2 : okB ys = true) (h3 : okB (toL v) = true) : fitB xs ys v = true := by unfold fitB; simp [h1, h2, h3]
theorem fitL_yes {xs ys : List Int} {v : Nat} (h1 : okB xs = true) (h2 : okB ys = true) (h3 : okB (toL v) = true) : fitL xs ys v = toL v := by unfold fitL; rw [fit_yes h1 h2 h3]; rfl

set_option maxHeartbeats 400000 in
theorem reckon_plus (a b : Option Addr) (n m c d : Nat) (xs ys : List Int) (w : World) (hx : Ints w a n xs) (hy : Ints w b m ys) :
    Calls Try.prog 42 #[.slice a n c, .slice b m d, .func (.func 43) #[] #[]] w (PairInts w (fitL xs ys (val xs + val ys)) (fitB xs ys (val xs + val ys))) := by
  have HL := Lib.hid hx.1
  have HM := Lib.hid hy.1
  cases h1 : okB xs with
  | false =>
    go_enter Try.func42, Try.ntmps42
    go_wp2_with (go_at_call 48; refine (ok_any _ _ _ xs _ hx).mono ?_; rintro e w1 ⟨rfl, rfl⟩; rw [h1])
    go_ret2
    exact ⟨none, 0, 0, ret_pair (fit_no (.inl h1)).symm, by rw [fitL_no (.inl h1)]; exact own_nil _ _, Below.refl _ _⟩
  | true =>
    cases h2 : okB ys with
    | false =>
      go_enter Try.func42, Try.ntmps42
      go_wp2_with fail
      refine (ok_any _ _ _ xs _ hx).mono ?_
      rintro e w1 ⟨rfl, rfl⟩
      rw [h1]
      go_wp2_with fail
      refine (ok_any _ _ _ ys _ hy).mono ?_
      rintro e w1 ⟨rfl, rfl⟩
      rw [h2]
      go_wp2_with fail
      go_ret2
      exact ⟨none, 0, 0, ret_pair (fit_no (.inr h2)).symm, by rw [fitL_no (.inr h2)]; exact own_nil _ _, Below.refl _ _⟩
    | true =>
      have g1 := (okB_iff xs).1 h1
      have g2 := (okB_iff ys).1 h2
      have l1 : n ≤ 100 := by rw [← HL.out]; exact g1.1
      have l2 : m ≤ 100 := by rw [← HM.out]; exact g2.1
      have G1 := Lib.hid g1
      have G2 := Lib.hid g2
      clear g1 g2
      go_enter Try.func42, Try.ntmps42
      go_wp2_with fail
      refine (ok_any _ _ _ xs _ hx).mono ?_
      rintro e w1 ⟨rfl, rfl⟩
      rw [h1]
      go_wp2_with fail
      refine (ok_any _ _ _ ys _ hy).mono ?_
      rintro e w1 ⟨rfl, rfl⟩
      rw [h2]
      go_wp2_with fail
      refine (plus_any _ _ _ _ _ _ xs ys _ hx hy G1.out.2.1 G2.out.2.1 (by omega) (by omega)).mono ?_
      rintro e w1 ⟨a3, n3, c3, rfl, ho3, hb3⟩
      cases h3 : okB (toL (val xs + val ys)) with
      | false =>
        go_wp2_with (go_at_call 48; refine (ok_any _ _ _ _ _ ho3.ints).mono ?_; rintro e w1 ⟨rfl, rfl⟩; rw [h3])
        go_ret2
        exact ⟨none, 0, 0, ret_pair (fit_no3 h3).symm, by rw [fitL_no3 h3]; exact own_nil _ _, hb3⟩
      | true =>
        go_wp2_with (go_at_call 48; refine (ok_any _ _ _ _ _ ho3.ints).mono ?_; rintro e w1 ⟨rfl, rfl⟩; rw [h3])
        go_ret2
        exact ⟨a3, n3, c3, ret_pair (fit_yes h1 h2 h3).symm, by rw [fitL_yes h1 h2 h3]; exact ho3, hb3⟩

set_option maxHeartbeats 400000 in
theorem addNat_any (a b : Option Addr) (n m c d : Nat) (xs ys : List Int) (w : World) (hx : Ints w a n xs) (hy : Ints w b m ys) :
    Calls Try.prog 16 #[.slice a n c, .slice b m d] w (PairInts w (fitL xs ys (val xs + val ys)) (fitB xs ys (val xs + val ys))) := by
  go_enter Try.func16, Try.ntmps16
  go_wp2_with fail
  refine (reckon_plus _ _ _ _ _ _ xs ys _ hx hy).mono ?_
  rintro e w1 ⟨a1, n1, c1, rfl, ho1, hb1⟩
  go_wp2_with fail
  go_ret2
  exact ⟨a1, n1, c1, rfl, ho1, hb1⟩

/-- The sums, limb by limb. -/
def sumTo (xs ys : List Int) (k : Nat) : List Int := (List.range k).map (fun i => xs.getD i 0 + ys.getD i 0)
theorem sumTo_succ {xs ys : List Int} {k : Nat} {x y : Int} (hx : Hid (x = xs.getD k 0)) (hy : Hid (y = ys.getD k 0)) : sumTo xs ys k ++ [x + y] = sumTo xs ys (k + 1) := by
  unfold sumTo; rw [List.range_succ, List.map_append, hx.out, hy.out]; rfl
theorem sumTo_upto {xs ys : List Int} (gx : Good xs) (gy : Good ys) (k : Nat) : Upto ((19998 : Nat) : Int) (sumTo xs ys k) := by
  intro z hz
  obtain ⟨i, _, rfl⟩ := List.mem_map.1 hz
  have h1 := gx.getD i
  have h2 := gy.getD i
  exact ⟨by omega, by omega⟩
theorem sumTo_val {xs ys : List Int} (gx : Good xs) (gy : Good ys) (k : Nat) : val (sumTo xs ys k) = val (xs.take k) + val (ys.take k) := by
  induction k with
  | zero => simp [sumTo, val]
  | succ k ih =>
    have h1 := gx.getD k
    have h2 := gy.getD k
    have hl : (sumTo xs ys k).length = k := by simp [sumTo]
    rw [← sumTo_succ rfl rfl, val_snoc, ih, val_take_succ, val_take_succ, hl, Int.toNat_add h1.1 h2.1, Nat.mul_add]; omega

set_option maxHeartbeats 800000 in
theorem specAddNat_any (a b : Option Addr) (n m c d : Nat) (xs ys : List Int) (w : World) (hx : Ints w a n xs) (hy : Ints w b m ys) :
    Calls Try.prog 17 #[.slice a n c, .slice b m d] w (PairInts w (fitL xs ys (val xs + val ys)) (fitB xs ys (val xs + val ys))) := by
  have HL := Lib.hid hx.1
  have HM := Lib.hid hy.1
  cases hok : (okB xs && okB ys) with
  | false =>
    go_enter Try.func17, Try.ntmps17
    go_wp2_with (go_at_call 44; refine (both_any _ _ _ _ _ _ xs ys _ hx hy).mono ?_; rintro e w1 ⟨rfl, rfl⟩; rw [hok])
    go_ret2
    have hno : okB xs = false ∨ okB ys = false := by
      cases h1 : okB xs
      · exact .inl rfl
      · rw [h1] at hok; exact .inr (by simpa using hok)
    exact ⟨_, _, _, ret_pair (fit_no hno).symm, by rw [fitL_no hno]; exact own_empty _ _ (Nat.le_refl _), (Below.refl _ _).alloc (Nat.le_refl _) _⟩
  | true =>
    have HK := Lib.hid hok
    have hoks := (Bool.and_eq_true _ _ ▸ hok : okB xs = true ∧ okB ys = true)
    have G1 := Lib.hid ((okB_iff xs).1 hoks.1)
    have G2 := Lib.hid ((okB_iff ys).1 hoks.2)
    have H1 := Lib.hid hoks.1
    have H2 := Lib.hid hoks.2
    clear hoks hok
    have l1 : n ≤ 100 := by rw [← HL.out]; exact G1.out.1
    have l2 : m ≤ 100 := by rw [← HM.out]; exact G2.out.1
    go_enter Try.func17, Try.ntmps17
    go_wp2_with fail
    refine (both_any _ _ _ _ _ _ xs ys _ hx hy).mono ?_
    rintro e w1 ⟨rfl, rfl⟩
    rw [HK.out]
    go_wp2_with fail
    go_loopw [6, 7] (fun v i wr => ∃ (k : Nat) (a1 : Option Addr) (c1 : Nat), k ≤ 100 ∧ (k ≤ n ∨ k ≤ m) ∧ i = .int .i64 k ∧ v = .slice a1 k c1 ∧ Own wr w.heap.size a1 k c1 (sumTo xs ys k) ∧ Below w.heap.size w wr)
      (fun _ i _ => 100 - (intOf i).toNat)
    case atStart => exact ⟨0, _, _, by omega, by omega, rfl, rfl, own_empty _ _ (Nat.le_refl _), (Below.refl _ _).alloc (Nat.le_refl _) _⟩
    case round =>
      obtain ⟨k, a1, c1, hk, hk2, rfl, rfl, hown, hbel⟩ := hrel
      have hbs := hbel.size
      have hd : k < n ∨ (n ≤ k ∧ k < m) ∨ (n ≤ k ∧ m ≤ k) := by omega
      rcases hd with hlt | ⟨hge, hlt⟩ | ⟨hge, hge2⟩
      case' inl => have hgo : k < n ∨ k < m := .inl hlt
      case' inr.inl => have hgo : k < n ∨ k < m := .inr hlt
      case inr.inr =>
        have hv : val (sumTo xs ys k) = val xs + val ys := by
          rw [sumTo_val G1.out.2.1 G2.out.2.1, List.take_of_length_le (by rw [HL.out]; omega), List.take_of_length_le (by rw [HM.out]; omega)]
        have hu := sumTo_upto G1.out.2.1 G2.out.2.1 k
        go_wp2_with fail
        refine (l1Carry_any _ _ _ _ _ hown.ints (by omega) 19998 (by omega) hu).mono ?_
        rintro e w1 ⟨a3, n3, c3, rfl, ho3, hb3⟩
        rw [hv] at ho3
        have hbt := hbel.trans (hb3.mono hbel.size)
        cases h3 : okB (toL (val xs + val ys)) with
        | false =>
          go_wp2_with (go_at_call 30; refine (specNatOk_any _ _ _ _ _ ho3.ints).mono ?_; rintro e w1 ⟨rfl, rfl⟩; rw [h3])
          go_ret2
          exact ⟨_, _, _, ret_pair (fit_no3 h3).symm, by rw [fitL_no3 h3]; exact own_empty _ _ hbt.size, hbt.alloc hbt.size _⟩
        | true =>
          go_wp2_with (go_at_call 30; refine (specNatOk_any _ _ _ _ _ ho3.ints).mono ?_; rintro e w1 ⟨rfl, rfl⟩; rw [h3])
          go_ret2
          exact ⟨a3, n3, c3, ret_pair (fit_yes H1.out H2.out h3).symm, by rw [fitL_yes H1.out H2.out h3]; exact ho3.base hbel.size, hbt⟩
      all_goals
        obtain ⟨x, hxk⟩ : ∃ x, Hid (x = xs.getD (k : Int).toNat 0) := ⟨_, rfl⟩
        obtain ⟨y, hyk⟩ : ∃ y, Hid (y = ys.getD (k : Int).toNat 0) := ⟨_, rfl⟩
        have hxk' : Hid (x = xs.getD k 0) := by rw [hxk.out]; rfl
        have hyk' : Hid (y = ys.getD k 0) := by rw [hyk.out]; rfl
        have hxb := G1.out.2.1.getD k
        rw [← hxk'.out] at hxb
        have hyb := G2.out.2.1.getD k
        rw [← hyk'.out] at hyb
        have hmm : In64 (x + y) := ⟨by omega, by omega⟩
        have hx' := hx.below hbel
        have hy' := hy.below hbel
        go_wp2_with fail
        refine (l1Limb_any _ _ _ xs _ hx' _ (by omega) (by omega) x hxk).mono ?_
        rintro e w2 ⟨rfl, rfl⟩
        go_wp2_with fail
        refine (l1Limb_any _ _ _ ys _ hy' _ (by omega) (by omega) y hyk).mono ?_
        rintro e w2 ⟨rfl, rfl⟩
        go_wp2_with (at_builtin; refine wpList_push _ rfl _ _ rfl w.heap.size _ _ _ (sumTo xs ys k) rfl (hown.alloc _) wr.heap.size (x + y) rfl (by simp) hmm (by omega) (by simp; omega) ?_)
        intro a2 c2 w1 hown1 hg1
        have hb1 := below_push (hbel.alloc hbs _) (hown.alloc _) (by simp; omega) hg1
        rw [sumTo_succ hxk' hyk'] at hown1
        clear hown hg1
        go_wp2
        go_roundw
        case rel => exact ⟨k + 1, a2, c2, by omega, by omega, by go_num, rfl, hown1, hb1⟩
        case measure => simp [intOf]; omega
end Go.Proofs.Ytnbeofnafdljhaa
