/- The contracts of the functions BitsFor. -/
import Derived.Test.YtnbeofnafdljhaaPower
namespace Go.Proofs.Ytnbeofnafdljhaa
open Go.RowKit

/-- k is the least one for which v is at most 2 to the k. -/
def IsLog (v k : Nat) : Prop := v ≤ 2 ^ k ∧ ∀ j, j < k → 2 ^ j < v
theorem isLog_ex (v : Nat) : ∀ n, v ≤ 2 ^ n → ∃ k, k ≤ n ∧ IsLog v k := by
  intro n
  induction n with
  | zero => intro h; exact ⟨0, Nat.le_refl _, h, fun j hj => absurd hj (by omega)⟩
  | succ n ih =>
    intro h
    by_cases h2 : v ≤ 2 ^ n
    · obtain ⟨k, hk, hl⟩ := ih h2
      exact ⟨k, by omega, hl⟩
    · refine ⟨n + 1, Nat.le_refl _, h, fun j hj => ?_⟩
      have : 2 ^ j ≤ 2 ^ n := Nat.pow_le_pow_right (by omega) (by omega)
      omega
theorem IsLog.le_iff {v k h : Nat} (hl : IsLog v k) : v ≤ 2 ^ h ↔ k ≤ h := by
  constructor
  · intro hv
    rcases Nat.lt_or_ge h k with h' | h'
    · have := hl.2 h h'; omega
    · exact h'
  · intro hk
    have : 2 ^ k ≤ 2 ^ h := Nat.pow_le_pow_right (by omega) hk
    have := hl.1
    omega
theorem val_le_pow {l : List Int} (h : Good l) : val l ≤ 2 ^ (14 * l.length) := by
  have h1 := val_lt h
  have h2 : 10000 ^ l.length ≤ 16384 ^ l.length := Nat.pow_le_pow_left (by omega) _
  have h3 : 2 ^ (14 * l.length) = 16384 ^ l.length := by rw [Nat.pow_mul]
  omega

theorem cmpI_le (x y : Nat) : decide (cmpI (x : Int) (y : Int) ≤ 0) = decide (x ≤ y) := by
  rcases Nat.lt_trichotomy x y with h | h | h
  · rw [cmpI_lt (by omega), decide_eq_true (by omega), decide_eq_true (by omega)]
  · subst h; rw [cmpI_eq, decide_eq_true (by omega), decide_eq_true (by omega)]
  · rw [cmpI_gt (by omega), decide_eq_false (by omega), decide_eq_false (by omega)]

set_option maxHeartbeats 400000 in
theorem fitsIn_any (a : Option Addr) (n c : Nat) (xs : List Int) (w : World) (hx : Ints w a n xs) (gx : Good xs) (tx : Tight xs) (h : Nat) (hh : h ≤ 2000) (q : Bool) (hq : Hid (q = decide (val xs ≤ 2 ^ h))) :
    Calls Try.prog 54 #[.slice a n c, .int .i64 (h : Int)] w fun e w' => e = .returned (.bool q) ∧ Below w.heap.size w w' := by
  go_enter Try.func54, Try.ntmps54
  go_wp2_with fail
  refine (pow2_any h h _ (Nat.le_refl _) hh).mono ?_
  rintro e w1 ⟨a1, n1, c1, rfl, ho1, hb1⟩
  go_wp2_with fail
  refine (compare_any _ _ _ _ _ _ xs _ _ (hx.below hb1) ho1.ints gx (good_toL _) tx (tight_toL _)).mono ?_
  rintro e w2 ⟨rfl, st2⟩
  go_wp2_with fail
  go_ret
  exact ⟨ret_bool (by rw [val_toL, cmpI_le, hq.out]), hb1.trans (st2.below _)⟩

set_option maxHeartbeats 400000 in
theorem search_any (a : Option Addr) (n c : Nat) (xs : List Int) (w : World) (hx : Ints w a n xs) (gx : Good xs) (tx : Tight xs) (hn : n ≤ 100) (k : Nat) (hl : IsLog (val xs) k) (hk : k ≤ 14 * n) :
    Calls Try.prog 53 #[.int .i64 (14 * (n : Int)), .func (.func 54) #[.slice a n c] #[]] w fun e w' => e = .returned (.int .i64 (k : Int)) ∧ Below w.heap.size w w' := by
  have HLOG := Lib.hid hl
  clear hl
  go_enter Try.func53, Try.ntmps53
  go_wp2_with fail
  go_loopw [5, 6, 7] (fun iv jv _ wr => ∃ (i j : Nat), iv = .int .i64 i ∧ jv = .int .i64 j ∧ i ≤ k ∧ k ≤ j ∧ j ≤ 14 * n ∧ Below w.heap.size w wr) (fun iv jv _ _ => (intOf jv - intOf iv).toNat)
  case atStart => exact ⟨0, 14 * n, rfl, by go_num, by omega, hk, Nat.le_refl _, Below.refl _ _⟩
  case round =>
    obtain ⟨i, j, rfl, rfl, hi, hj, hjn, hbel⟩ := hrel
    by_cases hlt : i < j
    · obtain ⟨h, h1, h2, h3⟩ : ∃ h : Nat, Hid (((i : Int) + (j : Int)) / 2 = (h : Int)) ∧ i ≤ h ∧ h < j := ⟨(i + j) / 2, by show _ = _; omega, by omega, by omega⟩
      go_wp2_with fail
      rw [h1.out]
      by_cases hkh : k ≤ h
      · refine (fitsIn_any _ _ _ xs _ (hx.below hbel) gx tx h (by omega) true (by show _ = _; rw [decide_eq_true (HLOG.out.le_iff.2 hkh)])).mono ?_
        rintro e w1 ⟨rfl, hb1⟩
        have hb12 := hbel.trans (hb1.mono hbel.size)
        clear hbel hb1
        go_wp2_with fail
        go_roundw
        case rel => exact ⟨i, h, rfl, rfl, hi, hkh, by omega, hb12⟩
        case measure => simp [intOf]; omega
      · refine (fitsIn_any _ _ _ xs _ (hx.below hbel) gx tx h (by omega) false (by show _ = _; rw [decide_eq_false (fun hh => hkh (HLOG.out.le_iff.1 hh))])).mono ?_
        rintro e w1 ⟨rfl, hb1⟩
        have hb12 := hbel.trans (hb1.mono hbel.size)
        clear hbel hb1
        go_wp2_with fail
        go_roundw
        case rel => exact ⟨h + 1, j, by go_num, rfl, by omega, hj, hjn, hb12⟩
        case measure => simp [intOf]; omega
    · obtain rfl : i = k := by omega
      go_wp2_with fail
      go_ret
      exact ⟨rfl, hbel⟩

/-- What BitsFor answers. -/
def IsBits (xs : List Int) (r : Int) : Prop := (okB xs = false ∧ r = -1) ∨ (okB xs = true ∧ ∃ k : Nat, k ≤ 14 * xs.length ∧ IsLog (val xs) k ∧ r = (k : Int))
theorem isBits_ex (xs : List Int) : ∃ r, IsBits xs r := by
  cases h : okB xs
  · exact ⟨-1, .inl ⟨h, rfl⟩⟩
  · obtain ⟨k, hk, hl⟩ := isLog_ex (val xs) _ (val_le_pow ((okB_iff xs).1 h).2.1)
    exact ⟨k, .inr ⟨h, k, hk, hl, rfl⟩⟩

set_option maxHeartbeats 400000 in
theorem bitsFor_any (a : Option Addr) (n c : Nat) (xs : List Int) (w : World) (hx : Ints w a n xs) (r : Int) (hr : IsBits xs r) :
    Calls Try.prog 27 #[.slice a n c] w fun e w' => e = .returned (.int .i64 r) ∧ Below w.heap.size w w' := by
  have HL := Lib.hid hx.1
  rcases hr with ⟨hok, rfl⟩ | ⟨hok, k, hk, hlog, rfl⟩
  · go_enter Try.func27, Try.ntmps27
    go_wp2_with (go_at_call 20; refine (natOk_any _ _ _ xs _ hx).mono ?_; rintro e w1 ⟨rfl, rfl⟩; rw [hok])
    go_ret
    exact ⟨rfl, Below.refl _ _⟩
  · have G := Lib.hid ((okB_iff xs).1 hok)
    have HLOG := Lib.hid hlog
    have HOK := Lib.hid hok
    rw [HL.out] at hk
    have hn : n ≤ 100 := by rw [← HL.out]; exact G.out.1
    clear hok hlog
    go_enter Try.func27, Try.ntmps27
    go_wp2_with fail
    refine (natOk_any _ _ _ xs _ hx).mono ?_
    rintro e w1 ⟨rfl, rfl⟩
    rw [HOK.out]
    go_wp2_with fail
    refine (search_any _ _ _ xs _ hx G.out.2.1 G.out.2.2 hn k HLOG.out hk).mono ?_
    rintro e w1 ⟨rfl, hb1⟩
    go_wp2_with fail
    go_ret
    exact ⟨rfl, hb1⟩

set_option maxHeartbeats 400000 in
theorem l1Less_any (a b : Option Addr) (n m c d : Nat) (xs ys : List Int) (w : World) (hx : Ints w a n xs) (hy : Ints w b m ys) (gx : Good xs) (gy : Good ys) (tx : Tight xs) (ty : Tight ys) (q : Bool) (hq : Hid (q = decide (val xs < val ys))) :
    Calls Try.prog 55 #[.slice a n c, .slice b m d] w fun e w' => e = .returned (.bool q) ∧ Still w w' := by
  have HL := Lib.hid hx.1
  have HM := Lib.hid hy.1
  have hbd := hx.2.1
  have hbe := hy.2.1
  by_cases hnm : n = m
  · subst hnm
    have hne0 : ((n : Int) != (n : Int)) = false := by simp
    go_enter Try.func55, Try.ntmps55
    go_wp2
    go_loopw [5] (fun i wr => ∃ k : Nat, k ≤ n ∧ i = .int .i64 ((k : Int) - 1) ∧ EqFrom xs ys k ∧ Still w wr) (fun i _ => (intOf i + 1).toNat)
    case atStart => exact ⟨n, Nat.le_refl _, rfl, eqFrom_end (by rw [HL.out]; omega) (by rw [HM.out]; omega), Still.refl _⟩
    case round =>
      obtain ⟨k, hk, rfl, hg, hst⟩ := hrel
      by_cases hp : 0 < k
      · obtain ⟨b1, o1, x, rfl, hb1, hxk, hin1, hc1⟩ := (hx.still hst).at_ (k := k - 1) (by omega)
        obtain ⟨b2, o2, y, rfl, hb2, hyk, hin2, hc2⟩ := (hy.still hst).at_ (k := k - 1) (by omega)
        by_cases e : x = y
        · subst e
          go_wp2
          go_quiet (fail)
          go_wp2
          go_roundw
          case rel => exact ⟨k - 1, by omega, by go_num, hg.pred hp hxk hyk rfl, hst.draw _⟩
          case measure => simp [intOf]; omega
        · have hne : (x != y) = true := by simpa using e
          go_wp2
          go_quiet (fail)
          go_wp2
          go_quiet (fail)
          go_wp2
          go_ret
          refine ⟨ret_bool ?_, (hst.draw _).draw _⟩
          rw [hq.out]
          rcases Int.lt_or_gt_of_ne e with h1 | h1
          · rw [decide_eq_true h1, decide_eq_true (val_lt_at gx hp hg hxk hyk h1)]
          · have := val_lt_at gy hp (fun i hi => (hg i hi).symm) hyk hxk h1
            rw [decide_eq_false (by omega), decide_eq_false (by omega)]
      · have hk0 : k = 0 := by omega
        subst hk0
        go_wp2
        go_ret
        exact ⟨ret_bool (by rw [hq.out, val_eq_at hg, decide_eq_false (by omega)]), hst⟩
  · have hne : ((n : Int) != (m : Int)) = true := by simp; omega
    go_enter Try.func55, Try.ntmps55
    go_wp2_with fail
    go_ret
    refine ⟨ret_bool ?_, Still.refl _⟩
    rw [hq.out]
    rcases Nat.lt_or_gt_of_ne hnm with h1 | h1
    · rw [decide_eq_true (by omega), decide_eq_true (val_lt_of_len gx gy ty (by rw [HL.out, HM.out]; exact h1))]
    · have := val_lt_of_len gy gx tx (by rw [HL.out, HM.out]; exact h1)
      rw [decide_eq_false (by omega), decide_eq_false (by omega)]

/-- Twice each limb. -/
theorem twice_succ {xs : List Int} {k : Nat} {x : Int} (hx : Hid (x = xs.getD k 0)) : sumTo xs xs k ++ [2 * x] = sumTo xs xs (k + 1) := by
  rw [show 2 * x = x + x by omega]; exact sumTo_succ hx hx

set_option maxHeartbeats 400000 in
theorem l1Double_any (a : Option Addr) (n c : Nat) (xs : List Int) (w : World) (hx : Ints w a n xs) (gx : Good xs) (hn : n ≤ 900) :
    Calls Try.prog 56 #[.slice a n c] w (MadeInts w (toL (val xs + val xs))) := by
  have HL := Lib.hid hx.1
  go_enter Try.func56, Try.ntmps56
  go_wp2_with fail
  go_loopw [3, 4] (fun v i wr => ∃ (k : Nat) (a1 : Option Addr) (c1 : Nat), k ≤ n ∧ i = .int .i64 k ∧ v = .slice a1 k c1 ∧ Own wr w.heap.size a1 k c1 (sumTo xs xs k) ∧ Below w.heap.size w wr)
    (fun _ i _ => n - (intOf i).toNat)
  case atStart => exact ⟨0, _, _, by omega, rfl, rfl, own_empty _ _ (Nat.le_refl _), (Below.refl _ _).alloc (Nat.le_refl _) _⟩
  case round =>
    obtain ⟨k, a1, c1, hk, rfl, rfl, hown, hbel⟩ := hrel
    have hbs := hbel.size
    by_cases hlt : k < n
    · obtain ⟨b1, o1, x, rfl, hb1, hxk, hin1, hcx⟩ := (hx.below hbel).at_ hlt
      have hxb := gx.getD k
      rw [← hxk.out] at hxb
      have hmm : In64 (2 * x) := ⟨by omega, by omega⟩
      go_wp2_with (at_builtin; refine wpList_push _ rfl _ _ rfl w.heap.size _ _ _ (sumTo xs xs k) rfl (hown.alloc _) wr.heap.size (2 * x) rfl (by simp) hmm (by omega) (by simp; omega) ?_)
      intro a2 c2 w1 hown1 hg1
      have hb2 := below_push (hbel.alloc hbs _) (hown.alloc _) (by simp; omega) hg1
      rw [twice_succ hxk] at hown1
      clear hown hg1
      go_wp2
      go_roundw
      case rel => exact ⟨k + 1, a2, c2, by omega, by go_num, rfl, hown1, hb2⟩
      case measure => simp [intOf]; omega
    · obtain rfl : n = k := by omega
      have hv : val (sumTo xs xs n) = val xs + val xs := by rw [sumTo_val gx gx, List.take_of_length_le (by rw [HL.out]; omega)]
      have hu := sumTo_upto gx gx n
      go_wp2_with fail
      refine (l1Carry_any _ _ _ _ _ hown.ints (by omega) 19998 (by omega) hu).mono ?_
      rintro e w1 ⟨a3, n3, c3, rfl, ho3, hb3⟩
      rw [hv] at ho3
      go_wp2_with fail
      go_ret
      exact ⟨_, _, _, rfl, ho3.base hbel.size, hbel.trans (hb3.mono hbel.size)⟩

set_option maxHeartbeats 400000 in
theorem specBitsFor_any (a : Option Addr) (n c : Nat) (xs : List Int) (w : World) (hx : Ints w a n xs) (r : Int) (hr : IsBits xs r) :
    Calls Try.prog 28 #[.slice a n c] w fun e w' => e = .returned (.int .i64 r) ∧ Below w.heap.size w w' := by
  have HL := Lib.hid hx.1
  rcases hr with ⟨hok, rfl⟩ | ⟨hok, k, hk, hlog, rfl⟩
  · go_enter Try.func28, Try.ntmps28
    go_wp2_with (go_at_call 30; refine (specNatOk_any _ _ _ xs _ hx).mono ?_; rintro e w1 ⟨rfl, rfl⟩; rw [hok])
    go_ret
    exact ⟨rfl, Below.refl _ _⟩
  · have G := Lib.hid ((okB_iff xs).1 hok)
    have HLOG := Lib.hid hlog
    have HOK := Lib.hid hok
    rw [HL.out] at hk
    have hn : n ≤ 100 := by rw [← HL.out]; exact G.out.1
    clear hok hlog
    go_enter Try.func28, Try.ntmps28
    go_wp2_with fail
    refine (specNatOk_any _ _ _ xs _ hx).mono ?_
    rintro e w1 ⟨rfl, rfl⟩
    rw [HOK.out]
    go_wp2_with fail
    go_loopw [3, 4] (fun v q wr => ∃ (j : Nat) (a1 : Option Addr) (n1 c1 : Nat), j ≤ k ∧ q = .int .i64 j ∧ v = .slice a1 n1 c1 ∧ Own wr w.heap.size a1 n1 c1 (toL (2 ^ j)) ∧ Below w.heap.size w wr) (fun _ q _ => k - (intOf q).toNat)
    case atStart => exact ⟨0, _, _, _, by omega, rfl, rfl, own_one w _ 1 ⟨by omega, by omega⟩ (Nat.le_refl _), (Below.refl _ _).alloc (Nat.le_refl _) _⟩
    case round =>
      obtain ⟨j, a1, n1, c1, hj, rfl, rfl, hown, hbel⟩ := hrel
      have hn1 : n1 ≤ 900 := by have := pow2_len j; rw [← hown.len]; omega
      by_cases hlt : j < k
      · go_wp2_with fail
        refine (l1Less_any _ _ _ _ _ _ _ xs _ hown.ints (hx.below hbel) (good_toL _) G.out.2.1 (tight_toL _) G.out.2.2 true (by show _ = _; rw [val_toL, decide_eq_true (HLOG.out.2 j hlt)])).mono ?_
        rintro e w2 ⟨rfl, st2⟩
        have ho2 := hown.still st2
        have hb2 := hbel.trans (st2.below _)
        clear hown hbel
        go_wp2_with fail
        refine (l1Double_any _ _ _ _ _ ho2.ints (good_toL _) hn1).mono ?_
        rintro e w3 ⟨a3, n3, c3, rfl, ho3, hb3⟩
        rw [val_toL, show 2 ^ j + 2 ^ j = 2 ^ (j + 1) by rw [Nat.pow_succ]; omega] at ho3
        have hb23 := hb2.trans (hb3.mono hb2.size)
        have ho3' := ho3.base hb2.size
        clear ho3 ho2 hb3
        go_wp2_with fail
        go_roundw
        case rel => exact ⟨j + 1, a3, n3, c3, by omega, by go_num, rfl, ho3', hb23⟩
        case measure => simp [intOf]; omega
      · obtain rfl : j = k := by omega
        go_wp2_with fail
        refine (l1Less_any _ _ _ _ _ _ _ xs _ hown.ints (hx.below hbel) (good_toL _) G.out.2.1 (tight_toL _) G.out.2.2 false (by show _ = _; rw [val_toL, decide_eq_false (by have := HLOG.out.1; omega)])).mono ?_
        rintro e w2 ⟨rfl, st2⟩
        go_wp2_with fail
        go_ret
        exact ⟨rfl, hbel.trans (st2.below _)⟩
end Go.Proofs.Ytnbeofnafdljhaa
