/- The contracts of the functions that compare great numbers. -/
import Derived.Test.YtnbeofnafdljhaaNatOk
import Derived.Test.YtnbeofnafdljhaaMath
namespace Go.Proofs.Ytnbeofnafdljhaa
open Go.RowKit

/-- -1, 0 or 1. -/
def cmpI (x y : Int) : Int := if x < y then -1 else if y < x then 1 else 0
theorem cmpI_lt {x y : Int} (h : x < y) : cmpI x y = -1 := by unfold cmpI; rw [if_pos h]
theorem cmpI_gt {x y : Int} (h : y < x) : cmpI x y = 1 := by unfold cmpI; rw [if_neg (by omega), if_pos h]
theorem cmpI_eq (x : Int) : cmpI x x = 0 := by unfold cmpI; rw [if_neg (by omega), if_neg (by omega)]

theorem cmpInt_any (x y : Int) (w : World) :
    Calls Try.prog 64 #[.int .i64 x, .int .i64 y] w fun e w' => e = .returned (.int .i64 (cmpI x y)) ∧ w = w' := by
  by_cases h1 : x < y
  · go_enter Try.func64, Try.ntmps64
    go_wp2
    go_ret
    exact ⟨ret_int (cmpI_lt h1).symm, rfl⟩
  · by_cases h2 : y < x
    · go_enter Try.func64, Try.ntmps64
      go_wp2
      go_ret
      exact ⟨ret_int (cmpI_gt h2).symm, rfl⟩
    · obtain rfl : x = y := by omega
      go_enter Try.func64, Try.ntmps64
      go_wp2
      go_ret
      exact ⟨ret_int (cmpI_eq x).symm, rfl⟩
theorem cmpInt64_any (x y : Int) (w : World) :
    Calls Try.prog 65 #[.int .i64 x, .int .i64 y] w fun e w' => e = .returned (.int .i64 (cmpI x y)) ∧ w = w' := by
  by_cases h1 : x < y
  · go_enter Try.func65, Try.ntmps65
    go_wp2
    go_ret
    exact ⟨ret_int (cmpI_lt h1).symm, rfl⟩
  · by_cases h2 : y < x
    · go_enter Try.func65, Try.ntmps65
      go_wp2
      go_ret
      exact ⟨ret_int (cmpI_gt h2).symm, rfl⟩
    · obtain rfl : x = y := by omega
      go_enter Try.func65, Try.ntmps65
      go_wp2
      go_ret
      exact ⟨ret_int (cmpI_eq x).symm, rfl⟩

/-! ### What the limbs say of the values -/
theorem val_ge {l : List Int} (hg : Good l) (ht : Tight l) (hp : 0 < l.length) : 10000 ^ (l.length - 1) ≤ val l := by
  have e : l = l.take (l.length - 1) ++ [l.getD (l.length - 1) 0] := by
    have := take_snoc' l (l.length - 1) (by omega)
    rw [Nat.sub_add_cancel hp, List.take_length] at this
    exact this
  have h1 := ht hp
  have h2 := (hg.getD (l.length - 1)).1
  have hv : val l = val (l.take (l.length - 1)) + 10000 ^ (l.length - 1) * (l.getD (l.length - 1) 0).toNat := by
    have := val_take_succ l (l.length - 1)
    rw [Nat.sub_add_cancel hp, List.take_length] at this
    exact this
  rw [hv]
  have h3 : 1 ≤ (l.getD (l.length - 1) 0).toNat := by omega
  have := Nat.mul_le_mul_left (10000 ^ (l.length - 1)) h3
  omega
theorem val_lt_of_len {a b : List Int} (ga : Good a) (gb : Good b) (tb : Tight b) (h : a.length < b.length) : val a < val b := by
  have h1 := val_lt ga
  have h2 := val_ge gb tb (by omega)
  have h3 : 10000 ^ a.length ≤ 10000 ^ (b.length - 1) := Nat.pow_le_pow_right (by omega) (by omega)
  omega
/-- From place k on they are alike. -/
def EqFrom (xs ys : List Int) (k : Nat) : Prop := ∀ i, k ≤ i → xs.getD i 0 = ys.getD i 0
theorem EqFrom.pred {xs ys : List Int} {k : Nat} {x y : Int} (h : EqFrom xs ys k) (hp : 0 < k) (hx : Hid (x = xs.getD (k - 1) 0)) (hy : Hid (y = ys.getD (k - 1) 0)) (e : x = y) : EqFrom xs ys (k - 1) := by
  intro i hi
  rcases Nat.lt_or_ge i k with hlt | hge
  · have : i = k - 1 := by omega
    subst this; rw [← hx.out, ← hy.out]; exact e
  · exact h i hge
theorem eqFrom_end {xs ys : List Int} {n : Nat} (hx : xs.length ≤ n) (hy : ys.length ≤ n) : EqFrom xs ys n := by
  intro i hi
  rw [List.getD_eq_getElem?_getD, List.getD_eq_getElem?_getD, List.getElem?_eq_none (by omega), List.getElem?_eq_none (by omega)]
theorem val_split (l : List Int) (k : Nat) : val l = val (l.take k) + 10000 ^ k * val (l.drop k) := by
  by_cases h : k ≤ l.length
  · have := val_append (l.take k) (l.drop k)
    rw [List.take_append_drop, List.length_take, Nat.min_eq_left h] at this
    exact this
  · rw [List.take_of_length_le (by omega), List.drop_of_length_le (by omega)]; simp [val]
theorem val_congr {a b : List Int} (h : ∀ i, a.getD i 0 = b.getD i 0) : val a = val b := by
  induction a generalizing b with
  | nil =>
    induction b with
    | nil => rfl
    | cons y r ih =>
      have h0 := h 0
      simp at h0
      subst h0
      have := ih (fun i => by have := h (i + 1); simpa using this)
      simp only [val] at this ⊢; omega
  | cons x r ih =>
    cases b with
    | nil =>
      have h0 := h 0
      simp at h0
      subst h0
      have := ih (b := []) (fun i => by have := h (i + 1); simpa using this)
      simp only [val] at this ⊢; omega
    | cons y s =>
      have h0 := h 0
      simp at h0
      subst h0
      rw [val, val, ih (fun i => by have := h (i + 1); simpa using this)]
theorem drop_congr {xs ys : List Int} {k : Nat} (h : EqFrom xs ys k) : val (xs.drop k) = val (ys.drop k) := by
  apply val_congr
  intro i
  have := h (k + i) (by omega)
  simpa [List.getD_eq_getElem?_getD, List.getElem?_drop] using this
theorem val_lt_at {xs ys : List Int} {k : Nat} {x y : Int} (gx : Good xs) (hp : 0 < k) (h : EqFrom xs ys k) (hx : Hid (x = xs.getD (k - 1) 0)) (hy : Hid (y = ys.getD (k - 1) 0)) (hlt : x < y) : val xs < val ys := by
  rw [val_split xs k, val_split ys k, drop_congr h]
  have e : k - 1 + 1 = k := by omega
  have h1 := val_take_succ xs (k - 1)
  have h2 := val_take_succ ys (k - 1)
  rw [e] at h1 h2
  rw [h1, h2, ← hx.out, ← hy.out]
  have h3 : val (xs.take (k - 1)) < 10000 ^ (k - 1) := by
    have h4 := val_lt (gx.take (k - 1))
    have h5 : 10000 ^ (xs.take (k - 1)).length ≤ 10000 ^ (k - 1) := Nat.pow_le_pow_right (by omega) (by rw [List.length_take]; omega)
    omega
  have h6 := (gx.getD (k - 1)).1
  rw [← hx.out] at h6
  have h7 : x.toNat + 1 ≤ y.toNat := by omega
  have h8 := Nat.mul_le_mul_left (10000 ^ (k - 1)) h7
  rw [Nat.mul_add] at h8
  omega
theorem val_eq_at {xs ys : List Int} (h : EqFrom xs ys 0) : val xs = val ys := val_congr (fun i => h i (by omega))

set_option maxHeartbeats 400000 in
theorem compare_any (a b : Option Addr) (n m c d : Nat) (xs ys : List Int) (w : World) (hx : Ints w a n xs) (hy : Ints w b m ys) (gx : Good xs) (gy : Good ys) (tx : Tight xs) (ty : Tight ys) :
    Calls Try.prog 49 #[.slice a n c, .slice b m d] w fun e w' => e = .returned (.int .i64 (cmpI (val xs) (val ys))) ∧ Still w w' := by
  have HL := Lib.hid hx.1
  have HM := Lib.hid hy.1
  have hbd := hx.2.1
  have hbe := hy.2.1
  by_cases hnm : n = m
  · subst hnm
    have hne0 : ((n : Int) != (n : Int)) = false := by simp
    go_enter Try.func49, Try.ntmps49
    go_wp2
    go_loopw [5] (fun i wr => ∃ k : Nat, k ≤ n ∧ i = .int .i64 ((k : Int) - 1) ∧ EqFrom xs ys k ∧ Still w wr) (fun i _ => (intOf i + 1).toNat)
    case atStart => exact ⟨n, Nat.le_refl _, rfl, eqFrom_end (by rw [HL.out]; omega) (by rw [HM.out]; omega), Still.refl _⟩
    case round =>
      obtain ⟨k, hk, rfl, hg, hst⟩ := hrel
      by_cases hp : 0 < k
      · obtain ⟨b1, o1, x, rfl, hb1, hxk, hin1, hc1⟩ := (hx.still hst).at_ (k := k - 1) (by omega)
        obtain ⟨b2, o2, y, rfl, hb2, hyk, hin2, hc2⟩ := (hy.still hst).at_ (k := k - 1) (by omega)
        by_cases e : x = y
        · subst e
          go_wp2
          go_quiet (fail)
          go_wp2
          go_roundw
          case rel => exact ⟨k - 1, by omega, by go_num, hg.pred hp hxk hyk rfl, hst.draw _⟩
          case measure => simp [intOf]; omega
        · have hne : (x != y) = true := by simpa using e
          go_wp2
          go_quiet (fail)
          go_wp2
          go_quiet ((go_at_call 65; exact pure_quiet2 (cmpInt64_any _ _ _)))
          go_wp2
          go_ret
          refine ⟨ret_int ?_, (hst.draw _).draw _⟩
          rcases Int.lt_or_gt_of_ne e with h1 | h1
          · rw [cmpI_lt h1, cmpI_lt (by have := val_lt_at gx hp hg hxk hyk h1; omega)]
          · rw [cmpI_gt h1, cmpI_gt (by have := val_lt_at gy hp (fun i hi => (hg i hi).symm) hyk hxk h1; omega)]
      · have hk0 : k = 0 := by omega
        subst hk0
        go_wp2
        go_ret
        exact ⟨ret_int (by rw [val_eq_at hg, cmpI_eq]), hst⟩
  · have hne : ((n : Int) != (m : Int)) = true := by simp; omega
    go_enter Try.func49, Try.ntmps49
    go_wp2_with fail
    refine (cmpInt_any _ _ _).mono ?_
    rintro e w1 ⟨rfl, rfl⟩
    go_wp2_with fail
    go_ret
    refine ⟨ret_int ?_, Still.refl _⟩
    rcases Nat.lt_or_gt_of_ne hnm with h1 | h1
    · rw [cmpI_lt (by omega), cmpI_lt (by have := val_lt_of_len gx gy ty (by rw [HL.out, HM.out]; exact h1); omega)]
    · rw [cmpI_gt (by omega), cmpI_gt (by have := val_lt_of_len gy gx tx (by rw [HL.out, HM.out]; exact h1); omega)]

/-- What CmpNat answers. -/
def cmpB (xs ys : List Int) : Int := if okB xs = true ∧ okB ys = true then cmpI (val xs) (val ys) else 2

set_option maxHeartbeats 400000 in
theorem cmpNat_any (a b : Option Addr) (n m c d : Nat) (xs ys : List Int) (w : World) (hx : Ints w a n xs) (hy : Ints w b m ys) :
    Calls Try.prog 21 #[.slice a n c, .slice b m d] w fun e w' => e = .returned (.int .i64 (cmpB xs ys)) ∧ Still w w' := by
  cases h1 : okB xs with
  | false =>
    go_enter Try.func21, Try.ntmps21
    go_wp2_with (go_at_call 20; refine (natOk_any _ _ _ xs _ hx).mono ?_; rintro e w1 ⟨rfl, rfl⟩; rw [h1])
    go_ret
    exact ⟨ret_int (by unfold cmpB; rw [if_neg (by simp [h1])]), Still.refl _⟩
  | true =>
    cases h2 : okB ys with
    | false =>
      go_enter Try.func21, Try.ntmps21
      go_wp2_with fail
      refine (natOk_any _ _ _ xs _ hx).mono ?_
      rintro e w1 ⟨rfl, rfl⟩
      rw [h1]
      go_wp2_with fail
      refine (natOk_any _ _ _ ys _ hy).mono ?_
      rintro e w1 ⟨rfl, rfl⟩
      rw [h2]
      go_wp2_with fail
      go_ret
      exact ⟨ret_int (by unfold cmpB; rw [if_neg (by simp [h2])]), Still.refl _⟩
    | true =>
      have g1 := (okB_iff xs).1 h1
      have g2 := (okB_iff ys).1 h2
      go_enter Try.func21, Try.ntmps21
      go_wp2_with fail
      refine (natOk_any _ _ _ xs _ hx).mono ?_
      rintro e w1 ⟨rfl, rfl⟩
      rw [h1]
      go_wp2_with fail
      refine (natOk_any _ _ _ ys _ hy).mono ?_
      rintro e w1 ⟨rfl, rfl⟩
      rw [h2]
      go_wp2_with fail
      refine (compare_any _ _ _ _ _ _ xs ys _ hx hy g1.2.1 g2.2.1 g1.2.2 g2.2.2).mono ?_
      rintro e w1 ⟨rfl, hst⟩
      go_wp2_with fail
      go_ret
      exact ⟨ret_int (by unfold cmpB; rw [if_pos ⟨h1, h2⟩]), hst⟩

theorem limb_any (a : Option Addr) (n c : Nat) (xs : List Int) (w : World) (h : Ints w a n xs) (i : Int) (h0 : 0 ≤ i) (h1 : i ≤ 4194304) (z : Int) (hz : Hid (z = xs.getD i.toNat 0)) :
    Calls Try.prog 62 #[.slice a n c, .int .i64 i] w fun e w' => e = .returned (.int .i64 z) ∧ w = w' := by
  obtain ⟨k, rfl⟩ := Int.eq_ofNat_of_zero_le h0
  have HL := Lib.hid h.1
  have hbd := h.2.1
  rw [Int.toNat_natCast] at hz
  by_cases hlt : k < n
  · obtain ⟨b, o, y, rfl, hb, hy, hin, hc⟩ := h.at_ hlt
    obtain rfl : z = y := by rw [hz.out, hy.out]
    go_enter Try.func62, Try.ntmps62
    go_wp2
    go_ret
    exact ⟨rfl, rfl⟩
  · obtain rfl : z = 0 := by rw [hz.out, List.getD_eq_getElem?_getD, List.getElem?_eq_none (by rw [HL.out]; omega)]; rfl
    go_enter Try.func62, Try.ntmps62
    go_wp2
    go_ret
    exact ⟨rfl, rfl⟩

theorem l1Limb_any (a : Option Addr) (n c : Nat) (xs : List Int) (w : World) (h : Ints w a n xs) (i : Int) (h0 : 0 ≤ i) (h1 : i ≤ 4194304) (z : Int) (hz : Hid (z = xs.getD i.toNat 0)) :
    Calls Try.prog 45 #[.slice a n c, .int .i64 i] w fun e w' => e = .returned (.int .i64 z) ∧ w = w' := by
  obtain ⟨k, rfl⟩ := Int.eq_ofNat_of_zero_le h0
  have HL := Lib.hid h.1
  have hbd := h.2.1
  rw [Int.toNat_natCast] at hz
  by_cases hlt : k < n
  · obtain ⟨b, o, y, rfl, hb, hy, hin, hc⟩ := h.at_ hlt
    obtain rfl : z = y := by rw [hz.out, hy.out]
    go_enter Try.func45, Try.ntmps45
    go_wp2
    go_ret
    exact ⟨rfl, rfl⟩
  · obtain rfl : z = 0 := by rw [hz.out, List.getD_eq_getElem?_getD, List.getElem?_eq_none (by rw [HL.out]; omega)]; rfl
    go_enter Try.func45, Try.ntmps45
    go_wp2
    go_ret
    exact ⟨rfl, rfl⟩

theorem both_any (a b : Option Addr) (n m c d : Nat) (xs ys : List Int) (w : World) (hx : Ints w a n xs) (hy : Ints w b m ys) :
    Calls Try.prog 44 #[.slice a n c, .slice b m d] w fun e w' => e = .returned (.bool (okB xs && okB ys)) ∧ w = w' := by
  cases h1 : okB xs with
  | false =>
    go_enter Try.func44, Try.ntmps44
    go_wp2_with (go_at_call 30; refine (specNatOk_any _ _ _ xs _ hx).mono ?_; rintro e w1 ⟨rfl, rfl⟩; rw [h1])
    go_ret
    exact ⟨rfl, rfl⟩
  | true =>
    go_enter Try.func44, Try.ntmps44
    go_wp2_with fail
    refine (specNatOk_any _ _ _ xs _ hx).mono ?_
    rintro e w1 ⟨rfl, rfl⟩
    rw [h1]
    go_wp2_with fail
    refine (specNatOk_any _ _ _ ys _ hy).mono ?_
    rintro e w1 ⟨rfl, rfl⟩
    go_wp2_with fail
    go_ret
    exact ⟨ret_bool (by simp), rfl⟩

set_option maxHeartbeats 800000 in
theorem specCmpNat_any (a b : Option Addr) (n m c d : Nat) (xs ys : List Int) (w : World) (hx : Ints w a n xs) (hy : Ints w b m ys) :
    Calls Try.prog 38 #[.slice a n c, .slice b m d] w fun e w' => e = .returned (.int .i64 (cmpB xs ys)) ∧ w = w' := by
  have HL := Lib.hid hx.1
  have HM := Lib.hid hy.1
  have hbd := hx.2.1
  have hbe := hy.2.1
  cases hok : (okB xs && okB ys) with
  | false =>
    go_enter Try.func38, Try.ntmps38
    go_wp2_with fail
    refine (both_any _ _ _ _ _ _ xs ys _ hx hy).mono ?_
    rintro e w1 ⟨rfl, rfl⟩
    rw [hok]
    go_wp2_with fail
    go_ret
    exact ⟨ret_int (by unfold cmpB; rw [if_neg (by rw [← Bool.and_eq_true, hok]; simp)]), rfl⟩
  | true =>
    have HK := Lib.hid hok
    have hoks := (Bool.and_eq_true _ _ ▸ hok : okB xs = true ∧ okB ys = true)
    have HC : Hid (cmpB xs ys = cmpI (val xs) (val ys)) := by show _ = _; unfold cmpB; rw [if_pos hoks]
    have g1 := ((okB_iff xs).1 hoks.1).2.1
    have g2 := ((okB_iff ys).1 hoks.2).2.1
    clear hoks hok
    obtain ⟨q, hq1, hq2, hq3⟩ : ∃ q : Nat, n ≤ q ∧ m ≤ q ∧ (q = n ∧ ¬ n < m ∨ q = m ∧ n < m) := by
      by_cases h : n < m
      · exact ⟨m, by omega, by omega, .inr ⟨rfl, h⟩⟩
      · exact ⟨n, by omega, by omega, .inl ⟨rfl, h⟩⟩
    have hq4 : q ≤ 1048576 := by omega
    rcases hq3 with ⟨rfl, hcase⟩ | ⟨rfl, hcase⟩
    all_goals
      go_enter Try.func38, Try.ntmps38
      go_wp2_with fail
      refine (both_any _ _ _ _ _ _ xs ys _ hx hy).mono ?_
      rintro e w1 ⟨rfl, rfl⟩
      rw [HK.out]
      go_wp2_with fail
      go_loop [6] (fun i => ∃ k : Nat, k ≤ q ∧ i = .int .i64 ((k : Int) - 1) ∧ EqFrom xs ys k) (fun i => (intOf i + 1).toNat)
      case atStart => exact ⟨q, Nat.le_refl _, rfl, eqFrom_end (by rw [HL.out]; omega) (by rw [HM.out]; omega)⟩
      case round =>
        obtain ⟨k, hk, rfl, hg⟩ := hrel
        by_cases hp : 0 < k
        · obtain ⟨x, hxk⟩ : ∃ x, Hid (x = xs.getD ((k : Int) - 1).toNat 0) := ⟨_, rfl⟩
          obtain ⟨y, hyk⟩ : ∃ y, Hid (y = ys.getD ((k : Int) - 1).toNat 0) := ⟨_, rfl⟩
          have hxk' : Hid (x = xs.getD (k - 1) 0) := by rw [hxk.out]; show _ = _; congr 1; omega
          have hyk' : Hid (y = ys.getD (k - 1) 0) := by rw [hyk.out]; show _ = _; congr 1; omega
          rcases Int.lt_trichotomy x y with e | e | e
          · go_wp2_with fail
            refine (l1Limb_any _ _ _ xs _ hx _ (by omega) (by omega) x hxk).mono ?_
            rintro e w1 ⟨rfl, rfl⟩
            go_wp2_with fail
            refine (l1Limb_any _ _ _ ys _ hy _ (by omega) (by omega) y hyk).mono ?_
            rintro e w1 ⟨rfl, rfl⟩
            go_wp2_with fail
            go_ret
            exact ⟨ret_int (by rw [HC.out, cmpI_lt (by have := val_lt_at g1 hp hg hxk' hyk' (by assumption); omega)]), rfl⟩
          · subst e
            go_wp2_with fail
            refine (l1Limb_any _ _ _ xs _ hx _ (by omega) (by omega) x hxk).mono ?_
            rintro e w1 ⟨rfl, rfl⟩
            go_wp2_with fail
            refine (l1Limb_any _ _ _ ys _ hy _ (by omega) (by omega) x hyk).mono ?_
            rintro e w1 ⟨rfl, rfl⟩
            go_wp2_with fail
            refine (l1Limb_any _ _ _ xs _ hx _ (by omega) (by omega) x hxk).mono ?_
            rintro e w1 ⟨rfl, rfl⟩
            go_wp2_with fail
            refine (l1Limb_any _ _ _ ys _ hy _ (by omega) (by omega) x hyk).mono ?_
            rintro e w1 ⟨rfl, rfl⟩
            go_wp2_with fail
            go_round
            case rel => exact ⟨k - 1, by omega, by go_num, hg.pred hp hxk' hyk' rfl⟩
            case measure => simp [intOf]; omega
          · have hnl : ¬ x < y := by omega
            go_wp2_with fail
            refine (l1Limb_any _ _ _ xs _ hx _ (by omega) (by omega) x hxk).mono ?_
            rintro e w1 ⟨rfl, rfl⟩
            go_wp2_with fail
            refine (l1Limb_any _ _ _ ys _ hy _ (by omega) (by omega) y hyk).mono ?_
            rintro e w1 ⟨rfl, rfl⟩
            go_wp2_with fail
            refine (l1Limb_any _ _ _ xs _ hx _ (by omega) (by omega) x hxk).mono ?_
            rintro e w1 ⟨rfl, rfl⟩
            go_wp2_with fail
            refine (l1Limb_any _ _ _ ys _ hy _ (by omega) (by omega) y hyk).mono ?_
            rintro e w1 ⟨rfl, rfl⟩
            go_wp2_with fail
            go_ret
            exact ⟨ret_int (by rw [HC.out, cmpI_gt (by have := val_lt_at g2 hp (fun i hi => (hg i hi).symm) hyk' hxk' (by assumption); omega)]), rfl⟩
        · have hk0 : k = 0 := by omega
          subst hk0
          go_wp2_with fail
          go_ret
          exact ⟨ret_int (by rw [HC.out, val_eq_at hg, cmpI_eq]), rfl⟩
end Go.Proofs.Ytnbeofnafdljhaa
