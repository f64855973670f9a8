/- The contracts of the functions that take great numbers away. -/
import Derived.Test.YtnbeofnafdljhaaAddNat
namespace Go.Proofs.Ytnbeofnafdljhaa
open Go.RowKit

theorem borrow_step {ds xs ys : List Int} {k : Nat} {x y bw r bw2 : Int} (hd : ds.length = k) (h : val ds + val (ys.take k) = val (xs.take k) + 10000 ^ k * bw.toNat)
    (hx : Hid (x = xs.getD k 0)) (hy : Hid (y = ys.getD k 0)) (x0 : 0 ≤ x) (y0 : 0 ≤ y) (b0 : 0 ≤ bw) (r0 : 0 ≤ r) (b2 : 0 ≤ bw2) (e : r + y + bw = x + 10000 * bw2) :
    val (ds ++ [r]) + val (ys.take (k + 1)) = val (xs.take (k + 1)) + 10000 ^ (k + 1) * bw2.toNat := by
  rw [val_snoc, hd, val_take_succ, val_take_succ, ← hx.out, ← hy.out, Nat.pow_succ, Nat.mul_assoc]
  have e2 : r.toNat + y.toNat + bw.toNat = x.toNat + 10000 * bw2.toNat := by omega
  have e3 : 10000 ^ k * (r.toNat + y.toNat + bw.toNat) = 10000 ^ k * (x.toNat + 10000 * bw2.toNat) := by rw [e2]
  rw [Nat.mul_add, Nat.mul_add, Nat.mul_add] at e3
  omega
theorem borrow_zero {ds : List Int} {n X Y : Nat} {bw : Int} (hg : Good ds) (hd : ds.length = n) (h : val ds + Y = X + 10000 ^ n * bw.toNat) (hle : Y ≤ X) (h0 : 0 ≤ bw) : bw = 0 := by
  rcases Int.lt_or_eq_of_le h0 with h' | h'
  · have h1 : 10000 ^ n * 1 ≤ 10000 ^ n * bw.toNat := Nat.mul_le_mul_left _ (by omega)
    have h2 := val_lt hg
    rw [hd] at h2
    omega
  · exact h'.symm

set_option maxHeartbeats 800000 in
theorem minus_any (a b : Option Addr) (n m c d : Nat) (xs ys : List Int) (w : World) (hx : Ints w a n xs) (hy : Ints w b m ys) (gx : Good xs) (gy : Good ys) (ty : Tight ys) (hn : n ≤ 2000) (hle : val ys ≤ val xs) :
    Calls Try.prog 47 #[.slice a n c, .slice b m d] w (MadeInts w (toL (val xs - val ys))) := by
  have HL := Lib.hid hx.1
  have HM := Lib.hid hy.1
  have hmn : m ≤ n := by
    rcases Nat.lt_or_ge n m with h | h
    · have := val_lt_of_len gx gy ty (by rw [HL.out, HM.out]; exact h)
      omega
    · exact h
  have HLE := Lib.hid hle
  clear hle
  go_enter Try.func47, Try.ntmps47
  go_wp2_with (at_make; refine wpList_makeInts _ rfl _ _ 45 rfl Try.underlying45 _ n rfl rfl (by omega) (by omega) ?_)
  intro w1 HO hb1
  go_wp2
  go_loopw [6, 7, 8, 14] (fun cv _ _ i wr => ∃ (k : Nat) (ds : List Int) (bw : Int), k ≤ n ∧ i = .int .i64 k ∧ cv = .int .i64 bw ∧ 0 ≤ bw ∧ bw ≤ 1 ∧ Hid (ds.length = k) ∧ Good ds ∧
      Hid (val ds + val (ys.take k) = val (xs.take k) + 10000 ^ k * bw.toNat) ∧ wr.ownsRow w.heap.size 2 1 (.slice (some ⟨w.heap.size, 0, none⟩) n n) n ((PadTo ds n).map (Value.int .i64)) ∧ Below w.heap.size w wr)
    (fun _ _ _ i _ => n - (intOf i).toNat)
  case atStart => exact ⟨0, [], 0, Nat.zero_le _, rfl, rfl, by omega, by omega, rfl, good_nil, by simp [val, Hid], HO, hb1⟩
  case round =>
    clear HO hb1
    obtain ⟨k, ds, bw, hk, rfl, rfl, hc0, hc1, hdl, hgd, hv, hown, hbel⟩ := hrel
    by_cases hlt : k < n
    · obtain ⟨b1, o1, x, rfl, hb1, hxk, hin1, hcx⟩ := (hx.below hbel).at_ hlt
      obtain ⟨y, hyk⟩ : ∃ y, Hid (y = ys.getD (k : Int).toNat 0) := ⟨_, rfl⟩
      have hyk' : Hid (y = ys.getD k 0) := by rw [hyk.out]; rfl
      have hxb := gx.getD k
      rw [← hxk.out] at hxb
      have hyb := gy.getD k
      rw [← hyk'.out] at hyb
      obtain ⟨r, bw2, hr0, hr1, hb20, hb21, hrel2, hcase⟩ : ∃ r bw2 : Int, 0 ≤ r ∧ r ≤ 9999 ∧ 0 ≤ bw2 ∧ bw2 ≤ 1 ∧ Hid (r + y + bw = x + 10000 * bw2) ∧ ((x - y - bw < 0 ∧ bw2 = 1) ∨ (0 ≤ x - y - bw ∧ bw2 = 0)) := by
        by_cases hneg : x - y - bw < 0
        · exact ⟨x - y - bw + 10000, 1, by omega, by omega, by omega, by omega, by simp only [Hid]; omega, .inl ⟨hneg, rfl⟩⟩
        · exact ⟨x - y - bw, 0, by omega, by omega, by omega, by omega, by simp only [Hid]; omega, .inr ⟨by omega, rfl⟩⟩
      have HST := Lib.hid (borrow_step hdl.out hv.out hxk hyk' hxb.1 hyb.1 hc0 hr0 hb20 hrel2.out)
      have hc2 := own_cell hown hlt
      generalize (PadTo ds n).getD k 0 = y0 at hc2
      have hf2 := hown.frozenAt k
      have HO2 := own_put hown k r
      rw [padTo_set _ hdl.out hlt] at HO2
      have hbel2 : Below w.heap.size w (wr.setCell ⟨w.heap.size, k, none⟩ (.int .i64 r)) := hbel.setCell (Nat.le_refl _) _
      have hgd1 : Good (ds ++ [r]) := hgd.snoc hr0 hr1
      have hdl1 : Hid ((ds ++ [r]).length = k + 1) := by simp [Hid, hdl.out]
      have hy' := hy.below hbel
      clear hown hbel hv
      rcases hcase with ⟨hneg, rfl⟩ | ⟨hneg, rfl⟩
      · obtain rfl : r = x - y - bw + 10000 := by have := hrel2.out; omega
        go_wp2_with fail
        go_quiet ((go_at_call 62; refine pure_quiet (limb_any _ _ _ ys _ (hy'.still (Still.drew _ _)) _ (by omega) (by omega) y hyk)))
        go_wp2
        go_roundw
        case rel => exact ⟨k + 1, _, 1, by omega, by go_num, rfl, by omega, by omega, hdl1, hgd1, HST, HO2, below_dn hbel2 _⟩
        case measure => simp [intOf]; omega
      · obtain rfl : r = x - y - bw := by have := hrel2.out; omega
        go_wp2_with fail
        go_quiet ((go_at_call 62; refine pure_quiet (limb_any _ _ _ ys _ (hy'.still (Still.drew _ _)) _ (by omega) (by omega) y hyk)))
        go_wp2
        go_roundw
        case rel => exact ⟨k + 1, _, 0, by omega, by go_num, rfl, by omega, by omega, hdl1, hgd1, HST, HO2, below_dn hbel2 _⟩
        case measure => simp [intOf]; omega
    · obtain rfl : n = k := by omega
      have h0 := hv.out
      rw [List.take_of_length_le (l := xs) (by rw [HL.out]; omega), List.take_of_length_le (l := ys) (by rw [HM.out]; omega)] at h0
      obtain rfl : bw = 0 := borrow_zero hgd hdl.out h0 HLE.out hc0
      have hvd : val ds = val xs - val ys := by simp at h0; omega
      rw [padTo_full hdl.out] at hown
      have hO : Own wr w.heap.size (some ⟨w.heap.size, 0, none⟩) n n ds := ⟨hown, by omega, hgd.in64⟩
      have hT : ds.take (trimLen ds n) = toL (val xs - val ys) := by rw [← hvd, ← trim_toL hgd, hdl.out]
      have hO2 := hO.cut (trimLen_le ds n)
      rw [hT] at hO2
      clear hv h0 hown hT hvd
      go_wp2_with fail
      refine (trimmed_any _ _ _ ds _ hO.ints (Nat.le_refl _)).mono ?_
      rintro e w2 ⟨rfl, rfl⟩
      go_wp2_with fail
      go_ret
      exact ⟨_, _, _, rfl, hO2, hbel⟩

set_option maxHeartbeats 400000 in
theorem reckon_minus (a b : Option Addr) (n m c d : Nat) (xs ys : List Int) (w : World) (hx : Ints w a n xs) (hy : Ints w b m ys) (hle : okB xs = true → okB ys = true → val ys ≤ val xs) :
    Calls Try.prog 42 #[.slice a n c, .slice b m d, .func (.func 47) #[] #[]] w (PairInts w (fitL xs ys (val xs - val ys)) (fitB xs ys (val xs - val ys))) := by
  have HL := Lib.hid hx.1
  have HM := Lib.hid hy.1
  cases h1 : okB xs with
  | false =>
    go_enter Try.func42, Try.ntmps42
    go_wp2_with (go_at_call 48; refine (ok_any _ _ _ xs _ hx).mono ?_; rintro e w1 ⟨rfl, rfl⟩; rw [h1])
    go_ret2
    exact ⟨none, 0, 0, ret_pair (fit_no (.inl h1)).symm, by rw [fitL_no (.inl h1)]; exact own_nil _ _, Below.refl _ _⟩
  | true =>
    cases h2 : okB ys with
    | false =>
      go_enter Try.func42, Try.ntmps42
      go_wp2_with fail
      refine (ok_any _ _ _ xs _ hx).mono ?_
      rintro e w1 ⟨rfl, rfl⟩
      rw [h1]
      go_wp2_with fail
      refine (ok_any _ _ _ ys _ hy).mono ?_
      rintro e w1 ⟨rfl, rfl⟩
      rw [h2]
      go_wp2_with fail
      go_ret2
      exact ⟨none, 0, 0, ret_pair (fit_no (.inr h2)).symm, by rw [fitL_no (.inr h2)]; exact own_nil _ _, Below.refl _ _⟩
    | true =>
      have g1 := (okB_iff xs).1 h1
      have g2 := (okB_iff ys).1 h2
      have l1 : n ≤ 100 := by rw [← HL.out]; exact g1.1
      have l2 : m ≤ 100 := by rw [← HM.out]; exact g2.1
      have G1 := Lib.hid g1
      have G2 := Lib.hid g2
      clear g1 g2
      go_enter Try.func42, Try.ntmps42
      go_wp2_with fail
      refine (ok_any _ _ _ xs _ hx).mono ?_
      rintro e w1 ⟨rfl, rfl⟩
      rw [h1]
      go_wp2_with fail
      refine (ok_any _ _ _ ys _ hy).mono ?_
      rintro e w1 ⟨rfl, rfl⟩
      rw [h2]
      go_wp2_with fail
      refine (minus_any _ _ _ _ _ _ xs ys _ hx hy G1.out.2.1 G2.out.2.1 G2.out.2.2 (by omega) (hle h1 h2)).mono ?_
      rintro e w1 ⟨a3, n3, c3, rfl, ho3, hb3⟩
      cases h3 : okB (toL (val xs - val ys)) with
      | false =>
        go_wp2_with (go_at_call 48; refine (ok_any _ _ _ _ _ ho3.ints).mono ?_; rintro e w1 ⟨rfl, rfl⟩; rw [h3])
        go_ret2
        exact ⟨none, 0, 0, ret_pair (fit_no3 h3).symm, by rw [fitL_no3 h3]; exact own_nil _ _, hb3⟩
      | true =>
        go_wp2_with (go_at_call 48; refine (ok_any _ _ _ _ _ ho3.ints).mono ?_; rintro e w1 ⟨rfl, rfl⟩; rw [h3])
        go_ret2
        exact ⟨a3, n3, c3, ret_pair (fit_yes h1 h2 h3).symm, by rw [fitL_yes h1 h2 h3]; exact ho3, hb3⟩


/-- Is there a difference? -/
def subB (xs ys : List Int) : Bool := okB xs && okB ys && decide (val ys ≤ val xs)
def subL (xs ys : List Int) : List Int := if subB xs ys then toL (val xs - val ys) else []
theorem toL_len_mono {l : List Int} (h : okB l = true) {v : Nat} (hv : v ≤ val l) : okB (toL v) = true := by
  rw [okB_toL, decide_eq_true_eq]
  have h1 := (okB_iff l).1 h
  have h2 := val_lt h1.2.1
  have h3 : 10000 ^ l.length ≤ 10000 ^ 100 := Nat.pow_le_pow_right (by omega) h1.1
  exact toL_len_lt (by omega)
theorem sub_fit {xs ys : List Int} (h : okB xs = true → okB ys = true → val ys ≤ val xs) : fitB xs ys (val xs - val ys) = subB xs ys := by
  unfold fitB subB
  cases h1 : okB xs
  · simp
  · cases h2 : okB ys
    · simp
    · rw [toL_len_mono h1 (Nat.sub_le _ _), decide_eq_true (h h1 h2)]
theorem sub_fitL {xs ys : List Int} (h : okB xs = true → okB ys = true → val ys ≤ val xs) : fitL xs ys (val xs - val ys) = subL xs ys := by
  unfold fitL subL; rw [sub_fit h]
theorem subB_no {xs ys : List Int} (h : val xs < val ys) : subB xs ys = false := by unfold subB; rw [decide_eq_false (by omega)]; simp
theorem cmpB_neg {xs ys : List Int} (h : cmpB xs ys < 0) : okB xs = true ∧ okB ys = true ∧ val xs < val ys := by
  unfold cmpB at h
  split at h
  · rename_i hh
    refine ⟨hh.1, hh.2, ?_⟩
    unfold cmpI at h
    split at h
    · omega
    · split at h <;> omega
  · omega
theorem cmpB_le {xs ys : List Int} (h : ¬ cmpB xs ys < 0) : okB xs = true → okB ys = true → val ys ≤ val xs := by
  intro h1 h2
  unfold cmpB at h
  rw [if_pos ⟨h1, h2⟩] at h
  unfold cmpI at h
  split at h
  · omega
  · omega

set_option maxHeartbeats 400000 in
theorem subNat_any (a b : Option Addr) (n m c d : Nat) (xs ys : List Int) (w : World) (hx : Ints w a n xs) (hy : Ints w b m ys) :
    Calls Try.prog 19 #[.slice a n c, .slice b m d] w (PairInts w (subL xs ys) (subB xs ys)) := by
  obtain ⟨q, HQ⟩ : ∃ q, Hid (cmpB xs ys = q) := ⟨_, rfl⟩
  by_cases hq : q < 0
  · have hno : subB xs ys = false := subB_no (cmpB_neg (by rw [HQ.out]; exact hq)).2.2
    have HNO := Lib.hid hno
    clear hno
    go_enter Try.func19, Try.ntmps19
    go_wp2_with (go_at_call 21; refine (cmpNat_any _ _ _ _ _ _ xs ys _ hx hy).mono ?_; rintro e w1 ⟨rfl, st1⟩; rw [HQ.out])
    go_ret2
    exact ⟨none, 0, 0, ret_pair HNO.out.symm, by unfold subL; rw [HNO.out]; exact own_nil _ _, Still.below (by assumption) _⟩
  · have HLE := Lib.hid (cmpB_le (xs := xs) (ys := ys) (by rw [HQ.out]; exact hq))
    go_enter Try.func19, Try.ntmps19
    go_wp2_with fail
    refine (cmpNat_any _ _ _ _ _ _ xs ys _ hx hy).mono ?_
    rintro e w1 ⟨rfl, st1⟩
    rw [HQ.out]
    go_wp2_with fail
    refine (reckon_minus _ _ _ _ _ _ xs ys _ (hx.still st1) (hy.still st1) HLE.out).mono ?_
    rintro e w2 ⟨a1, n1, c1, rfl, ho1, hb1⟩
    go_wp2_with fail
    go_ret2
    rw [sub_fitL HLE.out] at ho1
    rw [st1.size] at ho1 hb1
    exact ⟨a1, n1, c1, ret_pair (sub_fit HLE.out), ho1, (st1.below _).trans hb1⟩

set_option maxHeartbeats 800000 in
theorem specSubNat_any (a b : Option Addr) (n m c d : Nat) (xs ys : List Int) (w : World) (hx : Ints w a n xs) (hy : Ints w b m ys) :
    Calls Try.prog 37 #[.slice a n c, .slice b m d] w (PairInts w (subL xs ys) (subB xs ys)) := by
  have HL := Lib.hid hx.1
  have HM := Lib.hid hy.1
  cases hok : (okB xs && okB ys) with
  | false =>
    have hno : subB xs ys = false := by unfold subB; rw [hok]; rfl
    have HNO := Lib.hid hno
    clear hno
    go_enter Try.func37, Try.ntmps37
    go_wp2_with (go_at_call 44; refine (both_any _ _ _ _ _ _ xs ys _ hx hy).mono ?_; rintro e w1 ⟨rfl, rfl⟩; rw [hok])
    go_ret2
    exact ⟨_, _, _, ret_pair HNO.out.symm, by unfold subL; rw [HNO.out]; exact own_empty _ _ (Nat.le_refl _), (Below.refl _ _).alloc (Nat.le_refl _) _⟩
  | true =>
    have HK := Lib.hid hok
    have hoks := (Bool.and_eq_true _ _ ▸ hok : okB xs = true ∧ okB ys = true)
    have G1 := Lib.hid ((okB_iff xs).1 hoks.1)
    have G2 := Lib.hid ((okB_iff ys).1 hoks.2)
    have H1 := Lib.hid hoks.1
    have H2 := Lib.hid hoks.2
    clear hoks hok
    have l1 : n ≤ 100 := by rw [← HL.out]; exact G1.out.1
    have l2 : m ≤ 100 := by rw [← HM.out]; exact G2.out.1
    obtain ⟨q, HQ⟩ : ∃ q, Hid (cmpB xs ys = q) := ⟨_, rfl⟩
    by_cases hq : q < 0
    · have hno : subB xs ys = false := subB_no (cmpB_neg (by rw [HQ.out]; exact hq)).2.2
      have HNO := Lib.hid hno
      clear hno
      go_enter Try.func37, Try.ntmps37
      go_wp2_with fail
      refine (both_any _ _ _ _ _ _ xs ys _ hx hy).mono ?_
      rintro e w1 ⟨rfl, rfl⟩
      rw [HK.out]
      go_wp2_with (go_at_call 38; refine (specCmpNat_any _ _ _ _ _ _ xs ys _ hx hy).mono ?_; rintro e w1 ⟨rfl, rfl⟩; rw [HQ.out])
      go_ret2
      exact ⟨_, _, _, ret_pair HNO.out.symm, by unfold subL; rw [HNO.out]; exact own_empty _ _ (Nat.le_refl _), (Below.refl _ _).alloc (Nat.le_refl _) _⟩
    · have HLE := Lib.hid (cmpB_le (xs := xs) (ys := ys) (by rw [HQ.out]; exact hq) H1.out H2.out)
      have hd0 : decide (q < 0) = false := by simpa using hq
      have HSB : Hid (subB xs ys = true) := by show _ = _; unfold subB; rw [H1.out, H2.out, decide_eq_true HLE.out]; rfl
      have hmn : m ≤ n := by
        rcases Nat.lt_or_ge n m with h | h
        · have := val_lt_of_len G1.out.2.1 G2.out.2.1 G2.out.2.2 (by rw [HL.out, HM.out]; exact h)
          have := HLE.out
          omega
        · exact h
      go_enter Try.func37, Try.ntmps37
      go_wp2_with fail
      refine (both_any _ _ _ _ _ _ xs ys _ hx hy).mono ?_
      rintro e w1 ⟨rfl, rfl⟩
      rw [HK.out]
      go_wp2_with fail
      refine (specCmpNat_any _ _ _ _ _ _ xs ys _ hx hy).mono ?_
      rintro e w1 ⟨rfl, rfl⟩
      rw [HQ.out]
      go_wp2_with fail
      go_loopw [6, 7, 8, 9] (fun v cv i _ wr => ∃ (k : Nat) (ds : List Int) (bw : Int) (a1 : Option Addr) (c1 : Nat), k ≤ n ∧ i = .int .i64 k ∧ cv = .int .i64 bw ∧ v = .slice a1 k c1 ∧ 0 ≤ bw ∧ bw ≤ 1 ∧ Good ds ∧
          Hid (val ds + val (ys.take k) = val (xs.take k) + 10000 ^ k * bw.toNat) ∧ Own wr w.heap.size a1 k c1 ds ∧ Below w.heap.size w wr)
        (fun _ _ i _ _ => n - (intOf i).toNat)
      case atStart => exact ⟨0, [], 0, _, _, Nat.zero_le _, rfl, rfl, rfl, by omega, by omega, good_nil, by simp [val, Hid], own_empty _ _ (Nat.le_refl _), (Below.refl _ _).alloc (Nat.le_refl _) _⟩
      case round =>
        obtain ⟨k, ds, bw, a1, c1, hk, rfl, rfl, rfl, hc0, hc1, hgd, hv, hown, hbel⟩ := hrel
        have hbs := hbel.size
        by_cases hlt : k < n
        · obtain ⟨b1, o1, x, rfl, hb1, hxk, hin1, hcx⟩ := (hx.below hbel).at_ hlt
          obtain ⟨y, hyk⟩ : ∃ y, Hid (y = ys.getD (k : Int).toNat 0) := ⟨_, rfl⟩
          have hyk' : Hid (y = ys.getD k 0) := by rw [hyk.out]; rfl
          have hxb := G1.out.2.1.getD k
          rw [← hxk.out] at hxb
          have hyb := G2.out.2.1.getD k
          rw [← hyk'.out] at hyb
          obtain ⟨r, bw2, hr0, hr1, hb20, hb21, hrel2, hcase⟩ : ∃ r bw2 : Int, 0 ≤ r ∧ r ≤ 9999 ∧ 0 ≤ bw2 ∧ bw2 ≤ 1 ∧ Hid (r + y + bw = x + 10000 * bw2) ∧ ((x - y - bw < 0 ∧ bw2 = 1) ∨ (0 ≤ x - y - bw ∧ bw2 = 0)) := by
            by_cases hneg : x - y - bw < 0
            · exact ⟨x - y - bw + 10000, 1, by omega, by omega, by omega, by omega, by simp only [Hid]; omega, .inl ⟨hneg, rfl⟩⟩
            · exact ⟨x - y - bw, 0, by omega, by omega, by omega, by omega, by simp only [Hid]; omega, .inr ⟨by omega, rfl⟩⟩
          have HST := Lib.hid (borrow_step hown.len hv.out hxk hyk' hxb.1 hyb.1 hc0 hr0 hb20 hrel2.out)
          have hgd1 : Good (ds ++ [r]) := hgd.snoc hr0 hr1
          have hy' := hy.below hbel
          have hmm : In64 r := ⟨by omega, by omega⟩
          clear hv
          rcases hcase with ⟨hneg, rfl⟩ | ⟨hneg, rfl⟩
          case' inl => obtain rfl : r = x - y - bw + 10000 := by have := hrel2.out; omega
          case' inr => obtain rfl : r = x - y - bw := by have := hrel2.out; omega
          all_goals
            go_wp2_with fail
            go_quiet ((go_at_call 45; refine pure_quiet (l1Limb_any _ _ _ ys _ (hy'.still (Still.drew _ _)) _ (by omega) (by omega) y hyk)))
            have hownq := hown.drewN nq
            have hbelq := below_dn hbel nq
            clear hown hbel hcx hbs hy'
            generalize wr.drewN nq = wq at hownq hbelq
            have hbs := hbelq.size
            go_wp2_with (at_builtin; refine wpList_push _ rfl _ _ rfl w.heap.size _ _ _ ds rfl (hownq.alloc _) wq.heap.size _ rfl (by simp) hmm (by omega) (by simp; omega) ?_)
            intro a2 c2 w1 hown1 hg1
            have hb1 := below_push (hbelq.alloc hbs _) (hownq.alloc _) (by simp; omega) hg1
            clear hownq hg1
            go_wp2
            go_roundw
            case rel => exact ⟨k + 1, _, _, a2, c2, by omega, by go_num, rfl, rfl, hb20, hb21, hgd1, HST, hown1, hb1⟩
            case measure => simp [intOf]; omega
        · obtain rfl : n = k := by omega
          have h0 := hv.out
          rw [List.take_of_length_le (l := xs) (by rw [HL.out]; omega), List.take_of_length_le (l := ys) (by rw [HM.out]; omega)] at h0
          obtain rfl : bw = 0 := borrow_zero hgd hown.len h0 HLE.out hc0
          have hvd : val ds = val xs - val ys := by simp at h0; omega
          have hca := hown.cap
          go_wp2_with fail
          refine (l1Trim_any _ _ _ ds _ hown.ints hca hgd).mono ?_
          rintro e w1 ⟨a2, n2, c2, rfl, hown1, hb1⟩
          go_wp2_with fail
          go_ret2
          rw [hvd] at hown1
          exact ⟨_, _, _, ret_pair HSB.out.symm, by unfold subL; rw [HSB.out]; exact hown1.base hbel.size, hbel.trans (hb1.mono hbel.size)⟩
end Go.Proofs.Ytnbeofnafdljhaa
