/- The contracts of the functions that multiply great numbers. -/
import Derived.Test.YtnbeofnafdljhaaDoorAddNat
import Derived.RegionTactic
import Derived.ChangeAlike
namespace Go.Proofs.YtnbeofnafdljhaaDoor
open Go.RowKit

theorem val_set (l : List Int) : ∀ (k : Nat) (z : Int), k < l.length → val (l.set k z) + 10000 ^ k * (l.getD k 0).toNat = val l + 10000 ^ k * z.toNat := by
  induction l with
  | nil => intro k z h; simp at h
  | cons x r ih =>
    intro k z h
    cases k with
    | zero => simp only [List.set_cons_zero, val, Nat.pow_zero, Nat.one_mul, List.getD_cons_zero]; omega
    | succ k =>
      have := ih k z (by simpa using h)
      simp only [List.set_cons_succ, val, List.getD_cons_succ, Nat.pow_succ]
      have e1 : 10000 ^ k * 10000 * (r.getD k 0).toNat = 10000 * (10000 ^ k * (r.getD k 0).toNat) := by rw [Nat.mul_comm (10000 ^ k) 10000, Nat.mul_assoc]
      have e2 : 10000 ^ k * 10000 * z.toNat = 10000 * (10000 ^ k * z.toNat) := by rw [Nat.mul_comm (10000 ^ k) 10000, Nat.mul_assoc]
      rw [e1, e2]; omega
theorem getD_set (l : List Int) (k t : Nat) (z : Int) : (l.set k z).getD t 0 = if t = k ∧ k < l.length then z else l.getD t 0 := by
  rw [List.getD_eq_getElem?_getD, List.getD_eq_getElem?_getD, List.getElem?_set]
  by_cases h : k = t
  · subst h
    by_cases hl : k < l.length
    · rw [if_pos rfl, if_pos hl, if_pos ⟨rfl, hl⟩]; rfl
    · rw [if_pos rfl, if_neg hl, if_neg (fun h => hl h.2), List.getElem?_eq_none (by omega)]
  · rw [if_neg h, if_neg (fun h' => h h'.1.symm)]
theorem Good.set {l : List Int} (h : Good l) (k : Nat) {z : Int} (h0 : 0 ≤ z) (h1 : z ≤ 9999) : Good (l.set k z) := by
  intro x hx
  rcases List.mem_or_eq_of_mem_set hx with h' | h'
  · exact h x h'
  · subst h'; exact ⟨h0, h1⟩
/-- From place k on there are noughts. -/
def ZeroFrom (l : List Int) (k : Nat) : Prop := ∀ t, k ≤ t → l.getD t 0 = 0
theorem ZeroFrom.set {l : List Int} {k t : Nat} {z : Int} (h : ZeroFrom l k) (ht : t < k) : ZeroFrom (l.set t z) k := by
  intro u hu
  rw [getD_set, if_neg (by omega)]; exact h u hu
theorem ZeroFrom.set_next {l : List Int} {k : Nat} {z : Int} (h : ZeroFrom l k) : ZeroFrom (l.set k z) (k + 1) := by
  intro u hu
  rw [getD_set, if_neg (by omega)]; exact h u (by omega)
theorem zero_pad (N : Nat) : ∀ t, (PadTo [] N).getD t 0 = 0 := by
  intro t
  rw [padTo_nil, List.getD_eq_getElem?_getD, List.getElem?_replicate]; split <;> rfl
theorem good_pad (N : Nat) : Good (PadTo [] N) := by
  rw [padTo_nil]
  intro z hz
  have := List.eq_of_mem_replicate hz
  subst this; omega
theorem val_pad (N : Nat) : val (PadTo [] N) = 0 := by rw [padTo_nil]; exact val_replicate N
theorem len_pad (N : Nat) : (PadTo [] N).length = N := by rw [padTo_nil]; simp

theorem mul_bound {x y : Int} (hx : 0 ≤ x ∧ x ≤ 9999) (hy : 0 ≤ y ∧ y ≤ 9999) : 0 ≤ x * y ∧ x * y ≤ 99980001 :=
  ⟨Int.mul_nonneg hx.1 hy.1, by have := Int.mul_le_mul hx.2 hy.2 hy.1 (by omega); omega⟩

/-- One limb of a product. -/
theorem times_step {P xs ys : List Int} {i j : Nat} {cy x y p : Int} (hl : i + j < P.length) (h : val P + 10000 ^ (i + j) * cy.toNat = val (xs.take i) * val ys + 10000 ^ i * (x.toNat * val (ys.take j)))
    (hp : Hid (p = P.getD (i + j) 0)) (hy : Hid (y = ys.getD j 0)) (p0 : 0 ≤ p) (c0 : 0 ≤ cy) (x0 : 0 ≤ x) (y0 : 0 ≤ y) :
    val (P.set (i + j) ((cy + (p + x * y)) % 10000)) + 10000 ^ (i + (j + 1)) * ((cy + (p + x * y)) / 10000).toNat = val (xs.take i) * val ys + 10000 ^ i * (x.toNat * val (ys.take (j + 1))) := by
  have h1 := val_set P (i + j) ((cy + (p + x * y)) % 10000) hl
  have hxy := Int.mul_nonneg x0 y0
  rw [val_take_succ, ← hy.out, Nat.mul_add, Nat.mul_add]
  rw [← hp.out] at h1
  have e1 : 10000 ^ (i + (j + 1)) = 10000 ^ (i + j) * 10000 := by rw [← Nat.add_assoc, Nat.pow_succ]
  have e2 : 10000 ^ i * (x.toNat * (10000 ^ j * y.toNat)) = 10000 ^ (i + j) * (x * y).toNat := by
    rw [Nat.pow_add, Int.toNat_mul x0 y0, Nat.mul_left_comm x.toNat, Nat.mul_assoc]
  rw [e1, e2, Nat.mul_assoc]
  have e3 : ((cy + (p + x * y)) % 10000).toNat + 10000 * ((cy + (p + x * y)) / 10000).toNat = cy.toNat + p.toNat + (x * y).toNat := by omega
  have e4 : 10000 ^ (i + j) * (((cy + (p + x * y)) % 10000).toNat + 10000 * ((cy + (p + x * y)) / 10000).toNat) = 10000 ^ (i + j) * (cy.toNat + p.toNat + (x * y).toNat) := by rw [e3]
  rw [Nat.mul_add, Nat.mul_add, Nat.mul_add] at e4
  omega
theorem times_row {P xs ys : List Int} {i m : Nat} {cy x : Int} (hm : ys.length = m) (hl : i + m < P.length) (h : val P + 10000 ^ (i + m) * cy.toNat = val (xs.take i) * val ys + 10000 ^ i * (x.toNat * val (ys.take m)))
    (hz : ZeroFrom P (i + m)) (hx : Hid (x = xs.getD i 0)) : val (P.set (i + m) cy) = val (xs.take (i + 1)) * val ys := by
  have h1 := val_set P (i + m) cy hl
  rw [hz (i + m) (Nat.le_refl _)] at h1
  rw [List.take_of_length_le (l := ys) (by omega)] at h
  rw [val_take_succ, ← hx.out, Nat.add_mul, Nat.mul_assoc]
  simp at h1
  omega

set_option maxHeartbeats 800000 in
theorem times_any (a b : Option Addr) (n m c d : Nat) (xs ys : List Int) (w : World) (hx : Ints w a n xs) (hy : Ints w b m ys) (gx : Good xs) (gy : Good ys) (hn : n ≤ 2000) (hm : m ≤ 2000) :
    Calls Tryd.prog 17 #[.slice a n c, .slice b m d] w (MadeInts w (toL (val xs * val ys))) := by
  have HL := Lib.hid hx.1
  have HM := Lib.hid hy.1
  go_enter Tryd.func17, Tryd.ntmps17
  go_wp2_with (at_make; refine wpList_makeInts _ rfl _ _ 44 rfl Tryd.underlying44 _ (n + m) rfl rfl (by omega) (by omega) ?_)
  intro w1 HO hb1
  go_wp2
  go_loopw [6, 7, 8, 17] (fun _ _ _ iv wr => ∃ (i : Nat) (P : List Int), i ≤ n ∧ iv = .int .i64 i ∧ Good P ∧ Hid (P.length = n + m) ∧ ZeroFrom P (i + m) ∧
      Hid (val P = val (xs.take i) * val ys) ∧ wr.ownsRow w.heap.size 2 1 (.slice (some ⟨w.heap.size, 0, none⟩) (n + m) (n + m)) (n + m) (P.map (Value.int .i64)) ∧ Below w.heap.size w wr)
    (fun _ _ _ iv _ => n - (intOf iv).toNat)
  case atStart => exact ⟨0, PadTo [] (n + m), Nat.zero_le _, rfl, good_pad _, len_pad _, fun t _ => zero_pad _ t, by simp [val_pad, val, Hid], HO, hb1⟩
  case round =>
    clear HO hb1
    obtain ⟨i, P, hi, rfl, hgP, hlP, hzP, hvP, hown, hbel⟩ := hrel
    by_cases hlt : i < n
    · obtain ⟨b1, o1, x, rfl, hb1, hxk, hin1, hcx⟩ := hx.at_ hlt
      have hxb := gx.getD i
      rw [← hxk.out] at hxb
      go_wp2
      go_loopw [7, 8, 22] (fun cv _ jv wr2 => ∃ (j : Nat) (P : List Int) (cy : Int), j ≤ m ∧ jv = .int .i64 j ∧ cv = .int .i64 cy ∧ 0 ≤ cy ∧ cy ≤ 9999 ∧ Good P ∧ Hid (P.length = n + m) ∧ ZeroFrom P (i + m) ∧
          Hid (val P + 10000 ^ (i + j) * cy.toNat = val (xs.take i) * val ys + 10000 ^ i * (x.toNat * val (ys.take j))) ∧ wr2.ownsRow w.heap.size 2 1 (.slice (some ⟨w.heap.size, 0, none⟩) (n + m) (n + m)) (n + m) (P.map (Value.int .i64)) ∧ Below w.heap.size w wr2)
        (fun _ _ jv _ => m - (intOf jv).toNat)
      case atStart => exact ⟨0, P, 0, Nat.zero_le _, rfl, rfl, by omega, by omega, hgP, hlP, hzP, by show _ = _; rw [hvP.out]; simp [val], hown, hbel⟩
      case round =>
        clear hgP hlP hzP hvP hown hbel
        obtain ⟨j, P, cy, hj, rfl, rfl, hc0, hc1, hgP, hlP, hzP, hvP, hown, hbel⟩ := hrel
        have hcx2 : wr.cell? ⟨b1, o1 + i, none⟩ = some (.int .i64 x) := (hbel.cell (by exact hb1)).trans hcx
        by_cases hltj : j < m
        · obtain ⟨b2, o2, y, rfl, hb2, hyk, hin2, hcy⟩ := (hy.below hbel).at_ hltj
          have hyb := gy.getD j
          rw [← hyk.out] at hyb
          obtain ⟨hxy0, hxy1⟩ := mul_bound hxb hyb
          have hcp := own_cell hown (k := i + j) (by omega)
          have hpb := hgP.getD (i + j)
          obtain ⟨p, hpk⟩ : ∃ p, Hid (p = P.getD (i + j) 0) := ⟨_, rfl⟩
          rw [← hpk.out] at hcp hpb
          have hfp := hown.frozenAt (i + j)
          have HST := Lib.hid (times_step (by rw [hlP.out]; omega) hvP.out hpk hyk hpb.1 hc0 hxb.1 hyb.1)
          have HO2 := own_put hown (i + j) ((cy + (p + x * y)) % 10000)
          have hbel2 : Below w.heap.size w (wr.setCell ⟨w.heap.size, i + j, none⟩ (.int .i64 ((cy + (p + x * y)) % 10000))) := hbel.setCell (Nat.le_refl _) _
          have hgP1 := hgP.set (i + j) (z := (cy + (p + x * y)) % 10000) (by omega) (by omega)
          have hzP1 := hzP.set (t := i + j) (z := (cy + (p + x * y)) % 10000) (by omega)
          have hlP1 : Hid ((P.set (i + j) ((cy + (p + x * y)) % 10000)).length = n + m) := by simp only [Hid, List.length_set]; exact hlP.out
          clear hown hbel hvP hgP hzP hlP
          go_wp2_with fail
          go_quiet (fail)
          go_wp2
          go_roundw
          case rel => exact ⟨j + 1, _, (cy + (p + x * y)) / 10000, by omega, by go_num, rfl, by omega, by omega, hgP1, hlP1, hzP1, HST, HO2, below_dn hbel2 _⟩
          case measure => simp [intOf]; omega
        · obtain rfl : m = j := by omega
          have hcp := own_cell hown (k := i + m) (by omega)
          generalize P.getD (i + m) 0 = p at hcp
          have hfp := hown.frozenAt (i + m)
          have HST := Lib.hid (times_row HM.out (by rw [hlP.out]; omega) hvP.out hzP hxk)
          have HO2 := own_put hown (i + m) cy
          have hbel2 : Below w.heap.size w (wr.setCell ⟨w.heap.size, i + m, none⟩ (.int .i64 cy)) := hbel.setCell (Nat.le_refl _) _
          have hgP1 := hgP.set (i + m) (z := cy) (by omega) (by omega)
          have hzP1 : ZeroFrom (P.set (i + m) cy) (i + 1 + m) := by rw [show i + 1 + m = i + m + 1 by omega]; exact hzP.set_next
          have hlP1 : Hid ((P.set (i + m) cy).length = n + m) := by simp only [Hid, List.length_set]; exact hlP.out
          clear hown hbel hvP hgP hzP hlP
          go_wp2
          go_roundw
          case rel => exact ⟨i + 1, _, by omega, by go_num, hgP1, hlP1, hzP1, HST, HO2, hbel2⟩
          case measure => simp [intOf]; omega
    · obtain rfl : n = i := by omega
      have hvd : val P = val xs * val ys := by rw [hvP.out, List.take_of_length_le (by rw [HL.out]; omega)]
      have hO : Own wr w.heap.size (some ⟨w.heap.size, 0, none⟩) (n + m) (n + m) P := ⟨hown, by omega, hgP.in64⟩
      have hT : P.take (trimLen P (n + m)) = toL (val xs * val ys) := by rw [← hvd, ← trim_toL hgP, hlP.out]
      have hO2 := hO.cut (trimLen_le P (n + m))
      rw [hT] at hO2
      clear hvP hown hT hvd
      go_wp2_with fail
      refine (trimmed_any _ _ _ P _ hO.ints (Nat.le_refl _)).mono ?_
      rintro e w2 ⟨rfl, rfl⟩
      go_wp2_with fail
      go_ret
      exact ⟨_, _, _, rfl, hO2, hbel⟩

set_option maxHeartbeats 400000 in
theorem reckon_times (a b : Option Addr) (n m c d : Nat) (xs ys : List Int) (w : World) (hx : Ints w a n xs) (hy : Ints w b m ys) :
    Calls Tryd.prog 16 #[.slice a n c, .slice b m d, .func (.func 17) #[] #[]] w (PairInts w (fitL xs ys (val xs * val ys)) (fitB xs ys (val xs * val ys))) := by
  have HL := Lib.hid hx.1
  have HM := Lib.hid hy.1
  cases h1 : okB xs with
  | false =>
    go_enter Tryd.func16, Tryd.ntmps16
    go_wp2_with (go_at_call 24; refine (ok_any _ _ _ xs _ hx).mono ?_; rintro e w1 ⟨rfl, rfl⟩; rw [h1])
    go_ret2
    exact ⟨none, 0, 0, ret_pair (fit_no (.inl h1)).symm, by rw [fitL_no (.inl h1)]; exact own_nil _ _, Below.refl _ _⟩
  | true =>
    cases h2 : okB ys with
    | false =>
      go_enter Tryd.func16, Tryd.ntmps16
      go_wp2_with fail
      refine (ok_any _ _ _ xs _ hx).mono ?_
      rintro e w1 ⟨rfl, rfl⟩
      rw [h1]
      go_wp2_with fail
      refine (ok_any _ _ _ ys _ hy).mono ?_
      rintro e w1 ⟨rfl, rfl⟩
      rw [h2]
      go_wp2_with fail
      go_ret2
      exact ⟨none, 0, 0, ret_pair (fit_no (.inr h2)).symm, by rw [fitL_no (.inr h2)]; exact own_nil _ _, Below.refl _ _⟩
    | true =>
      have g1 := (okB_iff xs).1 h1
      have g2 := (okB_iff ys).1 h2
      have l1 : n ≤ 100 := by rw [← HL.out]; exact g1.1
      have l2 : m ≤ 100 := by rw [← HM.out]; exact g2.1
      have G1 := Lib.hid g1
      have G2 := Lib.hid g2
      clear g1 g2
      go_enter Tryd.func16, Tryd.ntmps16
      go_wp2_with fail
      refine (ok_any _ _ _ xs _ hx).mono ?_
      rintro e w1 ⟨rfl, rfl⟩
      rw [h1]
      go_wp2_with fail
      refine (ok_any _ _ _ ys _ hy).mono ?_
      rintro e w1 ⟨rfl, rfl⟩
      rw [h2]
      go_wp2_with fail
      refine (times_any _ _ _ _ _ _ xs ys _ hx hy G1.out.2.1 G2.out.2.1 (by omega) (by omega)).mono ?_
      rintro e w1 ⟨a3, n3, c3, rfl, ho3, hb3⟩
      cases h3 : okB (toL (val xs * val ys)) with
      | false =>
        go_wp2_with (go_at_call 24; refine (ok_any _ _ _ _ _ ho3.ints).mono ?_; rintro e w1 ⟨rfl, rfl⟩; rw [h3])
        go_ret2
        exact ⟨none, 0, 0, ret_pair (fit_no3 h3).symm, by rw [fitL_no3 h3]; exact own_nil _ _, hb3⟩
      | true =>
        go_wp2_with (go_at_call 24; refine (ok_any _ _ _ _ _ ho3.ints).mono ?_; rintro e w1 ⟨rfl, rfl⟩; rw [h3])
        go_ret2
        exact ⟨a3, n3, c3, ret_pair (fit_yes h1 h2 h3).symm, by rw [fitL_yes h1 h2 h3]; exact ho3, hb3⟩


set_option maxHeartbeats 400000 in
theorem mulNat_any (a b : Option Addr) (n m c d : Nat) (xs ys : List Int) (w : World) (hx : Ints w a n xs) (hy : Ints w b m ys) :
    Calls Tryd.prog 9 #[.slice a n c, .slice b m d] w (PairInts w (fitL xs ys (val xs * val ys)) (fitB xs ys (val xs * val ys))) := by
  go_enter Tryd.func9, Tryd.ntmps9
  go_wp2_with fail
  refine (reckon_times _ _ _ _ _ _ xs ys _ hx hy).mono ?_
  rintro e w1 ⟨a1, n1, c1, rfl, ho1, hb1⟩
  go_wp2_with fail
  go_ret2
  exact ⟨a1, n1, c1, rfl, ho1, hb1⟩

/-- The sums of products so far: i rows, and j of the next one. -/
def RowBound (l : List Int) (i j : Nat) : Prop := ∀ t, 0 ≤ l.getD t 0 ∧ l.getD t 0 ≤ (i : Int) * 99980001 + (if t < i + j then 99980001 else 0)
theorem rowBound_next {l : List Int} {i j : Nat} {p x y : Int} (h : RowBound l i j) (hp : Hid (p = l.getD (i + j) 0)) (h0 : 0 ≤ x * y) (h1 : x * y ≤ 99980001) : RowBound (l.set (i + j) (p + x * y)) i (j + 1) := by
  intro t
  have ht := h t
  rw [getD_set]
  split
  · rename_i hc
    have h2 := h (i + j)
    rw [← hp.out, if_neg (by omega)] at h2
    rw [if_pos (by omega)]
    exact ⟨by omega, by omega⟩
  · rename_i hc
    by_cases h3 : t < i + j
    · rw [if_pos h3] at ht; rw [if_pos (by omega)]; exact ht
    · rw [if_neg h3] at ht
      split <;> exact ⟨ht.1, by omega⟩
theorem rowBound_row {l : List Int} {i j : Nat} (h : RowBound l i j) : RowBound l (i + 1) 0 := by
  intro t
  have := h t
  refine ⟨this.1, ?_⟩
  have h2 := this.2
  split at h2
  · split <;> omega
  · split <;> omega
theorem rowBound_zero (N : Nat) : RowBound (PadTo [] N) 0 0 := by
  intro t
  rw [zero_pad]
  exact ⟨by omega, by split <;> omega⟩
theorem rowBound_upto {l : List Int} {i : Nat} (h : RowBound l i 0) (hi : i ≤ 100) : Upto ((9998000100 + 99980001 : Nat) : Int) l := by
  intro z hz
  obtain ⟨t, ht, rfl⟩ := List.getElem_of_mem hz
  have := h t
  rw [List.getD_eq_getElem?_getD, List.getElem?_eq_getElem ht] at this
  simp only [Option.getD_some] at this
  refine ⟨this.1, ?_⟩
  have h2 := this.2
  split at h2 <;> omega
theorem mul_acc {P xs ys : List Int} {i j : Nat} {x y p : Int} (hl : i + j < P.length) (h : val P = val (xs.take i) * val ys + 10000 ^ i * (x.toNat * val (ys.take j)))
    (hp : Hid (p = P.getD (i + j) 0)) (hy : Hid (y = ys.getD j 0)) (p0 : 0 ≤ p) (x0 : 0 ≤ x) (y0 : 0 ≤ y) :
    val (P.set (i + j) (p + x * y)) = val (xs.take i) * val ys + 10000 ^ i * (x.toNat * val (ys.take (j + 1))) := by
  have h1 := val_set P (i + j) (p + x * y) hl
  have hxy := Int.mul_nonneg x0 y0
  rw [val_take_succ, ← hy.out, Nat.mul_add, Nat.mul_add]
  rw [← hp.out] at h1
  have e2 : 10000 ^ i * (x.toNat * (10000 ^ j * y.toNat)) = 10000 ^ (i + j) * (x * y).toNat := by
    rw [Nat.pow_add, Int.toNat_mul x0 y0, Nat.mul_left_comm x.toNat, Nat.mul_assoc]
  have e3 : (p + x * y).toNat = p.toNat + (x * y).toNat := by omega
  rw [e3, Nat.mul_add] at h1
  rw [e2]
  omega
theorem mul_row {P xs ys : List Int} {i m : Nat} {x : Int} (hm : ys.length = m) (h : val P = val (xs.take i) * val ys + 10000 ^ i * (x.toNat * val (ys.take m))) (hx : Hid (x = xs.getD i 0)) : val P = val (xs.take (i + 1)) * val ys := by
  rw [List.take_of_length_le (l := ys) (by omega)] at h
  rw [val_take_succ, ← hx.out, Nat.add_mul, Nat.mul_assoc, h]

end Go.Proofs.YtnbeofnafdljhaaDoor
