/- The contracts of the two functions FirstOf (the program's and the model's), and of the model's l2First. -/
import Derived.Test.YtjfdmdemgnponaaTerm
namespace Go.Proofs.Ytjfdmdemgnponaa
open Go.RowKit

theorem scan_succ (ts : List Tm) (i : Nat) (need : Int) : scan ts (i + 1) need = if need - 1 + takesI (tmAt ts i).1 = 0 then i else scan ts i (need - 1 + takesI (tmAt ts i).1) := rfl

set_option maxHeartbeats 800000 in
theorem l2First_any (a : Option Addr) (n c : Nat) (ts : List Tm) (w : World) (h : Terms w a n ts) (at_ : Int) (h0 : 0 ≤ at_) (h1 : at_ < n) (q : Nat) (hq : Hid (scan ts (at_.toNat + 1) 1 = q)) :
    Calls Try.prog 46 #[.slice a n c, .int .i64 at_] w fun e w' => e = .returned (.int .i64 q) ∧ Below w.heap.size w w' := by
  obtain ⟨m, rfl⟩ := Int.eq_ofNat_of_zero_le h0
  rw [Int.toNat_natCast] at hq
  have hm : m < n := by omega
  have HL := Lib.hid h.1
  have hbd := h.2.1
  clear h0 h1
  go_enter Try.func46, Try.ntmps46
  go_wp2
  go_loopw [5, 6] (fun l i wr => ∃ (k : Nat) (d : Int), k ≤ m + 1 ∧ i = .int .i64 ((k : Int) - 1) ∧ l = .int .i64 d ∧ -4194304 ≤ d - (k : Int) * 3 ∧ d ≤ 1 + (m + 1 - (k : Int)) * 2 ∧ 1 - (m + 1 - (k : Int)) * 2 ≤ d ∧ Hid (scan ts k d = q) ∧ Below w.heap.size w wr) (fun _ i _ => (intOf i + 1).toNat)
  case atStart => exact ⟨m + 1, 1, Nat.le_refl _, by go_num, rfl, by omega, by omega, by omega, hq, Below.refl _ _⟩
  case round =>
    obtain ⟨k, d, hk, rfl, rfl, hd0, hd1, hd2, hr, hbel⟩ := hrel
    by_cases hp : 0 < k
    · obtain ⟨j, rfl⟩ : ∃ j, k = j + 1 := ⟨k - 1, by omega⟩
      rw [show (((j + 1 : Nat) : Int) - 1) = (j : Int) by omega]
      obtain ⟨b, o, x, y, rfl, hb, hz, hin1, hin2, hc1, hc2⟩ := (h.below (Nat.le_refl _) hbel).at_ (k := j) (by omega)
      obtain ⟨t, HT⟩ : ∃ t, Hid (takesI x = t) := ⟨_, rfl⟩
      have ht := takesI_range x
      rw [HT.out] at ht
      obtain ⟨ht0, ht1⟩ := ht
      have HS : Hid ((if d - 1 + t = 0 then j else scan ts j (d - 1 + t)) = q) := by
        show _ = _
        have := hr.out
        rw [scan_succ, hz.out] at this
        rw [← HT.out]
        exact this
      clear hr
      go_wp2_with fail
      refine (specTakes_any _ _).mono ?_
      rintro e w1 ⟨rfl, hb1⟩
      have ht1' : Below w.heap.size w w1 := hbel.trans (hb1.mono hbel.size)
      rw [HT.out]
      clear hb1 hbel hc1 hc2
      by_cases hz0 : d - 1 + t = 0
      · have hbb : (d - 1 + t == 0) = true := by simpa using hz0
        have hqj : j = q := by have := HS.out; rwa [if_pos hz0] at this
        have HQJ := Lib.hid hqj
        clear hqj
        have hz0' := Lib.hid hz0
        clear hz0
        go_wp2
        go_ret
        exact ⟨ret_int (by rw [HQJ.out]), ht1'⟩
      · have hbb : (d - 1 + t == 0) = false := by simpa using hz0
        have HS2 : Hid (scan ts j (d - 1 + t) = q) := by show _ = _; have := HS.out; rwa [if_neg hz0] at this
        go_wp2
        go_roundw
        case rel => exact ⟨j, d - 1 + t, by omega, by go_num, rfl, by omega, by omega, by omega, HS2, ht1'⟩
        case measure => simp [intOf]
    · have hk0 : k = 0 := by omega
      subst hk0
      have hq0 : 0 = q := hr.out
      subst hq0
      go_wp2
      go_ret
      exact ⟨rfl, hbel⟩

theorem firstI_yes {ts : List Tm} {at_ : Int} (h : expB ts = true) (h0 : 0 ≤ at_) (h1 : at_ < ts.length) : firstI ts at_ = (scan ts (at_.toNat + 1) 1 : Nat) := by
  unfold firstI; rw [if_pos ⟨h, h0, h1⟩]
theorem firstI_no {ts : List Tm} {at_ : Int} (h : expB ts = false ∨ at_ < 0 ∨ (ts.length : Int) ≤ at_) : firstI ts at_ = -1 := by
  unfold firstI; rw [if_neg]; rintro ⟨a, b, c⟩; rcases h with h | h | h
  · rw [h] at a; cases a
  · omega
  · omega

set_option maxHeartbeats 800000 in
theorem specFirstOf_any (a : Option Addr) (n c : Nat) (ts : List Tm) (w : World) (h : Terms w a n ts) (at_ : Int) :
    Calls Try.prog 26 #[.slice a n c, .int .i64 at_] w fun e w' => e = .returned (.int .i64 (firstI ts at_)) ∧ Below w.heap.size w w' := by
  have HL := Lib.hid h.1
  have hbd := h.2.1
  cases hok : expB ts with
  | false =>
    have HF := Lib.hid (firstI_no (at_ := at_) (.inl hok))
    have HK := Lib.hid hok
    clear hok
    go_enter Try.func26, Try.ntmps26
    go_wp2_with fail
    refine (specExpOk_any _ _ _ ts _ h).mono ?_
    rintro e w1 ⟨rfl, hb1⟩
    rw [HK.out]
    go_wp2_with fail
    go_ret
    exact ⟨ret_int HF.out.symm, hb1⟩
  | true =>
    have HK := Lib.hid hok
    obtain ⟨inq, HI⟩ : ∃ inq, Hid ((decide (0 ≤ at_) && decide (at_ ≤ (n : Int) - 1)) = inq) := ⟨_, rfl⟩
    cases inq with
    | false =>
      have HF := Lib.hid (firstI_no (ts := ts) (at_ := at_) (.inr (by have := HI.out; simp at this; rw [HL.out]; omega)))
      clear hok
      go_enter Try.func26, Try.ntmps26
      go_wp2_with fail
      refine (specExpOk_any _ _ _ ts _ h).mono ?_
      rintro e w1 ⟨rfl, hb1⟩
      rw [HK.out]
      go_wp2_with fail
      refine (in_any _ _ _ _).mono ?_
      rintro e w2 ⟨rfl, rfl⟩
      rw [HI.out]
      go_wp2_with fail
      go_ret
      exact ⟨ret_int HF.out.symm, hb1⟩
    | true =>
      have h0 : 0 ≤ at_ := by have := HI.out; simp at this; omega
      have h1 : at_ < n := by have := HI.out; simp at this; omega
      have HF := Lib.hid (firstI_yes hok h0 (by rw [HL.out]; exact h1))
      clear hok
      go_enter Try.func26, Try.ntmps26
      go_wp2_with fail
      refine (specExpOk_any _ _ _ ts _ h).mono ?_
      rintro e w1 ⟨rfl, hb1⟩
      rw [HK.out]
      go_wp2_with fail
      refine (in_any _ _ _ _).mono ?_
      rintro e w2 ⟨rfl, rfl⟩
      rw [HI.out]
      go_wp2_with fail
      refine (l2First_any _ _ _ ts _ (h.below (Nat.le_refl _) hb1) _ h0 h1 _ rfl).mono ?_
      rintro e w2 ⟨rfl, hb2⟩
      go_wp2_with fail
      go_ret
      exact ⟨ret_int HF.out.symm, hb1.trans (hb2.mono hb1.size)⟩

/-- What is needed at a place, told by what is left ahead of it and behind. -/
def NeedIs (ts : List Tm) (m k : Nat) (wanted : Int) : Prop := ∃ dk dm : Int, runD 0 (ts.take k) = some dk ∧ runD 0 (ts.take (m + 1)) = some dm ∧ wanted = dk - dm + 1
theorem NeedIs.start {ts : List Tm} {m : Nat} {x : Int} (h : runD 0 ts = some x) (hm : m < ts.length) : NeedIs ts m m (takesI (tmAt ts m).1) := by
  obtain ⟨d, hd, _⟩ := runD_take h m
  obtain ⟨_, _, h3⟩ := runD_at h hm hd
  exact ⟨d, _, hd, h3, by omega⟩
theorem NeedIs.pred {ts : List Tm} {m k : Nat} {x wanted : Int} (h : runD 0 ts = some x) (hk : k < ts.length) (hn : NeedIs ts m (k + 1) wanted) : NeedIs ts m k (wanted + (takesI (tmAt ts k).1 - 1)) := by
  obtain ⟨dk, dm, h1, h2, h3⟩ := hn
  obtain ⟨d, hd, _⟩ := runD_take h k
  obtain ⟨_, _, h4⟩ := runD_at h hk hd
  rw [h4] at h1
  injection h1 with h1
  exact ⟨d, dm, hd, h2, by omega⟩
theorem NeedIs.zero {ts : List Tm} {m : Nat} {wanted : Int} (hm : m < ts.length) (hn : NeedIs ts m 0 wanted) : wanted ≤ 0 := by
  obtain ⟨dk, dm, h1, h2, h3⟩ := hn
  have e : dk = 0 := by rw [List.take_zero] at h1; simp only [runD] at h1; injection h1 with h1; omega
  have := runD_pos h2 (Int.le_refl _) (by rw [List.length_take]; omega)
  omega

set_option maxHeartbeats 800000 in
theorem firstOf_any (a : Option Addr) (n c : Nat) (ts : List Tm) (w : World) (h : Terms w a n ts) (at_ : Int) :
    Calls Try.prog 15 #[.slice a n c, .int .i64 at_] w fun e w' => e = .returned (.int .i64 (firstI ts at_)) ∧ Below w.heap.size w w' := by
  have HL := Lib.hid h.1
  have hbd := h.2.1
  cases hok : expB ts with
  | false =>
    have HF := Lib.hid (firstI_no (at_ := at_) (.inl hok))
    have HK := Lib.hid hok
    clear hok
    go_enter Try.func15, Try.ntmps15
    go_wp2_with fail
    refine (expOk_any _ _ _ ts _ h).mono ?_
    rintro e w1 ⟨rfl, hb1⟩
    rw [HK.out]
    go_wp2_with fail
    go_ret
    exact ⟨ret_int HF.out.symm, hb1⟩
  | true =>
    have HK := Lib.hid hok
    by_cases h0 : at_ < 0
    · have HF := Lib.hid (firstI_no (ts := ts) (at_ := at_) (.inr (.inl h0)))
      clear hok
      go_enter Try.func15, Try.ntmps15
      go_wp2_with fail
      refine (expOk_any _ _ _ ts _ h).mono ?_
      rintro e w1 ⟨rfl, hb1⟩
      rw [HK.out]
      go_wp2_with fail
      go_ret
      exact ⟨ret_int HF.out.symm, hb1⟩
    by_cases h1 : (n : Int) ≤ at_
    · have HF := Lib.hid (firstI_no (ts := ts) (at_ := at_) (.inr (.inr (by rw [HL.out]; exact h1))))
      clear hok
      go_enter Try.func15, Try.ntmps15
      go_wp2_with fail
      refine (expOk_any _ _ _ ts _ h).mono ?_
      rintro e w1 ⟨rfl, hb1⟩
      rw [HK.out]
      go_wp2_with fail
      go_ret
      exact ⟨ret_int HF.out.symm, hb1⟩
    · obtain ⟨m, rfl⟩ := Int.eq_ofNat_of_zero_le (show 0 ≤ at_ by omega)
      have hm : m < n := by omega
      have HF := Lib.hid (firstI_yes (at_ := (m : Int)) hok (by omega) (by rw [HL.out]; omega))
      rw [Int.toNat_natCast] at HF
      have HX := Lib.hid ((expB_iff ts).1 hok).2
      obtain ⟨q, hq⟩ : ∃ q, Hid (scan ts (m + 1) 1 = q) := ⟨_, rfl⟩
      obtain ⟨b, o, x, y, rfl, hb, hz, hin1, hin2, hc1, hc2⟩ := h.at_ (k := m) hm
      obtain ⟨t, HT⟩ : ∃ t, Hid (takesI x = t) := ⟨_, rfl⟩
      have ht := takesI_range x
      rw [HT.out] at ht
      obtain ⟨ht0, ht1⟩ := ht
      have hN : NeedIs ts m m t := by have := NeedIs.start HX.out (by rw [HL.out]; exact hm); rw [hz.out] at this; rw [← HT.out]; exact this
      have HS : Hid ((if t = 0 then m else scan ts m t) = q) := by
        show _ = _
        have := hq.out
        rw [scan_succ, hz.out] at this
        rw [← HT.out]
        simpa using this
      have hle := ((expB_iff ts).1 hok).1
      have hn3 : n ≤ 3000 := by rw [HL.out] at hle; exact hle
      have ht2 : 0 ≤ t := by
        obtain ⟨d, hd, _⟩ := runD_take HX.out m
        have := ((tOkB_iff _).1 (runD_at HX.out (by rw [HL.out]; exact hm) hd).1).1
        rw [hz.out] at this
        rw [← HT.out]
        exact this
      clear hok h0 h1 hle
      go_enter Try.func15, Try.ntmps15
      go_wp2_with fail
      refine (expOk_any _ _ _ ts _ h).mono ?_
      rintro e w1 ⟨rfl, hb1⟩
      have hcm : w1.cell? ⟨b, o + m * 2, none⟩ = some (.int .i64 x) := (hb1.cell hb).trans hc1
      rw [HK.out]
      clear hc1 hc2
      go_wp2_with fail
      refine (takes_any _ _).mono ?_
      rintro e w2 ⟨rfl, rfl⟩
      rw [HT.out]
      go_wp2
      go_loopw [5, 6] (fun f l wr => ∃ (k : Nat) (d : Int), k ≤ m ∧ f = .int .i64 (k : Int) ∧ l = .int .i64 d ∧ d ≤ 3 + (m - (k : Int)) * 2 ∧ 0 ≤ d ∧ NeedIs ts m k d ∧ Hid ((if d = 0 then k else scan ts k d) = q) ∧ w1 = wr) (fun f _ _ => (intOf f).toNat)
      case atStart => exact ⟨m, t, Nat.le_refl _, rfl, rfl, by omega, by omega, hN, HS, rfl⟩
      case round =>
        obtain ⟨k, d, hk, rfl, rfl, hd0, hd1, hnd, hr, rfl⟩ := hrel
        clear hN HS
        by_cases hdp : 0 < d
        · have hkp : 0 < k := by
            rcases Nat.eq_zero_or_pos k with h' | h'
            · subst h'
              have := hnd.zero (by rw [HL.out]; exact hm)
              omega
            · exact h'
          obtain ⟨j, rfl⟩ : ∃ j, k = j + 1 := ⟨k - 1, by omega⟩
          obtain ⟨b2, o2, x2, y2, e2, hb2, hz2, hin3, hin4, hc3, hc4⟩ := (h.below (Nat.le_refl _) hb1).at_ (k := j) (by omega)
          injection e2 with e2
          injection e2 with e3 e4
          subst e3 e4
          obtain ⟨t2, HT2⟩ : ∃ t2, Hid (takesI x2 = t2) := ⟨_, rfl⟩
          have htt := takesI_range x2
          rw [HT2.out] at htt
          obtain ⟨_, htt1⟩ := htt
          have htt2 : 0 ≤ t2 := by
            obtain ⟨d', hd', _⟩ := runD_take HX.out j
            have := ((tOkB_iff _).1 (runD_at HX.out (by rw [HL.out]; omega) hd').1).1
            rw [hz2.out] at this
            rw [← HT2.out]
            exact this
          have hnd2 := hnd.pred HX.out (by rw [HL.out]; omega)
          rw [hz2.out] at hnd2
          have hnd3 : NeedIs ts m j (d + (t2 - 1)) := by rw [← HT2.out]; exact hnd2
          have HS2 : Hid ((if d + (t2 - 1) = 0 then j else scan ts j (d + (t2 - 1))) = q) := by
            show _ = _
            have := hr.out
            rw [if_neg (by omega), scan_succ, hz2.out] at this
            simp only [] at this
            rw [HT2.out] at this
            rw [show d + (t2 - 1) = d - 1 + t2 by omega]
            exact this
          clear hr hnd hnd2
          go_wp2_with fail
          refine (takes_any _ _).mono ?_
          rintro e w2 ⟨rfl, rfl⟩
          rw [HT2.out]
          go_wp2
          go_roundw
          case rel => exact ⟨j, d + (t2 - 1), by omega, by go_num, rfl, by omega, by omega, hnd3, HS2, trivial⟩
          case measure => simp [intOf]
        · obtain rfl : d = 0 := by omega
          have hkq : k = q := by have := hr.out; rwa [if_pos rfl] at this
          subst hkq
          have HQ := hq
          clear hq
          go_wp2
          go_ret
          exact ⟨ret_int (by rw [HF.out, HQ.out]), hb1⟩
end Go.Proofs.Ytjfdmdemgnponaa
