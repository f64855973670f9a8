/- Joined texts of this proof (ImplSteps, ImplStepsIn, ImplCodeOf, ImplStart, AppZeros, SpecStart), in build order. -/
import Derived.Test.YtmooecbdpfhnlaaGreatK15
import Derived.Test.YtmooecbdpfhnlaaGreatK21
import Derived.Lib.SliceRun
import Derived.Test.YtmooecbdpfhnlaaGreatK12
import Derived.Test.YtmooecbdpfhnlaaGreatK20
import Derived.Test.YtmooecbdpfhnlaaGreatK19
import Derived.Test.YtmooecbdpfhnlaaGreatK18
/- The contracts of the program's wellNested, bodiesAt, stepsWith, stepsIn. -/
namespace Go.Proofs.YtmooecbdpfhnlaaGreat
open Go.RowKit

theorem endB_in {ss : List Stm} {k : Nat} (hk : k < ss.length) (h40 : ss.length ≤ 40) : endB ss (k : Int) = endOf ss k := by rw [endB, if_pos (by omega), Int.toNat_natCast]
set_option maxHeartbeats 1600000 in
theorem wellNested_any (a : Option Addr) (n c : Nat) (rs : List SRow) (ss : List Stm) (w : World) (h : Stmts w a n rs ss) (h40 : n ≤ 40) :
    Calls Tryz.prog 150 #[.slice a n c] w fun e w' => e = .returned (.bool (decide (blockOf ss 0 = (n : Int)))) ∧ Below w.heap.size w w' := by
  have HL := Lib.hid h.2.1
  obtain ⟨R, HR⟩ : ∃ R, Hid (decide (blockOf ss 0 = (n : Int)) = R) := ⟨_, rfl⟩
  rw [HR.out]
  go_enter Tryz.func150, Tryz.ntmps150
  go_wp2
  go_loopw [3] (fun i wr => ∃ k : Nat, k ≤ n ∧ i = .int .i64 (k : Int) ∧ Hid (decide (blockOf ss k = (n : Int)) = R) ∧ Below w.heap.size w wr) (fun i _ => n - (intOf i).toNat)
  case atStart => exact ⟨0, Nat.zero_le _, rfl, HR, Below.refl _ _⟩
  case round =>
    clear HR
    obtain ⟨k, hk, rfl, HR, hbel⟩ := hrel
    by_cases hlt : k < n
    case neg =>
      obtain rfl : k = n := by omega
      have hR : R = true := by rw [← HR.out, block_past (by rw [HL.out]; exact Nat.le_refl _)]; exact decide_eq_true rfl
      subst hR
      go_wp2
      go_ret
      exact ⟨rfl, hbel⟩
    have hl : k < ss.length := by rw [HL.out]; exact hlt
    obtain ⟨b, o, x, rfl, hx, hix, hc⟩ := (h.below hbel).op hlt
    by_cases hs : x = 3 ∨ x = 9 ∨ x = 4
    · have hR : R = false := by rw [← HR.out, block_stop hl (by rw [hx.out]; exact hs)]; exact decide_eq_false (by omega)
      subst hR
      have hsb : secondB x = (x == 3 || x == 9) := rfl
      rcases hs with rfl | rfl | rfl
      all_goals
        go_wp2_with (go_at_call 179; refine (startsSecond_any _ _).mono ?_; rintro e w' ⟨rfl, rfl⟩; rw [hsb])
        go_ret
        exact ⟨rfl, hbel⟩
    have hsb : secondB x = false := by rw [← Bool.not_eq_true, second_iff]; omega
    have k4 : (x == 4) = false := by simp; omega
    by_cases ho : x = 2 ∨ x = 5 ∨ x = 8
    case neg =>
      have hob : opensB x = false := by rw [← Bool.not_eq_true, opens_iff]; exact ho
      have HR2 := Lib.hid (show decide (blockOf ss (k + 1) = (n : Int)) = R by rw [← block_next hl (by rw [hx.out]; exact hs) (by rw [hx.out]; exact ho)]; exact HR.out)
      clear HR hs ho
      go_wp2_with (first | (go_at_call 179; refine (startsSecond_any _ _).mono ?_; rintro e w' ⟨rfl, rfl⟩; rw [hsb]) | (go_at_call 180; refine (opensBlock_any _ _).mono ?_; rintro e w' ⟨rfl, rfl⟩; rw [hob]))
      go_roundw
      case rel => exact ⟨k + 1, by omega, by go_num, HR2, hbel⟩
      case measure => simp [intOf]; omega
    have hob : opensB x = true := (opens_iff _).2 ho
    have hoo : opAt ss k = 2 ∨ opAt ss k = 5 ∨ opAt ss k = 8 := by rw [hx.out]; exact ho
    have hend := end_in ss hl
    have hc2 := implEndOf_any (some ⟨b, o, none⟩) n c rs ss (k : Int) wr (h.below hbel)
    rw [endB_in hl (by rw [HL.out]; exact h40)] at hc2
    have HRo := Lib.hid (fun he => block_over hl hoo he)
    have HRb := Lib.hid (fun he => block_bad hl hoo he)
    obtain ⟨⟨M, E⟩, HP⟩ : ∃ P, Hid (endOf ss k = P) := ⟨_, rfl⟩
    rw [HP.out] at hc2 hend HRo HRb
    simp only [] at hc2 HRo HRb
    have HC := Lib.hid hc2
    clear hc2 hs ho hoo
    go_wp2_with (first | (go_at_call 179; refine (startsSecond_any _ _).mono ?_; rintro e w' ⟨rfl, rfl⟩; rw [hsb]) | (go_at_call 180; refine (opensBlock_any _ _).mono ?_; rintro e w' ⟨rfl, rfl⟩; rw [hob]))
    refine HC.out.mono ?_
    rintro e w1 ⟨rfl, hb1⟩
    have hbel1 := hbel.trans (hb1.mono hbel.size)
    clear hc hb1
    by_cases hE : E < 0
    · have hR : R = false := by rw [← HR.out, HRb.out hE]; exact decide_eq_false (by omega)
      subst hR
      clear hend
      go_wp2
      go_ret
      exact ⟨rfl, hbel1⟩
    · have hin2 : (k : Int) < E ∧ E < n := by
        have := HL.out
        rcases hend with q | q
        · injection q with q1 q2; omega
        · simp only [] at q; omega
      obtain ⟨e, rfl⟩ : ∃ e : Nat, E = (e : Int) := ⟨E.toNat, by omega⟩
      have HR2 := Lib.hid (show decide (blockOf ss (e + 1) = (n : Int)) = R by rw [← HR.out, HRo.out (Int.natCast_nonneg e), Int.toNat_natCast])
      clear hend HR
      go_wp2
      go_roundw
      case rel => exact ⟨e + 1, by omega, by go_num, HR2, hbel1⟩
      case measure => simp [intOf]; omega
theorem Stmts.part {w : World} {b o n : Nat} {rs : List SRow} {ss : List Stm} (h : Stmts w (some ⟨b, o, none⟩) n rs ss) {lo hi : Nat} (h1 : lo ≤ hi) (h2 : hi ≤ n) :
    Stmts w (some ⟨b, o + lo * 4, none⟩) (hi - lo) ((rs.drop lo).take (hi - lo)) (seg ss lo hi) := by
  obtain ⟨q1, q2, q3, q4, q5⟩ := h
  have hr : ∀ i, i < hi - lo → srAt ((rs.drop lo).take (hi - lo)) i = srAt rs (lo + i) := fun i hi' => by
    unfold srAt
    rw [List.getD_eq_getElem?_getD, List.getD_eq_getElem?_getD, List.getElem?_take_of_lt hi', List.getElem?_drop]
  refine ⟨by rw [List.length_take, List.length_drop]; omega, by rw [seg_len h1 (by omega)], by omega, fun hp => ?_, fun i hi' => ?_⟩
  · obtain ⟨b', o', e, hb, hc⟩ := q4 (by omega)
    injection e with e
    injection e with e1 e2
    subst e1 e2
    refine ⟨b, o + lo * 4, rfl, hb, fun i hi' => ?_⟩
    have := hc (lo + i) (by omega)
    rw [hr i hi']
    rw [show o + lo * 4 + i * 4 = o + (lo + i) * 4 by omega]
    exact this
  · rw [hr i hi', seg_at (by omega)]
    exact q5 (lo + i) (by omega)
set_option maxHeartbeats 1600000 in
theorem bodiesAt_plain (a : Option Addr) (n c : Nat) (rs : List SRow) (ss : List Stm) (k : Nat) (w : World) (h : Stmts w a n rs ss) (h40 : n ≤ 40) (hk : k < n) (he : endOf ss k = (-1, -1)) :
    Calls Tryz.prog 162 #[.slice a n c, .int .i64 (k : Int)] w fun e w' => e = .returned (.tuple #[.slice none 0 0, .slice none 0 0, .int .i64 (k : Int)]) ∧ Below w.heap.size w w' := by
  have hc := implEndOf_any a n c rs ss (k : Int) w h
  rw [endB_in (by rw [h.2.1]; exact hk) (by rw [h.2.1]; exact h40), he] at hc
  simp only [] at hc
  have HC := Lib.hid hc
  clear hc he
  go_enter Tryz.func162, Tryz.ntmps162
  go_wp2_with fail
  refine HC.out.mono ?_
  rintro e w1 ⟨rfl, hb1⟩
  go_wp2
  go_ret3
  exact ⟨rfl, hb1⟩
set_option maxHeartbeats 1600000 in
theorem bodiesAt_one (b o n c : Nat) (rs : List SRow) (ss : List Stm) (k e : Nat) (w : World) (h : Stmts w (some ⟨b, o, none⟩) n rs ss) (h40 : n ≤ 40) (hcap : n ≤ c) (hk : k < n) (hke : k < e) (hen : e < n) (he : endOf ss k = (-1, (e : Int))) :
    Calls Tryz.prog 162 #[.slice (some ⟨b, o, none⟩) n c, .int .i64 (k : Int)] w fun ed w' => ed = .returned (.tuple #[.slice (some ⟨b, o + (k + 1) * 4, none⟩) (e - (k + 1)) (c - (k + 1)), .slice none 0 0, .int .i64 (e : Int)]) ∧ Below w.heap.size w w' := by
  have hc := implEndOf_any (some ⟨b, o, none⟩) n c rs ss (k : Int) w h
  rw [endB_in (by rw [h.2.1]; exact hk) (by rw [h.2.1]; exact h40), he] at hc
  simp only [] at hc
  have HC := Lib.hid hc
  clear hc he
  go_enter Tryz.func162, Tryz.ntmps162
  go_wp2_with fail
  refine HC.out.mono ?_
  rintro e w1 ⟨rfl, hb1⟩
  go_wp2
  go_ret3
  exact ⟨rfl, hb1⟩
set_option maxHeartbeats 1600000 in
theorem bodiesAt_two (b o n c : Nat) (rs : List SRow) (ss : List Stm) (k m e : Nat) (w : World) (h : Stmts w (some ⟨b, o, none⟩) n rs ss) (h40 : n ≤ 40) (hcap : n ≤ c) (hk : k < m) (hme : m < e) (hen : e < n) (he : endOf ss k = ((m : Int), (e : Int))) :
    Calls Tryz.prog 162 #[.slice (some ⟨b, o, none⟩) n c, .int .i64 (k : Int)] w fun ed w' => ed = .returned (.tuple #[.slice (some ⟨b, o + (k + 1) * 4, none⟩) (m - (k + 1)) (c - (k + 1)), .slice (some ⟨b, o + (m + 1) * 4, none⟩) (e - (m + 1)) (c - (m + 1)), .int .i64 (e : Int)]) ∧ Below w.heap.size w w' := by
  have hc := implEndOf_any (some ⟨b, o, none⟩) n c rs ss (k : Int) w h
  rw [endB_in (by rw [h.2.1]; omega) (by rw [h.2.1]; exact h40), he] at hc
  simp only [] at hc
  have HC := Lib.hid hc
  clear hc he
  go_enter Tryz.func162, Tryz.ntmps162
  go_wp2_with fail
  refine HC.out.mono ?_
  rintro e w1 ⟨rfl, hb1⟩
  go_wp2
  go_quiet (fail)
  go_wp2
  go_ret3
  exact ⟨rfl, below_dn hb1 _⟩
def stepI (x : Int) (y : Int) (s1 s2 : Int) : Int := if x = 2 then 1 + max s1 s2 else if x = 5 then 1 + y * (1 + s1) else 1 + s1 + s2
set_option maxHeartbeats 1600000 in
theorem stepsWith_any (x y : Int) (b1 b2 : Option Addr) (m1 m2 d1 d2 : Nat) (s1 s2 : Nat) (w : World) (h1 : s1 < 3656158440062976) (h2 : s2 < 3656158440062976) (hy : x = 5 → ∃ k : Nat, k ≤ 4 ∧ y = (k : Int)) :
    Calls Tryz.prog 182 #[.agg #[.int .i64 x, .int .i64 y, .slice b1 m1 d1, .slice b2 m2 d2], .int .i64 (s1 : Int), .int .i64 (s2 : Int)] w fun e w' => e = .returned (.int .i64 (stepI x y s1 s2)) ∧ Below w.heap.size w w' := by
  obtain ⟨R, HR⟩ : ∃ R, Hid (stepI x y (s1 : Int) (s2 : Int) = R) := ⟨_, rfl⟩
  rw [HR.out]
  by_cases hx : x = 2
  · subst hx
    have hR : R = 1 + max (s1 : Int) (s2 : Int) := by rw [← HR.out]; rfl
    clear HR
    have HR := Lib.hid hR
    clear hR hy
    by_cases hlt : s1 < s2
    · go_enter Tryz.func182, Tryz.ntmps182
      go_wp2
      go_ret
      exact ⟨ret_int (by first | (rw [HR.out]; omega) | rw [HR.out]), (Below.refl _ _).alloc (Nat.le_refl _) _⟩
    · go_enter Tryz.func182, Tryz.ntmps182
      go_wp2
      go_ret
      exact ⟨ret_int (by first | (rw [HR.out]; omega) | rw [HR.out]), (Below.refl _ _).alloc (Nat.le_refl _) _⟩
  have k2 : (x == 2) = false := by simpa using hx
  by_cases h5 : x = 5
  · subst h5
    obtain ⟨k, hk, rfl⟩ := hy rfl
    have hR : R = 1 + (k : Int) * (1 + (s1 : Int)) := by rw [← HR.out]; rfl
    clear HR
    obtain ⟨X, HX⟩ : ∃ X : Nat, Hid (k * (1 + s1) = X) := ⟨_, Lib.hid rfl⟩
    have hXb : X ≤ 14624633760251908 := by
      have : k * (1 + s1) ≤ 4 * (1 + s1) := Nat.mul_le_mul_right _ hk
      have := HX.out
      omega
    have hmul : (k : Int) * (1 + (s1 : Int)) = (X : Int) := by rw [← HX.out]; push_cast; rfl
    rw [hmul] at hR
    have HR := Lib.hid hR
    clear hR hy k2 hx
    go_enter Tryz.func182, Tryz.ntmps182
    go_wp2
    go_ret
    exact ⟨ret_int (by rw [HR.out]), (Below.refl _ _).alloc (Nat.le_refl _) _⟩
  have k5 : (x == 5) = false := by simpa using h5
  have hR : R = 1 + (s1 : Int) + (s2 : Int) := by rw [← HR.out]; unfold stepI; rw [if_neg hx, if_neg h5]
  clear HR
  have HR := Lib.hid hR
  clear hR hy hx h5
  go_enter Tryz.func182, Tryz.ntmps182
  go_wp2
  go_ret
  exact ⟨ret_int (by rw [HR.out]), (Below.refl _ _).alloc (Nat.le_refl _) _⟩
end Go.Proofs.YtmooecbdpfhnlaaGreat
/- The contract of the program's stepsIn. -/
namespace Go.Proofs.YtmooecbdpfhnlaaGreat
open Go.RowKit

/-- The contract, for bodies below a length. -/
def StepsInAt (N : Nat) : Prop := ∀ (a : Option Addr) (n c : Nat) (rs : List SRow) (ss : List Stm) (s : Nat) (w : World), n < N → n ≤ 40 → n ≤ c → Stmts w a n rs ss → Steps ss 0 n s →
  Calls Tryz.prog 151 #[.slice a n c] w fun e w' => e = .returned (.int .i64 (s : Int)) ∧ Below w.heap.size w w'
theorem stmts_nil (w : World) : Stmts w none 0 [] [] := ⟨rfl, rfl, by omega, fun h => absurd h (by omega), fun i h => absurd h (by omega)⟩
set_option maxRecDepth 20000 in
set_option maxHeartbeats 6400000 in
theorem stepsIn_step (N : Nat) (HI : Hid (StepsInAt N)) : StepsInAt (N + 1) := by
  intro a n c rs ss s w hN h40 hcap h hst
  have hbig := steps_bound hst (by omega)
  have HL := Lib.hid h.2.1
  have HS := Lib.hid h
  have HN : Hid (0 < n → ∀ w', Calls Tryz.prog 151 #[.slice none 0 0] w' fun e w'' => e = .returned (.int .i64 0) ∧ Below w'.heap.size w' w'') := Lib.hid (fun hp w' => HI.out none 0 0 [] [] 0 w' (by omega) (by omega) (by omega) (stmts_nil w') (.nil 0))
  go_enter Tryz.func151, Tryz.ntmps151
  go_wp2
  go_loopw [3, 4] (fun q x wr => ∃ k u t : Nat, k ≤ n ∧ x = .int .i64 (k : Int) ∧ q = .int .i64 (u : Int) ∧ u + t = s ∧ Hid (Steps ss k n t) ∧ Below w.heap.size w wr) (fun _ x _ => n - (intOf x).toNat)
  case atStart => exact ⟨0, 0, s, Nat.zero_le _, rfl, rfl, by omega, Lib.hid hst, Below.refl _ _⟩
  case round =>
    clear hst h
    obtain ⟨k, u, t, hkn, rfl, rfl, hut, HT, hbel⟩ := hrel
    by_cases hlt : k < n
    case neg =>
      obtain rfl : k = n := by omega
      have h0 := steps_none HT.out
      subst h0
      have e0 : u = s := by omega
      subst e0
      go_wp2
      go_ret
      exact ⟨rfl, hbel⟩
    have HN2 := Lib.hid (HN.out (by omega))
    clear HN
    have HN := HN2
    clear HN2
    obtain ⟨b, o, x, y, p1, m1, d1, p2, m2, d2, ts, us, rfl, hb, hz, hin1, hin2, hc1, hc2, hc3, hc4, _⟩ := (HS.out.below hbel).at_ hlt
    have hop : opAt ss k = x := by rw [opAt, hz.out]
    have hst := HT.out
    clear HT
    cases hst with
    | nil => omega
    | @plain _ _ s1 hi h2 h5 h8 p =>
      have HBD := Lib.hid (bodiesAt_plain (some ⟨b, o, none⟩) n c rs ss k wr (HS.out.below hbel) h40 hlt (end_plain hi h2 h5 h8))
      rw [hop] at h2 h5 h8
      have HP := Lib.hid p
      have hub : u + s1 + 1 < 3656158440062976 := by omega
      have HU := Lib.hid hut
      have HF1 : Hid (∀ w', Below w.heap.size w w' → Calls Tryz.prog 151 #[.slice none 0 0] w' fun e w'' => e = .returned (.int .i64 (0 : Int)) ∧ Below w'.heap.size w' w'') := Lib.hid (fun w' hw' => HN.out w')
      have HF2 : Hid (∀ w', Below w.heap.size w w' → Calls Tryz.prog 151 #[.slice none 0 0] w' fun e w'' => e = .returned (.int .i64 (0 : Int)) ∧ Below w'.heap.size w' w'') := Lib.hid (fun w' hw' => HN.out w')
      have HF3 : Hid (∀ w', Calls Tryz.prog 182 #[.agg #[.int .i64 x, .int .i64 y, .slice p1 m1 d1, .slice p2 m2 d2], .int .i64 (0 : Int), .int .i64 (0 : Int)] w' fun e w'' => e = .returned (.int .i64 ((1 : Nat) : Int)) ∧ Below w'.heap.size w' w'') := Lib.hid (fun w' => (stepsWith_any x y p1 p2 m1 m2 d1 d2 0 0 w' (by omega) (by omega) (fun h => absurd h h5)).mono fun _ _ ⟨he, hb⟩ => ⟨by rw [he]; exact ret_int (by unfold stepI; rw [if_neg h2, if_neg h5]; rfl), hb⟩)
      clear h2 h5 h8 hop p hut hbig
      go_wp2_with fail
      refine HBD.out.mono ?_
      rintro ed w1 ⟨rfl, hb1⟩
      have hbel1 := hbel.trans (hb1.mono hbel.size)
      have hbw1 : b < w1.heap.size := Nat.lt_of_lt_of_le hb hb1.size
      have f1 := lat_cell hbw1 ((hb1.cell hb).trans hc1)
      have f2 := lat_cell hbw1 ((hb1.cell hb).trans hc2)
      have f3 := lat_cell hbw1 ((hb1.cell hb).trans hc3)
      have f4 := lat_cell hbw1 ((hb1.cell hb).trans hc4)
      have HC1 := Lib.hid (fun p : Lat w1 => HF1.out p.wd (hbel1.trans (p.ok.mono hbel1.size)))
      have HC2 := Lib.hid (fun p : Lat w1 => HF2.out p.wd (hbel1.trans (p.ok.mono hbel1.size)))
      have HC3 := Lib.hid (fun p : Lat w1 => HF3.out p.wd)
      clear hc1 hc2 hc3 hc4
      go_wp2
      refine wp_region_lat (by kernel_rfl) (by kernel_rfl) ?_
      repeat (go_big_quiet_step (first | (go_at_call 151; first | with_reducible exact lat_calls (HC1.out _) | with_reducible exact lat_calls (HC2.out _)) | (go_at_call 182; exact lat_calls (HC3.out _))))
      refine wpQuiet_nil ?_
      intro _ hw'
      obtain ⟨⟨wq, hwq⟩, hw''⟩ := hw'
      subst hw''
      have ht := hbel1.trans (hwq.mono hbel1.size)
      clear f1 f2 f3 f4 HC1 HC2 HC3
      go_wp2
      go_roundw
      case rel => exact ⟨k + 1, u + 1, s1, by omega, by go_num, by go_num, by have := HU.out; omega, HP, ht⟩
      case measure => simp [intOf]; omega
    | @one _ e _ s1 t1 hi h2 he p q =>
      have q1 := (steps_small p).1
      have q2 := (steps_small q).1
      have hs_s1 := steps_bound p (by omega)
      have HBD := Lib.hid (bodiesAt_one b o n c rs ss k e wr (HS.out.below hbel) h40 hcap hlt (by omega) (by omega) he)
      obtain rfl : x = 2 := hop.symm.trans h2
      have HQ := Lib.hid q
      have hub : u + s1 + t1 + 1 < 3656158440062976 := by omega
      have HU := Lib.hid hut
      have HF1 : Hid (∀ w', Below w.heap.size w w' → Calls Tryz.prog 151 #[.slice (some ⟨b, o + (k + 1) * 4, none⟩) (e - (k + 1)) (c - (k + 1))] w' fun e w'' => e = .returned (.int .i64 (s1 : Int)) ∧ Below w'.heap.size w' w'') := Lib.hid (fun w' hw' => HI.out _ _ _ _ _ _ w' (by omega) (by omega) (by omega) ((HS.out.below hw').part (lo := k + 1) (hi := e) (by omega) (by omega)) (part_seg p (by rw [HL.out]; omega)))
      have HF2 : Hid (∀ w', Below w.heap.size w w' → Calls Tryz.prog 151 #[.slice none 0 0] w' fun e w'' => e = .returned (.int .i64 (0 : Int)) ∧ Below w'.heap.size w' w'') := Lib.hid (fun w' hw' => HN.out w')
      have HF3 : Hid (∀ w', Calls Tryz.prog 182 #[.agg #[.int .i64 2, .int .i64 y, .slice p1 m1 d1, .slice p2 m2 d2], .int .i64 (s1 : Int), .int .i64 (0 : Int)] w' fun e w'' => e = .returned (.int .i64 ((1 + s1 : Nat) : Int)) ∧ Below w'.heap.size w' w'') := Lib.hid (fun w' => (stepsWith_any 2 y p1 p2 m1 m2 d1 d2 s1 0 w' hs_s1 (by omega) (fun h => absurd h (by decide))).mono fun _ _ ⟨he, hb⟩ => ⟨by rw [he]; exact ret_int (by unfold stepI; rw [if_pos rfl]; omega), hb⟩)
      clear he h2 hop p q hut hbig
      go_wp2_with fail
      refine HBD.out.mono ?_
      rintro ed w1 ⟨rfl, hb1⟩
      have hbel1 := hbel.trans (hb1.mono hbel.size)
      have hbw1 : b < w1.heap.size := Nat.lt_of_lt_of_le hb hb1.size
      have f1 := lat_cell hbw1 ((hb1.cell hb).trans hc1)
      have f2 := lat_cell hbw1 ((hb1.cell hb).trans hc2)
      have f3 := lat_cell hbw1 ((hb1.cell hb).trans hc3)
      have f4 := lat_cell hbw1 ((hb1.cell hb).trans hc4)
      have HC1 := Lib.hid (fun p : Lat w1 => HF1.out p.wd (hbel1.trans (p.ok.mono hbel1.size)))
      have HC2 := Lib.hid (fun p : Lat w1 => HF2.out p.wd (hbel1.trans (p.ok.mono hbel1.size)))
      have HC3 := Lib.hid (fun p : Lat w1 => HF3.out p.wd)
      clear hc1 hc2 hc3 hc4
      go_wp2
      refine wp_region_lat (by kernel_rfl) (by kernel_rfl) ?_
      repeat (go_big_quiet_step (first | (go_at_call 151; first | with_reducible exact lat_calls (HC1.out _) | with_reducible exact lat_calls (HC2.out _)) | (go_at_call 182; exact lat_calls (HC3.out _))))
      refine wpQuiet_nil ?_
      intro _ hw'
      obtain ⟨⟨wq, hwq⟩, hw''⟩ := hw'
      subst hw''
      have ht := hbel1.trans (hwq.mono hbel1.size)
      clear f1 f2 f3 f4 HC1 HC2 HC3
      go_wp2
      go_roundw
      case rel => exact ⟨e + 1, u + (1 + s1), t1, by omega, by go_num, by go_num, by have := HU.out; omega, HQ, ht⟩
      case measure => simp [intOf]; omega
    | @two _ m e _ s1 s2 t1 hi h2 he p p' q =>
      have q1 := (steps_small p).1
      have q2 := (steps_small p').1
      have q3 := (steps_small q).1
      have hs_s1 := steps_bound p (by omega)
      have hs_s2 := steps_bound p' (by omega)
      have HBD := Lib.hid (bodiesAt_two b o n c rs ss k m e wr (HS.out.below hbel) h40 hcap (by omega) (by omega) (by omega) he)
      obtain rfl : x = 2 := hop.symm.trans h2
      have HQ := Lib.hid q
      have hub : u + max s1 s2 + t1 + 1 < 3656158440062976 := by omega
      have HU := Lib.hid hut
      have HF1 : Hid (∀ w', Below w.heap.size w w' → Calls Tryz.prog 151 #[.slice (some ⟨b, o + (k + 1) * 4, none⟩) (m - (k + 1)) (c - (k + 1))] w' fun e w'' => e = .returned (.int .i64 (s1 : Int)) ∧ Below w'.heap.size w' w'') := Lib.hid (fun w' hw' => HI.out _ _ _ _ _ _ w' (by omega) (by omega) (by omega) ((HS.out.below hw').part (lo := k + 1) (hi := m) (by omega) (by omega)) (part_seg p (by rw [HL.out]; omega)))
      have HF2 : Hid (∀ w', Below w.heap.size w w' → Calls Tryz.prog 151 #[.slice (some ⟨b, o + (m + 1) * 4, none⟩) (e - (m + 1)) (c - (m + 1))] w' fun e w'' => e = .returned (.int .i64 (s2 : Int)) ∧ Below w'.heap.size w' w'') := Lib.hid (fun w' hw' => HI.out _ _ _ _ _ _ w' (by omega) (by omega) (by omega) ((HS.out.below hw').part (lo := m + 1) (hi := e) (by omega) (by omega)) (part_seg p' (by rw [HL.out]; omega)))
      have HF3 : Hid (∀ w', Calls Tryz.prog 182 #[.agg #[.int .i64 2, .int .i64 y, .slice p1 m1 d1, .slice p2 m2 d2], .int .i64 (s1 : Int), .int .i64 (s2 : Int)] w' fun e w'' => e = .returned (.int .i64 ((1 + max s1 s2 : Nat) : Int)) ∧ Below w'.heap.size w' w'') := Lib.hid (fun w' => (stepsWith_any 2 y p1 p2 m1 m2 d1 d2 s1 s2 w' hs_s1 hs_s2 (fun h => absurd h (by decide))).mono fun _ _ ⟨he, hb⟩ => ⟨by rw [he]; exact ret_int (by unfold stepI; rw [if_pos rfl]; omega), hb⟩)
      clear he h2 hop p p' q hut hbig
      go_wp2_with fail
      refine HBD.out.mono ?_
      rintro ed w1 ⟨rfl, hb1⟩
      have hbel1 := hbel.trans (hb1.mono hbel.size)
      have hbw1 : b < w1.heap.size := Nat.lt_of_lt_of_le hb hb1.size
      have f1 := lat_cell hbw1 ((hb1.cell hb).trans hc1)
      have f2 := lat_cell hbw1 ((hb1.cell hb).trans hc2)
      have f3 := lat_cell hbw1 ((hb1.cell hb).trans hc3)
      have f4 := lat_cell hbw1 ((hb1.cell hb).trans hc4)
      have HC1 := Lib.hid (fun p : Lat w1 => HF1.out p.wd (hbel1.trans (p.ok.mono hbel1.size)))
      have HC2 := Lib.hid (fun p : Lat w1 => HF2.out p.wd (hbel1.trans (p.ok.mono hbel1.size)))
      have HC3 := Lib.hid (fun p : Lat w1 => HF3.out p.wd)
      clear hc1 hc2 hc3 hc4
      go_wp2
      refine wp_region_lat (by kernel_rfl) (by kernel_rfl) ?_
      repeat (go_big_quiet_step (first | (go_at_call 151; first | with_reducible exact lat_calls (HC1.out _) | with_reducible exact lat_calls (HC2.out _)) | (go_at_call 182; exact lat_calls (HC3.out _))))
      refine wpQuiet_nil ?_
      intro _ hw'
      obtain ⟨⟨wq, hwq⟩, hw''⟩ := hw'
      subst hw''
      have ht := hbel1.trans (hwq.mono hbel1.size)
      clear f1 f2 f3 f4 HC1 HC2 HC3
      go_wp2
      go_roundw
      case rel => exact ⟨e + 1, u + (1 + max s1 s2), t1, by omega, by go_num, by go_num, by have := HU.out; omega, HQ, ht⟩
      case measure => simp [intOf]; omega
    | @loop _ e _ kk s1 t1 hi h5 he hk h4 p q =>
      have q1 := (steps_small p).1
      have q2 := (steps_small q).1
      have hs_s1 := steps_bound p (by omega)
      have HBD := Lib.hid (bodiesAt_one b o n c rs ss k e wr (HS.out.below hbel) h40 hcap hlt (by omega) (by omega) he)
      obtain rfl : x = 5 := hop.symm.trans h5
      obtain rfl : y = (kk : Int) := by rw [hz.out] at hk; exact hk
      have HQ := Lib.hid q
      obtain ⟨X, HX⟩ : ∃ X : Nat, Hid (kk * (1 + s1) = X) := ⟨_, Lib.hid rfl⟩
      have hub : u + X + t1 + 1 < 3656158440062976 := by rw [HX.out] at hut; omega
      have HU := Lib.hid hut
      rw [HX.out] at HU
      have hmul : (kk : Int) * (1 + (s1 : Int)) = (X : Int) := by rw [← HX.out]; push_cast; rfl
      have HF1 : Hid (∀ w', Below w.heap.size w w' → Calls Tryz.prog 151 #[.slice (some ⟨b, o + (k + 1) * 4, none⟩) (e - (k + 1)) (c - (k + 1))] w' fun e w'' => e = .returned (.int .i64 (s1 : Int)) ∧ Below w'.heap.size w' w'') := Lib.hid (fun w' hw' => HI.out _ _ _ _ _ _ w' (by omega) (by omega) (by omega) ((HS.out.below hw').part (lo := k + 1) (hi := e) (by omega) (by omega)) (part_seg p (by rw [HL.out]; omega)))
      have HF2 : Hid (∀ w', Below w.heap.size w w' → Calls Tryz.prog 151 #[.slice none 0 0] w' fun e w'' => e = .returned (.int .i64 (0 : Int)) ∧ Below w'.heap.size w' w'') := Lib.hid (fun w' hw' => HN.out w')
      have HF3 : Hid (∀ w', Calls Tryz.prog 182 #[.agg #[.int .i64 5, .int .i64 (kk : Int), .slice p1 m1 d1, .slice p2 m2 d2], .int .i64 (s1 : Int), .int .i64 (0 : Int)] w' fun e w'' => e = .returned (.int .i64 ((1 + X : Nat) : Int)) ∧ Below w'.heap.size w' w'') := Lib.hid (fun w' => (stepsWith_any 5 (kk : Int) p1 p2 m1 m2 d1 d2 s1 0 w' hs_s1 (by omega) (fun _ => ⟨kk, h4, rfl⟩)).mono fun _ _ ⟨he, hb⟩ => ⟨by rw [he]; exact ret_int (by unfold stepI; rw [if_neg (by decide), if_pos rfl, hmul]; omega), hb⟩)
      clear he h5 hop p q hut hbig hk hmul
      go_wp2_with fail
      refine HBD.out.mono ?_
      rintro ed w1 ⟨rfl, hb1⟩
      have hbel1 := hbel.trans (hb1.mono hbel.size)
      have hbw1 : b < w1.heap.size := Nat.lt_of_lt_of_le hb hb1.size
      have f1 := lat_cell hbw1 ((hb1.cell hb).trans hc1)
      have f2 := lat_cell hbw1 ((hb1.cell hb).trans hc2)
      have f3 := lat_cell hbw1 ((hb1.cell hb).trans hc3)
      have f4 := lat_cell hbw1 ((hb1.cell hb).trans hc4)
      have HC1 := Lib.hid (fun p : Lat w1 => HF1.out p.wd (hbel1.trans (p.ok.mono hbel1.size)))
      have HC2 := Lib.hid (fun p : Lat w1 => HF2.out p.wd (hbel1.trans (p.ok.mono hbel1.size)))
      have HC3 := Lib.hid (fun p : Lat w1 => HF3.out p.wd)
      clear hc1 hc2 hc3 hc4
      go_wp2
      refine wp_region_lat (by kernel_rfl) (by kernel_rfl) ?_
      repeat (go_big_quiet_step (first | (go_at_call 151; first | with_reducible exact lat_calls (HC1.out _) | with_reducible exact lat_calls (HC2.out _)) | (go_at_call 182; exact lat_calls (HC3.out _))))
      refine wpQuiet_nil ?_
      intro _ hw'
      obtain ⟨⟨wq, hwq⟩, hw''⟩ := hw'
      subst hw''
      have ht := hbel1.trans (hwq.mono hbel1.size)
      clear f1 f2 f3 f4 HC1 HC2 HC3
      go_wp2
      go_roundw
      case rel => exact ⟨e + 1, u + (1 + X), t1, by omega, by go_num, by go_num, by have := HU.out; omega, HQ, ht⟩
      case measure => simp [intOf]; omega
    | @attempt _ m e _ s1 s2 t1 hi h8 he p p' q =>
      have q1 := (steps_small p).1
      have q2 := (steps_small p').1
      have q3 := (steps_small q).1
      have hs_s1 := steps_bound p (by omega)
      have hs_s2 := steps_bound p' (by omega)
      have HBD := Lib.hid (bodiesAt_two b o n c rs ss k m e wr (HS.out.below hbel) h40 hcap (by omega) (by omega) (by omega) he)
      obtain rfl : x = 8 := hop.symm.trans h8
      have HQ := Lib.hid q
      have hub : u + s1 + s2 + t1 + 1 < 3656158440062976 := by omega
      have HU := Lib.hid hut
      have HF1 : Hid (∀ w', Below w.heap.size w w' → Calls Tryz.prog 151 #[.slice (some ⟨b, o + (k + 1) * 4, none⟩) (m - (k + 1)) (c - (k + 1))] w' fun e w'' => e = .returned (.int .i64 (s1 : Int)) ∧ Below w'.heap.size w' w'') := Lib.hid (fun w' hw' => HI.out _ _ _ _ _ _ w' (by omega) (by omega) (by omega) ((HS.out.below hw').part (lo := k + 1) (hi := m) (by omega) (by omega)) (part_seg p (by rw [HL.out]; omega)))
      have HF2 : Hid (∀ w', Below w.heap.size w w' → Calls Tryz.prog 151 #[.slice (some ⟨b, o + (m + 1) * 4, none⟩) (e - (m + 1)) (c - (m + 1))] w' fun e w'' => e = .returned (.int .i64 (s2 : Int)) ∧ Below w'.heap.size w' w'') := Lib.hid (fun w' hw' => HI.out _ _ _ _ _ _ w' (by omega) (by omega) (by omega) ((HS.out.below hw').part (lo := m + 1) (hi := e) (by omega) (by omega)) (part_seg p' (by rw [HL.out]; omega)))
      have HF3 : Hid (∀ w', Calls Tryz.prog 182 #[.agg #[.int .i64 8, .int .i64 y, .slice p1 m1 d1, .slice p2 m2 d2], .int .i64 (s1 : Int), .int .i64 (s2 : Int)] w' fun e w'' => e = .returned (.int .i64 ((1 + s1 + s2 : Nat) : Int)) ∧ Below w'.heap.size w' w'') := Lib.hid (fun w' => (stepsWith_any 8 y p1 p2 m1 m2 d1 d2 s1 s2 w' hs_s1 hs_s2 (fun h => absurd h (by decide))).mono fun _ _ ⟨he, hb⟩ => ⟨by rw [he]; exact ret_int (by unfold stepI; rw [if_neg (by decide), if_neg (by decide)]; omega), hb⟩)
      clear he h8 hop p p' q hut hbig
      go_wp2_with fail
      refine HBD.out.mono ?_
      rintro ed w1 ⟨rfl, hb1⟩
      have hbel1 := hbel.trans (hb1.mono hbel.size)
      have hbw1 : b < w1.heap.size := Nat.lt_of_lt_of_le hb hb1.size
      have f1 := lat_cell hbw1 ((hb1.cell hb).trans hc1)
      have f2 := lat_cell hbw1 ((hb1.cell hb).trans hc2)
      have f3 := lat_cell hbw1 ((hb1.cell hb).trans hc3)
      have f4 := lat_cell hbw1 ((hb1.cell hb).trans hc4)
      have HC1 := Lib.hid (fun p : Lat w1 => HF1.out p.wd (hbel1.trans (p.ok.mono hbel1.size)))
      have HC2 := Lib.hid (fun p : Lat w1 => HF2.out p.wd (hbel1.trans (p.ok.mono hbel1.size)))
      have HC3 := Lib.hid (fun p : Lat w1 => HF3.out p.wd)
      clear hc1 hc2 hc3 hc4
      go_wp2
      refine wp_region_lat (by kernel_rfl) (by kernel_rfl) ?_
      repeat (go_big_quiet_step (first | (go_at_call 151; first | with_reducible exact lat_calls (HC1.out _) | with_reducible exact lat_calls (HC2.out _)) | (go_at_call 182; exact lat_calls (HC3.out _))))
      refine wpQuiet_nil ?_
      intro _ hw'
      obtain ⟨⟨wq, hwq⟩, hw''⟩ := hw'
      subst hw''
      have ht := hbel1.trans (hwq.mono hbel1.size)
      clear f1 f2 f3 f4 HC1 HC2 HC3
      go_wp2
      go_roundw
      case rel => exact ⟨e + 1, u + (1 + s1 + s2), t1, by omega, by go_num, by go_num, by have := HU.out; omega, HQ, ht⟩
      case measure => simp [intOf]; omega
theorem stepsIn_all : ∀ N, StepsInAt N
  | 0 => fun _ _ _ _ _ _ _ h => absurd h (by omega)
  | N + 1 => stepsIn_step N (Lib.hid (stepsIn_all N))
theorem stepsIn_any (a : Option Addr) (n c : Nat) (rs : List SRow) (ss : List Stm) (s : Nat) (w : World) (h40 : n ≤ 40) (hcap : n ≤ c) (h : Stmts w a n rs ss) (hst : Steps ss 0 n s) :
    Calls Tryz.prog 151 #[.slice a n c] w fun e w' => e = .returned (.int .i64 (s : Int)) ∧ Below w.heap.size w w' := stepsIn_all (n + 1) a n c rs ss s w (by omega) h40 hcap h hst
end Go.Proofs.YtmooecbdpfhnlaaGreat
/- The contracts of the program's CodeOf, ProgOk and StepsOf. -/
namespace Go.Proofs.YtmooecbdpfhnlaaGreat
open Go.RowKit

theorem own_cap {w : World} {B k : Nat} {e : TypeId} {a : Option Addr} {n c : Nat} {xs : List Value} (h : w.ownsRow B e k (.slice a n c) n xs) : n ≤ c := by
  obtain ⟨_, h2⟩ := h
  rcases h2 with ⟨e1, h0⟩ | ⟨g, cap, cur, e1, hb, hg, hnc, hcm, hcs, ht⟩
  · injection e1 with _ e2 e3; omega
  · injection e1 with _ e2 e3; omega
theorem OwnProg.cap {w : World} {B : Nat} {r : PRow} {p : Prg} (h : OwnProg w B r p) : r.body.2.1 ≤ r.body.2.2 := own_cap h.body.1
set_option maxRecDepth 20000 in
set_option maxHeartbeats 3200000 in
theorem implCodeOf_any (r : PRow) (p : Prg) (w : World) (h : ProgAt w r p) (hcap : r.body.2.1 ≤ r.body.2.2) :
    Calls Tryz.prog 107 #[progV r] w fun e w' => e = .returned (.int .i64 (codeB p)) ∧ Below w.heap.size w w' := by
  obtain ⟨Z, HZ⟩ : ∃ Z, Hid (codeB p = Z) := ⟨_, rfl⟩
  rw [HZ.out]
  have hZ := HZ.out
  unfold codeB at hZ
  by_cases hw : 1 ≤ p.width ∧ p.width ≤ 8
  case neg =>
    rw [if_pos hw] at hZ
    subst hZ
    have hin : (decide (1 ≤ p.width) && decide (p.width ≤ 8)) = false := by rw [← Bool.not_eq_true]; simpa using hw
    obtain ⟨wd, ⟨a1, n1, c1⟩, ⟨a2, n2, c2⟩, tp, ⟨a3, n3, c3⟩, ⟨a4, n4, c4⟩, rows⟩ := r
    have e1 := h.width
    simp only [] at e1
    rw [← e1] at hin
    clear e1 h hw HZ
    show Calls Tryz.prog 107 #[.agg #[.int .i64 wd, .slice a1 n1 c1, .slice a2 n2 c2, .int .i64 tp, .slice a3 n3 c3, .slice a4 n4 c4]] w _
    go_enter Tryz.func107, Tryz.ntmps107
    go_wp2_with (go_at_call 70; refine (isWithin_any _ _ _ _).mono ?_; rintro e w' ⟨rfl, rfl⟩; rw [hin])
    go_ret
    exact ⟨rfl, (Below.refl _ _).alloc (Nat.le_refl _) _⟩
  rw [if_neg (by simpa using hw)] at hZ
  obtain ⟨wd, ⟨a1, n1, c1⟩, ⟨a2, n2, c2⟩, tp, ⟨a3, n3, c3⟩, ⟨a4, n4, c4⟩, rows⟩ := r
  obtain ⟨pw, pl, ps, pt, pa, pb⟩ := p
  have HPA := h
  obtain ⟨e1, e2, i1, i2, h1, h2, h3, h4⟩ := h
  simp only [] at e1 e2 i1 i2 h1 h2 h3 h4 hw hcap
  subst e1 e2
  obtain ⟨W, rfl⟩ : ∃ W : Nat, wd = (W : Int) := ⟨wd.toNat, by omega⟩
  have hin : (decide (1 ≤ (W : Int)) && decide ((W : Int) ≤ 8)) = true := by simpa using hw
  have HIN := Lib.hid hin
  have hW8 : W ≤ 8 := by omega
  have HP := Lib.hid HPA
  have L1 := Lib.hid h1.1
  have L2 := Lib.hid h2.1
  have L3 := Lib.hid h3.1
  have L4 := Lib.hid h4.2.1
  have HCAP := Lib.hid hcap
  clear HPA hin h1 h2 h3 h4 HZ hcap
  have HZ := Lib.hid hZ
  clear hZ
  show Calls Tryz.prog 107 #[.agg #[.int .i64 (W : Int), .slice a1 n1 c1, .slice a2 n2 c2, .int .i64 tp, .slice a3 n3 c3, .slice a4 n4 c4]] w _
  obtain ⟨wa, HW⟩ : ∃ wa, Hid (wa = w.alloc (.cells #[.int .i64 (W : Int), .slice a1 n1 c1, .slice a2 n2 c2, .int .i64 tp, .slice a3 n3 c3, .slice a4 n4 c4] 31)) := ⟨_, rfl⟩
  have B : Blk wa w.heap.size 31 [.int .i64 (W : Int), .slice a1 n1 c1, .slice a2 n2 c2, .int .i64 tp, .slice a3 n3 c3, .slice a4 n4 c4] := by rw [HW.out]; exact Blk.new w _ _
  have HB : Below w.heap.size w wa := by rw [HW.out]; exact (Below.refl _ _).alloc (Nat.le_refl _) _
  go_enter Tryz.func107, Tryz.ntmps107
  go_wp2_with (go_at_call 70; refine (isWithin_any _ _ _ _).mono ?_; rintro e w' ⟨rfl, rfl⟩; rw [HIN.out])
  obtain ⟨X1, H1⟩ : ∃ X1, Hid (inpB ⟨(W : Int), pl, ps, tp, pa, pb⟩ = X1) := ⟨_, rfl⟩
  rw [H1.out] at HZ
  rw [← HW.out]
  refine (inputsOk_any ⟨(W : Int), (a1, n1, c1), (a2, n2, c2), tp, (a3, n3, c3), (a4, n4, c4), rows⟩ ⟨(W : Int), pl, ps, tp, pa, pb⟩ W _ rfl hW8 (HP.out.below HB)).mono ?_
  rintro e w1 ⟨rfl, hb1⟩
  rw [H1.out]
  have B := B.below hb1 B.lt
  have HB := HB.trans (hb1.mono HB.size)
  clear hb1 HW
  have t0 := B.cell (j := 0) rfl
  have t1 := B.cell (j := 1) rfl
  have t2 := B.cell (j := 2) rfl
  have t3 := B.cell (j := 3) rfl
  have t4 := B.cell (j := 4) rfl
  have t5 := B.cell (j := 5) rfl
  cases X1 with
  | false =>
    have hz := HZ.out
    rw [if_pos rfl] at hz
    subst hz
    go_wp2
    go_ret
    exact ⟨rfl, HB⟩
  | true =>
  rw [if_neg (by simp)] at HZ
  obtain ⟨X3, H3⟩ : ∃ X3, Hid (roomB ⟨(W : Int), pl, ps, tp, pa, pb⟩ = X3) := ⟨_, rfl⟩
  rw [H3.out] at HZ
  go_wp2_with fail
  refine (roomOk_any ⟨(W : Int), (a1, n1, c1), (a2, n2, c2), tp, (a3, n3, c3), (a4, n4, c4), rows⟩ ⟨(W : Int), pl, ps, tp, pa, pb⟩ _ (HP.out.below HB)).mono ?_
  rintro e w4 ⟨rfl, hb4⟩
  rw [H3.out]
  clear t0 t1 t2 t3 t4 t5
  have B := B.below hb4 B.lt
  have HB := HB.trans (hb4.mono HB.size)
  clear hb4
  have t0 := B.cell (j := 0) rfl
  have t1 := B.cell (j := 1) rfl
  have t2 := B.cell (j := 2) rfl
  have t3 := B.cell (j := 3) rfl
  have t4 := B.cell (j := 4) rfl
  have t5 := B.cell (j := 5) rfl
  cases X3 with
  | false =>
    have hz := HZ.out
    rw [if_pos rfl] at hz
    subst hz
    go_wp2
    go_ret
    exact ⟨rfl, HB⟩
  | true =>
  rw [if_neg (by simp)] at HZ
  have hroom := H3.out
  simp only [roomB, Bool.and_eq_true, decide_eq_true_eq] at hroom
  have hinp := H1.out
  simp only [inpB, inputsB, Bool.and_eq_true, decide_eq_true_eq] at hinp
  have hl1 : n1 ≤ 3 := by have := L1.out; omega
  have hl2 : n2 ≤ 3 := by have := L2.out; omega
  have hl3 : n3 ≤ 2 := by have := L3.out; omega
  have hl4 : n4 ≤ 40 := by have := L4.out; omega
  obtain ⟨T, rfl⟩ : ∃ T : Nat, tp = (T : Int) := ⟨tp.toNat, by omega⟩
  have hT : T ≤ 6 := by omega
  have HLim := Lib.hid (show Lim ⟨(W : Int), (a1, n1, c1), (a2, n2, c2), (T : Int), (a3, n3, c3), (a4, n4, c4), rows⟩ W (n1 + n2) T n3 from ⟨rfl, hW8, rfl, by omega, rfl, by omega, rfl, by omega⟩)
  clear hroom hinp
  obtain ⟨X4, H4⟩ : ∃ X4, Hid (pb.all (stmtB (2 ^ W) (n1 + n2) T n3) = X4) := ⟨_, rfl⟩
  have HS : Hid (stmtsB ⟨(W : Int), pl, ps, (T : Int), pa, pb⟩ = X4) := Lib.hid (by simp only [stmtsB, Int.toNat_natCast, L1.out, L2.out, L3.out, H4.out])
  rw [HS.out] at HZ
  go_wp2_with fail
  refine (stmtsOk_any _ ⟨(W : Int), pl, ps, (T : Int), pa, pb⟩ W (n1 + n2) T n3 _ (HP.out.below HB) HLim.out).mono ?_
  rintro e w5 ⟨rfl, hb5⟩
  simp only [H4.out]
  clear t0 t1 t2 t3 t4 t5
  have B := B.below hb5 B.lt
  have HB := HB.trans (hb5.mono HB.size)
  clear hb5
  have t0 := B.cell (j := 0) rfl
  have t1 := B.cell (j := 1) rfl
  have t2 := B.cell (j := 2) rfl
  have t3 := B.cell (j := 3) rfl
  have t4 := B.cell (j := 4) rfl
  have t5 := B.cell (j := 5) rfl
  cases X4 with
  | false =>
    have hz := HZ.out
    rw [if_pos rfl] at hz
    subst hz
    go_wp2
    go_ret
    exact ⟨rfl, HB⟩
  | true =>
  rw [if_neg (by simp)] at HZ
  have hlo := loops_ok H4.out
  obtain ⟨K, HK⟩ : ∃ K, Hid (blockOf pb 0 = K) := ⟨_, rfl⟩
  simp only [HK.out, L4.out] at HZ
  go_wp2_with fail
  refine (wellNested_any a4 n4 c4 rows pb _ (HP.out.body.below HB) hl4).mono ?_
  rintro e w6 ⟨rfl, hb6⟩
  rw [HK.out]
  clear t0 t1 t2 t3 t4 t5
  have B := B.below hb6 B.lt
  have HB := HB.trans (hb6.mono HB.size)
  clear hb6
  have t5 := B.cell (j := 5) rfl
  by_cases hK : K = (n4 : Int)
  case neg =>
    have hz := HZ.out
    rw [if_pos hK] at hz
    subst hz
    rw [decide_eq_false hK]
    go_wp2
    go_ret
    exact ⟨rfl, HB⟩
  rw [if_neg (by simpa using hK)] at HZ
  have hex := part_steps hlo _ 0 pb.length (Nat.le_refl _) (Nat.zero_le _) (by rw [HK.out, hK, L4.out])
  have hst := stepsN_spec hex
  obtain ⟨Q, HQ⟩ : ∃ Q, Hid (stepsN pb = Q) := ⟨_, rfl⟩
  rw [HQ.out] at hst
  rw [HQ.out] at HZ
  rw [L4.out] at hst
  rw [decide_eq_true hK]
  have HD : Hid (∀ w', Below w.heap.size w w' → Calls Tryz.prog 151 #[.slice a4 n4 c4] w' fun e w'' => e = .returned (.int .i64 (Q : Int)) ∧ Below w'.heap.size w' w'') := Lib.hid (fun w' hw' => stepsIn_any a4 n4 c4 rows pb Q w' hl4 HCAP.out (HP.out.body.below hw') hst)
  clear hex hst hlo hK
  go_wp2_with fail
  refine (HD.out _ HB).mono ?_
  rintro e w7 ⟨rfl, hs7⟩
  have HB := HB.trans (hs7.mono HB.size)
  by_cases hQ : 400 < Q
  · have hz := HZ.out
    rw [if_pos hQ] at hz
    subst hz
    have hd2 : decide ((Q : Int) > 400) = true := by simp; omega
    go_wp2
    go_ret
    exact ⟨rfl, HB⟩
  · have hz := HZ.out
    rw [if_neg hQ] at hz
    subst hz
    have hd2 : decide ((Q : Int) > 400) = false := by simp; omega
    go_wp2
    go_ret
    exact ⟨rfl, HB⟩
set_option maxHeartbeats 800000 in
theorem implProgOk_any (r : PRow) (p : Prg) (w : World) (h : ProgAt w r p) (hcap : r.body.2.1 ≤ r.body.2.2) :
    Calls Tryz.prog 65 #[progV r] w fun e w' => e = .returned (.bool (codeB p == 0)) ∧ Below w.heap.size w w' := by
  have HC : Hid (∀ w', Below w.heap.size w w' → Calls Tryz.prog 107 #[progV r] w' fun e w'' => e = .returned (.int .i64 (codeB p)) ∧ Below w'.heap.size w' w'') := Lib.hid (fun w' hw => implCodeOf_any r p w' (h.below hw) hcap)
  obtain ⟨Z, HZ⟩ : ∃ Z, Hid (codeB p = Z) := ⟨_, rfl⟩
  rw [HZ.out] at HC ⊢
  obtain ⟨wd, ⟨a1, n1, c1⟩, ⟨a2, n2, c2⟩, tp, ⟨a3, n3, c3⟩, ⟨a4, n4, c4⟩, rows⟩ := r
  clear h HZ hcap
  show Calls Tryz.prog 65 #[.agg #[.int .i64 wd, .slice a1 n1 c1, .slice a2 n2 c2, .int .i64 tp, .slice a3 n3 c3, .slice a4 n4 c4]] w _
  have HB : Below w.heap.size w (w.alloc (.cells #[.int .i64 wd, .slice a1 n1 c1, .slice a2 n2 c2, .int .i64 tp, .slice a3 n3 c3, .slice a4 n4 c4] 31)) := (Below.refl _ _).alloc (Nat.le_refl _) _
  go_enter Tryz.func65, Tryz.ntmps65
  go_wp2_with fail
  refine (HC.out _ HB).mono ?_
  rintro e w1 ⟨rfl, hb1⟩
  have HB := HB.trans (hb1.mono HB.size)
  go_wp2
  go_ret
  exact ⟨ret_bool (by cases hz : (Z == 0) <;> simp_all), HB⟩
end Go.Proofs.YtmooecbdpfhnlaaGreat
/- The contract of the program's StartOf. -/
namespace Go.Proofs.YtmooecbdpfhnlaaGreat
open Go.RowKit

/-- A call of StartOf that has no start yet: the program, the answer's box. -/
structure NB (w wi : World) (pc : List Value) : Prop where
  arg : Blk wi w.heap.size 31 pc
  res : Blk wi (w.heap.size + 1) 90 [.slice none 0 0, .slice none 0 0]
  bel : Below w.heap.size w wi
theorem NB.below {w wi wj : World} {pc : List Value} (h : NB w wi pc) (hb : Below wi.heap.size wi wj) : NB w wj pc :=
  ⟨h.arg.below hb h.arg.lt, h.res.below hb h.res.lt, h.bel.trans (hb.mono h.bel.size)⟩
theorem nb_new (w : World) (pc : List Value) : NB w ((w.alloc (.cells pc.toArray 31)).alloc (.cells #[.slice none 0 0, .slice none 0 0] 90)) pc :=
  ⟨(Blk.new w _ _).alloc _, by simpa using Blk.new (w.alloc (.cells pc.toArray 31)) 90 [.slice none 0 0, .slice none 0 0], ((Below.refl _ _).alloc (Nat.le_refl _) _).alloc (by simp) _⟩
theorem NB.zero {w wi : World} {pc : List Value} (h : NB w wi pc) : Below w.heap.size w ((wi.setCell ⟨w.heap.size + 1, 0, none⟩ (.slice none 0 0)).setCell ⟨w.heap.size + 1, 1, none⟩ (.slice none 0 0)) :=
  below_set (below_set h.bel (by omega) _) (by omega) _
theorem NB.res0 {w wi : World} {pc : List Value} (h : NB w wi pc) : Blk ((wi.setCell ⟨w.heap.size + 1, 0, none⟩ (.slice none 0 0)).setCell ⟨w.heap.size + 1, 1, none⟩ (.slice none 0 0)) (w.heap.size + 1) 90 [.slice none 0 0, .slice none 0 0] :=
  (h.res.set (j := 0) _).set (j := 1) _
theorem qb_start {w w2 : World} {pc : List Value} {B : Nat} {a1 : Option Addr} {n1 c1 : Nat} {zs : List Int} (h : NB w w2 pc) (hB : w.heap.size ≤ B) (ho : Own w2 B a1 n1 c1 zs) :
    QB w (w2.alloc (.cells #[.slice a1 n1 c1, .slice none 0 0] 90)) w2.heap.size pc ⟨(a1, n1, c1), (none, 0, 0), []⟩ ⟨zs, [], []⟩ := by
  have hl := h.res.lt
  have h1 := h.below ((Below.refl _ _).alloc (Nat.le_refl _) (.cells #[.slice a1 n1 c1, .slice none 0 0] 90))
  have o1 : Blk (w2.alloc (.cells #[.slice a1 n1 c1, .slice none 0 0] 90)) w2.heap.size 90 [.slice a1 n1 c1, .slice none 0 0] := Blk.new w2 _ _
  have v1 := ((ho.base hB).alloc (.cells #[.slice a1 n1 c1, .slice none 0 0] 90))
  have hm : EnvMem (w2.alloc (.cells #[.slice a1 n1 c1, .slice none 0 0] 90)) w.heap.size ⟨(a1, n1, c1), (none, 0, 0), []⟩ (none, 0, 0) ⟨zs, [], []⟩ :=
    ⟨v1, ⟨World.ownsRow_nil _ _ _ _, Nat.zero_le _, rfl, fun i hi => absurd hi (by simp only []; omega)⟩, own_nil _ _, fun g _ e => by simp [slV, Value.ownBlock] at e, fun i g hi => absurd hi (by simp only []; omega), fun i g hi => absurd hi (by simp only []; omega), fun i j g hi => absurd hi (by simp only []; omega)⟩
  exact ⟨h1.arg, h1.res, o1, hm, h1.bel, by omega⟩
set_option maxRecDepth 20000 in
set_option maxHeartbeats 3200000 in
theorem implStartOf_no (r : PRow) (p : Prg) (a a' : Option Addr) (n c n' c' : Nat) (ls ss : List Int) (w : World) (h : ProgAt w r p) (hcap : r.body.2.1 ≤ r.body.2.2) (h1 : Ints w a n ls) (h2 : Ints w a' n' ss) (hno : startB p ls ss = false) :
    Calls Tryz.prog 56 #[progV r, .slice a n c, .slice a' n' c'] w fun e w' => e = .returned (.tuple #[.agg #[.slice none 0 0, .slice none 0 0], .bool false]) ∧ Below w.heap.size w w' := by
  have HC : Hid (∀ w', Below w.heap.size w w' → Calls Tryz.prog 65 #[progV r] w' fun e w'' => e = .returned (.bool (codeB p == 0)) ∧ Below w'.heap.size w' w'') := Lib.hid (fun w' hw => implProgOk_any r p w' (h.below hw) hcap)
  have HA1 : Hid (∀ w', Below w.heap.size w w' → Calls Tryz.prog 96 #[slV r.lows, .slice a n c] w' fun e w'' => e = .returned (.bool (areB p.lows ls)) ∧ w' = w'') := Lib.hid (fun w' hw => areInputs_any r.lows.1 a r.lows.2.1 r.lows.2.2 n c p.lows ls w' (h.lows.below (Nat.le_refl _) hw) (h1.below hw))
  have HA2 : Hid (∀ w', Below w.heap.size w w' → Calls Tryz.prog 96 #[slV r.secrets, .slice a' n' c'] w' fun e w'' => e = .returned (.bool (areB p.secrets ss)) ∧ w' = w'') := Lib.hid (fun w' hw => areInputs_any r.secrets.1 a' r.secrets.2.1 r.secrets.2.2 n' c' p.secrets ss w' (h.secrets.below (Nat.le_refl _) hw) (h2.below hw))
  have hno' : (codeB p == 0 && (areB p.lows ls && areB p.secrets ss)) = false := hno
  obtain ⟨z0, HZ0⟩ : ∃ z, Hid ((codeB p == 0) = z) := ⟨_, rfl⟩
  obtain ⟨z1, HZ1⟩ : ∃ z, Hid (areB p.lows ls = z) := ⟨_, rfl⟩
  obtain ⟨z2, HZ2⟩ : ∃ z, Hid (areB p.secrets ss = z) := ⟨_, rfl⟩
  rw [HZ0.out] at HC hno'
  rw [HZ1.out] at HA1 hno'
  rw [HZ2.out] at HA2 hno'
  have HNO := Lib.hid hno'
  clear HZ0 HZ1 HZ2 hno hno' h h1 h2 hcap
  obtain ⟨wd, ⟨a1, n1, c1⟩, ⟨a2, n2, c2⟩, tp, ⟨a3, n3, c3⟩, ⟨a4, n4, c4⟩, rows⟩ := r
  simp only [slV] at HA1 HA2
  show Calls Tryz.prog 56 #[.agg #[.int .i64 wd, .slice a1 n1 c1, .slice a2 n2 c2, .int .i64 tp, .slice a3 n3 c3, .slice a4 n4 c4], .slice a n c, .slice a' n' c'] w _
  obtain ⟨wa, HW⟩ : ∃ wa, Hid (wa = (w.alloc (.cells #[.int .i64 wd, .slice a1 n1 c1, .slice a2 n2 c2, .int .i64 tp, .slice a3 n3 c3, .slice a4 n4 c4] 31)).alloc (.cells #[.slice none 0 0, .slice none 0 0] 90)) := ⟨_, rfl⟩
  have NX : NB w wa [.int .i64 wd, .slice a1 n1 c1, .slice a2 n2 c2, .int .i64 tp, .slice a3 n3 c3, .slice a4 n4 c4] := by rw [HW.out]; exact nb_new w _
  go_enter Tryz.func56, Tryz.ntmps56
  go_wp2_with fail
  rw [← HW.out]
  refine (HC.out _ NX.bel).mono ?_
  rintro e w1 ⟨rfl, hb1⟩
  have N1 := NX.below hb1
  clear NX hb1 HW HC
  have t1 := N1.arg.cell (j := 1) rfl
  have t2 := N1.arg.cell (j := 2) rfl
  have r0 := N1.res.cell (j := 0) rfl
  have r1 := N1.res.cell (j := 1) rfl
  have f0 := N1.res.frozen 0
  have f1 := N1.res.frozen 1
  have e0 := N1.res0.cell (j := 0) rfl
  have e1 := N1.res0.cell (j := 1) rfl
  have HN := Lib.hid N1
  have HBE := Lib.hid N1.bel
  clear N1
  cases z0 with
  | false =>
    clear t1 t2 HA1 HA2
    go_wp2
    exact bodyPost_ret (v := .tuple #[.agg #[.slice none 0 0, .slice none 0 0], .bool false]) (by simp [results, Tryz.results56, go_sem, e0, e1]) rfl ⟨rfl, HN.out.zero⟩
  | true =>
    go_wp2_with fail
    refine (HA1.out _ HBE.out).mono ?_
    rintro e w2 ⟨rfl, rfl⟩
    cases z1 with
    | false =>
      clear t1 t2 HA1 HA2
      go_wp2
      exact bodyPost_ret (v := .tuple #[.agg #[.slice none 0 0, .slice none 0 0], .bool false]) (by simp [results, Tryz.results56, go_sem, e0, e1]) rfl ⟨rfl, HN.out.zero⟩
    | true =>
      go_wp2_with fail
      refine (HA2.out _ HBE.out).mono ?_
      rintro e w2 ⟨rfl, rfl⟩
      have hz2 : z2 = false := by have := HNO.out; simpa using this
      subst hz2
      clear t1 t2 HA1 HA2
      go_wp2
      exact bodyPost_ret (v := .tuple #[.agg #[.slice none 0 0, .slice none 0 0], .bool false]) (by simp [results, Tryz.results56, go_sem, e0, e1]) rfl ⟨rfl, HN.out.zero⟩
set_option maxRecDepth 20000 in
set_option maxHeartbeats 6400000 in
theorem implStartOf_yes (r : PRow) (p : Prg) (a a' : Option Addr) (n c n' c' : Nat) (ls ss : List Int) (w : World) (h : ProgAt w r p) (hcap : r.body.2.1 ≤ r.body.2.2) (h1 : Ints w a n ls) (h2 : Ints w a' n' ss) (hyes : startB p ls ss = true) :
    Calls Tryz.prog 56 #[progV r, .slice a n c, .slice a' n' c'] w fun e w' => ∃ er : ERow, e = .returned (.tuple #[envV er, .bool true]) ∧ EnvMem w' w.heap.size er (none, 0, 0) (startQ p ls ss) ∧ Below w.heap.size w w' := by
  have hyes' : (codeB p == 0 && (areB p.lows ls && areB p.secrets ss)) = true := hyes
  simp only [Bool.and_eq_true] at hyes'
  obtain ⟨y0, y1, y2⟩ := hyes'
  have hc0 : codeB p = 0 := by simpa using y0
  have hhd := code_head hc0
  have hrm := (code_parts hc0).2
  simp only [roomB, Bool.and_eq_true, decide_eq_true_eq, List.all_eq_true] at hrm
  have hl1 := (areB_ok y1).1
  have hl2 := (areB_ok y2).1
  have HC : Hid (∀ w', Below w.heap.size w w' → Calls Tryz.prog 65 #[progV r] w' fun e w'' => e = .returned (.bool true) ∧ Below w'.heap.size w' w'') := Lib.hid (fun w' hw => by rw [← y0]; exact implProgOk_any r p w' (h.below hw) hcap)
  have HA1 : Hid (∀ w', Below w.heap.size w w' → Calls Tryz.prog 96 #[slV r.lows, .slice a n c] w' fun e w'' => e = .returned (.bool true) ∧ w' = w'') := Lib.hid (fun w' hw => by rw [← y1]; exact areInputs_any r.lows.1 a r.lows.2.1 r.lows.2.2 n c p.lows ls w' (h.lows.below (Nat.le_refl _) hw) (h1.below hw))
  have HA2 : Hid (∀ w', Below w.heap.size w w' → Calls Tryz.prog 96 #[slV r.secrets, .slice a' n' c'] w' fun e w'' => e = .returned (.bool true) ∧ w' = w'') := Lib.hid (fun w' hw => by rw [← y2]; exact areInputs_any r.secrets.1 a' r.secrets.2.1 r.secrets.2.2 n' c' p.secrets ss w' (h.secrets.below (Nat.le_refl _) hw) (h2.below hw))
  have HI1 := Lib.hid h1
  have HI2 := Lib.hid h2
  have HAR := Lib.hid h.arrays
  have hal : p.arrays.length = r.arrays.2.1 := h.arrays.1
  have HAL := Lib.hid hal
  have hal2 : r.arrays.2.1 ≤ 2 := by omega
  have HAZ : Hid (∀ k, k < p.arrays.length → 1 ≤ p.arrays.getD k 0 ∧ p.arrays.getD k 0 ≤ 6) := Lib.hid (fun k hk => hrm.2 _ (getD_mem hk))
  obtain ⟨T, hT⟩ : ∃ T : Nat, p.temps = (T : Int) := ⟨p.temps.toNat, by omega⟩
  have hT6 : T ≤ 6 := by omega
  have HFL : Hid ((flatTo [ls, ss, List.replicate T 0] 3).length ≤ 1000000) := Lib.hid (by rw [flatTo_three]; simp only [List.length_append, List.length_replicate]; omega)
  have HST : Hid (startQ p ls ss = ⟨ls ++ ss ++ List.replicate T 0, zeroTo p r.arrays.2.1, []⟩) := Lib.hid (by rw [zeroTo_all hal, startQ, hT]; rfl)
  have htp : r.temps = (T : Int) := by rw [h.temps, hT]
  have hmk : ∀ (M : Nat), M ≤ 6 → ∀ w, (Instr.makeSlice 28 (.int .i64 (M : Int)) (.int .i64 (M : Int))).run Tryz.prog w = .ok (.slice (some ⟨w.heap.size, 0, none⟩) M M) (w.alloc (.cells (madeCells #[.int .i64 0] M) 2)) := fun M hM w => make_row M (by omega) w
  have HMK := Lib.hid hmk
  clear hmk h h1 h2 hcap hyes y0 y1 y2 hc0 hhd hrm hl1 hl2 hT hal
  obtain ⟨wd, ⟨a1, n1, c1⟩, ⟨a2, n2, c2⟩, tp, ⟨a3, n3, c3⟩, ⟨a4, n4, c4⟩, rows⟩ := r
  simp only [slV] at HA1 HA2 HAR HAL HST htp hal2
  subst htp
  show Calls Tryz.prog 56 #[.agg #[.int .i64 wd, .slice a1 n1 c1, .slice a2 n2 c2, .int .i64 (T : Int), .slice a3 n3 c3, .slice a4 n4 c4], .slice a n c, .slice a' n' c'] w _
  obtain ⟨wa, HW⟩ : ∃ wa, Hid (wa = (w.alloc (.cells #[.int .i64 wd, .slice a1 n1 c1, .slice a2 n2 c2, .int .i64 (T : Int), .slice a3 n3 c3, .slice a4 n4 c4] 31)).alloc (.cells #[.slice none 0 0, .slice none 0 0] 90)) := ⟨_, rfl⟩
  have NX : NB w wa [.int .i64 wd, .slice a1 n1 c1, .slice a2 n2 c2, .int .i64 (T : Int), .slice a3 n3 c3, .slice a4 n4 c4] := by rw [HW.out]; exact nb_new w _
  go_enter Tryz.func56, Tryz.ntmps56
  go_wp2_with fail
  rw [← HW.out]
  refine (HC.out _ NX.bel).mono ?_
  rintro e w1 ⟨rfl, hb1⟩
  have N1 := NX.below hb1
  clear NX hb1 HW HC
  have HBE := Lib.hid N1.bel
  have t1 := N1.arg.cell (j := 1) rfl
  have t2 := N1.arg.cell (j := 2) rfl
  have t3 := N1.arg.cell (j := 3) rfl
  go_wp2_with fail
  refine (HA1.out _ HBE.out).mono ?_
  rintro e w2 ⟨rfl, rfl⟩
  go_wp2_with fail
  refine (HA2.out _ HBE.out).mono ?_
  rintro e w2 ⟨rfl, rfl⟩
  clear HA1 HA2
  have hmk1 := HMK.out T hT6
  obtain ⟨wb, HW⟩ : ∃ wb, Hid (wb = (w1.alloc (.cells (madeCells #[.int .i64 0] T) 2)).alloc (.cells #[.slice a n c, .slice a' n' c', .slice (some ⟨w1.heap.size, 0, none⟩) T T] 28)) := ⟨_, rfl⟩
  have hbw : Below w1.heap.size w1 wb := by rw [HW.out]; exact ((Below.refl _ _).alloc (Nat.le_refl _) _).alloc (by simp) _
  have N2 := N1.below hbw
  have hI3 : IntsSS wb (some ⟨w1.heap.size + 1, 0, none⟩) 3 [(a, n, c), (a', n', c'), (some ⟨w1.heap.size, 0, none⟩, T, T)] [ls, ss, List.replicate T 0] := by
    have hbl : Blk wb (w1.heap.size + 1) 28 [slV (a, n, c), slV (a', n', c'), slV (some ⟨w1.heap.size, 0, none⟩, T, T)] := by
      rw [HW.out]
      simpa [slV] using Blk.new (w1.alloc (.cells (madeCells #[.int .i64 0] T) 2)) 28 [slV (a, n, c), slV (a', n', c'), slV (some ⟨w1.heap.size, 0, none⟩, T, T)]
    exact intsSS_three hbl (HI1.out.below N2.bel) (HI2.out.below N2.bel) (by rw [HW.out]; exact ((own_made w1 T (by omega)).alloc _).ints)
  have HI3 := Lib.hid hI3
  clear hI3 hbw N1
  go_wp2_with fail
  rw [← HW.out]
  refine (concat_any _ 3 3 _ _ _ HI3.out HFL.out (by omega)).mono ?_
  rintro e w2 ⟨va, vn, vc, rfl, hov, hb2⟩
  rw [flatTo_three] at hov
  have N3 := N2.below hb2
  have hsz1 := N2.bel.size
  have HQ0 := qb_start N3 (B := wb.heap.size) hsz1 hov
  obtain ⟨wq, HWQ⟩ : ∃ wq, Hid (wq = w2.alloc (.cells #[.slice va vn vc, .slice none 0 0] 90)) := ⟨_, rfl⟩
  rw [← HWQ.out] at HQ0
  have HREL : Hid (∃ (ca : Option Addr) (cc : Nat) (rws : List Sl), QB w wq w2.heap.size [.int .i64 wd, .slice a1 n1 c1, .slice a2 n2 c2, .int .i64 (T : Int), .slice a3 n3 c3, .slice a4 n4 c4] ⟨(va, vn, vc), (ca, 0, cc), rws⟩ ⟨ls ++ ss ++ List.replicate T 0, zeroTo p 0, []⟩) := Lib.hid ⟨_, _, _, HQ0⟩
  have t4 := HQ0.arg.cell (j := 4) rfl
  rw [HWQ.out] at t4
  clear HQ0 hov N3 N2 hb2 HW HI3 HFL hmk1 t1 t2 t3 HI1 HI2 hsz1 HBE
  go_wp2_with fail
  rw [← HWQ.out]
  obtain ⟨b, HB⟩ : ∃ b, Hid (w2.heap.size = b) := ⟨_, rfl⟩
  rw [HB.out] at HREL ⊢
  clear HWQ t4
  go_loopw [40] (fun i wr => ∃ (k : Nat) (ca : Option Addr) (cc : Nat) (rws : List Sl), k ≤ n3 ∧ i = .int .i64 (k : Int) ∧ QB w wr b [.int .i64 wd, .slice a1 n1 c1, .slice a2 n2 c2, .int .i64 (T : Int), .slice a3 n3 c3, .slice a4 n4 c4] ⟨(va, vn, vc), (ca, k, cc), rws⟩ ⟨ls ++ ss ++ List.replicate T 0, zeroTo p k, []⟩) (fun i _ => n3 - (intOf i).toNat)
  case atStart => obtain ⟨ca, cc, rws, hq⟩ := HREL.out; exact ⟨0, ca, cc, rws, Nat.zero_le _, rfl, hq⟩
  case round =>
    clear HREL
    obtain ⟨k, ca, cc, rws, hk, rfl, HQ⟩ := hrel
    by_cases hlt : k < n3
    · obtain ⟨b3, o3, z, rfl, hb3, hz3, hin3, hc3⟩ := (HAR.out.below HQ.bel).at_ hlt
      obtain ⟨z1, z2⟩ := HAZ.out k (by rw [HAL.out]; exact hlt)
      rw [← hz3.out] at z1 z2
      obtain ⟨M, rfl⟩ : ∃ M : Nat, z = (M : Int) := ⟨z.toNat, by omega⟩
      have hM6 : M ≤ 6 := by omega
      have HZ := Lib.hid (zeroTo_succ (by rw [HAL.out]; exact hlt) hz3)
      have hmk2 := HMK.out M hM6
      have hd : Below wr.heap.size wr wr.drew := ⟨rfl, rfl, rfl, Nat.le_refl _, fun _ _ => rfl⟩
      have HG0 := Lib.hid (HQ.below hd)
      have u1 := HQ.out.cell (j := 1) rfl
      have uf := HQ.out.frozen 1
      have v1 := (HQ.alloc (.cells (madeCells #[.int .i64 0] M) 2)).out.cell (j := 1) rfl
      have v2 := ((HQ.alloc (.cells (madeCells #[.int .i64 0] M) 2)).alloc (.cells #[.slice (some ⟨wr.heap.size, 0, none⟩) M M] 28)).out.cell (j := 1) rfl
      simp only [slV] at u1 v1 v2
      clear HQ hz3 z1 z2 hin3 hd
      go_wp2_with fail
      go_region_law (refine step_pushR _ (by rfl) _ _ (by rfl) w.heap.size ca k cc rws (by rfl) (by exact (HG0.out.mem.cells.1.alloc _).alloc _) (wr.heap.size + 1) (some ⟨wr.heap.size, 0, none⟩, M, M) (by rfl) (by simp [slV]) (by omega) (by have := HG0.out.bel.size; simp at this ⊢; omega) ?_; intro a8 c8 w8 ho8 hg8; have Q1 := HG0.out.row (wj := (wr.drew.alloc (.cells (madeCells #[.int .i64 0] M) 2)).alloc (.cells #[.slice (some ⟨wr.heap.size, 0, none⟩) M M] 28)) (((Below.refl _ _).alloc (Nat.le_refl _) _).alloc (by simp) _) (r := (some ⟨wr.heap.size, 0, none⟩, M, M)) ((own_made wr.drew M (by omega)).alloc _) ho8 (by simp only []; omega) hg8.1; have y0 := (blk_row ((HG0.out.alloc _).alloc _).out ((HG0.out.alloc _).alloc _).mem.cells.1 (by decide) hg8.1).cell (j := 1) rfl; have yf := (blk_row ((HG0.out.alloc _).alloc _).out ((HG0.out.alloc _).alloc _).mem.cells.1 (by decide) hg8.1).frozen 1; simp only [slV] at y0)
      all_goals
        have HQ1 : Hid (QB w (w8.setCell ⟨b, 1, none⟩ (.slice a8 (k + 1) c8)) b [.int .i64 wd, .slice a1 n1 c1, .slice a2 n2 c2, .int .i64 (T : Int), .slice (some ⟨b3, o3, none⟩) n3 c3, .slice a4 n4 c4] ⟨(va, vn, vc), (a8, k + 1, c8), rws ++ [(some ⟨wr.heap.size, 0, none⟩, M, M)]⟩ ⟨ls ++ ss ++ List.replicate T 0, zeroTo p (k + 1), []⟩) := Lib.hid (by rw [HZ.out, Int.toNat_natCast]; exact Q1)
        clear Q1 y0 yf ho8 hg8 u1 v1 v2 uf HG0 hmk2 hc3
        go_wp2
        go_roundw
        case rel => exact ⟨k + 1, a8, c8, _, by omega, by go_num, HQ1.out⟩
        case measure => simp [intOf]; omega
    · obtain rfl : n3 = k := by omega
      have o0 := HQ.out.cell (j := 0) rfl
      have o1 := HQ.out.cell (j := 1) rfl
      have r0 := HQ.res.cell (j := 0) rfl
      have r1 := HQ.res.cell (j := 1) rfl
      have f0 := HQ.res.frozen 0
      have f1 := HQ.res.frozen 1
      simp only [slV] at o0 o1
      have HH := Lib.hid HQ
      have HB2 := Lib.hid (below_set (below_set HQ.bel (b := w.heap.size + 1) (j := 0) (by omega) (.slice va vn vc)) (b := w.heap.size + 1) (j := 1) (by omega) (.slice ca n3 cc))
      have HM2 := Lib.hid ((HQ.mem.set (j := 0) HQ.res (by decide) (by decide) (.slice va vn vc)).set (j := 1) (HQ.res.set (j := 0) (.slice va vn vc)) (by decide) (by decide) (.slice ca n3 cc))
      have q0 := ((HQ.res.set (j := 0) (.slice va vn vc)).set (j := 1) (.slice ca n3 cc)).cell (j := 0) rfl
      have q1 := ((HQ.res.set (j := 0) (.slice va vn vc)).set (j := 1) (.slice ca n3 cc)).cell (j := 1) rfl
      clear HQ
      go_wp2
      refine bodyPost_ret (v := .tuple #[.agg #[.slice va vn vc, .slice ca n3 cc], .bool true]) (by simp [results, Tryz.results56, go_sem, q0, q1]) rfl ?_
      exact ⟨⟨(va, vn, vc), (ca, n3, cc), rws⟩, rfl, by rw [HST.out]; exact HM2.out, HB2.out⟩
end Go.Proofs.YtmooecbdpfhnlaaGreat
/- 'append(xs, make([]int64, n)...)' onto a row of the call's own. -/
namespace Go.Proofs.YtmooecbdpfhnlaaGreat
open Go.RowKit

theorem zero_list (m : Nat) : (Builtin.zeroCells #[Value.int .i64 0] m).toList = (List.replicate m (0 : Int)).map (Value.int .i64) := by
  apply List.ext_getElem
  · simp [Builtin.zeroCells]
  · intro j h1 h2
    simp [Builtin.zeroCells, Nat.mod_one]
theorem in64_zeros {zs : List Int} {m : Nat} (h : ∀ z ∈ zs, In64 z) : ∀ z ∈ zs ++ List.replicate m 0, In64 z := fun z hz => by
  rcases List.mem_append.1 hz with hz | hz
  · exact h z hz
  · rw [(List.mem_replicate.1 hz).2]; exact ⟨by omega, by omega⟩
set_option maxRecDepth 20000 in
theorem run_append_zeros (w : World) (ty : TypeId) (B : Nat) (a : Option Addr) (n c : Nat) (zs : List Int) (m : Nat) (hown : Own w B a n c zs) (hnm : n + m ≤ 1048576) (hB : B ≤ w.heap.size) :
    ∃ a1 c1 w', (Builtin.append_ #[28, 2] ty #[.slice a n c, .int .i64 (m : Int)]).run Tryz.prog w = .ok (.slice a1 (n + m) c1) w' ∧ Own w' B a1 (n + m) c1 (zs ++ List.replicate m 0) ∧ w.grownBy w' (Value.slice a n c).ownBlock := by
  obtain ⟨i0, hi, hz0, hz1, hz2⟩ := info_parts info_i64
  have hl : zs.length = n := hown.len
  have hin := in64_zeros (m := m) hown.2.2
  have hw : IntKind.i64.wrap (m : Int) = m := by rw [IntKind.wrap_i64]; omega
  have hneg : ¬ ((m : Int) < 0) := by omega
  have h48 : ¬ ((281474976710656 : Int) < (m : Int) * (i0.bytes : Int)) := by rw [hz2]; omega
  have und : Tryz.prog.underlying 2 = some (.int .i64) := Tryz.underlying2
  have unds := Tryz.underlying28
  have hlen : ((zs ++ List.replicate m 0).map (Value.int .i64)).length = (n + m) * 1 := by simp [hl]
  by_cases hm : m = 0
  · subst hm
    refine ⟨a, c, w, ?_, by simpa using hown, World.grownBy.refl _ _⟩
    rcases hown.1.2 with ⟨e, _⟩ | ⟨g, cap, cur, e, _, hg, hnc, hcm, hcs, htake⟩
    · injection e with e1 e2 e3
      subst e1 e2 e3
      simp [Builtin.append_, run_underlying unds, run_underlying und, sizeOf, typeInfo, hi, asInt, asIntOf, IntKind.wrap_i64]
    · injection e with e1 e2 e3
      subst e1 e3
      simp [Builtin.append_, run_underlying unds, run_underlying und, sizeOf, typeInfo, hi, asInt, asIntOf, hnc, storeCells, IntKind.wrap_i64]
  · have hns : ¬ (m * i0.size = 0) := by rw [hz1]; omega
    obtain ⟨ms, HMS⟩ : ∃ ms : List Int, ms = List.replicate m 0 := ⟨_, rfl⟩
    have hml : ms.length = m := by rw [HMS]; simp
    have hzl : (Builtin.zeroCells (Value.int .i64 0).cells m).toList = ms.map (Value.int .i64) := by rw [HMS]; exact zero_list m
    have hza : Builtin.zeroCells (Value.int .i64 0).cells m = (ms.map (Value.int .i64)).toArray := by rw [← hzl]
    rw [← HMS] at hin hlen ⊢
    have grown : ∀ old : Nat, (w.drew.alloc (.cells ((zs.map (Value.int .i64)).toArray ++ (ms.map (Value.int .i64)).toArray ++ Builtin.zeroCells (Value.int .i64 0).cells (grownCap w (n + m) old 2 - (n + m))) 2)).ownsRow B 2 1 (.slice (some ⟨w.heap.size, 0, none⟩) (n + m) (grownCap w (n + m) old 2)) (n + m) ((zs ++ ms).map (Value.int .i64)) := by
      intro old
      have hge := grownCap_ge w (n + m) old 2
      have hle := grownCap_le_maxLen w (n + m) old 2 (by unfold maxLen; omega)
      refine ⟨hlen, .inr ⟨w.heap.size, _, _, rfl, hB, heap_alloc_new w.drew _, hge, hle, ?_, ?_⟩⟩
      · simp only [Array.size_append, List.size_toArray, size_zeroCells, List.length_map, hl, hml]
        show n + m + (_ - (n + m)) * 1 = _ * 1
        omega
      · simp only [Array.toList_append, List.append_assoc, List.map_append]
        rw [← List.append_assoc, ← List.map_append]
        exact List.take_left' hlen
    have hg2 : ∀ (o : Obj) row, w.grownBy (w.drew.alloc o) row := fun o row => ⟨rfl, rfl, rfl, by simp, fun k hk _ => Go.heap_alloc_old w.drew _ hk⟩
    rcases hown.1.2 with ⟨e, _⟩ | ⟨g, cap, cur, e, hbg, hg, hnc, hcm, hcs, htake⟩
    · injection e with e1 e2 e3
      subst e1 e2 e3
      have hzs0 : zs = [] := List.eq_nil_of_length_eq_zero hl
      subst hzs0
      have h63 : ¬ ((9223372036854775807 : Int) < (m : Int)) := by omega
      have hnx : ¬ (281474976710656 < Builtin.nextslicecap m 0 * i0.bytes) := by rw [nextslicecap_zero (by omega), hz2]; omega
      refine ⟨_, _, _, ?_, ⟨grown 0, by omega, hin⟩, hg2 _ _⟩
      simp [Builtin.append_, run_underlying unds, run_underlying und, sizeOf, typeInfo, zeroValue, hi, hz0, hz1, asInt, asIntOf, hw, hm, hneg, h48, h63, hnx, Question.forced, run_firstCells_none, newRow, grownCap, hza]
    · injection e with e1 e2 e3
      subst e1 e3
      by_cases hroom : n + m ≤ c
      · have hst := run_storeCells_at Tryz.prog g (n * i0.size) 2 (ms.map (Value.int .i64)) 0 cur w hg (by rw [hcs, hz1]; simp; omega) (ints_oneCell _ _)
        simp only [Nat.add_zero] at hst
        refine ⟨_, _, w.setRow g (cur.toList.take (n * i0.size) ++ ms.map (Value.int .i64) ++ cur.toList.drop (n * i0.size + (ms.map (Value.int .i64)).length)).toArray, ?_, ⟨⟨hlen, .inr ⟨g, c, _, rfl, hbg, setRow_heap w g cur _ 2 _ hg, hroom, hcm, ?_, ?_⟩⟩, by omega, hin⟩, ⟨rfl, rfl, rfl, by simp, fun k _ hk => setRow_other w g k _ (fun e => hk (by simp [Value.ownBlock, e]))⟩⟩
        · simp [Builtin.append_, run_underlying unds, run_underlying und, sizeOf, typeInfo, zeroValue, hi, hz0, asInt, asIntOf, hw, hneg, h48, hns, hroom, Addr.add_lit, hzl, hst]
        · simp only [List.size_toArray, List.length_append, List.length_take, List.length_drop, Array.length_toList, List.length_map, hz1, hml]
          omega
        · have ht2 : cur.toList.take (n * i0.size) = zs.map (Value.int .i64) := by rw [hz1]; exact htake
          rw [ht2, ← List.map_append]
          exact List.take_left' hlen
      · have holds : ∀ j u, (zs.map (Value.int .i64))[j]? = some u → w.drew.cell? ((⟨g, 0, none⟩ : Addr).add j) = some u := fun j u hu => hown.1.cells (g := g) rfl j u hu
        have hf := run_firstCells_some (P := Tryz.prog) w.drew i0.size n ⟨g, 0, none⟩ n c (zs.map (Value.int .i64)) (by simp [hl, hz1]) holds
        have h63 : ¬ ((9223372036854775807 : Int) < (n : Int) + (m : Int)) := by omega
        have hnx : ¬ (281474976710656 < Builtin.nextslicecap (n + m) c * i0.bytes) := by have := growslice_fits (bytes := 8) (show c < n + m by omega) (by omega); rw [hz2]; omega
        refine ⟨_, _, _, ?_, ⟨grown c, by omega, hin⟩, hg2 _ _⟩
        rw [hz1] at hf
        simp [Builtin.append_, run_underlying unds, run_underlying und, sizeOf, typeInfo, zeroValue, hi, hz0, hz1, asInt, asIntOf, hw, hm, hneg, h48, h63, hnx, hroom, Question.forced, hf, newRow, grownCap, hza]
        congr 2
        apply Array.ext'
        simp
/-- The same, as a step of a walk. -/
theorem wpList_appendZeros {ops : Array Oper} {rest : List Oper} {o : Oper} {ac : Act} {Q : Exit → Act → World → Prop} (w : World) (hgd : o.guard = none) (s x : Operand)
    (ho : o.op = .call { callee := .builtin .append, args := #[s, x], argTypes := #[28, 2] })
    (B : Nat) (a : Option Addr) (n c : Nat) (zs : List Int) (hs : ac.eval s = .slice a n c) (hown : Own w B a n c zs)
    (m : Nat) (hx : ac.eval x = .int .i64 (m : Int)) (hn : n + m ≤ 1048576) (hB : B ≤ w.heap.size)
    (h : ∀ a1 c1 w', Own w' B a1 (n + m) c1 (zs ++ List.replicate m 0) → w.grownBy w' (Value.slice a n c).ownBlock → wpList Tryz.prog ops Q rest (ac.put o.dst (.slice a1 (n + m) c1)) w') : wpList Tryz.prog ops Q (o :: rest) ac w := by
  obtain ⟨a1, c1, w', hr, h1, h2⟩ := run_append_zeros w o.type B a n c zs m hown hn hB
  exact Go.Lib.wpList_append_run w hgd s x 28 2 ho _ _ hs hx _ _ hr (h a1 c1 w' h1 h2)
end Go.Proofs.YtmooecbdpfhnlaaGreat
/- The contract of the model's StartOf. -/
namespace Go.Proofs.YtmooecbdpfhnlaaGreat
open Go.RowKit

theorem startB_code {p : Prg} {ls ss : List Int} (h : (codeB p == 0) = false) : startB p ls ss = false := by rw [startB, h]; rfl
theorem startB_one {p : Prg} {ls ss : List Int} (h : areB p.lows ls = false) : startB p ls ss = false := by simp [startB, h]
theorem startB_two {p : Prg} {ls ss : List Int} (h : areB p.secrets ss = false) : startB p ls ss = false := by simp [startB, h]
theorem take_snoc {zs : List Int} {k : Nat} {z : Int} (hk : k < zs.length) (hz : Hid (z = zs.getD k 0)) : zs.take (k + 1) = zs.take k ++ [z] := by
  have e : zs[k] = z := by have := hz.out; rw [List.getD_eq_getElem?_getD, List.getElem?_eq_getElem hk] at this; simpa using this.symm
  simp [List.take_add_one, List.getElem?_eq_getElem hk, e]
theorem QB.no {w wi : World} {b : Nat} {pc : List Value} {er : ERow} {q : Sta} (h : QB w wi b pc er q) : NB w wi pc := ⟨h.arg, h.res, h.bel⟩
theorem below_drewN (w : World) (k : Nat) : Below w.heap.size w (w.drewN k) := ⟨rfl, rfl, rfl, Nat.le_refl _, fun _ _ => rfl⟩
/-- The box of the answer. -/
def PC (wd : Int) (s1 s2 : Sl) (tp : Int) (s3 s4 : Sl) : List Value := [.int .i64 wd, slV s1, slV s2, .int .i64 tp, slV s3, slV s4]
theorem in_yes {z x : Int} (h0 : 0 ≤ z) (h1 : z ≤ x) (w' : World) : Calls Tryz.prog 71 #[.int .i64 z, .int .i64 0, .int .i64 x] w' fun e w'' => e = .returned (.bool true) ∧ w'' = w' := by
  have := in_any z 0 x w'
  rw [decide_eq_true h0, decide_eq_true h1] at this
  exact this.mono (fun e w'' h => ⟨h.1, h.2.symm⟩)
theorem in_no {z x : Int} (h : ¬ (0 ≤ z ∧ z ≤ x)) (w' : World) : Calls Tryz.prog 71 #[.int .i64 z, .int .i64 0, .int .i64 x] w' fun e w'' => e = .returned (.bool false) ∧ w'' = w' := by
  have := in_any z 0 x w'
  rw [show (decide (0 ≤ z) && decide (z ≤ x)) = false by
    rcases Decidable.not_and_iff_or_not.1 h with h | h
    · rw [decide_eq_false h, Bool.false_and]
    · rw [decide_eq_false h, Bool.and_false]] at this
  exact this.mono (fun e w'' h => ⟨h.1, h.2.symm⟩)
set_option maxRecDepth 20000 in
set_option maxHeartbeats 6400000 in
theorem specStartOf_any (r : PRow) (p : Prg) (a a' : Option Addr) (n c n' c' : Nat) (ls ss : List Int) (w : World) (h : ProgAt w r p) (h1 : Ints w a n ls) (h2 : Ints w a' n' ss) :
    Calls Tryz.prog 105 #[progV r, .slice a n c, .slice a' n' c'] w (Started w p ls ss) := by
  have HC : Hid (∀ w', Below w.heap.size w w' → Calls Tryz.prog 51 #[progV r] w' fun e w'' => e = .returned (.bool (codeB p == 0)) ∧ Below w'.heap.size w' w'') := Lib.hid (fun w' hw => specProgOk_any r p w' (h.below hw))
  have HI1 := Lib.hid h1
  have HI2 := Lib.hid h2
  have HL1 := Lib.hid h1.1
  have HL2 := Lib.hid h2.1
  have HLO := Lib.hid h.lows
  have HSE := Lib.hid h.secrets
  have HM1 := Lib.hid h.lows.1
  have HM2 := Lib.hid h.secrets.1
  have HAR := Lib.hid h.arrays
  have HAL := Lib.hid h.arrays.1
  have HHD : Hid (codeB p = 0 → p.lows.length ≤ 3 ∧ p.secrets.length ≤ 3 ∧ p.arrays.length ≤ 2 ∧ 0 ≤ p.temps ∧ p.temps ≤ 6) := Lib.hid (fun hc => by have := code_head hc; omega)
  have HAZ : Hid (codeB p = 0 → ∀ k, k < p.arrays.length → 1 ≤ p.arrays.getD k 0 ∧ p.arrays.getD k 0 ≤ 6) := Lib.hid (fun hc k hk => by
    have hrm := (code_parts hc).2
    simp only [roomB, Bool.and_eq_true, decide_eq_true_eq, List.all_eq_true] at hrm
    exact hrm.2 _ (getD_mem hk))
  have HTP := Lib.hid h.temps
  have HMK := Lib.hid (fun (M : Nat) (hM : M ≤ 6) (w : World) => make_row M (by omega) w)
  clear h h1 h2
  obtain ⟨wd, ⟨a1, n1, c1⟩, ⟨a2, n2, c2⟩, tp, ⟨a3, n3, c3⟩, ⟨a4, n4, c4⟩, rows⟩ := r
  simp only [] at HLO HSE HAR HTP HM1 HM2 HAL
  show Calls Tryz.prog 105 #[.agg #[.int .i64 wd, .slice a1 n1 c1, .slice a2 n2 c2, .int .i64 tp, .slice a3 n3 c3, .slice a4 n4 c4], .slice a n c, .slice a' n' c'] w _
  obtain ⟨wa, HW⟩ : ∃ wa, Hid (wa = (w.alloc (.cells #[.int .i64 wd, .slice a1 n1 c1, .slice a2 n2 c2, .int .i64 tp, .slice a3 n3 c3, .slice a4 n4 c4] 31)).alloc (.cells #[.slice none 0 0, .slice none 0 0] 90)) := ⟨_, rfl⟩
  have NX : NB w wa [.int .i64 wd, .slice a1 n1 c1, .slice a2 n2 c2, .int .i64 tp, .slice a3 n3 c3, .slice a4 n4 c4] := by rw [HW.out]; exact nb_new w _
  obtain ⟨z0, HZ0⟩ : ∃ z, Hid ((codeB p == 0) = z) := ⟨_, rfl⟩
  rw [HZ0.out] at HC
  go_enter Tryz.func105, Tryz.ntmps105
  go_wp2_with fail
  rw [← HW.out]
  refine (HC.out _ NX.bel).mono ?_
  rintro e w1 ⟨rfl, hb1⟩
  have N1 := NX.below hb1
  clear NX hb1 HW HC
  have t1 := N1.arg.cell (j := 1) rfl
  have t2 := N1.arg.cell (j := 2) rfl
  have r0 := N1.res.cell (j := 0) rfl
  have r1 := N1.res.cell (j := 1) rfl
  have f0 := N1.res.frozen 0
  have f1 := N1.res.frozen 1
  have e0 := N1.res0.cell (j := 0) rfl
  have e1 := N1.res0.cell (j := 1) rfl
  have HN := Lib.hid N1
  have HNO : Hid (startB p ls ss = false → Started w p ls ss (.returned (.tuple #[.agg #[.slice none 0 0, .slice none 0 0], .bool false])) ((w1.setCell ⟨w.heap.size + 1, 0, none⟩ (.slice none 0 0)).setCell ⟨w.heap.size + 1, 1, none⟩ (.slice none 0 0))) := Lib.hid (fun hs => ⟨N1.zero, .inr ⟨hs, rfl⟩⟩)
  clear N1
  cases z0 with
  | false =>
    have HF := Lib.hid (HNO.out (startB_code HZ0.out))
    clear t1 t2 HZ0
    go_wp2
    exact bodyPost_ret (v := .tuple #[.agg #[.slice none 0 0, .slice none 0 0], .bool false]) (by simp [results, Tryz.results105, go_sem, e0, e1]) rfl HF.out
  | true =>
  have hc0 : codeB p = 0 := by have := HZ0.out; simpa using this
  obtain ⟨q1, q2, q3, q4, q5⟩ := HHD.out hc0
  have HAZ := Lib.hid (HAZ.out hc0)
  have HC0 := Lib.hid hc0
  clear HHD HZ0 hc0
  obtain ⟨T, hT⟩ : ∃ T : Nat, p.temps = (T : Int) := ⟨p.temps.toNat, by omega⟩
  have hT6 : T ≤ 6 := by omega
  have HTT := Lib.hid hT
  have htp : tp = (T : Int) := by rw [HTP.out, hT]
  clear q4 q5 hT HTP
  subst htp
  by_cases hn1 : n = n1
  case neg =>
    have HF := Lib.hid (HNO.out (startB_one (areB_len (by rw [HL1.out, HM1.out]; exact hn1))))
    have hne : ((n : Int) != (n1 : Int)) = true := by simp; omega
    clear t2
    go_wp2
    exact bodyPost_ret (v := .tuple #[.agg #[.slice none 0 0, .slice none 0 0], .bool false]) (by simp [results, Tryz.results105, go_sem, e0, e1]) rfl HF.out
  subst hn1
  have hne1 : ((n : Int) != (n : Int)) = false := by simp
  by_cases hn2 : n' = n2
  case neg =>
    have HF := Lib.hid (HNO.out (startB_two (areB_len (by rw [HL2.out, HM2.out]; exact hn2))))
    have hne : ((n' : Int) != (n2 : Int)) = true := by simp; omega
    go_wp2
    exact bodyPost_ret (v := .tuple #[.agg #[.slice none 0 0, .slice none 0 0], .bool false]) (by simp [results, Tryz.results105, go_sem, e0, e1]) rfl HF.out
  subst hn2
  have hne2 : ((n' : Int) != (n' : Int)) = false := by simp
  have hn3 : n ≤ 3 := by have := HM1.out; omega
  have hn4 : n' ≤ 3 := by have := HM2.out; omega
  have hn5 : n3 ≤ 2 := by have := HAL.out; omega
  have HQ0 := qb_start HN.out (B := w.heap.size) (Nat.le_refl _) (own_nil w1 w.heap.size)
  obtain ⟨wq, HWQ⟩ : ∃ wq, Hid (wq = w1.alloc (.cells #[.slice none 0 0, .slice none 0 0] 90)) := ⟨_, rfl⟩
  rw [← HWQ.out] at HQ0
  have HREL : Hid (∃ (va : Option Addr) (vc : Nat), QB w wq w1.heap.size [.int .i64 wd, .slice a1 n c1, .slice a2 n' c2, .int .i64 (T : Int), .slice a3 n3 c3, .slice a4 n4 c4] ⟨(va, 0, vc), (none, 0, 0), []⟩ ⟨ls.take 0, [], []⟩) := Lib.hid ⟨_, _, HQ0⟩
  clear HQ0 HN HNO q1 q2 q3 r0 r1 f0 f1 e0 e1
  go_wp2_with fail
  rw [← HWQ.out]
  obtain ⟨b, HB⟩ : ∃ b, Hid (w1.heap.size = b) := ⟨_, rfl⟩
  rw [HB.out] at HREL ⊢
  clear HWQ t1 t2
  go_loopw [9] (fun i wr => ∃ (k : Nat) (va : Option Addr) (vc : Nat), k ≤ n ∧ i = .int .i64 (k : Int) ∧ Hid (AreTo p.lows ls k) ∧ QB w wr b [.int .i64 wd, .slice a1 n c1, .slice a2 n' c2, .int .i64 (T : Int), .slice a3 n3 c3, .slice a4 n4 c4] ⟨(va, k, vc), (none, 0, 0), []⟩ ⟨ls.take k, [], []⟩) (fun i _ => n - (intOf i).toNat)
  case atStart => obtain ⟨va, vc, hq⟩ := HREL.out; exact ⟨0, va, vc, Nat.zero_le _, rfl, Lib.hid (AreTo.zero _ _), hq⟩
  case round =>
    clear HREL
    obtain ⟨k, va, vc, hk, rfl, HAT, HQ⟩ := hrel
    by_cases hlt : k < n
    · obtain ⟨b1, o1, x, y, rfl, hb1, hz1, hi1, hi2, hc1, hc2⟩ := (HLO.out.below (Nat.le_refl _) HQ.bel).at_ hlt
      obtain ⟨b2, o2, z, rfl, hb2, hz2, hi3, hc3⟩ := (HI1.out.below HQ.bel).at_ hlt
      have u1 := HQ.arg.cell (j := 1) rfl
      clear hc2
      by_cases hin : 0 ≤ z ∧ z ≤ x
      · have HIN : Hid (∀ w', Calls Tryz.prog 71 #[.int .i64 z, .int .i64 0, .int .i64 x] w' fun e w'' => e = .returned (.bool true) ∧ w'' = w') := Lib.hid (fun w' => in_yes hin.1 hin.2 w')
        have HAT := Lib.hid (HAT.out.succ hz2 hz1 hin.1 hin.2)
        have HTK := Lib.hid (take_snoc (by rw [HL1.out]; exact hlt) hz2)
        have HQ2 := Lib.hid HQ
        clear hin hz1 hz2 HQ
        go_wp2_with fail
        go_quiet ((go_at_call 71; exact Calls.quiet_of_same (HIN.out _)))
        rename_i nq
        have HQ3 := HQ2.out.below (below_drewN wr nq)
        have hc4 : (wr.drewN nq).cell? ⟨b2, o2 + k, none⟩ = some (.int .i64 z) := hc3
        have hbb : b2 < (wr.drewN nq).heap.size := hb2
        generalize wr.drewN nq = wx at HQ3 hc4 hbb ⊢
        have hd : Below wx.heap.size wx wx.drew := ⟨rfl, rfl, rfl, Nat.le_refl _, fun _ _ => rfl⟩
        have HG0 := Lib.hid (HQ3.below hd)
        have x1 := HQ3.out.cell (j := 0) rfl
        have x2 := (HQ3.alloc (.cells #[.int .i64 z] 2)).out.cell (j := 0) rfl
        have uf := HQ3.out.frozen 0
        simp only [slV] at x1 x2
        clear HQ2 HQ3 HIN u1 hc1 hc3 hb2 hd hi1 hi2
        go_wp2_with fail
        go_region_law (refine step_pushI _ (by rfl) _ _ (by rfl) w.heap.size va k vc _ (by rfl) (by exact HG0.out.mem.vars.alloc _) wx.heap.size z (by rfl) (by simp) hi3 (by omega) (by have := HG0.out.bel.size; simp at this ⊢; omega) ?_; intro a8 c8 w8 ho8 hg8; have Q1 := (HG0.out.alloc (.cells #[.int .i64 z] 2)).var rfl ho8 hg8.1; have yy := blk_row (HG0.out.alloc (.cells #[.int .i64 z] 2)).out (HG0.out.alloc (.cells #[.int .i64 z] 2)).mem.vars.1 (by decide) hg8.1; have y0 := yy.cell (j := 0) rfl; have yf := yy.frozen 0; simp only [slV] at y0)
        all_goals
          rw [← HTK.out] at Q1
          have HQ1 := Lib.hid Q1
          clear Q1 yy y0 yf ho8 hg8 x1 x2 uf HG0 hc4 hbb
          go_wp2
          go_roundw
          case rel => exact ⟨k + 1, a8, c8, by omega, by go_num, HAT, HQ1.out⟩
          case measure => simp [intOf]; omega
      · have HIN : Hid (∀ w', Calls Tryz.prog 71 #[.int .i64 z, .int .i64 0, .int .i64 x] w' fun e w'' => e = .returned (.bool false) ∧ w'' = w') := Lib.hid (fun w' => in_no hin w')
        have HBAD := Lib.hid (startB_one (ss := ss) (areB_bad (by rw [HL1.out]; exact hlt) hz2 hz1 hin))
        have HQ2 := Lib.hid HQ
        clear hin hz1 hz2 HQ
        go_wp2_with fail
        go_quiet ((go_at_call 71; exact Calls.quiet_of_same (HIN.out _)))
        rename_i nq
        have N1 := (HQ2.out.below (below_drewN wr nq)).no
        generalize wr.drewN nq = wx at N1 ⊢
        have r0 := N1.res.cell (j := 0) rfl
        have r1 := N1.res.cell (j := 1) rfl
        have f0 := N1.res.frozen 0
        have f1 := N1.res.frozen 1
        have e0 := N1.res0.cell (j := 0) rfl
        have e1 := N1.res0.cell (j := 1) rfl
        have HF : Hid (Started w p ls ss (.returned (.tuple #[.agg #[.slice none 0 0, .slice none 0 0], .bool false])) ((wx.setCell ⟨w.heap.size + 1, 0, none⟩ (.slice none 0 0)).setCell ⟨w.heap.size + 1, 1, none⟩ (.slice none 0 0))) := Lib.hid ⟨N1.zero, .inr ⟨HBAD.out, rfl⟩⟩
        clear N1 HQ2 HIN u1 hc1 hc3 hb2 hi1 hi2
        go_wp2
        exact bodyPost_ret (v := .tuple #[.agg #[.slice none 0 0, .slice none 0 0], .bool false]) (by simp [results, Tryz.results105, go_sem, e0, e1]) rfl HF.out
    · obtain rfl : n = k := by omega
      rw [List.take_of_length_le (by rw [HL1.out]; exact Nat.le_refl _)] at HQ
      have HREL : Hid (∃ (va : Option Addr) (vc : Nat), QB w wr b [.int .i64 wd, .slice a1 n c1, .slice a2 n' c2, .int .i64 (T : Int), .slice a3 n3 c3, .slice a4 n4 c4] ⟨(va, n + 0, vc), (none, 0, 0), []⟩ ⟨ls ++ ss.take 0, [], []⟩) := Lib.hid ⟨va, vc, by simpa using HQ⟩
      have HAL1 := Lib.hid (areB_all (by rw [HL1.out, HM1.out]) (by rw [HL1.out]; exact HAT.out))
      clear HQ HAT
      go_wp2_with fail
      go_loopw [10] (fun i wr => ∃ (k : Nat) (va : Option Addr) (vc : Nat), k ≤ n' ∧ i = .int .i64 (k : Int) ∧ Hid (AreTo p.secrets ss k) ∧ QB w wr b [.int .i64 wd, .slice a1 n c1, .slice a2 n' c2, .int .i64 (T : Int), .slice a3 n3 c3, .slice a4 n4 c4] ⟨(va, n + k, vc), (none, 0, 0), []⟩ ⟨ls ++ ss.take k, [], []⟩) (fun i _ => n' - (intOf i).toNat)
      case atStart => obtain ⟨va, vc, hq⟩ := HREL.out; exact ⟨0, va, vc, Nat.zero_le _, rfl, Lib.hid (AreTo.zero _ _), hq⟩
      case round =>
        clear HREL
        obtain ⟨k, va, vc, hk, rfl, HAT, HQ⟩ := hrel
        by_cases hlt : k < n'
        · obtain ⟨b1, o1, x, y, rfl, hb1, hz1, hi1, hi2, hc1, hc2⟩ := (HSE.out.below (Nat.le_refl _) HQ.bel).at_ hlt
          obtain ⟨b2, o2, z, rfl, hb2, hz2, hi3, hc3⟩ := (HI2.out.below HQ.bel).at_ hlt
          have u1 := HQ.arg.cell (j := 2) rfl
          clear hc2
          by_cases hin : 0 ≤ z ∧ z ≤ x
          · have HIN : Hid (∀ w', Calls Tryz.prog 71 #[.int .i64 z, .int .i64 0, .int .i64 x] w' fun e w'' => e = .returned (.bool true) ∧ w'' = w') := Lib.hid (fun w' => in_yes hin.1 hin.2 w')
            have HAT := Lib.hid (HAT.out.succ hz2 hz1 hin.1 hin.2)
            have HTK := Lib.hid (take_snoc (by rw [HL2.out]; exact hlt) hz2)
            have HQ2 := Lib.hid HQ
            clear hin hz1 hz2 HQ
            go_wp2_with fail
            go_quiet ((go_at_call 71; exact Calls.quiet_of_same (HIN.out _)))
            rename_i nq
            have HQ3 := HQ2.out.below (below_drewN wr nq)
            have hc4 : (wr.drewN nq).cell? ⟨b2, o2 + k, none⟩ = some (.int .i64 z) := hc3
            have hbb : b2 < (wr.drewN nq).heap.size := hb2
            generalize wr.drewN nq = wx at HQ3 hc4 hbb ⊢
            have hd : Below wx.heap.size wx wx.drew := ⟨rfl, rfl, rfl, Nat.le_refl _, fun _ _ => rfl⟩
            have HG0 := Lib.hid (HQ3.below hd)
            have x1 := HQ3.out.cell (j := 0) rfl
            have x2 := (HQ3.alloc (.cells #[.int .i64 z] 2)).out.cell (j := 0) rfl
            have uf := HQ3.out.frozen 0
            simp only [slV] at x1 x2
            clear HQ2 HQ3 HIN u1 hc1 hc3 hb2 hd hi1 hi2
            go_wp2_with fail
            go_region_law (refine step_pushI _ (by rfl) _ _ (by rfl) w.heap.size va (n + k) vc _ (by rfl) (by exact HG0.out.mem.vars.alloc _) wx.heap.size z (by rfl) (by simp) hi3 (by omega) (by have := HG0.out.bel.size; simp at this ⊢; omega) ?_; intro a8 c8 w8 ho8 hg8; have Q1 := (HG0.out.alloc (.cells #[.int .i64 z] 2)).var rfl ho8 hg8.1; have yy := blk_row (HG0.out.alloc (.cells #[.int .i64 z] 2)).out (HG0.out.alloc (.cells #[.int .i64 z] 2)).mem.vars.1 (by decide) hg8.1; have y0 := yy.cell (j := 0) rfl; have yf := yy.frozen 0; simp only [slV] at y0)
            all_goals
              rw [List.append_assoc, ← HTK.out] at Q1
              have HQ1 := Lib.hid Q1
              clear Q1 yy y0 yf ho8 hg8 x1 x2 uf HG0 hc4 hbb
              go_wp2
              go_roundw
              case rel => exact ⟨k + 1, a8, c8, by omega, by go_num, HAT, HQ1.out⟩
              case measure => simp [intOf]; omega
          · have HIN : Hid (∀ w', Calls Tryz.prog 71 #[.int .i64 z, .int .i64 0, .int .i64 x] w' fun e w'' => e = .returned (.bool false) ∧ w'' = w') := Lib.hid (fun w' => in_no hin w')
            have HBAD := Lib.hid (startB_two (ls := ls) (areB_bad (by rw [HL2.out]; exact hlt) hz2 hz1 hin))
            have HQ2 := Lib.hid HQ
            clear hin hz1 hz2 HQ
            go_wp2_with fail
            go_quiet ((go_at_call 71; exact Calls.quiet_of_same (HIN.out _)))
            rename_i nq
            have N1 := (HQ2.out.below (below_drewN wr nq)).no
            generalize wr.drewN nq = wx at N1 ⊢
            have r0 := N1.res.cell (j := 0) rfl
            have r1 := N1.res.cell (j := 1) rfl
            have f0 := N1.res.frozen 0
            have f1 := N1.res.frozen 1
            have e0 := N1.res0.cell (j := 0) rfl
            have e1 := N1.res0.cell (j := 1) rfl
            have HF : Hid (Started w p ls ss (.returned (.tuple #[.agg #[.slice none 0 0, .slice none 0 0], .bool false])) ((wx.setCell ⟨w.heap.size + 1, 0, none⟩ (.slice none 0 0)).setCell ⟨w.heap.size + 1, 1, none⟩ (.slice none 0 0))) := Lib.hid ⟨N1.zero, .inr ⟨HBAD.out, rfl⟩⟩
            clear N1 HQ2 HIN u1 hc1 hc3 hb2 hi1 hi2
            go_wp2
            exact bodyPost_ret (v := .tuple #[.agg #[.slice none 0 0, .slice none 0 0], .bool false]) (by simp [results, Tryz.results105, go_sem, e0, e1]) rfl HF.out
        · obtain rfl : n' = k := by omega
          rw [List.take_of_length_le (by rw [HL2.out]; exact Nat.le_refl _)] at HQ
          have HYES : Hid (startB p ls ss = true) := Lib.hid (by
            have h2 := areB_all (by rw [HL2.out, HM2.out]) (by rw [HL2.out]; exact HAT.out)
            simp [startB, HC0.out, HAL1.out, h2])
          have HST : Hid (startQ p ls ss = ⟨ls ++ (ss ++ List.replicate T 0), zeroTo p n3, []⟩) := Lib.hid (by rw [zeroTo_all HAL.out, startQ, HTT.out, List.append_assoc]; rfl)
          have x1 := HQ.out.cell (j := 0) rfl
          have u3 := HQ.arg.cell (j := 3) rfl
          have uf := HQ.out.frozen 0
          simp only [slV] at x1
          have hBw := HQ.bel.size
          have HQ2 := Lib.hid HQ
          clear HQ HAT HAL1
          go_wp2_with (at_builtin; refine wpList_appendZeros _ rfl _ _ rfl w.heap.size va (n + n') vc _ rfl HQ2.out.mem.vars T rfl (by omega) hBw ?_)
          intro a8 c8 w8 ho8 hg8
          have Q1 := HQ2.out.var rfl ho8 hg8
          have yy := blk_row HQ2.out.out HQ2.out.mem.vars.1 (by decide) hg8
          have y0 := yy.cell (j := 0) rfl
          have yf := yy.frozen 0
          simp only [slV] at y0
          have g4 := Q1.arg.cell (j := 4) rfl
          obtain ⟨wy, HWY⟩ : ∃ wy, Hid (wy = w8.setCell ⟨b, 0, none⟩ (.slice a8 (n + n' + T) c8)) := ⟨_, rfl⟩
          have HREL : Hid (∃ (ca : Option Addr) (cc : Nat) (rws : List Sl), QB w wy b [.int .i64 wd, .slice a1 n c1, .slice a2 n' c2, .int .i64 (T : Int), .slice a3 n3 c3, .slice a4 n4 c4] ⟨(a8, n + n' + T, c8), (ca, 0, cc), rws⟩ ⟨ls ++ (ss ++ List.replicate T 0), zeroTo p 0, []⟩) := Lib.hid ⟨_, _, _, by rw [HWY.out]; exact Q1⟩
          clear Q1 yy HQ2 ho8 hg8 x1 u3 uf g4
          go_wp2_with fail
          rw [← HWY.out]
          clear HWY y0 yf
          obtain ⟨vn, HVN⟩ : ∃ vn, Hid (n + n' + T = vn) := ⟨_, rfl⟩
          rw [HVN.out] at HREL
          clear HVN
          go_loopw [11] (fun i wr => ∃ (k : Nat) (ca : Option Addr) (cc : Nat) (rws : List Sl), k ≤ n3 ∧ i = .int .i64 (k : Int) ∧ QB w wr b [.int .i64 wd, .slice a1 n c1, .slice a2 n' c2, .int .i64 (T : Int), .slice a3 n3 c3, .slice a4 n4 c4] ⟨(a8, vn, c8), (ca, k, cc), rws⟩ ⟨ls ++ (ss ++ List.replicate T 0), zeroTo p k, []⟩) (fun i _ => n3 - (intOf i).toNat)
          case atStart => obtain ⟨ca, cc, rws, hq⟩ := HREL.out; exact ⟨0, ca, cc, rws, Nat.zero_le _, rfl, hq⟩
          case round =>
            clear HREL
            obtain ⟨k, ca, cc, rws, hk, rfl, HQ⟩ := hrel
            have g4 := HQ.arg.cell (j := 4) rfl
            by_cases hlt : k < n3
            · obtain ⟨b3, o3, z, rfl, hb3, hz3, hin3, hc3⟩ := (HAR.out.below HQ.bel).at_ hlt
              obtain ⟨z1, z2⟩ := HAZ.out k (by rw [HAL.out]; exact hlt)
              rw [← hz3.out] at z1 z2
              obtain ⟨M, rfl⟩ : ∃ M : Nat, z = (M : Int) := ⟨z.toNat, by omega⟩
              have hM6 : M ≤ 6 := by omega
              have HZ := Lib.hid (zeroTo_succ (by rw [HAL.out]; exact hlt) hz3)
              have hmk2 := HMK.out M hM6
              have hd : Below wr.heap.size wr wr.drew := ⟨rfl, rfl, rfl, Nat.le_refl _, fun _ _ => rfl⟩
              have HG0 := Lib.hid (HQ.below hd)
              have u1 := HQ.out.cell (j := 1) rfl
              have uf := HQ.out.frozen 1
              have v1 := (HQ.alloc (.cells (madeCells #[.int .i64 0] M) 2)).out.cell (j := 1) rfl
              have v2 := ((HQ.alloc (.cells (madeCells #[.int .i64 0] M) 2)).alloc (.cells #[.slice (some ⟨wr.heap.size, 0, none⟩) M M] 28)).out.cell (j := 1) rfl
              simp only [slV] at u1 v1 v2
              clear HQ hz3 z1 z2 hin3 hd
              go_wp2_with fail
              go_region_law (refine step_pushR _ (by rfl) _ _ (by rfl) w.heap.size ca k cc rws (by rfl) (by exact (HG0.out.mem.cells.1.alloc _).alloc _) (wr.heap.size + 1) (some ⟨wr.heap.size, 0, none⟩, M, M) (by rfl) (by simp [slV]) (by omega) (by have := HG0.out.bel.size; simp at this ⊢; omega) ?_; intro a9 c9 w9 ho9 hg9; have Q1 := HG0.out.row (wj := (wr.drew.alloc (.cells (madeCells #[.int .i64 0] M) 2)).alloc (.cells #[.slice (some ⟨wr.heap.size, 0, none⟩) M M] 28)) (((Below.refl _ _).alloc (Nat.le_refl _) _).alloc (by simp) _) (r := (some ⟨wr.heap.size, 0, none⟩, M, M)) ((own_made wr.drew M (by omega)).alloc _) ho9 (by simp only []; omega) hg9.1; have y0 := (blk_row ((HG0.out.alloc _).alloc _).out ((HG0.out.alloc _).alloc _).mem.cells.1 (by decide) hg9.1).cell (j := 1) rfl; have yf := (blk_row ((HG0.out.alloc _).alloc _).out ((HG0.out.alloc _).alloc _).mem.cells.1 (by decide) hg9.1).frozen 1; simp only [slV] at y0)
              all_goals
                have HQ1 : Hid (QB w (w9.setCell ⟨b, 1, none⟩ (.slice a9 (k + 1) c9)) b [.int .i64 wd, .slice a1 n c1, .slice a2 n' c2, .int .i64 (T : Int), .slice (some ⟨b3, o3, none⟩) n3 c3, .slice a4 n4 c4] ⟨(a8, vn, c8), (a9, k + 1, c9), rws ++ [(some ⟨wr.heap.size, 0, none⟩, M, M)]⟩ ⟨ls ++ (ss ++ List.replicate T 0), zeroTo p (k + 1), []⟩) := Lib.hid (by rw [HZ.out, Int.toNat_natCast]; exact Q1)
                clear Q1 y0 yf ho9 hg9 u1 v1 v2 uf HG0 hmk2 hc3 g4
                go_wp2
                go_roundw
                case rel => exact ⟨k + 1, a9, c9, _, by omega, by go_num, HQ1.out⟩
                case measure => simp [intOf]; omega
            · obtain rfl : n3 = k := by omega
              have o0 := HQ.out.cell (j := 0) rfl
              have o1 := HQ.out.cell (j := 1) rfl
              have r0 := HQ.res.cell (j := 0) rfl
              have r1 := HQ.res.cell (j := 1) rfl
              have f0 := HQ.res.frozen 0
              have f1 := HQ.res.frozen 1
              simp only [slV] at o0 o1
              have HB2 := Lib.hid (below_set (below_set HQ.bel (b := w.heap.size + 1) (j := 0) (by omega) (.slice a8 vn c8)) (b := w.heap.size + 1) (j := 1) (by omega) (.slice ca n3 cc))
              have HM2 := Lib.hid ((HQ.mem.set (j := 0) HQ.res (by decide) (by decide) (.slice a8 vn c8)).set (j := 1) (HQ.res.set (j := 0) (.slice a8 vn c8)) (by decide) (by decide) (.slice ca n3 cc))
              have q0 := ((HQ.res.set (j := 0) (.slice a8 vn c8)).set (j := 1) (.slice ca n3 cc)).cell (j := 0) rfl
              have q1 := ((HQ.res.set (j := 0) (.slice a8 vn c8)).set (j := 1) (.slice ca n3 cc)).cell (j := 1) rfl
              clear HQ
              go_wp2
              refine bodyPost_ret (v := .tuple #[.agg #[.slice a8 vn c8, .slice ca n3 cc], .bool true]) (by simp [results, Tryz.results105, go_sem, q0, q1]) rfl ?_
              exact ⟨HB2.out, .inl ⟨HYES.out, ⟨(a8, vn, c8), (ca, n3, cc), rws⟩, rfl, by rw [HST.out]; exact HM2.out⟩⟩
end Go.Proofs.YtmooecbdpfhnlaaGreat
