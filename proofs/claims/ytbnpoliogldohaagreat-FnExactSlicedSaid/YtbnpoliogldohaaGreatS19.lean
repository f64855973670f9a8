/- Joined texts of this proof (ImplSteps, ImplStepsIn, ImplCodeOf), in build order. -/
import Derived.Test.YtbnpoliogldohaaGreatS8
import Derived.Test.YtbnpoliogldohaaGreatS18
import Derived.Lib.SliceRun
import Derived.Test.YtbnpoliogldohaaGreatS10
import Derived.Test.YtbnpoliogldohaaGreatS17
/- The contracts of the program's wellNested, bodiesAt, stepsWith, stepsIn. -/
namespace Go.Proofs.YtbnpoliogldohaaGreat
open Go.RowKit

theorem endB_in {ss : List Stm} {k : Nat} (hk : k < ss.length) (h40 : ss.length ≤ 40) : endB ss (k : Int) = endOf ss k := by rw [endB, if_pos (by omega), Int.toNat_natCast]
set_option maxHeartbeats 1600000 in
theorem wellNested_any (a : Option Addr) (n c : Nat) (rs : List SRow) (ss : List Stm) (w : World) (h : Stmts w a n rs ss) (h40 : n ≤ 40) :
    Calls Tryz.prog 117 #[.slice a n c] w fun e w' => e = .returned (.bool (decide (blockOf ss 0 = (n : Int)))) ∧ Below w.heap.size w w' := by
  have HL := Lib.hid h.2.1
  obtain ⟨R, HR⟩ : ∃ R, Hid (decide (blockOf ss 0 = (n : Int)) = R) := ⟨_, rfl⟩
  rw [HR.out]
  go_enter Tryz.func117, Tryz.ntmps117
  go_wp2
  go_loopw [3] (fun i wr => ∃ k : Nat, k ≤ n ∧ i = .int .i64 (k : Int) ∧ Hid (decide (blockOf ss k = (n : Int)) = R) ∧ Below w.heap.size w wr) (fun i _ => n - (intOf i).toNat)
  case atStart => exact ⟨0, Nat.zero_le _, rfl, HR, Below.refl _ _⟩
  case round =>
    clear HR
    obtain ⟨k, hk, rfl, HR, hbel⟩ := hrel
    by_cases hlt : k < n
    case neg =>
      obtain rfl : k = n := by omega
      have hR : R = true := by rw [← HR.out, block_past (by rw [HL.out]; exact Nat.le_refl _)]; exact decide_eq_true rfl
      subst hR
      go_wp2
      go_ret
      exact ⟨rfl, hbel⟩
    have hl : k < ss.length := by rw [HL.out]; exact hlt
    obtain ⟨b, o, x, rfl, hx, hix, hc⟩ := (h.below hbel).op hlt
    by_cases hs : x = 3 ∨ x = 9 ∨ x = 4
    · have hR : R = false := by rw [← HR.out, block_stop hl (by rw [hx.out]; exact hs)]; exact decide_eq_false (by omega)
      subst hR
      have hsb : secondB x = (x == 3 || x == 9) := rfl
      rcases hs with rfl | rfl | rfl
      all_goals
        go_wp2_with (go_at_call 175; refine (startsSecond_any _ _).mono ?_; rintro e w' ⟨rfl, rfl⟩; rw [hsb])
        go_ret
        exact ⟨rfl, hbel⟩
    have hsb : secondB x = false := by rw [← Bool.not_eq_true, second_iff]; omega
    have k4 : (x == 4) = false := by simp; omega
    by_cases ho : x = 2 ∨ x = 5 ∨ x = 8
    case neg =>
      have hob : opensB x = false := by rw [← Bool.not_eq_true, opens_iff]; exact ho
      have HR2 := Lib.hid (show decide (blockOf ss (k + 1) = (n : Int)) = R by rw [← block_next hl (by rw [hx.out]; exact hs) (by rw [hx.out]; exact ho)]; exact HR.out)
      clear HR hs ho
      go_wp2_with (first | (go_at_call 175; refine (startsSecond_any _ _).mono ?_; rintro e w' ⟨rfl, rfl⟩; rw [hsb]) | (go_at_call 176; refine (opensBlock_any _ _).mono ?_; rintro e w' ⟨rfl, rfl⟩; rw [hob]))
      go_roundw
      case rel => exact ⟨k + 1, by omega, by go_num, HR2, hbel⟩
      case measure => simp [intOf]; omega
    have hob : opensB x = true := (opens_iff _).2 ho
    have hoo : opAt ss k = 2 ∨ opAt ss k = 5 ∨ opAt ss k = 8 := by rw [hx.out]; exact ho
    have hend := end_in ss hl
    have hc2 := implEndOf_any (some ⟨b, o, none⟩) n c rs ss (k : Int) wr (h.below hbel)
    rw [endB_in hl (by rw [HL.out]; exact h40)] at hc2
    have HRo := Lib.hid (fun he => block_over hl hoo he)
    have HRb := Lib.hid (fun he => block_bad hl hoo he)
    obtain ⟨⟨M, E⟩, HP⟩ : ∃ P, Hid (endOf ss k = P) := ⟨_, rfl⟩
    rw [HP.out] at hc2 hend HRo HRb
    simp only [] at hc2 HRo HRb
    have HC := Lib.hid hc2
    clear hc2 hs ho hoo
    go_wp2_with (first | (go_at_call 175; refine (startsSecond_any _ _).mono ?_; rintro e w' ⟨rfl, rfl⟩; rw [hsb]) | (go_at_call 176; refine (opensBlock_any _ _).mono ?_; rintro e w' ⟨rfl, rfl⟩; rw [hob]))
    refine HC.out.mono ?_
    rintro e w1 ⟨rfl, hb1⟩
    have hbel1 := hbel.trans (hb1.mono hbel.size)
    clear hc hb1
    by_cases hE : E < 0
    · have hR : R = false := by rw [← HR.out, HRb.out hE]; exact decide_eq_false (by omega)
      subst hR
      clear hend
      go_wp2
      go_ret
      exact ⟨rfl, hbel1⟩
    · have hin2 : (k : Int) < E ∧ E < n := by
        have := HL.out
        rcases hend with q | q
        · injection q with q1 q2; omega
        · simp only [] at q; omega
      obtain ⟨e, rfl⟩ : ∃ e : Nat, E = (e : Int) := ⟨E.toNat, by omega⟩
      have HR2 := Lib.hid (show decide (blockOf ss (e + 1) = (n : Int)) = R by rw [← HR.out, HRo.out (Int.natCast_nonneg e), Int.toNat_natCast])
      clear hend HR
      go_wp2
      go_roundw
      case rel => exact ⟨e + 1, by omega, by go_num, HR2, hbel1⟩
      case measure => simp [intOf]; omega
theorem Stmts.part {w : World} {b o n : Nat} {rs : List SRow} {ss : List Stm} (h : Stmts w (some ⟨b, o, none⟩) n rs ss) {lo hi : Nat} (h1 : lo ≤ hi) (h2 : hi ≤ n) :
    Stmts w (some ⟨b, o + lo * 4, none⟩) (hi - lo) ((rs.drop lo).take (hi - lo)) (seg ss lo hi) := by
  obtain ⟨q1, q2, q3, q4, q5⟩ := h
  have hr : ∀ i, i < hi - lo → srAt ((rs.drop lo).take (hi - lo)) i = srAt rs (lo + i) := fun i hi' => by
    unfold srAt
    rw [List.getD_eq_getElem?_getD, List.getD_eq_getElem?_getD, List.getElem?_take_of_lt hi', List.getElem?_drop]
  refine ⟨by rw [List.length_take, List.length_drop]; omega, by rw [seg_len h1 (by omega)], by omega, fun hp => ?_, fun i hi' => ?_⟩
  · obtain ⟨b', o', e, hb, hc⟩ := q4 (by omega)
    injection e with e
    injection e with e1 e2
    subst e1 e2
    refine ⟨b, o + lo * 4, rfl, hb, fun i hi' => ?_⟩
    have := hc (lo + i) (by omega)
    rw [hr i hi']
    rw [show o + lo * 4 + i * 4 = o + (lo + i) * 4 by omega]
    exact this
  · rw [hr i hi', seg_at (by omega)]
    exact q5 (lo + i) (by omega)
set_option maxHeartbeats 1600000 in
theorem bodiesAt_plain (a : Option Addr) (n c : Nat) (rs : List SRow) (ss : List Stm) (k : Nat) (w : World) (h : Stmts w a n rs ss) (h40 : n ≤ 40) (hk : k < n) (he : endOf ss k = (-1, -1)) :
    Calls Tryz.prog 118 #[.slice a n c, .int .i64 (k : Int)] w fun e w' => e = .returned (.tuple #[.slice none 0 0, .slice none 0 0, .int .i64 (k : Int)]) ∧ Below w.heap.size w w' := by
  have hc := implEndOf_any a n c rs ss (k : Int) w h
  rw [endB_in (by rw [h.2.1]; exact hk) (by rw [h.2.1]; exact h40), he] at hc
  simp only [] at hc
  have HC := Lib.hid hc
  clear hc he
  go_enter Tryz.func118, Tryz.ntmps118
  go_wp2_with fail
  refine HC.out.mono ?_
  rintro e w1 ⟨rfl, hb1⟩
  go_wp2
  go_ret3
  exact ⟨rfl, hb1⟩
set_option maxHeartbeats 1600000 in
theorem bodiesAt_one (b o n c : Nat) (rs : List SRow) (ss : List Stm) (k e : Nat) (w : World) (h : Stmts w (some ⟨b, o, none⟩) n rs ss) (h40 : n ≤ 40) (hcap : n ≤ c) (hk : k < n) (hke : k < e) (hen : e < n) (he : endOf ss k = (-1, (e : Int))) :
    Calls Tryz.prog 118 #[.slice (some ⟨b, o, none⟩) n c, .int .i64 (k : Int)] w fun ed w' => ed = .returned (.tuple #[.slice (some ⟨b, o + (k + 1) * 4, none⟩) (e - (k + 1)) (c - (k + 1)), .slice none 0 0, .int .i64 (e : Int)]) ∧ Below w.heap.size w w' := by
  have hc := implEndOf_any (some ⟨b, o, none⟩) n c rs ss (k : Int) w h
  rw [endB_in (by rw [h.2.1]; exact hk) (by rw [h.2.1]; exact h40), he] at hc
  simp only [] at hc
  have HC := Lib.hid hc
  clear hc he
  go_enter Tryz.func118, Tryz.ntmps118
  go_wp2_with fail
  refine HC.out.mono ?_
  rintro e w1 ⟨rfl, hb1⟩
  go_wp2
  go_ret3
  exact ⟨rfl, hb1⟩
set_option maxHeartbeats 1600000 in
theorem bodiesAt_two (b o n c : Nat) (rs : List SRow) (ss : List Stm) (k m e : Nat) (w : World) (h : Stmts w (some ⟨b, o, none⟩) n rs ss) (h40 : n ≤ 40) (hcap : n ≤ c) (hk : k < m) (hme : m < e) (hen : e < n) (he : endOf ss k = ((m : Int), (e : Int))) :
    Calls Tryz.prog 118 #[.slice (some ⟨b, o, none⟩) n c, .int .i64 (k : Int)] w fun ed w' => ed = .returned (.tuple #[.slice (some ⟨b, o + (k + 1) * 4, none⟩) (m - (k + 1)) (c - (k + 1)), .slice (some ⟨b, o + (m + 1) * 4, none⟩) (e - (m + 1)) (c - (m + 1)), .int .i64 (e : Int)]) ∧ Below w.heap.size w w' := by
  have hc := implEndOf_any (some ⟨b, o, none⟩) n c rs ss (k : Int) w h
  rw [endB_in (by rw [h.2.1]; omega) (by rw [h.2.1]; exact h40), he] at hc
  simp only [] at hc
  have HC := Lib.hid hc
  clear hc he
  go_enter Tryz.func118, Tryz.ntmps118
  go_wp2_with fail
  refine HC.out.mono ?_
  rintro e w1 ⟨rfl, hb1⟩
  go_wp2
  go_quiet (fail)
  go_wp2
  go_ret3
  exact ⟨rfl, below_dn hb1 _⟩
def stepI (x : Int) (y : Int) (s1 s2 : Int) : Int := if x = 2 then 1 + max s1 s2 else if x = 5 then 1 + y * (1 + s1) else 1 + s1 + s2
set_option maxHeartbeats 1600000 in
theorem stepsWith_any (x y : Int) (b1 b2 : Option Addr) (m1 m2 d1 d2 : Nat) (s1 s2 : Nat) (w : World) (h1 : s1 < 3656158440062976) (h2 : s2 < 3656158440062976) (hy : x = 5 → ∃ k : Nat, k ≤ 4 ∧ y = (k : Int)) :
    Calls Tryz.prog 119 #[.agg #[.int .i64 x, .int .i64 y, .slice b1 m1 d1, .slice b2 m2 d2], .int .i64 (s1 : Int), .int .i64 (s2 : Int)] w fun e w' => e = .returned (.int .i64 (stepI x y s1 s2)) ∧ Below w.heap.size w w' := by
  obtain ⟨R, HR⟩ : ∃ R, Hid (stepI x y (s1 : Int) (s2 : Int) = R) := ⟨_, rfl⟩
  rw [HR.out]
  by_cases hx : x = 2
  · subst hx
    have hR : R = 1 + max (s1 : Int) (s2 : Int) := by rw [← HR.out]; rfl
    clear HR
    have HR := Lib.hid hR
    clear hR hy
    by_cases hlt : s1 < s2
    · go_enter Tryz.func119, Tryz.ntmps119
      go_wp2
      go_ret
      exact ⟨ret_int (by first | (rw [HR.out]; omega) | rw [HR.out]), (Below.refl _ _).alloc (Nat.le_refl _) _⟩
    · go_enter Tryz.func119, Tryz.ntmps119
      go_wp2
      go_ret
      exact ⟨ret_int (by first | (rw [HR.out]; omega) | rw [HR.out]), (Below.refl _ _).alloc (Nat.le_refl _) _⟩
  have k2 : (x == 2) = false := by simpa using hx
  by_cases h5 : x = 5
  · subst h5
    obtain ⟨k, hk, rfl⟩ := hy rfl
    have hR : R = 1 + (k : Int) * (1 + (s1 : Int)) := by rw [← HR.out]; rfl
    clear HR
    obtain ⟨X, HX⟩ : ∃ X : Nat, Hid (k * (1 + s1) = X) := ⟨_, Lib.hid rfl⟩
    have hXb : X ≤ 14624633760251908 := by
      have : k * (1 + s1) ≤ 4 * (1 + s1) := Nat.mul_le_mul_right _ hk
      have := HX.out
      omega
    have hmul : (k : Int) * (1 + (s1 : Int)) = (X : Int) := by rw [← HX.out]; push_cast; rfl
    rw [hmul] at hR
    have HR := Lib.hid hR
    clear hR hy k2 hx
    go_enter Tryz.func119, Tryz.ntmps119
    go_wp2
    go_ret
    exact ⟨ret_int (by rw [HR.out]), (Below.refl _ _).alloc (Nat.le_refl _) _⟩
  have k5 : (x == 5) = false := by simpa using h5
  have hR : R = 1 + (s1 : Int) + (s2 : Int) := by rw [← HR.out]; unfold stepI; rw [if_neg hx, if_neg h5]
  clear HR
  have HR := Lib.hid hR
  clear hR hy hx h5
  go_enter Tryz.func119, Tryz.ntmps119
  go_wp2
  go_ret
  exact ⟨ret_int (by rw [HR.out]), (Below.refl _ _).alloc (Nat.le_refl _) _⟩
end Go.Proofs.YtbnpoliogldohaaGreat
/- The contract of the program's stepsIn. -/
namespace Go.Proofs.YtbnpoliogldohaaGreat
open Go.RowKit

/-- The contract, for bodies below a length. -/
def StepsInAt (N : Nat) : Prop := ∀ (a : Option Addr) (n c : Nat) (rs : List SRow) (ss : List Stm) (s : Nat) (w : World), n < N → n ≤ 40 → n ≤ c → Stmts w a n rs ss → Steps ss 0 n s →
  Calls Tryz.prog 62 #[.slice a n c] w fun e w' => e = .returned (.int .i64 (s : Int)) ∧ Below w.heap.size w w'
theorem stmts_nil (w : World) : Stmts w none 0 [] [] := ⟨rfl, rfl, by omega, fun h => absurd h (by omega), fun i h => absurd h (by omega)⟩
set_option maxRecDepth 20000 in
set_option maxHeartbeats 6400000 in
theorem stepsIn_step (N : Nat) (HI : Hid (StepsInAt N)) : StepsInAt (N + 1) := by
  intro a n c rs ss s w hN h40 hcap h hst
  have hbig := steps_bound hst (by omega)
  have HL := Lib.hid h.2.1
  have HS := Lib.hid h
  have HN : Hid (0 < n → ∀ w', Calls Tryz.prog 62 #[.slice none 0 0] w' fun e w'' => e = .returned (.int .i64 0) ∧ Below w'.heap.size w' w'') := Lib.hid (fun hp w' => HI.out none 0 0 [] [] 0 w' (by omega) (by omega) (by omega) (stmts_nil w') (.nil 0))
  go_enter Tryz.func62, Tryz.ntmps62
  go_wp2
  go_loopw [3, 4] (fun q x wr => ∃ k u t : Nat, k ≤ n ∧ x = .int .i64 (k : Int) ∧ q = .int .i64 (u : Int) ∧ u + t = s ∧ Hid (Steps ss k n t) ∧ Below w.heap.size w wr) (fun _ x _ => n - (intOf x).toNat)
  case atStart => exact ⟨0, 0, s, Nat.zero_le _, rfl, rfl, by omega, Lib.hid hst, Below.refl _ _⟩
  case round =>
    clear hst h
    obtain ⟨k, u, t, hkn, rfl, rfl, hut, HT, hbel⟩ := hrel
    by_cases hlt : k < n
    case neg =>
      obtain rfl : k = n := by omega
      have h0 := steps_none HT.out
      subst h0
      have e0 : u = s := by omega
      subst e0
      go_wp2
      go_ret
      exact ⟨rfl, hbel⟩
    have HN2 := Lib.hid (HN.out (by omega))
    clear HN
    have HN := HN2
    clear HN2
    obtain ⟨b, o, x, y, p1, m1, d1, p2, m2, d2, ts, us, rfl, hb, hz, hin1, hin2, hc1, hc2, hc3, hc4, _⟩ := (HS.out.below hbel).at_ hlt
    have hop : opAt ss k = x := by rw [opAt, hz.out]
    have hst := HT.out
    clear HT
    cases hst with
    | nil => omega
    | @plain _ _ s1 hi h2 h5 h8 p =>
      have HBD := Lib.hid (bodiesAt_plain (some ⟨b, o, none⟩) n c rs ss k wr (HS.out.below hbel) h40 hlt (end_plain hi h2 h5 h8))
      rw [hop] at h2 h5 h8
      have HP := Lib.hid p
      have hub : u + s1 + 1 < 3656158440062976 := by omega
      have HU := Lib.hid hut
      have HF1 : Hid (∀ w', Below w.heap.size w w' → Calls Tryz.prog 62 #[.slice none 0 0] w' fun e w'' => e = .returned (.int .i64 (0 : Int)) ∧ Below w'.heap.size w' w'') := Lib.hid (fun w' hw' => HN.out w')
      have HF2 : Hid (∀ w', Below w.heap.size w w' → Calls Tryz.prog 62 #[.slice none 0 0] w' fun e w'' => e = .returned (.int .i64 (0 : Int)) ∧ Below w'.heap.size w' w'') := Lib.hid (fun w' hw' => HN.out w')
      have HF3 : Hid (∀ w', Calls Tryz.prog 119 #[.agg #[.int .i64 x, .int .i64 y, .slice p1 m1 d1, .slice p2 m2 d2], .int .i64 (0 : Int), .int .i64 (0 : Int)] w' fun e w'' => e = .returned (.int .i64 ((1 : Nat) : Int)) ∧ Below w'.heap.size w' w'') := Lib.hid (fun w' => (stepsWith_any x y p1 p2 m1 m2 d1 d2 0 0 w' (by omega) (by omega) (fun h => absurd h h5)).mono fun _ _ ⟨he, hb⟩ => ⟨by rw [he]; exact ret_int (by unfold stepI; rw [if_neg h2, if_neg h5]; rfl), hb⟩)
      clear h2 h5 h8 hop p hut hbig
      go_wp2_with fail
      refine HBD.out.mono ?_
      rintro ed w1 ⟨rfl, hb1⟩
      have hbel1 := hbel.trans (hb1.mono hbel.size)
      have hbw1 : b < w1.heap.size := Nat.lt_of_lt_of_le hb hb1.size
      have f1 := lat_cell hbw1 ((hb1.cell hb).trans hc1)
      have f2 := lat_cell hbw1 ((hb1.cell hb).trans hc2)
      have f3 := lat_cell hbw1 ((hb1.cell hb).trans hc3)
      have f4 := lat_cell hbw1 ((hb1.cell hb).trans hc4)
      have HC1 := Lib.hid (fun p : Lat w1 => HF1.out p.wd (hbel1.trans (p.ok.mono hbel1.size)))
      have HC2 := Lib.hid (fun p : Lat w1 => HF2.out p.wd (hbel1.trans (p.ok.mono hbel1.size)))
      have HC3 := Lib.hid (fun p : Lat w1 => HF3.out p.wd)
      clear hc1 hc2 hc3 hc4
      go_wp2
      refine wp_region_lat (by kernel_rfl) (by kernel_rfl) ?_
      repeat (go_big_quiet_step (first | (go_at_call 62; first | with_reducible exact lat_calls (HC1.out _) | with_reducible exact lat_calls (HC2.out _)) | (go_at_call 119; exact lat_calls (HC3.out _))))
      refine wpQuiet_nil ?_
      intro _ hw'
      obtain ⟨⟨wq, hwq⟩, hw''⟩ := hw'
      subst hw''
      have ht := hbel1.trans (hwq.mono hbel1.size)
      clear f1 f2 f3 f4 HC1 HC2 HC3
      go_wp2
      go_roundw
      case rel => exact ⟨k + 1, u + 1, s1, by omega, by go_num, by go_num, by have := HU.out; omega, HP, ht⟩
      case measure => simp [intOf]; omega
    | @one _ e _ s1 t1 hi h2 he p q =>
      have q1 := (steps_small p).1
      have q2 := (steps_small q).1
      have hs_s1 := steps_bound p (by omega)
      have HBD := Lib.hid (bodiesAt_one b o n c rs ss k e wr (HS.out.below hbel) h40 hcap hlt (by omega) (by omega) he)
      obtain rfl : x = 2 := hop.symm.trans h2
      have HQ := Lib.hid q
      have hub : u + s1 + t1 + 1 < 3656158440062976 := by omega
      have HU := Lib.hid hut
      have HF1 : Hid (∀ w', Below w.heap.size w w' → Calls Tryz.prog 62 #[.slice (some ⟨b, o + (k + 1) * 4, none⟩) (e - (k + 1)) (c - (k + 1))] w' fun e w'' => e = .returned (.int .i64 (s1 : Int)) ∧ Below w'.heap.size w' w'') := Lib.hid (fun w' hw' => HI.out _ _ _ _ _ _ w' (by omega) (by omega) (by omega) ((HS.out.below hw').part (lo := k + 1) (hi := e) (by omega) (by omega)) (part_seg p (by rw [HL.out]; omega)))
      have HF2 : Hid (∀ w', Below w.heap.size w w' → Calls Tryz.prog 62 #[.slice none 0 0] w' fun e w'' => e = .returned (.int .i64 (0 : Int)) ∧ Below w'.heap.size w' w'') := Lib.hid (fun w' hw' => HN.out w')
      have HF3 : Hid (∀ w', Calls Tryz.prog 119 #[.agg #[.int .i64 2, .int .i64 y, .slice p1 m1 d1, .slice p2 m2 d2], .int .i64 (s1 : Int), .int .i64 (0 : Int)] w' fun e w'' => e = .returned (.int .i64 ((1 + s1 : Nat) : Int)) ∧ Below w'.heap.size w' w'') := Lib.hid (fun w' => (stepsWith_any 2 y p1 p2 m1 m2 d1 d2 s1 0 w' hs_s1 (by omega) (fun h => absurd h (by decide))).mono fun _ _ ⟨he, hb⟩ => ⟨by rw [he]; exact ret_int (by unfold stepI; rw [if_pos rfl]; omega), hb⟩)
      clear he h2 hop p q hut hbig
      go_wp2_with fail
      refine HBD.out.mono ?_
      rintro ed w1 ⟨rfl, hb1⟩
      have hbel1 := hbel.trans (hb1.mono hbel.size)
      have hbw1 : b < w1.heap.size := Nat.lt_of_lt_of_le hb hb1.size
      have f1 := lat_cell hbw1 ((hb1.cell hb).trans hc1)
      have f2 := lat_cell hbw1 ((hb1.cell hb).trans hc2)
      have f3 := lat_cell hbw1 ((hb1.cell hb).trans hc3)
      have f4 := lat_cell hbw1 ((hb1.cell hb).trans hc4)
      have HC1 := Lib.hid (fun p : Lat w1 => HF1.out p.wd (hbel1.trans (p.ok.mono hbel1.size)))
      have HC2 := Lib.hid (fun p : Lat w1 => HF2.out p.wd (hbel1.trans (p.ok.mono hbel1.size)))
      have HC3 := Lib.hid (fun p : Lat w1 => HF3.out p.wd)
      clear hc1 hc2 hc3 hc4
      go_wp2
      refine wp_region_lat (by kernel_rfl) (by kernel_rfl) ?_
      repeat (go_big_quiet_step (first | (go_at_call 62; first | with_reducible exact lat_calls (HC1.out _) | with_reducible exact lat_calls (HC2.out _)) | (go_at_call 119; exact lat_calls (HC3.out _))))
      refine wpQuiet_nil ?_
      intro _ hw'
      obtain ⟨⟨wq, hwq⟩, hw''⟩ := hw'
      subst hw''
      have ht := hbel1.trans (hwq.mono hbel1.size)
      clear f1 f2 f3 f4 HC1 HC2 HC3
      go_wp2
      go_roundw
      case rel => exact ⟨e + 1, u + (1 + s1), t1, by omega, by go_num, by go_num, by have := HU.out; omega, HQ, ht⟩
      case measure => simp [intOf]; omega
    | @two _ m e _ s1 s2 t1 hi h2 he p p' q =>
      have q1 := (steps_small p).1
      have q2 := (steps_small p').1
      have q3 := (steps_small q).1
      have hs_s1 := steps_bound p (by omega)
      have hs_s2 := steps_bound p' (by omega)
      have HBD := Lib.hid (bodiesAt_two b o n c rs ss k m e wr (HS.out.below hbel) h40 hcap (by omega) (by omega) (by omega) he)
      obtain rfl : x = 2 := hop.symm.trans h2
      have HQ := Lib.hid q
      have hub : u + max s1 s2 + t1 + 1 < 3656158440062976 := by omega
      have HU := Lib.hid hut
      have HF1 : Hid (∀ w', Below w.heap.size w w' → Calls Tryz.prog 62 #[.slice (some ⟨b, o + (k + 1) * 4, none⟩) (m - (k + 1)) (c - (k + 1))] w' fun e w'' => e = .returned (.int .i64 (s1 : Int)) ∧ Below w'.heap.size w' w'') := Lib.hid (fun w' hw' => HI.out _ _ _ _ _ _ w' (by omega) (by omega) (by omega) ((HS.out.below hw').part (lo := k + 1) (hi := m) (by omega) (by omega)) (part_seg p (by rw [HL.out]; omega)))
      have HF2 : Hid (∀ w', Below w.heap.size w w' → Calls Tryz.prog 62 #[.slice (some ⟨b, o + (m + 1) * 4, none⟩) (e - (m + 1)) (c - (m + 1))] w' fun e w'' => e = .returned (.int .i64 (s2 : Int)) ∧ Below w'.heap.size w' w'') := Lib.hid (fun w' hw' => HI.out _ _ _ _ _ _ w' (by omega) (by omega) (by omega) ((HS.out.below hw').part (lo := m + 1) (hi := e) (by omega) (by omega)) (part_seg p' (by rw [HL.out]; omega)))
      have HF3 : Hid (∀ w', Calls Tryz.prog 119 #[.agg #[.int .i64 2, .int .i64 y, .slice p1 m1 d1, .slice p2 m2 d2], .int .i64 (s1 : Int), .int .i64 (s2 : Int)] w' fun e w'' => e = .returned (.int .i64 ((1 + max s1 s2 : Nat) : Int)) ∧ Below w'.heap.size w' w'') := Lib.hid (fun w' => (stepsWith_any 2 y p1 p2 m1 m2 d1 d2 s1 s2 w' hs_s1 hs_s2 (fun h => absurd h (by decide))).mono fun _ _ ⟨he, hb⟩ => ⟨by rw [he]; exact ret_int (by unfold stepI; rw [if_pos rfl]; omega), hb⟩)
      clear he h2 hop p p' q hut hbig
      go_wp2_with fail
      refine HBD.out.mono ?_
      rintro ed w1 ⟨rfl, hb1⟩
      have hbel1 := hbel.trans (hb1.mono hbel.size)
      have hbw1 : b < w1.heap.size := Nat.lt_of_lt_of_le hb hb1.size
      have f1 := lat_cell hbw1 ((hb1.cell hb).trans hc1)
      have f2 := lat_cell hbw1 ((hb1.cell hb).trans hc2)
      have f3 := lat_cell hbw1 ((hb1.cell hb).trans hc3)
      have f4 := lat_cell hbw1 ((hb1.cell hb).trans hc4)
      have HC1 := Lib.hid (fun p : Lat w1 => HF1.out p.wd (hbel1.trans (p.ok.mono hbel1.size)))
      have HC2 := Lib.hid (fun p : Lat w1 => HF2.out p.wd (hbel1.trans (p.ok.mono hbel1.size)))
      have HC3 := Lib.hid (fun p : Lat w1 => HF3.out p.wd)
      clear hc1 hc2 hc3 hc4
      go_wp2
      refine wp_region_lat (by kernel_rfl) (by kernel_rfl) ?_
      repeat (go_big_quiet_step (first | (go_at_call 62; first | with_reducible exact lat_calls (HC1.out _) | with_reducible exact lat_calls (HC2.out _)) | (go_at_call 119; exact lat_calls (HC3.out _))))
      refine wpQuiet_nil ?_
      intro _ hw'
      obtain ⟨⟨wq, hwq⟩, hw''⟩ := hw'
      subst hw''
      have ht := hbel1.trans (hwq.mono hbel1.size)
      clear f1 f2 f3 f4 HC1 HC2 HC3
      go_wp2
      go_roundw
      case rel => exact ⟨e + 1, u + (1 + max s1 s2), t1, by omega, by go_num, by go_num, by have := HU.out; omega, HQ, ht⟩
      case measure => simp [intOf]; omega
    | @loop _ e _ kk s1 t1 hi h5 he hk h4 p q =>
      have q1 := (steps_small p).1
      have q2 := (steps_small q).1
      have hs_s1 := steps_bound p (by omega)
      have HBD := Lib.hid (bodiesAt_one b o n c rs ss k e wr (HS.out.below hbel) h40 hcap hlt (by omega) (by omega) he)
      obtain rfl : x = 5 := hop.symm.trans h5
      obtain rfl : y = (kk : Int) := by rw [hz.out] at hk; exact hk
      have HQ := Lib.hid q
      obtain ⟨X, HX⟩ : ∃ X : Nat, Hid (kk * (1 + s1) = X) := ⟨_, Lib.hid rfl⟩
      have hub : u + X + t1 + 1 < 3656158440062976 := by rw [HX.out] at hut; omega
      have HU := Lib.hid hut
      rw [HX.out] at HU
      have hmul : (kk : Int) * (1 + (s1 : Int)) = (X : Int) := by rw [← HX.out]; push_cast; rfl
      have HF1 : Hid (∀ w', Below w.heap.size w w' → Calls Tryz.prog 62 #[.slice (some ⟨b, o + (k + 1) * 4, none⟩) (e - (k + 1)) (c - (k + 1))] w' fun e w'' => e = .returned (.int .i64 (s1 : Int)) ∧ Below w'.heap.size w' w'') := Lib.hid (fun w' hw' => HI.out _ _ _ _ _ _ w' (by omega) (by omega) (by omega) ((HS.out.below hw').part (lo := k + 1) (hi := e) (by omega) (by omega)) (part_seg p (by rw [HL.out]; omega)))
      have HF2 : Hid (∀ w', Below w.heap.size w w' → Calls Tryz.prog 62 #[.slice none 0 0] w' fun e w'' => e = .returned (.int .i64 (0 : Int)) ∧ Below w'.heap.size w' w'') := Lib.hid (fun w' hw' => HN.out w')
      have HF3 : Hid (∀ w', Calls Tryz.prog 119 #[.agg #[.int .i64 5, .int .i64 (kk : Int), .slice p1 m1 d1, .slice p2 m2 d2], .int .i64 (s1 : Int), .int .i64 (0 : Int)] w' fun e w'' => e = .returned (.int .i64 ((1 + X : Nat) : Int)) ∧ Below w'.heap.size w' w'') := Lib.hid (fun w' => (stepsWith_any 5 (kk : Int) p1 p2 m1 m2 d1 d2 s1 0 w' hs_s1 (by omega) (fun _ => ⟨kk, h4, rfl⟩)).mono fun _ _ ⟨he, hb⟩ => ⟨by rw [he]; exact ret_int (by unfold stepI; rw [if_neg (by decide), if_pos rfl, hmul]; omega), hb⟩)
      clear he h5 hop p q hut hbig hk hmul
      go_wp2_with fail
      refine HBD.out.mono ?_
      rintro ed w1 ⟨rfl, hb1⟩
      have hbel1 := hbel.trans (hb1.mono hbel.size)
      have hbw1 : b < w1.heap.size := Nat.lt_of_lt_of_le hb hb1.size
      have f1 := lat_cell hbw1 ((hb1.cell hb).trans hc1)
      have f2 := lat_cell hbw1 ((hb1.cell hb).trans hc2)
      have f3 := lat_cell hbw1 ((hb1.cell hb).trans hc3)
      have f4 := lat_cell hbw1 ((hb1.cell hb).trans hc4)
      have HC1 := Lib.hid (fun p : Lat w1 => HF1.out p.wd (hbel1.trans (p.ok.mono hbel1.size)))
      have HC2 := Lib.hid (fun p : Lat w1 => HF2.out p.wd (hbel1.trans (p.ok.mono hbel1.size)))
      have HC3 := Lib.hid (fun p : Lat w1 => HF3.out p.wd)
      clear hc1 hc2 hc3 hc4
      go_wp2
      refine wp_region_lat (by kernel_rfl) (by kernel_rfl) ?_
      repeat (go_big_quiet_step (first | (go_at_call 62; first | with_reducible exact lat_calls (HC1.out _) | with_reducible exact lat_calls (HC2.out _)) | (go_at_call 119; exact lat_calls (HC3.out _))))
      refine wpQuiet_nil ?_
      intro _ hw'
      obtain ⟨⟨wq, hwq⟩, hw''⟩ := hw'
      subst hw''
      have ht := hbel1.trans (hwq.mono hbel1.size)
      clear f1 f2 f3 f4 HC1 HC2 HC3
      go_wp2
      go_roundw
      case rel => exact ⟨e + 1, u + (1 + X), t1, by omega, by go_num, by go_num, by have := HU.out; omega, HQ, ht⟩
      case measure => simp [intOf]; omega
    | @attempt _ m e _ s1 s2 t1 hi h8 he p p' q =>
      have q1 := (steps_small p).1
      have q2 := (steps_small p').1
      have q3 := (steps_small q).1
      have hs_s1 := steps_bound p (by omega)
      have hs_s2 := steps_bound p' (by omega)
      have HBD := Lib.hid (bodiesAt_two b o n c rs ss k m e wr (HS.out.below hbel) h40 hcap (by omega) (by omega) (by omega) he)
      obtain rfl : x = 8 := hop.symm.trans h8
      have HQ := Lib.hid q
      have hub : u + s1 + s2 + t1 + 1 < 3656158440062976 := by omega
      have HU := Lib.hid hut
      have HF1 : Hid (∀ w', Below w.heap.size w w' → Calls Tryz.prog 62 #[.slice (some ⟨b, o + (k + 1) * 4, none⟩) (m - (k + 1)) (c - (k + 1))] w' fun e w'' => e = .returned (.int .i64 (s1 : Int)) ∧ Below w'.heap.size w' w'') := Lib.hid (fun w' hw' => HI.out _ _ _ _ _ _ w' (by omega) (by omega) (by omega) ((HS.out.below hw').part (lo := k + 1) (hi := m) (by omega) (by omega)) (part_seg p (by rw [HL.out]; omega)))
      have HF2 : Hid (∀ w', Below w.heap.size w w' → Calls Tryz.prog 62 #[.slice (some ⟨b, o + (m + 1) * 4, none⟩) (e - (m + 1)) (c - (m + 1))] w' fun e w'' => e = .returned (.int .i64 (s2 : Int)) ∧ Below w'.heap.size w' w'') := Lib.hid (fun w' hw' => HI.out _ _ _ _ _ _ w' (by omega) (by omega) (by omega) ((HS.out.below hw').part (lo := m + 1) (hi := e) (by omega) (by omega)) (part_seg p' (by rw [HL.out]; omega)))
      have HF3 : Hid (∀ w', Calls Tryz.prog 119 #[.agg #[.int .i64 8, .int .i64 y, .slice p1 m1 d1, .slice p2 m2 d2], .int .i64 (s1 : Int), .int .i64 (s2 : Int)] w' fun e w'' => e = .returned (.int .i64 ((1 + s1 + s2 : Nat) : Int)) ∧ Below w'.heap.size w' w'') := Lib.hid (fun w' => (stepsWith_any 8 y p1 p2 m1 m2 d1 d2 s1 s2 w' hs_s1 hs_s2 (fun h => absurd h (by decide))).mono fun _ _ ⟨he, hb⟩ => ⟨by rw [he]; exact ret_int (by unfold stepI; rw [if_neg (by decide), if_neg (by decide)]; omega), hb⟩)
      clear he h8 hop p p' q hut hbig
      go_wp2_with fail
      refine HBD.out.mono ?_
      rintro ed w1 ⟨rfl, hb1⟩
      have hbel1 := hbel.trans (hb1.mono hbel.size)
      have hbw1 : b < w1.heap.size := Nat.lt_of_lt_of_le hb hb1.size
      have f1 := lat_cell hbw1 ((hb1.cell hb).trans hc1)
      have f2 := lat_cell hbw1 ((hb1.cell hb).trans hc2)
      have f3 := lat_cell hbw1 ((hb1.cell hb).trans hc3)
      have f4 := lat_cell hbw1 ((hb1.cell hb).trans hc4)
      have HC1 := Lib.hid (fun p : Lat w1 => HF1.out p.wd (hbel1.trans (p.ok.mono hbel1.size)))
      have HC2 := Lib.hid (fun p : Lat w1 => HF2.out p.wd (hbel1.trans (p.ok.mono hbel1.size)))
      have HC3 := Lib.hid (fun p : Lat w1 => HF3.out p.wd)
      clear hc1 hc2 hc3 hc4
      go_wp2
      refine wp_region_lat (by kernel_rfl) (by kernel_rfl) ?_
      repeat (go_big_quiet_step (first | (go_at_call 62; first | with_reducible exact lat_calls (HC1.out _) | with_reducible exact lat_calls (HC2.out _)) | (go_at_call 119; exact lat_calls (HC3.out _))))
      refine wpQuiet_nil ?_
      intro _ hw'
      obtain ⟨⟨wq, hwq⟩, hw''⟩ := hw'
      subst hw''
      have ht := hbel1.trans (hwq.mono hbel1.size)
      clear f1 f2 f3 f4 HC1 HC2 HC3
      go_wp2
      go_roundw
      case rel => exact ⟨e + 1, u + (1 + s1 + s2), t1, by omega, by go_num, by go_num, by have := HU.out; omega, HQ, ht⟩
      case measure => simp [intOf]; omega
theorem stepsIn_all : ∀ N, StepsInAt N
  | 0 => fun _ _ _ _ _ _ _ h => absurd h (by omega)
  | N + 1 => stepsIn_step N (Lib.hid (stepsIn_all N))
theorem stepsIn_any (a : Option Addr) (n c : Nat) (rs : List SRow) (ss : List Stm) (s : Nat) (w : World) (h40 : n ≤ 40) (hcap : n ≤ c) (h : Stmts w a n rs ss) (hst : Steps ss 0 n s) :
    Calls Tryz.prog 62 #[.slice a n c] w fun e w' => e = .returned (.int .i64 (s : Int)) ∧ Below w.heap.size w w' := stepsIn_all (n + 1) a n c rs ss s w (by omega) h40 hcap h hst
end Go.Proofs.YtbnpoliogldohaaGreat
/- The contracts of the program's CodeOf, ProgOk and StepsOf. -/
namespace Go.Proofs.YtbnpoliogldohaaGreat
open Go.RowKit

theorem own_cap {w : World} {B k : Nat} {e : TypeId} {a : Option Addr} {n c : Nat} {xs : List Value} (h : w.ownsRow B e k (.slice a n c) n xs) : n ≤ c := by
  obtain ⟨_, h2⟩ := h
  rcases h2 with ⟨e1, h0⟩ | ⟨g, cap, cur, e1, hb, hg, hnc, hcm, hcs, ht⟩
  · injection e1 with _ e2 e3; omega
  · injection e1 with _ e2 e3; omega
theorem OwnProg.cap {w : World} {B : Nat} {r : PRow} {p : Prg} (h : OwnProg w B r p) : r.body.2.1 ≤ r.body.2.2 := own_cap h.body.1
set_option maxRecDepth 20000 in
set_option maxHeartbeats 3200000 in
theorem implCodeOf_any (r : PRow) (p : Prg) (w : World) (h : ProgAt w r p) (hcap : r.body.2.1 ≤ r.body.2.2) :
    Calls Tryz.prog 61 #[progV r] w fun e w' => e = .returned (.int .i64 (codeB p)) ∧ Below w.heap.size w w' := by
  obtain ⟨Z, HZ⟩ : ∃ Z, Hid (codeB p = Z) := ⟨_, rfl⟩
  rw [HZ.out]
  have hZ := HZ.out
  unfold codeB at hZ
  by_cases hw : 1 ≤ p.width ∧ p.width ≤ 8
  case neg =>
    rw [if_pos hw] at hZ
    subst hZ
    have hin : (decide (1 ≤ p.width) && decide (p.width ≤ 8)) = false := by rw [← Bool.not_eq_true]; simpa using hw
    obtain ⟨wd, ⟨a1, n1, c1⟩, ⟨a2, n2, c2⟩, tp, ⟨a3, n3, c3⟩, ⟨a4, n4, c4⟩, rows⟩ := r
    have e1 := h.width
    simp only [] at e1
    rw [← e1] at hin
    clear e1 h hw HZ
    show Calls Tryz.prog 61 #[.agg #[.int .i64 wd, .slice a1 n1 c1, .slice a2 n2 c2, .int .i64 tp, .slice a3 n3 c3, .slice a4 n4 c4]] w _
    go_enter Tryz.func61, Tryz.ntmps61
    go_wp2_with (go_at_call 88; refine (isWithin_any _ _ _ _).mono ?_; rintro e w' ⟨rfl, rfl⟩; rw [hin])
    go_ret
    exact ⟨rfl, (Below.refl _ _).alloc (Nat.le_refl _) _⟩
  rw [if_neg (by simpa using hw)] at hZ
  obtain ⟨wd, ⟨a1, n1, c1⟩, ⟨a2, n2, c2⟩, tp, ⟨a3, n3, c3⟩, ⟨a4, n4, c4⟩, rows⟩ := r
  obtain ⟨pw, pl, ps, pt, pa, pb⟩ := p
  have HPA := h
  obtain ⟨e1, e2, i1, i2, h1, h2, h3, h4⟩ := h
  simp only [] at e1 e2 i1 i2 h1 h2 h3 h4 hw hcap
  subst e1 e2
  obtain ⟨W, rfl⟩ : ∃ W : Nat, wd = (W : Int) := ⟨wd.toNat, by omega⟩
  have hin : (decide (1 ≤ (W : Int)) && decide ((W : Int) ≤ 8)) = true := by simpa using hw
  have HIN := Lib.hid hin
  have hW8 : W ≤ 8 := by omega
  have HP := Lib.hid HPA
  have L1 := Lib.hid h1.1
  have L2 := Lib.hid h2.1
  have L3 := Lib.hid h3.1
  have L4 := Lib.hid h4.2.1
  have HCAP := Lib.hid hcap
  clear HPA hin h1 h2 h3 h4 HZ hcap
  have HZ := Lib.hid hZ
  clear hZ
  show Calls Tryz.prog 61 #[.agg #[.int .i64 (W : Int), .slice a1 n1 c1, .slice a2 n2 c2, .int .i64 tp, .slice a3 n3 c3, .slice a4 n4 c4]] w _
  obtain ⟨wa, HW⟩ : ∃ wa, Hid (wa = w.alloc (.cells #[.int .i64 (W : Int), .slice a1 n1 c1, .slice a2 n2 c2, .int .i64 tp, .slice a3 n3 c3, .slice a4 n4 c4] 28)) := ⟨_, rfl⟩
  have B : Blk wa w.heap.size 28 [.int .i64 (W : Int), .slice a1 n1 c1, .slice a2 n2 c2, .int .i64 tp, .slice a3 n3 c3, .slice a4 n4 c4] := by rw [HW.out]; exact Blk.new w _ _
  have HB : Below w.heap.size w wa := by rw [HW.out]; exact (Below.refl _ _).alloc (Nat.le_refl _) _
  go_enter Tryz.func61, Tryz.ntmps61
  go_wp2_with (go_at_call 88; refine (isWithin_any _ _ _ _).mono ?_; rintro e w' ⟨rfl, rfl⟩; rw [HIN.out])
  obtain ⟨X1, H1⟩ : ∃ X1, Hid (inpB ⟨(W : Int), pl, ps, tp, pa, pb⟩ = X1) := ⟨_, rfl⟩
  rw [H1.out] at HZ
  rw [← HW.out]
  refine (inputsOk_any ⟨(W : Int), (a1, n1, c1), (a2, n2, c2), tp, (a3, n3, c3), (a4, n4, c4), rows⟩ ⟨(W : Int), pl, ps, tp, pa, pb⟩ W _ rfl hW8 (HP.out.below HB)).mono ?_
  rintro e w1 ⟨rfl, hb1⟩
  rw [H1.out]
  have B := B.below hb1 B.lt
  have HB := HB.trans (hb1.mono HB.size)
  clear hb1 HW
  have t0 := B.cell (j := 0) rfl
  have t1 := B.cell (j := 1) rfl
  have t2 := B.cell (j := 2) rfl
  have t3 := B.cell (j := 3) rfl
  have t4 := B.cell (j := 4) rfl
  have t5 := B.cell (j := 5) rfl
  cases X1 with
  | false =>
    have hz := HZ.out
    rw [if_pos rfl] at hz
    subst hz
    go_wp2
    go_ret
    exact ⟨rfl, HB⟩
  | true =>
  rw [if_neg (by simp)] at HZ
  obtain ⟨X3, H3⟩ : ∃ X3, Hid (roomB ⟨(W : Int), pl, ps, tp, pa, pb⟩ = X3) := ⟨_, rfl⟩
  rw [H3.out] at HZ
  go_wp2_with fail
  refine (roomOk_any ⟨(W : Int), (a1, n1, c1), (a2, n2, c2), tp, (a3, n3, c3), (a4, n4, c4), rows⟩ ⟨(W : Int), pl, ps, tp, pa, pb⟩ _ (HP.out.below HB)).mono ?_
  rintro e w4 ⟨rfl, hb4⟩
  rw [H3.out]
  clear t0 t1 t2 t3 t4 t5
  have B := B.below hb4 B.lt
  have HB := HB.trans (hb4.mono HB.size)
  clear hb4
  have t0 := B.cell (j := 0) rfl
  have t1 := B.cell (j := 1) rfl
  have t2 := B.cell (j := 2) rfl
  have t3 := B.cell (j := 3) rfl
  have t4 := B.cell (j := 4) rfl
  have t5 := B.cell (j := 5) rfl
  cases X3 with
  | false =>
    have hz := HZ.out
    rw [if_pos rfl] at hz
    subst hz
    go_wp2
    go_ret
    exact ⟨rfl, HB⟩
  | true =>
  rw [if_neg (by simp)] at HZ
  have hroom := H3.out
  simp only [roomB, Bool.and_eq_true, decide_eq_true_eq] at hroom
  have hinp := H1.out
  simp only [inpB, inputsB, Bool.and_eq_true, decide_eq_true_eq] at hinp
  have hl1 : n1 ≤ 3 := by have := L1.out; omega
  have hl2 : n2 ≤ 3 := by have := L2.out; omega
  have hl3 : n3 ≤ 2 := by have := L3.out; omega
  have hl4 : n4 ≤ 40 := by have := L4.out; omega
  obtain ⟨T, rfl⟩ : ∃ T : Nat, tp = (T : Int) := ⟨tp.toNat, by omega⟩
  have hT : T ≤ 6 := by omega
  have HLim := Lib.hid (show Lim ⟨(W : Int), (a1, n1, c1), (a2, n2, c2), (T : Int), (a3, n3, c3), (a4, n4, c4), rows⟩ W (n1 + n2) T n3 from ⟨rfl, hW8, rfl, by omega, rfl, by omega, rfl, by omega⟩)
  clear hroom hinp
  obtain ⟨X4, H4⟩ : ∃ X4, Hid (pb.all (stmtB (2 ^ W) (n1 + n2) T n3) = X4) := ⟨_, rfl⟩
  have HS : Hid (stmtsB ⟨(W : Int), pl, ps, (T : Int), pa, pb⟩ = X4) := Lib.hid (by simp only [stmtsB, Int.toNat_natCast, L1.out, L2.out, L3.out, H4.out])
  rw [HS.out] at HZ
  go_wp2_with fail
  refine (stmtsOk_any _ ⟨(W : Int), pl, ps, (T : Int), pa, pb⟩ W (n1 + n2) T n3 _ (HP.out.below HB) HLim.out).mono ?_
  rintro e w5 ⟨rfl, hb5⟩
  simp only [H4.out]
  clear t0 t1 t2 t3 t4 t5
  have B := B.below hb5 B.lt
  have HB := HB.trans (hb5.mono HB.size)
  clear hb5
  have t0 := B.cell (j := 0) rfl
  have t1 := B.cell (j := 1) rfl
  have t2 := B.cell (j := 2) rfl
  have t3 := B.cell (j := 3) rfl
  have t4 := B.cell (j := 4) rfl
  have t5 := B.cell (j := 5) rfl
  cases X4 with
  | false =>
    have hz := HZ.out
    rw [if_pos rfl] at hz
    subst hz
    go_wp2
    go_ret
    exact ⟨rfl, HB⟩
  | true =>
  rw [if_neg (by simp)] at HZ
  have hlo := loops_ok H4.out
  obtain ⟨K, HK⟩ : ∃ K, Hid (blockOf pb 0 = K) := ⟨_, rfl⟩
  simp only [HK.out, L4.out] at HZ
  go_wp2_with fail
  refine (wellNested_any a4 n4 c4 rows pb _ (HP.out.body.below HB) hl4).mono ?_
  rintro e w6 ⟨rfl, hb6⟩
  rw [HK.out]
  clear t0 t1 t2 t3 t4 t5
  have B := B.below hb6 B.lt
  have HB := HB.trans (hb6.mono HB.size)
  clear hb6
  have t5 := B.cell (j := 5) rfl
  by_cases hK : K = (n4 : Int)
  case neg =>
    have hz := HZ.out
    rw [if_pos hK] at hz
    subst hz
    rw [decide_eq_false hK]
    go_wp2
    go_ret
    exact ⟨rfl, HB⟩
  rw [if_neg (by simpa using hK)] at HZ
  have hex := part_steps hlo _ 0 pb.length (Nat.le_refl _) (Nat.zero_le _) (by rw [HK.out, hK, L4.out])
  have hst := stepsN_spec hex
  obtain ⟨Q, HQ⟩ : ∃ Q, Hid (stepsN pb = Q) := ⟨_, rfl⟩
  rw [HQ.out] at hst
  rw [HQ.out] at HZ
  rw [L4.out] at hst
  rw [decide_eq_true hK]
  have HD : Hid (∀ w', Below w.heap.size w w' → Calls Tryz.prog 62 #[.slice a4 n4 c4] w' fun e w'' => e = .returned (.int .i64 (Q : Int)) ∧ Below w'.heap.size w' w'') := Lib.hid (fun w' hw' => stepsIn_any a4 n4 c4 rows pb Q w' hl4 HCAP.out (HP.out.body.below hw') hst)
  clear hex hst hlo hK
  go_wp2_with fail
  refine (HD.out _ HB).mono ?_
  rintro e w7 ⟨rfl, hs7⟩
  have HB := HB.trans (hs7.mono HB.size)
  by_cases hQ : 400 < Q
  · have hz := HZ.out
    rw [if_pos hQ] at hz
    subst hz
    have hd2 : decide ((Q : Int) > 400) = true := by simp; omega
    go_wp2
    go_ret
    exact ⟨rfl, HB⟩
  · have hz := HZ.out
    rw [if_neg hQ] at hz
    subst hz
    have hd2 : decide ((Q : Int) > 400) = false := by simp; omega
    go_wp2
    go_ret
    exact ⟨rfl, HB⟩
set_option maxHeartbeats 800000 in
theorem implProgOk_any (r : PRow) (p : Prg) (w : World) (h : ProgAt w r p) (hcap : r.body.2.1 ≤ r.body.2.2) :
    Calls Tryz.prog 16 #[progV r] w fun e w' => e = .returned (.bool (codeB p == 0)) ∧ Below w.heap.size w w' := by
  have HC : Hid (∀ w', Below w.heap.size w w' → Calls Tryz.prog 61 #[progV r] w' fun e w'' => e = .returned (.int .i64 (codeB p)) ∧ Below w'.heap.size w' w'') := Lib.hid (fun w' hw => implCodeOf_any r p w' (h.below hw) hcap)
  obtain ⟨Z, HZ⟩ : ∃ Z, Hid (codeB p = Z) := ⟨_, rfl⟩
  rw [HZ.out] at HC ⊢
  obtain ⟨wd, ⟨a1, n1, c1⟩, ⟨a2, n2, c2⟩, tp, ⟨a3, n3, c3⟩, ⟨a4, n4, c4⟩, rows⟩ := r
  clear h HZ hcap
  show Calls Tryz.prog 16 #[.agg #[.int .i64 wd, .slice a1 n1 c1, .slice a2 n2 c2, .int .i64 tp, .slice a3 n3 c3, .slice a4 n4 c4]] w _
  have HB : Below w.heap.size w (w.alloc (.cells #[.int .i64 wd, .slice a1 n1 c1, .slice a2 n2 c2, .int .i64 tp, .slice a3 n3 c3, .slice a4 n4 c4] 28)) := (Below.refl _ _).alloc (Nat.le_refl _) _
  go_enter Tryz.func16, Tryz.ntmps16
  go_wp2_with fail
  refine (HC.out _ HB).mono ?_
  rintro e w1 ⟨rfl, hb1⟩
  have HB := HB.trans (hb1.mono HB.size)
  go_wp2
  go_ret
  exact ⟨ret_bool (by cases hz : (Z == 0) <;> simp_all), HB⟩
end Go.Proofs.YtbnpoliogldohaaGreat
