/- Joined texts of this proof (ImplSteps, ImplStepsIn, ImplCodeOf, ImplShowExp), in build order. -/
import Derived.Test.YtjboghmcmlkpoaaGreatDoorJ19
import Derived.Test.YtjboghmcmlkpoaaGreatDoorJ20
import Derived.Lib.SliceRun
import Derived.Test.YtjboghmcmlkpoaaGreatDoorJ16
import Derived.Test.YtjboghmcmlkpoaaGreatDoorJ18
/- The contracts of the program's wellNested, bodiesAt, stepsWith, stepsIn. -/
namespace Go.Proofs.YtjboghmcmlkpoaaGreatDoor
open Go.RowKit

theorem endB_in {ss : List Stm} {k : Nat} (hk : k < ss.length) (h40 : ss.length ≤ 40) : endB ss (k : Int) = endOf ss k := by rw [endB, if_pos (by omega), Int.toNat_natCast]
set_option maxHeartbeats 1600000 in
theorem wellNested_any (a : Option Addr) (n c : Nat) (rs : List SRow) (ss : List Stm) (w : World) (h : Stmts w a n rs ss) (h40 : n ≤ 40) :
    Calls Tryz.prog 51 #[.slice a n c] w fun e w' => e = .returned (.bool (decide (blockOf ss 0 = (n : Int)))) ∧ Below w.heap.size w w' := by
  have HL := Lib.hid h.2.1
  obtain ⟨R, HR⟩ : ∃ R, Hid (decide (blockOf ss 0 = (n : Int)) = R) := ⟨_, rfl⟩
  rw [HR.out]
  go_enter Tryz.func51, Tryz.ntmps51
  go_wp2
  go_loopw [3] (fun i wr => ∃ k : Nat, k ≤ n ∧ i = .int .i64 (k : Int) ∧ Hid (decide (blockOf ss k = (n : Int)) = R) ∧ Below w.heap.size w wr) (fun i _ => n - (intOf i).toNat)
  case atStart => exact ⟨0, Nat.zero_le _, rfl, HR, Below.refl _ _⟩
  case round =>
    clear HR
    obtain ⟨k, hk, rfl, HR, hbel⟩ := hrel
    by_cases hlt : k < n
    case neg =>
      obtain rfl : k = n := by omega
      have hR : R = true := by rw [← HR.out, block_past (by rw [HL.out]; exact Nat.le_refl _)]; exact decide_eq_true rfl
      subst hR
      go_wp2
      go_ret
      exact ⟨rfl, hbel⟩
    have hl : k < ss.length := by rw [HL.out]; exact hlt
    obtain ⟨b, o, x, rfl, hx, hix, hc⟩ := (h.below hbel).op hlt
    by_cases hs : x = 3 ∨ x = 9 ∨ x = 4
    · have hR : R = false := by rw [← HR.out, block_stop hl (by rw [hx.out]; exact hs)]; exact decide_eq_false (by omega)
      subst hR
      have hsb : secondB x = (x == 3 || x == 9) := rfl
      rcases hs with rfl | rfl | rfl
      all_goals
        go_wp2_with (go_at_call 115; refine (startsSecond_any _ _).mono ?_; rintro e w' ⟨rfl, rfl⟩; rw [hsb])
        go_ret
        exact ⟨rfl, hbel⟩
    have hsb : secondB x = false := by rw [← Bool.not_eq_true, second_iff]; omega
    have k4 : (x == 4) = false := by simp; omega
    by_cases ho : x = 2 ∨ x = 5 ∨ x = 8
    case neg =>
      have hob : opensB x = false := by rw [← Bool.not_eq_true, opens_iff]; exact ho
      have HR2 := Lib.hid (show decide (blockOf ss (k + 1) = (n : Int)) = R by rw [← block_next hl (by rw [hx.out]; exact hs) (by rw [hx.out]; exact ho)]; exact HR.out)
      clear HR hs ho
      go_wp2_with (first | (go_at_call 115; refine (startsSecond_any _ _).mono ?_; rintro e w' ⟨rfl, rfl⟩; rw [hsb]) | (go_at_call 116; refine (opensBlock_any _ _).mono ?_; rintro e w' ⟨rfl, rfl⟩; rw [hob]))
      go_roundw
      case rel => exact ⟨k + 1, by omega, by go_num, HR2, hbel⟩
      case measure => simp [intOf]; omega
    have hob : opensB x = true := (opens_iff _).2 ho
    have hoo : opAt ss k = 2 ∨ opAt ss k = 5 ∨ opAt ss k = 8 := by rw [hx.out]; exact ho
    have hend := end_in ss hl
    have hc2 := implEndOf_any (some ⟨b, o, none⟩) n c rs ss (k : Int) wr (h.below hbel)
    rw [endB_in hl (by rw [HL.out]; exact h40)] at hc2
    have HRo := Lib.hid (fun he => block_over hl hoo he)
    have HRb := Lib.hid (fun he => block_bad hl hoo he)
    obtain ⟨⟨M, E⟩, HP⟩ : ∃ P, Hid (endOf ss k = P) := ⟨_, rfl⟩
    rw [HP.out] at hc2 hend HRo HRb
    simp only [] at hc2 HRo HRb
    have HC := Lib.hid hc2
    clear hc2 hs ho hoo
    go_wp2_with (first | (go_at_call 115; refine (startsSecond_any _ _).mono ?_; rintro e w' ⟨rfl, rfl⟩; rw [hsb]) | (go_at_call 116; refine (opensBlock_any _ _).mono ?_; rintro e w' ⟨rfl, rfl⟩; rw [hob]))
    refine HC.out.mono ?_
    rintro e w1 ⟨rfl, hb1⟩
    have hbel1 := hbel.trans (hb1.mono hbel.size)
    clear hc hb1
    by_cases hE : E < 0
    · have hR : R = false := by rw [← HR.out, HRb.out hE]; exact decide_eq_false (by omega)
      subst hR
      clear hend
      go_wp2
      go_ret
      exact ⟨rfl, hbel1⟩
    · have hin2 : (k : Int) < E ∧ E < n := by
        have := HL.out
        rcases hend with q | q
        · injection q with q1 q2; omega
        · simp only [] at q; omega
      obtain ⟨e, rfl⟩ : ∃ e : Nat, E = (e : Int) := ⟨E.toNat, by omega⟩
      have HR2 := Lib.hid (show decide (blockOf ss (e + 1) = (n : Int)) = R by rw [← HR.out, HRo.out (Int.natCast_nonneg e), Int.toNat_natCast])
      clear hend HR
      go_wp2
      go_roundw
      case rel => exact ⟨e + 1, by omega, by go_num, HR2, hbel1⟩
      case measure => simp [intOf]; omega
theorem Stmts.part {w : World} {b o n : Nat} {rs : List SRow} {ss : List Stm} (h : Stmts w (some ⟨b, o, none⟩) n rs ss) {lo hi : Nat} (h1 : lo ≤ hi) (h2 : hi ≤ n) :
    Stmts w (some ⟨b, o + lo * 4, none⟩) (hi - lo) ((rs.drop lo).take (hi - lo)) (seg ss lo hi) := by
  obtain ⟨q1, q2, q3, q4, q5⟩ := h
  have hr : ∀ i, i < hi - lo → srAt ((rs.drop lo).take (hi - lo)) i = srAt rs (lo + i) := fun i hi' => by
    unfold srAt
    rw [List.getD_eq_getElem?_getD, List.getD_eq_getElem?_getD, List.getElem?_take_of_lt hi', List.getElem?_drop]
  refine ⟨by rw [List.length_take, List.length_drop]; omega, by rw [seg_len h1 (by omega)], by omega, fun hp => ?_, fun i hi' => ?_⟩
  · obtain ⟨b', o', e, hb, hc⟩ := q4 (by omega)
    injection e with e
    injection e with e1 e2
    subst e1 e2
    refine ⟨b, o + lo * 4, rfl, hb, fun i hi' => ?_⟩
    have := hc (lo + i) (by omega)
    rw [hr i hi']
    rw [show o + lo * 4 + i * 4 = o + (lo + i) * 4 by omega]
    exact this
  · rw [hr i hi', seg_at (by omega)]
    exact q5 (lo + i) (by omega)
set_option maxHeartbeats 1600000 in
theorem bodiesAt_plain (a : Option Addr) (n c : Nat) (rs : List SRow) (ss : List Stm) (k : Nat) (w : World) (h : Stmts w a n rs ss) (h40 : n ≤ 40) (hk : k < n) (he : endOf ss k = (-1, -1)) :
    Calls Tryz.prog 118 #[.slice a n c, .int .i64 (k : Int)] w fun e w' => e = .returned (.tuple #[.slice none 0 0, .slice none 0 0, .int .i64 (k : Int)]) ∧ Below w.heap.size w w' := by
  have hc := implEndOf_any a n c rs ss (k : Int) w h
  rw [endB_in (by rw [h.2.1]; exact hk) (by rw [h.2.1]; exact h40), he] at hc
  simp only [] at hc
  have HC := Lib.hid hc
  clear hc he
  go_enter Tryz.func118, Tryz.ntmps118
  go_wp2_with fail
  refine HC.out.mono ?_
  rintro e w1 ⟨rfl, hb1⟩
  go_wp2
  go_ret3
  exact ⟨rfl, hb1⟩
set_option maxHeartbeats 1600000 in
theorem bodiesAt_one (b o n c : Nat) (rs : List SRow) (ss : List Stm) (k e : Nat) (w : World) (h : Stmts w (some ⟨b, o, none⟩) n rs ss) (h40 : n ≤ 40) (hcap : n ≤ c) (hk : k < n) (hke : k < e) (hen : e < n) (he : endOf ss k = (-1, (e : Int))) :
    Calls Tryz.prog 118 #[.slice (some ⟨b, o, none⟩) n c, .int .i64 (k : Int)] w fun ed w' => ed = .returned (.tuple #[.slice (some ⟨b, o + (k + 1) * 4, none⟩) (e - (k + 1)) (c - (k + 1)), .slice none 0 0, .int .i64 (e : Int)]) ∧ Below w.heap.size w w' := by
  have hc := implEndOf_any (some ⟨b, o, none⟩) n c rs ss (k : Int) w h
  rw [endB_in (by rw [h.2.1]; exact hk) (by rw [h.2.1]; exact h40), he] at hc
  simp only [] at hc
  have HC := Lib.hid hc
  clear hc he
  go_enter Tryz.func118, Tryz.ntmps118
  go_wp2_with fail
  refine HC.out.mono ?_
  rintro e w1 ⟨rfl, hb1⟩
  go_wp2
  go_ret3
  exact ⟨rfl, hb1⟩
set_option maxHeartbeats 1600000 in
theorem bodiesAt_two (b o n c : Nat) (rs : List SRow) (ss : List Stm) (k m e : Nat) (w : World) (h : Stmts w (some ⟨b, o, none⟩) n rs ss) (h40 : n ≤ 40) (hcap : n ≤ c) (hk : k < m) (hme : m < e) (hen : e < n) (he : endOf ss k = ((m : Int), (e : Int))) :
    Calls Tryz.prog 118 #[.slice (some ⟨b, o, none⟩) n c, .int .i64 (k : Int)] w fun ed w' => ed = .returned (.tuple #[.slice (some ⟨b, o + (k + 1) * 4, none⟩) (m - (k + 1)) (c - (k + 1)), .slice (some ⟨b, o + (m + 1) * 4, none⟩) (e - (m + 1)) (c - (m + 1)), .int .i64 (e : Int)]) ∧ Below w.heap.size w w' := by
  have hc := implEndOf_any (some ⟨b, o, none⟩) n c rs ss (k : Int) w h
  rw [endB_in (by rw [h.2.1]; omega) (by rw [h.2.1]; exact h40), he] at hc
  simp only [] at hc
  have HC := Lib.hid hc
  clear hc he
  go_enter Tryz.func118, Tryz.ntmps118
  go_wp2_with fail
  refine HC.out.mono ?_
  rintro e w1 ⟨rfl, hb1⟩
  go_wp2
  go_quiet (fail)
  go_wp2
  go_ret3
  exact ⟨rfl, below_dn hb1 _⟩
def stepI (x : Int) (y : Int) (s1 s2 : Int) : Int := if x = 2 then 1 + max s1 s2 else if x = 5 then 1 + y * (1 + s1) else 1 + s1 + s2
set_option maxHeartbeats 1600000 in
theorem stepsWith_any (x y : Int) (b1 b2 : Option Addr) (m1 m2 d1 d2 : Nat) (s1 s2 : Nat) (w : World) (h1 : s1 < 3656158440062976) (h2 : s2 < 3656158440062976) (hy : x = 5 → ∃ k : Nat, k ≤ 4 ∧ y = (k : Int)) :
    Calls Tryz.prog 119 #[.agg #[.int .i64 x, .int .i64 y, .slice b1 m1 d1, .slice b2 m2 d2], .int .i64 (s1 : Int), .int .i64 (s2 : Int)] w fun e w' => e = .returned (.int .i64 (stepI x y s1 s2)) ∧ Below w.heap.size w w' := by
  obtain ⟨R, HR⟩ : ∃ R, Hid (stepI x y (s1 : Int) (s2 : Int) = R) := ⟨_, rfl⟩
  rw [HR.out]
  by_cases hx : x = 2
  · subst hx
    have hR : R = 1 + max (s1 : Int) (s2 : Int) := by rw [← HR.out]; rfl
    clear HR
    have HR := Lib.hid hR
    clear hR hy
    by_cases hlt : s1 < s2
    · go_enter Tryz.func119, Tryz.ntmps119
      go_wp2
      go_ret
      exact ⟨ret_int (by first | (rw [HR.out]; omega) | rw [HR.out]), (Below.refl _ _).alloc (Nat.le_refl _) _⟩
    · go_enter Tryz.func119, Tryz.ntmps119
      go_wp2
      go_ret
      exact ⟨ret_int (by first | (rw [HR.out]; omega) | rw [HR.out]), (Below.refl _ _).alloc (Nat.le_refl _) _⟩
  have k2 : (x == 2) = false := by simpa using hx
  by_cases h5 : x = 5
  · subst h5
    obtain ⟨k, hk, rfl⟩ := hy rfl
    have hR : R = 1 + (k : Int) * (1 + (s1 : Int)) := by rw [← HR.out]; rfl
    clear HR
    obtain ⟨X, HX⟩ : ∃ X : Nat, Hid (k * (1 + s1) = X) := ⟨_, Lib.hid rfl⟩
    have hXb : X ≤ 14624633760251908 := by
      have : k * (1 + s1) ≤ 4 * (1 + s1) := Nat.mul_le_mul_right _ hk
      have := HX.out
      omega
    have hmul : (k : Int) * (1 + (s1 : Int)) = (X : Int) := by rw [← HX.out]; push_cast; rfl
    rw [hmul] at hR
    have HR := Lib.hid hR
    clear hR hy k2 hx
    go_enter Tryz.func119, Tryz.ntmps119
    go_wp2
    go_ret
    exact ⟨ret_int (by rw [HR.out]), (Below.refl _ _).alloc (Nat.le_refl _) _⟩
  have k5 : (x == 5) = false := by simpa using h5
  have hR : R = 1 + (s1 : Int) + (s2 : Int) := by rw [← HR.out]; unfold stepI; rw [if_neg hx, if_neg h5]
  clear HR
  have HR := Lib.hid hR
  clear hR hy hx h5
  go_enter Tryz.func119, Tryz.ntmps119
  go_wp2
  go_ret
  exact ⟨ret_int (by rw [HR.out]), (Below.refl _ _).alloc (Nat.le_refl _) _⟩
end Go.Proofs.YtjboghmcmlkpoaaGreatDoor
/- The contract of the program's stepsIn. -/
namespace Go.Proofs.YtjboghmcmlkpoaaGreatDoor
open Go.RowKit

/-- The contract, for bodies below a length. -/
def StepsInAt (N : Nat) : Prop := ∀ (a : Option Addr) (n c : Nat) (rs : List SRow) (ss : List Stm) (s : Nat) (w : World), n < N → n ≤ 40 → n ≤ c → Stmts w a n rs ss → Steps ss 0 n s →
  Calls Tryz.prog 52 #[.slice a n c] w fun e w' => e = .returned (.int .i64 (s : Int)) ∧ Below w.heap.size w w'
theorem stmts_nil (w : World) : Stmts w none 0 [] [] := ⟨rfl, rfl, by omega, fun h => absurd h (by omega), fun i h => absurd h (by omega)⟩
set_option maxRecDepth 20000 in
set_option maxHeartbeats 6400000 in
theorem stepsIn_step (N : Nat) (HI : Hid (StepsInAt N)) : StepsInAt (N + 1) := by
  intro a n c rs ss s w hN h40 hcap h hst
  have hbig := steps_bound hst (by omega)
  have HL := Lib.hid h.2.1
  have HS := Lib.hid h
  have HN : Hid (0 < n → ∀ w', Calls Tryz.prog 52 #[.slice none 0 0] w' fun e w'' => e = .returned (.int .i64 0) ∧ Below w'.heap.size w' w'') := Lib.hid (fun hp w' => HI.out none 0 0 [] [] 0 w' (by omega) (by omega) (by omega) (stmts_nil w') (.nil 0))
  go_enter Tryz.func52, Tryz.ntmps52
  go_wp2
  go_loopw [3, 4] (fun q x wr => ∃ k u t : Nat, k ≤ n ∧ x = .int .i64 (k : Int) ∧ q = .int .i64 (u : Int) ∧ u + t = s ∧ Hid (Steps ss k n t) ∧ Below w.heap.size w wr) (fun _ x _ => n - (intOf x).toNat)
  case atStart => exact ⟨0, 0, s, Nat.zero_le _, rfl, rfl, by omega, Lib.hid hst, Below.refl _ _⟩
  case round =>
    clear hst h
    obtain ⟨k, u, t, hkn, rfl, rfl, hut, HT, hbel⟩ := hrel
    by_cases hlt : k < n
    case neg =>
      obtain rfl : k = n := by omega
      have h0 := steps_none HT.out
      subst h0
      have e0 : u = s := by omega
      subst e0
      go_wp2
      go_ret
      exact ⟨rfl, hbel⟩
    have HN2 := Lib.hid (HN.out (by omega))
    clear HN
    have HN := HN2
    clear HN2
    obtain ⟨b, o, x, y, p1, m1, d1, p2, m2, d2, ts, us, rfl, hb, hz, hin1, hin2, hc1, hc2, hc3, hc4, _⟩ := (HS.out.below hbel).at_ hlt
    have hop : opAt ss k = x := by rw [opAt, hz.out]
    have hst := HT.out
    clear HT
    cases hst with
    | nil => omega
    | @plain _ _ s1 hi h2 h5 h8 p =>
      have HBD := Lib.hid (bodiesAt_plain (some ⟨b, o, none⟩) n c rs ss k wr (HS.out.below hbel) h40 hlt (end_plain hi h2 h5 h8))
      rw [hop] at h2 h5 h8
      have HP := Lib.hid p
      have hub : u + s1 + 1 < 3656158440062976 := by omega
      have HU := Lib.hid hut
      have HF1 : Hid (∀ w', Below w.heap.size w w' → Calls Tryz.prog 52 #[.slice none 0 0] w' fun e w'' => e = .returned (.int .i64 (0 : Int)) ∧ Below w'.heap.size w' w'') := Lib.hid (fun w' hw' => HN.out w')
      have HF2 : Hid (∀ w', Below w.heap.size w w' → Calls Tryz.prog 52 #[.slice none 0 0] w' fun e w'' => e = .returned (.int .i64 (0 : Int)) ∧ Below w'.heap.size w' w'') := Lib.hid (fun w' hw' => HN.out w')
      have HF3 : Hid (∀ w', Calls Tryz.prog 119 #[.agg #[.int .i64 x, .int .i64 y, .slice p1 m1 d1, .slice p2 m2 d2], .int .i64 (0 : Int), .int .i64 (0 : Int)] w' fun e w'' => e = .returned (.int .i64 ((1 : Nat) : Int)) ∧ Below w'.heap.size w' w'') := Lib.hid (fun w' => (stepsWith_any x y p1 p2 m1 m2 d1 d2 0 0 w' (by omega) (by omega) (fun h => absurd h h5)).mono fun _ _ ⟨he, hb⟩ => ⟨by rw [he]; exact ret_int (by unfold stepI; rw [if_neg h2, if_neg h5]; rfl), hb⟩)
      clear h2 h5 h8 hop p hut hbig
      go_wp2_with fail
      refine HBD.out.mono ?_
      rintro ed w1 ⟨rfl, hb1⟩
      have hbel1 := hbel.trans (hb1.mono hbel.size)
      have hbw1 : b < w1.heap.size := Nat.lt_of_lt_of_le hb hb1.size
      have f1 := lat_cell hbw1 ((hb1.cell hb).trans hc1)
      have f2 := lat_cell hbw1 ((hb1.cell hb).trans hc2)
      have f3 := lat_cell hbw1 ((hb1.cell hb).trans hc3)
      have f4 := lat_cell hbw1 ((hb1.cell hb).trans hc4)
      have HC1 := Lib.hid (fun p : Lat w1 => HF1.out p.wd (hbel1.trans (p.ok.mono hbel1.size)))
      have HC2 := Lib.hid (fun p : Lat w1 => HF2.out p.wd (hbel1.trans (p.ok.mono hbel1.size)))
      have HC3 := Lib.hid (fun p : Lat w1 => HF3.out p.wd)
      clear hc1 hc2 hc3 hc4
      go_wp2
      refine wp_region_lat (by kernel_rfl) (by kernel_rfl) ?_
      repeat (go_big_quiet_step (first | (go_at_call 52; first | with_reducible exact lat_calls (HC1.out _) | with_reducible exact lat_calls (HC2.out _)) | (go_at_call 119; exact lat_calls (HC3.out _))))
      refine wpQuiet_nil ?_
      intro _ hw'
      obtain ⟨⟨wq, hwq⟩, hw''⟩ := hw'
      subst hw''
      have ht := hbel1.trans (hwq.mono hbel1.size)
      clear f1 f2 f3 f4 HC1 HC2 HC3
      go_wp2
      go_roundw
      case rel => exact ⟨k + 1, u + 1, s1, by omega, by go_num, by go_num, by have := HU.out; omega, HP, ht⟩
      case measure => simp [intOf]; omega
    | @one _ e _ s1 t1 hi h2 he p q =>
      have q1 := (steps_small p).1
      have q2 := (steps_small q).1
      have hs_s1 := steps_bound p (by omega)
      have HBD := Lib.hid (bodiesAt_one b o n c rs ss k e wr (HS.out.below hbel) h40 hcap hlt (by omega) (by omega) he)
      obtain rfl : x = 2 := hop.symm.trans h2
      have HQ := Lib.hid q
      have hub : u + s1 + t1 + 1 < 3656158440062976 := by omega
      have HU := Lib.hid hut
      have HF1 : Hid (∀ w', Below w.heap.size w w' → Calls Tryz.prog 52 #[.slice (some ⟨b, o + (k + 1) * 4, none⟩) (e - (k + 1)) (c - (k + 1))] w' fun e w'' => e = .returned (.int .i64 (s1 : Int)) ∧ Below w'.heap.size w' w'') := Lib.hid (fun w' hw' => HI.out _ _ _ _ _ _ w' (by omega) (by omega) (by omega) ((HS.out.below hw').part (lo := k + 1) (hi := e) (by omega) (by omega)) (part_seg p (by rw [HL.out]; omega)))
      have HF2 : Hid (∀ w', Below w.heap.size w w' → Calls Tryz.prog 52 #[.slice none 0 0] w' fun e w'' => e = .returned (.int .i64 (0 : Int)) ∧ Below w'.heap.size w' w'') := Lib.hid (fun w' hw' => HN.out w')
      have HF3 : Hid (∀ w', Calls Tryz.prog 119 #[.agg #[.int .i64 2, .int .i64 y, .slice p1 m1 d1, .slice p2 m2 d2], .int .i64 (s1 : Int), .int .i64 (0 : Int)] w' fun e w'' => e = .returned (.int .i64 ((1 + s1 : Nat) : Int)) ∧ Below w'.heap.size w' w'') := Lib.hid (fun w' => (stepsWith_any 2 y p1 p2 m1 m2 d1 d2 s1 0 w' hs_s1 (by omega) (fun h => absurd h (by decide))).mono fun _ _ ⟨he, hb⟩ => ⟨by rw [he]; exact ret_int (by unfold stepI; rw [if_pos rfl]; omega), hb⟩)
      clear he h2 hop p q hut hbig
      go_wp2_with fail
      refine HBD.out.mono ?_
      rintro ed w1 ⟨rfl, hb1⟩
      have hbel1 := hbel.trans (hb1.mono hbel.size)
      have hbw1 : b < w1.heap.size := Nat.lt_of_lt_of_le hb hb1.size
      have f1 := lat_cell hbw1 ((hb1.cell hb).trans hc1)
      have f2 := lat_cell hbw1 ((hb1.cell hb).trans hc2)
      have f3 := lat_cell hbw1 ((hb1.cell hb).trans hc3)
      have f4 := lat_cell hbw1 ((hb1.cell hb).trans hc4)
      have HC1 := Lib.hid (fun p : Lat w1 => HF1.out p.wd (hbel1.trans (p.ok.mono hbel1.size)))
      have HC2 := Lib.hid (fun p : Lat w1 => HF2.out p.wd (hbel1.trans (p.ok.mono hbel1.size)))
      have HC3 := Lib.hid (fun p : Lat w1 => HF3.out p.wd)
      clear hc1 hc2 hc3 hc4
      go_wp2
      refine wp_region_lat (by kernel_rfl) (by kernel_rfl) ?_
      repeat (go_big_quiet_step (first | (go_at_call 52; first | with_reducible exact lat_calls (HC1.out _) | with_reducible exact lat_calls (HC2.out _)) | (go_at_call 119; exact lat_calls (HC3.out _))))
      refine wpQuiet_nil ?_
      intro _ hw'
      obtain ⟨⟨wq, hwq⟩, hw''⟩ := hw'
      subst hw''
      have ht := hbel1.trans (hwq.mono hbel1.size)
      clear f1 f2 f3 f4 HC1 HC2 HC3
      go_wp2
      go_roundw
      case rel => exact ⟨e + 1, u + (1 + s1), t1, by omega, by go_num, by go_num, by have := HU.out; omega, HQ, ht⟩
      case measure => simp [intOf]; omega
    | @two _ m e _ s1 s2 t1 hi h2 he p p' q =>
      have q1 := (steps_small p).1
      have q2 := (steps_small p').1
      have q3 := (steps_small q).1
      have hs_s1 := steps_bound p (by omega)
      have hs_s2 := steps_bound p' (by omega)
      have HBD := Lib.hid (bodiesAt_two b o n c rs ss k m e wr (HS.out.below hbel) h40 hcap (by omega) (by omega) (by omega) he)
      obtain rfl : x = 2 := hop.symm.trans h2
      have HQ := Lib.hid q
      have hub : u + max s1 s2 + t1 + 1 < 3656158440062976 := by omega
      have HU := Lib.hid hut
      have HF1 : Hid (∀ w', Below w.heap.size w w' → Calls Tryz.prog 52 #[.slice (some ⟨b, o + (k + 1) * 4, none⟩) (m - (k + 1)) (c - (k + 1))] w' fun e w'' => e = .returned (.int .i64 (s1 : Int)) ∧ Below w'.heap.size w' w'') := Lib.hid (fun w' hw' => HI.out _ _ _ _ _ _ w' (by omega) (by omega) (by omega) ((HS.out.below hw').part (lo := k + 1) (hi := m) (by omega) (by omega)) (part_seg p (by rw [HL.out]; omega)))
      have HF2 : Hid (∀ w', Below w.heap.size w w' → Calls Tryz.prog 52 #[.slice (some ⟨b, o + (m + 1) * 4, none⟩) (e - (m + 1)) (c - (m + 1))] w' fun e w'' => e = .returned (.int .i64 (s2 : Int)) ∧ Below w'.heap.size w' w'') := Lib.hid (fun w' hw' => HI.out _ _ _ _ _ _ w' (by omega) (by omega) (by omega) ((HS.out.below hw').part (lo := m + 1) (hi := e) (by omega) (by omega)) (part_seg p' (by rw [HL.out]; omega)))
      have HF3 : Hid (∀ w', Calls Tryz.prog 119 #[.agg #[.int .i64 2, .int .i64 y, .slice p1 m1 d1, .slice p2 m2 d2], .int .i64 (s1 : Int), .int .i64 (s2 : Int)] w' fun e w'' => e = .returned (.int .i64 ((1 + max s1 s2 : Nat) : Int)) ∧ Below w'.heap.size w' w'') := Lib.hid (fun w' => (stepsWith_any 2 y p1 p2 m1 m2 d1 d2 s1 s2 w' hs_s1 hs_s2 (fun h => absurd h (by decide))).mono fun _ _ ⟨he, hb⟩ => ⟨by rw [he]; exact ret_int (by unfold stepI; rw [if_pos rfl]; omega), hb⟩)
      clear he h2 hop p p' q hut hbig
      go_wp2_with fail
      refine HBD.out.mono ?_
      rintro ed w1 ⟨rfl, hb1⟩
      have hbel1 := hbel.trans (hb1.mono hbel.size)
      have hbw1 : b < w1.heap.size := Nat.lt_of_lt_of_le hb hb1.size
      have f1 := lat_cell hbw1 ((hb1.cell hb).trans hc1)
      have f2 := lat_cell hbw1 ((hb1.cell hb).trans hc2)
      have f3 := lat_cell hbw1 ((hb1.cell hb).trans hc3)
      have f4 := lat_cell hbw1 ((hb1.cell hb).trans hc4)
      have HC1 := Lib.hid (fun p : Lat w1 => HF1.out p.wd (hbel1.trans (p.ok.mono hbel1.size)))
      have HC2 := Lib.hid (fun p : Lat w1 => HF2.out p.wd (hbel1.trans (p.ok.mono hbel1.size)))
      have HC3 := Lib.hid (fun p : Lat w1 => HF3.out p.wd)
      clear hc1 hc2 hc3 hc4
      go_wp2
      refine wp_region_lat (by kernel_rfl) (by kernel_rfl) ?_
      repeat (go_big_quiet_step (first | (go_at_call 52; first | with_reducible exact lat_calls (HC1.out _) | with_reducible exact lat_calls (HC2.out _)) | (go_at_call 119; exact lat_calls (HC3.out _))))
      refine wpQuiet_nil ?_
      intro _ hw'
      obtain ⟨⟨wq, hwq⟩, hw''⟩ := hw'
      subst hw''
      have ht := hbel1.trans (hwq.mono hbel1.size)
      clear f1 f2 f3 f4 HC1 HC2 HC3
      go_wp2
      go_roundw
      case rel => exact ⟨e + 1, u + (1 + max s1 s2), t1, by omega, by go_num, by go_num, by have := HU.out; omega, HQ, ht⟩
      case measure => simp [intOf]; omega
    | @loop _ e _ kk s1 t1 hi h5 he hk h4 p q =>
      have q1 := (steps_small p).1
      have q2 := (steps_small q).1
      have hs_s1 := steps_bound p (by omega)
      have HBD := Lib.hid (bodiesAt_one b o n c rs ss k e wr (HS.out.below hbel) h40 hcap hlt (by omega) (by omega) he)
      obtain rfl : x = 5 := hop.symm.trans h5
      obtain rfl : y = (kk : Int) := by rw [hz.out] at hk; exact hk
      have HQ := Lib.hid q
      obtain ⟨X, HX⟩ : ∃ X : Nat, Hid (kk * (1 + s1) = X) := ⟨_, Lib.hid rfl⟩
      have hub : u + X + t1 + 1 < 3656158440062976 := by rw [HX.out] at hut; omega
      have HU := Lib.hid hut
      rw [HX.out] at HU
      have hmul : (kk : Int) * (1 + (s1 : Int)) = (X : Int) := by rw [← HX.out]; push_cast; rfl
      have HF1 : Hid (∀ w', Below w.heap.size w w' → Calls Tryz.prog 52 #[.slice (some ⟨b, o + (k + 1) * 4, none⟩) (e - (k + 1)) (c - (k + 1))] w' fun e w'' => e = .returned (.int .i64 (s1 : Int)) ∧ Below w'.heap.size w' w'') := Lib.hid (fun w' hw' => HI.out _ _ _ _ _ _ w' (by omega) (by omega) (by omega) ((HS.out.below hw').part (lo := k + 1) (hi := e) (by omega) (by omega)) (part_seg p (by rw [HL.out]; omega)))
      have HF2 : Hid (∀ w', Below w.heap.size w w' → Calls Tryz.prog 52 #[.slice none 0 0] w' fun e w'' => e = .returned (.int .i64 (0 : Int)) ∧ Below w'.heap.size w' w'') := Lib.hid (fun w' hw' => HN.out w')
      have HF3 : Hid (∀ w', Calls Tryz.prog 119 #[.agg #[.int .i64 5, .int .i64 (kk : Int), .slice p1 m1 d1, .slice p2 m2 d2], .int .i64 (s1 : Int), .int .i64 (0 : Int)] w' fun e w'' => e = .returned (.int .i64 ((1 + X : Nat) : Int)) ∧ Below w'.heap.size w' w'') := Lib.hid (fun w' => (stepsWith_any 5 (kk : Int) p1 p2 m1 m2 d1 d2 s1 0 w' hs_s1 (by omega) (fun _ => ⟨kk, h4, rfl⟩)).mono fun _ _ ⟨he, hb⟩ => ⟨by rw [he]; exact ret_int (by unfold stepI; rw [if_neg (by decide), if_pos rfl, hmul]; omega), hb⟩)
      clear he h5 hop p q hut hbig hk hmul
      go_wp2_with fail
      refine HBD.out.mono ?_
      rintro ed w1 ⟨rfl, hb1⟩
      have hbel1 := hbel.trans (hb1.mono hbel.size)
      have hbw1 : b < w1.heap.size := Nat.lt_of_lt_of_le hb hb1.size
      have f1 := lat_cell hbw1 ((hb1.cell hb).trans hc1)
      have f2 := lat_cell hbw1 ((hb1.cell hb).trans hc2)
      have f3 := lat_cell hbw1 ((hb1.cell hb).trans hc3)
      have f4 := lat_cell hbw1 ((hb1.cell hb).trans hc4)
      have HC1 := Lib.hid (fun p : Lat w1 => HF1.out p.wd (hbel1.trans (p.ok.mono hbel1.size)))
      have HC2 := Lib.hid (fun p : Lat w1 => HF2.out p.wd (hbel1.trans (p.ok.mono hbel1.size)))
      have HC3 := Lib.hid (fun p : Lat w1 => HF3.out p.wd)
      clear hc1 hc2 hc3 hc4
      go_wp2
      refine wp_region_lat (by kernel_rfl) (by kernel_rfl) ?_
      repeat (go_big_quiet_step (first | (go_at_call 52; first | with_reducible exact lat_calls (HC1.out _) | with_reducible exact lat_calls (HC2.out _)) | (go_at_call 119; exact lat_calls (HC3.out _))))
      refine wpQuiet_nil ?_
      intro _ hw'
      obtain ⟨⟨wq, hwq⟩, hw''⟩ := hw'
      subst hw''
      have ht := hbel1.trans (hwq.mono hbel1.size)
      clear f1 f2 f3 f4 HC1 HC2 HC3
      go_wp2
      go_roundw
      case rel => exact ⟨e + 1, u + (1 + X), t1, by omega, by go_num, by go_num, by have := HU.out; omega, HQ, ht⟩
      case measure => simp [intOf]; omega
    | @attempt _ m e _ s1 s2 t1 hi h8 he p p' q =>
      have q1 := (steps_small p).1
      have q2 := (steps_small p').1
      have q3 := (steps_small q).1
      have hs_s1 := steps_bound p (by omega)
      have hs_s2 := steps_bound p' (by omega)
      have HBD := Lib.hid (bodiesAt_two b o n c rs ss k m e wr (HS.out.below hbel) h40 hcap (by omega) (by omega) (by omega) he)
      obtain rfl : x = 8 := hop.symm.trans h8
      have HQ := Lib.hid q
      have hub : u + s1 + s2 + t1 + 1 < 3656158440062976 := by omega
      have HU := Lib.hid hut
      have HF1 : Hid (∀ w', Below w.heap.size w w' → Calls Tryz.prog 52 #[.slice (some ⟨b, o + (k + 1) * 4, none⟩) (m - (k + 1)) (c - (k + 1))] w' fun e w'' => e = .returned (.int .i64 (s1 : Int)) ∧ Below w'.heap.size w' w'') := Lib.hid (fun w' hw' => HI.out _ _ _ _ _ _ w' (by omega) (by omega) (by omega) ((HS.out.below hw').part (lo := k + 1) (hi := m) (by omega) (by omega)) (part_seg p (by rw [HL.out]; omega)))
      have HF2 : Hid (∀ w', Below w.heap.size w w' → Calls Tryz.prog 52 #[.slice (some ⟨b, o + (m + 1) * 4, none⟩) (e - (m + 1)) (c - (m + 1))] w' fun e w'' => e = .returned (.int .i64 (s2 : Int)) ∧ Below w'.heap.size w' w'') := Lib.hid (fun w' hw' => HI.out _ _ _ _ _ _ w' (by omega) (by omega) (by omega) ((HS.out.below hw').part (lo := m + 1) (hi := e) (by omega) (by omega)) (part_seg p' (by rw [HL.out]; omega)))
      have HF3 : Hid (∀ w', Calls Tryz.prog 119 #[.agg #[.int .i64 8, .int .i64 y, .slice p1 m1 d1, .slice p2 m2 d2], .int .i64 (s1 : Int), .int .i64 (s2 : Int)] w' fun e w'' => e = .returned (.int .i64 ((1 + s1 + s2 : Nat) : Int)) ∧ Below w'.heap.size w' w'') := Lib.hid (fun w' => (stepsWith_any 8 y p1 p2 m1 m2 d1 d2 s1 s2 w' hs_s1 hs_s2 (fun h => absurd h (by decide))).mono fun _ _ ⟨he, hb⟩ => ⟨by rw [he]; exact ret_int (by unfold stepI; rw [if_neg (by decide), if_neg (by decide)]; omega), hb⟩)
      clear he h8 hop p p' q hut hbig
      go_wp2_with fail
      refine HBD.out.mono ?_
      rintro ed w1 ⟨rfl, hb1⟩
      have hbel1 := hbel.trans (hb1.mono hbel.size)
      have hbw1 : b < w1.heap.size := Nat.lt_of_lt_of_le hb hb1.size
      have f1 := lat_cell hbw1 ((hb1.cell hb).trans hc1)
      have f2 := lat_cell hbw1 ((hb1.cell hb).trans hc2)
      have f3 := lat_cell hbw1 ((hb1.cell hb).trans hc3)
      have f4 := lat_cell hbw1 ((hb1.cell hb).trans hc4)
      have HC1 := Lib.hid (fun p : Lat w1 => HF1.out p.wd (hbel1.trans (p.ok.mono hbel1.size)))
      have HC2 := Lib.hid (fun p : Lat w1 => HF2.out p.wd (hbel1.trans (p.ok.mono hbel1.size)))
      have HC3 := Lib.hid (fun p : Lat w1 => HF3.out p.wd)
      clear hc1 hc2 hc3 hc4
      go_wp2
      refine wp_region_lat (by kernel_rfl) (by kernel_rfl) ?_
      repeat (go_big_quiet_step (first | (go_at_call 52; first | with_reducible exact lat_calls (HC1.out _) | with_reducible exact lat_calls (HC2.out _)) | (go_at_call 119; exact lat_calls (HC3.out _))))
      refine wpQuiet_nil ?_
      intro _ hw'
      obtain ⟨⟨wq, hwq⟩, hw''⟩ := hw'
      subst hw''
      have ht := hbel1.trans (hwq.mono hbel1.size)
      clear f1 f2 f3 f4 HC1 HC2 HC3
      go_wp2
      go_roundw
      case rel => exact ⟨e + 1, u + (1 + s1 + s2), t1, by omega, by go_num, by go_num, by have := HU.out; omega, HQ, ht⟩
      case measure => simp [intOf]; omega
theorem stepsIn_all : ∀ N, StepsInAt N
  | 0 => fun _ _ _ _ _ _ _ h => absurd h (by omega)
  | N + 1 => stepsIn_step N (Lib.hid (stepsIn_all N))
theorem stepsIn_any (a : Option Addr) (n c : Nat) (rs : List SRow) (ss : List Stm) (s : Nat) (w : World) (h40 : n ≤ 40) (hcap : n ≤ c) (h : Stmts w a n rs ss) (hst : Steps ss 0 n s) :
    Calls Tryz.prog 52 #[.slice a n c] w fun e w' => e = .returned (.int .i64 (s : Int)) ∧ Below w.heap.size w w' := stepsIn_all (n + 1) a n c rs ss s w (by omega) h40 hcap h hst
end Go.Proofs.YtjboghmcmlkpoaaGreatDoor
/- The contracts of the program's CodeOf, ProgOk and StepsOf. -/
namespace Go.Proofs.YtjboghmcmlkpoaaGreatDoor
open Go.RowKit

theorem own_cap {w : World} {B k : Nat} {e : TypeId} {a : Option Addr} {n c : Nat} {xs : List Value} (h : w.ownsRow B e k (.slice a n c) n xs) : n ≤ c := by
  obtain ⟨_, h2⟩ := h
  rcases h2 with ⟨e1, h0⟩ | ⟨g, cap, cur, e1, hb, hg, hnc, hcm, hcs, ht⟩
  · injection e1 with _ e2 e3; omega
  · injection e1 with _ e2 e3; omega
theorem OwnProg.cap {w : World} {B : Nat} {r : PRow} {p : Prg} (h : OwnProg w B r p) : r.body.2.1 ≤ r.body.2.2 := own_cap h.body.1
set_option maxRecDepth 20000 in
set_option maxHeartbeats 3200000 in
theorem implCodeOf_any (r : PRow) (p : Prg) (w : World) (h : ProgAt w r p) (hcap : r.body.2.1 ≤ r.body.2.2) :
    Calls Tryz.prog 13 #[progV r] w fun e w' => e = .returned (.int .i64 (codeB p)) ∧ Below w.heap.size w w' := by
  obtain ⟨Z, HZ⟩ : ∃ Z, Hid (codeB p = Z) := ⟨_, rfl⟩
  rw [HZ.out]
  have hZ := HZ.out
  unfold codeB at hZ
  by_cases hw : 1 ≤ p.width ∧ p.width ≤ 8
  case neg =>
    rw [if_pos hw] at hZ
    subst hZ
    have hin : (decide (1 ≤ p.width) && decide (p.width ≤ 8)) = false := by rw [← Bool.not_eq_true]; simpa using hw
    obtain ⟨wd, ⟨a1, n1, c1⟩, ⟨a2, n2, c2⟩, tp, ⟨a3, n3, c3⟩, ⟨a4, n4, c4⟩, rows⟩ := r
    have e1 := h.width
    simp only [] at e1
    rw [← e1] at hin
    clear e1 h hw HZ
    show Calls Tryz.prog 13 #[.agg #[.int .i64 wd, .slice a1 n1 c1, .slice a2 n2 c2, .int .i64 tp, .slice a3 n3 c3, .slice a4 n4 c4]] w _
    go_enter Tryz.func13, Tryz.ntmps13
    go_wp2_with (go_at_call 47; refine (isWithin_any _ _ _ _).mono ?_; rintro e w' ⟨rfl, rfl⟩; rw [hin])
    go_ret
    exact ⟨rfl, (Below.refl _ _).alloc (Nat.le_refl _) _⟩
  rw [if_neg (by simpa using hw)] at hZ
  obtain ⟨wd, ⟨a1, n1, c1⟩, ⟨a2, n2, c2⟩, tp, ⟨a3, n3, c3⟩, ⟨a4, n4, c4⟩, rows⟩ := r
  obtain ⟨pw, pl, ps, pt, pa, pb⟩ := p
  have HPA := h
  obtain ⟨e1, e2, i1, i2, h1, h2, h3, h4⟩ := h
  simp only [] at e1 e2 i1 i2 h1 h2 h3 h4 hw hcap
  subst e1 e2
  obtain ⟨W, rfl⟩ : ∃ W : Nat, wd = (W : Int) := ⟨wd.toNat, by omega⟩
  have hin : (decide (1 ≤ (W : Int)) && decide ((W : Int) ≤ 8)) = true := by simpa using hw
  have HIN := Lib.hid hin
  have hW8 : W ≤ 8 := by omega
  have HP := Lib.hid HPA
  have L1 := Lib.hid h1.1
  have L2 := Lib.hid h2.1
  have L3 := Lib.hid h3.1
  have L4 := Lib.hid h4.2.1
  have HCAP := Lib.hid hcap
  clear HPA hin h1 h2 h3 h4 HZ hcap
  have HZ := Lib.hid hZ
  clear hZ
  show Calls Tryz.prog 13 #[.agg #[.int .i64 (W : Int), .slice a1 n1 c1, .slice a2 n2 c2, .int .i64 tp, .slice a3 n3 c3, .slice a4 n4 c4]] w _
  obtain ⟨wa, HW⟩ : ∃ wa, Hid (wa = w.alloc (.cells #[.int .i64 (W : Int), .slice a1 n1 c1, .slice a2 n2 c2, .int .i64 tp, .slice a3 n3 c3, .slice a4 n4 c4] 28)) := ⟨_, rfl⟩
  have B : Blk wa w.heap.size 28 [.int .i64 (W : Int), .slice a1 n1 c1, .slice a2 n2 c2, .int .i64 tp, .slice a3 n3 c3, .slice a4 n4 c4] := by rw [HW.out]; exact Blk.new w _ _
  have HB : Below w.heap.size w wa := by rw [HW.out]; exact (Below.refl _ _).alloc (Nat.le_refl _) _
  go_enter Tryz.func13, Tryz.ntmps13
  go_wp2_with (go_at_call 47; refine (isWithin_any _ _ _ _).mono ?_; rintro e w' ⟨rfl, rfl⟩; rw [HIN.out])
  obtain ⟨X1, H1⟩ : ∃ X1, Hid (inpB ⟨(W : Int), pl, ps, tp, pa, pb⟩ = X1) := ⟨_, rfl⟩
  rw [H1.out] at HZ
  rw [← HW.out]
  refine (inputsOk_any ⟨(W : Int), (a1, n1, c1), (a2, n2, c2), tp, (a3, n3, c3), (a4, n4, c4), rows⟩ ⟨(W : Int), pl, ps, tp, pa, pb⟩ W _ rfl hW8 (HP.out.below HB)).mono ?_
  rintro e w1 ⟨rfl, hb1⟩
  rw [H1.out]
  have B := B.below hb1 B.lt
  have HB := HB.trans (hb1.mono HB.size)
  clear hb1 HW
  have t0 := B.cell (j := 0) rfl
  have t1 := B.cell (j := 1) rfl
  have t2 := B.cell (j := 2) rfl
  have t3 := B.cell (j := 3) rfl
  have t4 := B.cell (j := 4) rfl
  have t5 := B.cell (j := 5) rfl
  cases X1 with
  | false =>
    have hz := HZ.out
    rw [if_pos rfl] at hz
    subst hz
    go_wp2
    go_ret
    exact ⟨rfl, HB⟩
  | true =>
  rw [if_neg (by simp)] at HZ
  obtain ⟨X3, H3⟩ : ∃ X3, Hid (roomB ⟨(W : Int), pl, ps, tp, pa, pb⟩ = X3) := ⟨_, rfl⟩
  rw [H3.out] at HZ
  go_wp2_with fail
  refine (roomOk_any ⟨(W : Int), (a1, n1, c1), (a2, n2, c2), tp, (a3, n3, c3), (a4, n4, c4), rows⟩ ⟨(W : Int), pl, ps, tp, pa, pb⟩ _ (HP.out.below HB)).mono ?_
  rintro e w4 ⟨rfl, hb4⟩
  rw [H3.out]
  clear t0 t1 t2 t3 t4 t5
  have B := B.below hb4 B.lt
  have HB := HB.trans (hb4.mono HB.size)
  clear hb4
  have t0 := B.cell (j := 0) rfl
  have t1 := B.cell (j := 1) rfl
  have t2 := B.cell (j := 2) rfl
  have t3 := B.cell (j := 3) rfl
  have t4 := B.cell (j := 4) rfl
  have t5 := B.cell (j := 5) rfl
  cases X3 with
  | false =>
    have hz := HZ.out
    rw [if_pos rfl] at hz
    subst hz
    go_wp2
    go_ret
    exact ⟨rfl, HB⟩
  | true =>
  rw [if_neg (by simp)] at HZ
  have hroom := H3.out
  simp only [roomB, Bool.and_eq_true, decide_eq_true_eq] at hroom
  have hinp := H1.out
  simp only [inpB, inputsB, Bool.and_eq_true, decide_eq_true_eq] at hinp
  have hl1 : n1 ≤ 3 := by have := L1.out; omega
  have hl2 : n2 ≤ 3 := by have := L2.out; omega
  have hl3 : n3 ≤ 2 := by have := L3.out; omega
  have hl4 : n4 ≤ 40 := by have := L4.out; omega
  obtain ⟨T, rfl⟩ : ∃ T : Nat, tp = (T : Int) := ⟨tp.toNat, by omega⟩
  have hT : T ≤ 6 := by omega
  have HLim := Lib.hid (show Lim ⟨(W : Int), (a1, n1, c1), (a2, n2, c2), (T : Int), (a3, n3, c3), (a4, n4, c4), rows⟩ W (n1 + n2) T n3 from ⟨rfl, hW8, rfl, by omega, rfl, by omega, rfl, by omega⟩)
  clear hroom hinp
  obtain ⟨X4, H4⟩ : ∃ X4, Hid (pb.all (stmtB (2 ^ W) (n1 + n2) T n3) = X4) := ⟨_, rfl⟩
  have HS : Hid (stmtsB ⟨(W : Int), pl, ps, (T : Int), pa, pb⟩ = X4) := Lib.hid (by simp only [stmtsB, Int.toNat_natCast, L1.out, L2.out, L3.out, H4.out])
  rw [HS.out] at HZ
  go_wp2_with fail
  refine (stmtsOk_any _ ⟨(W : Int), pl, ps, (T : Int), pa, pb⟩ W (n1 + n2) T n3 _ (HP.out.below HB) HLim.out).mono ?_
  rintro e w5 ⟨rfl, hb5⟩
  simp only [H4.out]
  clear t0 t1 t2 t3 t4 t5
  have B := B.below hb5 B.lt
  have HB := HB.trans (hb5.mono HB.size)
  clear hb5
  have t0 := B.cell (j := 0) rfl
  have t1 := B.cell (j := 1) rfl
  have t2 := B.cell (j := 2) rfl
  have t3 := B.cell (j := 3) rfl
  have t4 := B.cell (j := 4) rfl
  have t5 := B.cell (j := 5) rfl
  cases X4 with
  | false =>
    have hz := HZ.out
    rw [if_pos rfl] at hz
    subst hz
    go_wp2
    go_ret
    exact ⟨rfl, HB⟩
  | true =>
  rw [if_neg (by simp)] at HZ
  have hlo := loops_ok H4.out
  obtain ⟨K, HK⟩ : ∃ K, Hid (blockOf pb 0 = K) := ⟨_, rfl⟩
  simp only [HK.out, L4.out] at HZ
  go_wp2_with fail
  refine (wellNested_any a4 n4 c4 rows pb _ (HP.out.body.below HB) hl4).mono ?_
  rintro e w6 ⟨rfl, hb6⟩
  rw [HK.out]
  clear t0 t1 t2 t3 t4 t5
  have B := B.below hb6 B.lt
  have HB := HB.trans (hb6.mono HB.size)
  clear hb6
  have t5 := B.cell (j := 5) rfl
  by_cases hK : K = (n4 : Int)
  case neg =>
    have hz := HZ.out
    rw [if_pos hK] at hz
    subst hz
    rw [decide_eq_false hK]
    go_wp2
    go_ret
    exact ⟨rfl, HB⟩
  rw [if_neg (by simpa using hK)] at HZ
  have hex := part_steps hlo _ 0 pb.length (Nat.le_refl _) (Nat.zero_le _) (by rw [HK.out, hK, L4.out])
  have hst := stepsN_spec hex
  obtain ⟨Q, HQ⟩ : ∃ Q, Hid (stepsN pb = Q) := ⟨_, rfl⟩
  rw [HQ.out] at hst
  rw [HQ.out] at HZ
  rw [L4.out] at hst
  rw [decide_eq_true hK]
  have HD : Hid (∀ w', Below w.heap.size w w' → Calls Tryz.prog 52 #[.slice a4 n4 c4] w' fun e w'' => e = .returned (.int .i64 (Q : Int)) ∧ Below w'.heap.size w' w'') := Lib.hid (fun w' hw' => stepsIn_any a4 n4 c4 rows pb Q w' hl4 HCAP.out (HP.out.body.below hw') hst)
  clear hex hst hlo hK
  go_wp2_with fail
  refine (HD.out _ HB).mono ?_
  rintro e w7 ⟨rfl, hs7⟩
  have HB := HB.trans (hs7.mono HB.size)
  by_cases hQ : 400 < Q
  · have hz := HZ.out
    rw [if_pos hQ] at hz
    subst hz
    have hd2 : decide ((Q : Int) > 400) = true := by simp; omega
    go_wp2
    go_ret
    exact ⟨rfl, HB⟩
  · have hz := HZ.out
    rw [if_neg hQ] at hz
    subst hz
    have hd2 : decide ((Q : Int) > 400) = false := by simp; omega
    go_wp2
    go_ret
    exact ⟨rfl, HB⟩
set_option maxHeartbeats 800000 in
theorem implProgOk_any (r : PRow) (p : Prg) (w : World) (h : ProgAt w r p) (hcap : r.body.2.1 ≤ r.body.2.2) :
    Calls Tryz.prog 41 #[progV r] w fun e w' => e = .returned (.bool (codeB p == 0)) ∧ Below w.heap.size w w' := by
  have HC : Hid (∀ w', Below w.heap.size w w' → Calls Tryz.prog 13 #[progV r] w' fun e w'' => e = .returned (.int .i64 (codeB p)) ∧ Below w'.heap.size w' w'') := Lib.hid (fun w' hw => implCodeOf_any r p w' (h.below hw) hcap)
  obtain ⟨Z, HZ⟩ : ∃ Z, Hid (codeB p = Z) := ⟨_, rfl⟩
  rw [HZ.out] at HC ⊢
  obtain ⟨wd, ⟨a1, n1, c1⟩, ⟨a2, n2, c2⟩, tp, ⟨a3, n3, c3⟩, ⟨a4, n4, c4⟩, rows⟩ := r
  clear h HZ hcap
  show Calls Tryz.prog 41 #[.agg #[.int .i64 wd, .slice a1 n1 c1, .slice a2 n2 c2, .int .i64 tp, .slice a3 n3 c3, .slice a4 n4 c4]] w _
  have HB : Below w.heap.size w (w.alloc (.cells #[.int .i64 wd, .slice a1 n1 c1, .slice a2 n2 c2, .int .i64 tp, .slice a3 n3 c3, .slice a4 n4 c4] 28)) := (Below.refl _ _).alloc (Nat.le_refl _) _
  go_enter Tryz.func41, Tryz.ntmps41
  go_wp2_with fail
  refine (HC.out _ HB).mono ?_
  rintro e w1 ⟨rfl, hb1⟩
  have HB := HB.trans (hb1.mono HB.size)
  go_wp2
  go_ret
  exact ⟨ret_bool (by cases hz : (Z == 0) <;> simp_all), HB⟩
end Go.Proofs.YtjboghmcmlkpoaaGreatDoor
/- The contracts of the program's textOf and of the two functions ShowExp. -/
namespace Go.Proofs.YtjboghmcmlkpoaaGreatDoor
open Go.RowKit

theorem IsTree.later {w w' : World} {v : Value} {T : Tr} (h : IsTree w (fun _ => True) v T) (hb : Below w.heap.size w w') : IsTree w' (fun _ => True) v T := h.keep (keeps_below hb)
theorem NamedIn.kid {r : PRow} {op n : Int} {kids : List Tr} {i : Nat} (h : NamedIn r (Tr.node op n kids).flat) (hi : i < kids.length) : NamedIn r (kids.getD i default).flat := fun t ht => h t (kid_mem hi ht)
theorem text_all (r : PRow) (hr : NameHead r) : ∀ N, TextW r N := by
  intro N
  induction N with
  | zero => intro T v w hN; have := flat_pos T; omega
  | succ N ih =>
    intro T v w hN hok h17 hnm h3 hT ht
    obtain ⟨wd, ⟨a1, n1, c1⟩, ⟨a2, n2, c2⟩, tp, ⟨a3, n3, c3⟩, ⟨a4, n4, c4⟩, rows⟩ := r
    have hcases := fun (op n : Int) (kids : List Tr) (e : T = Tr.node op n kids) => op_cases (e ▸ hok) (e ▸ h17)
    have hkidok : ∀ (op n : Int) (kids : List Tr) (i : Nat), T = Tr.node op n kids → i < kids.length → (kids.getD i default).okT ∧ (kids.getD i default).flat.length ≤ N ∧ ((kids.getD i default).words n1 n2).length ≤ 24000 ∧ (kids.getD i default).flat.length ≤ 3000 := by
      intro op n kids i e hi
      subst e
      have hok' := hok
      simp only [Tr.okT] at hok'
      have h1 := oks_getD hok'.2.2 hi
      have h2 := kid_flat_lt (op := op) (n := n) hi
      have h4 := words_len n1 n2 _ h1
      exact ⟨h1, by omega, by omega, by omega⟩
    cases hT with
    | num x =>
      obtain ⟨h0, h1, _⟩ := hcases 0 x [] rfl
      have e : (Tr.node 0 x []).words n1 n2 = Lib.itoa x := by rw [words_def]; simp [wordOf]
      simp only []
      rw [e]
      exact text_num wd tp a1 a2 a3 a4 n1 n2 n3 n4 c1 c2 c3 c4 x w h0 h1 ht
    | var x =>
      obtain ⟨h0, h1, _⟩ := hcases 1 x [] rfl
      have e : (Tr.node 1 x []).words n1 n2 = varS n1 n2 x := by rw [words_def]; simp [wordOf]
      have hn := (hnm (1, x) (by simp [Tr.flat])).1 rfl
      simp only [] at hn ⊢
      rw [e, ← name_var (r := ⟨wd, (a1, n1, c1), (a2, n2, c2), tp, (a3, n3, c3), (a4, n4, c4), rows⟩) hr h0 hn]
      exact text_var wd tp a1 a2 a3 a4 n1 n2 n3 n4 c1 c2 c3 c4 rows x w h0 h1 hr ht
    | cell x v0 T0 hT0 =>
      obtain ⟨u0, z0, rfl⟩ := hT0.iface
      obtain ⟨h0, h1, _⟩ := hcases 2 x [T0] rfl
      obtain ⟨k1, k2, k3, k4⟩ := hkidok 2 x [T0] 0 rfl (by simp)
      have hn := (hnm (2, x) (by simp [Tr.flat])).2 rfl
      have e : (Tr.node 2 x [T0]).words n1 n2 = 109 :: (Lib.itoa x ++ (91 :: (T0.words n1 n2 ++ [93]))) := by rw [words_def]; simp [wordOf, Tr.wordss]
      simp only [] at hn ⊢
      rw [e]
      exact text_cell wd tp a1 a2 a3 a4 n1 n2 n3 n4 c1 c2 c3 c4 rows x u0 z0 (T0.words n1 n2) w h0 hn h1 hr ht k3
        (fun w' hb => ih T0 _ w' k2 k1 (fun t h => h17 t (kid_mem (op := 2) (n := x) (kids := [T0]) (i := 0) (by simp) h)) (hnm.kid (i := 0) (by simp)) k4 (hT0.later hb) (ht.below hb))
    | op k ka m kc vs kids g1 g2 g3 g4 g5 g6 =>
      obtain ⟨_, _, hc⟩ := hcases k 0 kids rfl
      have hkid : ∀ i, (hi : i < kids.length) → ∀ u z, vs.getD i .nilIface = .iface u z → ∀ w', Below w.heap.size w w' → Calls Tryz.prog 69 #[progV ⟨wd, (a1, n1, c1), (a2, n2, c2), tp, (a3, n3, c3), (a4, n4, c4), rows⟩, .iface u z] w' fun e w'' => e = .returned (.string ⟨((kids.getD i default).words n1 n2).toArray⟩) ∧ Below w'.heap.size w' w'' := by
        intro i hi u z hv w' hb
        obtain ⟨k1, k2, k3, k4⟩ := hkidok k 0 kids i rfl hi
        have hT := g6 i (by omega)
        rw [hv] at hT
        exact ih _ _ w' k2 k1 (fun t h => h17 t (kid_mem hi h)) (hnm.kid hi) k4 (hT.later hb) (ht.below hb)
      have hone : kids.length = 1 → (k = 3 ∨ k = 4) → ∃ kb ko u z, ka = some ⟨kb, ko, none⟩ ∧ kb < w.heap.size ∧ w.cell? ⟨kb, ko + 0, none⟩ = some (.iface u z) ∧ vs.getD 0 .nilIface = .iface u z := by
        intro hl _
        obtain ⟨b, o, e, hb, hcell⟩ := g5.at_ (k := 0) (by omega)
        obtain ⟨u, z, hv⟩ := (g6 0 (by omega)).iface
        exact ⟨b, o, u, z, e, hb, by rw [hcell, hv], hv⟩
      rcases hc with hc | hc | hc | ⟨rfl, hl⟩ | ⟨rfl, hl⟩ | ⟨h5, h16, hl⟩
      · omega
      · omega
      · omega
      · obtain ⟨kb, ko, u, z, rfl, hb, hcell, hv⟩ := hone hl (.inl rfl)
        obtain rfl : m = 1 := by omega
        have e : (Tr.node 3 0 kids).words n1 n2 = 33 :: (kids.getD 0 default).words n1 n2 := by rw [words_def, ← wordss_getD n1 n2 kids 0 (by omega)]; simp [wordOf]
        simp only []
        rw [e]
        exact text_one_not wd tp a1 a2 a3 a4 n1 n2 n3 n4 c1 c2 c3 c4 kb ko kc w hb u z _ (hkidok 3 0 kids 0 rfl (by omega)).2.2.1 hcell (hkid 0 (by omega) u z hv)
      · obtain ⟨kb, ko, u, z, rfl, hb, hcell, hv⟩ := hone hl (.inr rfl)
        obtain rfl : m = 1 := by omega
        have e : (Tr.node 4 0 kids).words n1 n2 = 45 :: (kids.getD 0 default).words n1 n2 := by rw [words_def, ← wordss_getD n1 n2 kids 0 (by omega)]; simp [wordOf]
        simp only []
        rw [e]
        exact text_two_neg wd tp a1 a2 a3 a4 n1 n2 n3 n4 c1 c2 c3 c4 kb ko kc w hb u z _ (hkidok 4 0 kids 0 rfl (by omega)).2.2.1 hcell (hkid 0 (by omega) u z hv)
      · obtain rfl : m = 2 := by omega
        obtain ⟨b, o, e0, hb, hcell0⟩ := g5.at_ (k := 0) (by omega)
        obtain ⟨b', o', e1, hb', hcell1⟩ := g5.at_ (k := 1) (by omega)
        subst e0
        injection e1 with e1
        injection e1 with e2 e3
        subst e2 e3
        obtain ⟨u0, z0, hv0⟩ := (g6 0 (by omega)).iface
        obtain ⟨u1, z1, hv1⟩ := (g6 1 (by omega)).iface
        obtain ⟨j, rfl⟩ : ∃ j : Nat, k = (j : Int) + 5 := ⟨(k - 5).toNat, by omega⟩
        have e : (Tr.node ((j : Int) + 5) 0 kids).words n1 n2 = 40 :: ((kids.getD 0 default).words n1 n2 ++ (32 :: (signS ((j : Int) + 5) ++ (32 :: ((kids.getD 1 default).words n1 n2 ++ [41]))))) := by
          rw [words_def, ← wordss_getD n1 n2 kids 0 (by omega), ← wordss_getD n1 n2 kids 1 (by omega)]; unfold wordOf; rw [if_neg (by omega), if_neg (by omega), if_neg (by omega), if_neg (by omega), if_neg (by omega)]
        simp only []
        rw [e]
        exact text_pair wd tp a1 a2 a3 a4 n1 n2 n3 n4 c1 c2 c3 c4 j (by omega) b o kc w ht hb u0 z0 _ (hkidok _ 0 kids 0 rfl (by omega)).2.2.1 (by rw [hcell0, hv0]) (hkid 0 (by omega) u0 z0 hv0) u1 z1 _ (hkidok _ 0 kids 1 rfl (by omega)).2.2.1 (by rw [hcell1, hv1]) (hkid 1 (by omega) u1 z1 hv1)
theorem textOf_any (r : PRow) (T : Tr) (v : Value) (w : World) (hr : NameHead r) (hok : T.okT) (h17 : ∀ t ∈ T.flat, t.1 ≠ 17) (hnm : NamedIn r T.flat) (h3 : T.flat.length ≤ 3000) (hT : IsTree w (fun _ => True) v T) (ht : Tabs w) :
    Calls Tryz.prog 69 #[progV r, v] w fun e w' => e = .returned (.string ⟨(T.words r.lows.2.1 r.secrets.2.1).toArray⟩) ∧ Below w.heap.size w w' := text_all r hr _ T v w (Nat.le_refl _) hok h17 hnm h3 hT ht

/-- What a right program's head is. -/
theorem code_head {p : Prg} (h : codeB p = 0) : 1 ≤ p.width ∧ p.width ≤ 8 ∧ p.lows.length ≤ 3 ∧ p.secrets.length ≤ 3 ∧ 0 ≤ p.temps ∧ p.temps ≤ 6 ∧ p.arrays.length ≤ 2 ∧ p.body.length ≤ 40 := by
  unfold codeB at h
  split at h
  · exact absurd h (by decide)
  split at h
  · exact absurd h (by decide)
  split at h
  · exact absurd h (by decide)
  rename_i h1 h2 h3
  have hr : roomB p = true := by simpa using h3
  have hi : inpB p = true := by simpa using h2
  have hw : 1 ≤ p.width ∧ p.width ≤ 8 := by simpa using h1
  simp only [roomB, Bool.and_eq_true, decide_eq_true_eq] at hr
  simp only [inpB, inputsB, Bool.and_eq_true, decide_eq_true_eq] at hi
  exact ⟨hw.1, hw.2, hi.1.1.2, hi.1.2.2, hr.1.1.1.1, hr.1.1.1.2, hr.1.1.2, hr.1.2⟩
theorem code_lim {w : World} {r : PRow} {p : Prg} (hp : ProgAt w r p) (h : codeB p = 0) : Lim r p.width.toNat (p.lows.length + p.secrets.length) p.temps.toNat p.arrays.length := by
  obtain ⟨h1, h2, h3, h4, h5, h6, h7, h8⟩ := code_head h
  have e1 := hp.lows.1
  have e2 := hp.secrets.1
  have e3 := hp.arrays.1
  have e4 := hp.width
  have e5 := hp.temps
  exact ⟨by omega, by omega, by omega, by omega, by omega, by omega, by omega, by omega⟩
theorem code_names {w : World} {r : PRow} {p : Prg} (hp : ProgAt w r p) (h : codeB p = 0) : NameHead r := by
  obtain ⟨h1, h2, h3, h4, h5, h6, h7, h8⟩ := code_head h
  have e1 := hp.lows.1
  have e2 := hp.secrets.1
  have e3 := hp.arrays.1
  have e5 := hp.temps
  exact ⟨by omega, by omega, by omega, by omega, by omega⟩
/-- May it stand in the body? -/
def standB (p : Prg) (ts : List Tm) : Bool := bodyB (2 ^ p.width.toNat) (p.lows.length + p.secrets.length + p.temps.toNat) p.arrays.length ts
/-- What ShowExp answers. -/
noncomputable def showB (p : Prg) (ts : List Tm) : List UInt8 := if codeB p = 0 ∧ standB p ts = true then expS p.lows.length p.secrets.length ts else []
theorem stand_tree {p : Prg} {ts : List Tm} (h : standB p ts = true) : ∃ T : Tr, stackOf ts = [T] ∧ ts = T.flat ∧ T.okT ∧ (∀ t ∈ ts, t.1 ≠ 17) ∧ ts.length ≤ 40 ∧ runD 0 ts = some 1 ∧ ∀ t ∈ ts, nameOk (2 ^ p.width.toNat) (p.lows.length + p.secrets.length + p.temps.toNat) p.arrays.length t = true := by
  simp only [standB, bodyB, namesB, Bool.and_eq_true, decide_eq_true_eq, List.all_eq_true, bne_iff_ne] at h
  obtain ⟨h1, h2, h3, h4⟩ := h
  have hr := ((expB_iff ts).1 h3).2
  obtain ⟨op, n, kids, hs, he, ho, hk, hks⟩ := tree_of hr
  exact ⟨.node op n kids, hs, by rw [he]; rfl, by simp only [Tr.okT]; exact ⟨ho, hk, hks⟩, fun t ht => by simpa using h1 t ht, h2, hr, h4⟩
theorem stand_named {w : World} {r : PRow} {p : Prg} {ts : List Tm} (hp : ProgAt w r p) (hc : codeB p = 0) (h : standB p ts = true) : NamedIn r ts := by
  obtain ⟨T, _, _, _, _, _, _, hn⟩ := stand_tree h
  obtain ⟨h1, h2, h3, h4, h5, h6, h7, h8⟩ := code_head hc
  have e1 := hp.lows.1
  have e2 := hp.secrets.1
  have e3 := hp.arrays.1
  have e5 := hp.temps
  intro t ht
  have := hn t ht
  unfold nameOk at this
  constructor
  · intro he
    rw [if_neg (by omega), if_pos he] at this
    have := of_decide_eq_true this
    omega
  · intro he
    rw [if_neg (by omega), if_neg (by omega), if_pos he] at this
    have := of_decide_eq_true this
    omega
theorem showB_no {p : Prg} {ts : List Tm} (h : codeB p ≠ 0 ∨ standB p ts = false) : showB p ts = [] := by
  unfold showB
  rw [if_neg]
  rintro ⟨h1, h2⟩
  rcases h with h | h
  · exact h h1
  · rw [h] at h2; cases h2
theorem showB_yes {p : Prg} {ts : List Tm} {T : Tr} (h1 : codeB p = 0) (h2 : standB p ts = true) (hT : stackOf ts = [T]) : showB p ts = T.words p.lows.length p.secrets.length := by
  unfold showB
  rw [if_pos ⟨h1, h2⟩, expS_of hT]

set_option maxHeartbeats 1600000 in
theorem specShowExp_any (r : PRow) (p : Prg) (a : Option Addr) (n c : Nat) (ts : List Tm) (w : World) (h : ProgAt w r p) (ht : Terms w a n ts) (hc : n ≤ c) :
    Calls Tryz.prog 26 #[progV r, .slice a n c] w fun e w' => e = .returned (.string ⟨(showB p ts).toArray⟩) ∧ Below w.heap.size w w' := by
  have HPO : Hid (∀ w', Below w.heap.size w w' → Calls Tryz.prog 12 #[progV r] w' fun e w'' => e = .returned (.bool (codeB p == 0)) ∧ Below w'.heap.size w' w'') := Lib.hid (fun w' hw => specProgOk_any r p w' (h.below hw))
  have HST : Hid (codeB p = 0 → ∀ w', Below w.heap.size w w' → Calls Tryz.prog 75 #[progV r, .slice a n c] w' fun e w'' => e = .returned (.bool (standB p ts)) ∧ Below w'.heap.size w' w'') := Lib.hid (fun hz w' hw => l3Exp_any r _ _ _ _ a n c ts w' (code_lim h hz) (ht.below (Nat.le_refl _) hw))
  have HEX : Hid (codeB p = 0 → standB p ts = true → ∀ w', Below w.heap.size w w' → Calls Tryz.prog 76 #[progV r, .slice a n c] w' fun e w'' => e = .returned (.string ⟨(showB p ts).toArray⟩) ∧ Below w'.heap.size w' w'') := by
    refine Lib.hid fun hz hs w' hw => ?_
    obtain ⟨T, h1, h2, h3, h4, h5, _, _⟩ := stand_tree hs
    have hn := code_names h hz
    have e1 := h.lows.1
    have e2 := h.secrets.1
    rw [showB_yes hz hs h1, e1, e2]
    exact l4Exp_any r T a n c w' hn.lows hn.secrets h3 (by rw [← h2]; exact h4) (by have := ht.1; omega) (by rw [← h2]; exact ht.below (Nat.le_refl _) hw) hc
  have hno := fun hh => showB_no (p := p) (ts := ts) hh
  have HNO := Lib.hid hno
  obtain ⟨S, HS⟩ : ∃ S, Hid (showB p ts = S) := ⟨_, rfl⟩
  rw [HS.out] at HEX HNO ⊢
  obtain ⟨wd, ⟨a1, n1, c1⟩, ⟨a2, n2, c2⟩, tp, ⟨a3, n3, c3⟩, ⟨a4, n4, c4⟩, rows⟩ := r
  clear h hno HS ht
  show Calls Tryz.prog 26 #[.agg #[.int .i64 wd, .slice a1 n1 c1, .slice a2 n2 c2, .int .i64 tp, .slice a3 n3 c3, .slice a4 n4 c4], .slice a n c] w _
  obtain ⟨wa, HW⟩ : ∃ wa, Hid (wa = w.alloc (.cells #[.int .i64 wd, .slice a1 n1 c1, .slice a2 n2 c2, .int .i64 tp, .slice a3 n3 c3, .slice a4 n4 c4] 28)) := ⟨_, rfl⟩
  have B : Blk wa w.heap.size 28 [.int .i64 wd, .slice a1 n1 c1, .slice a2 n2 c2, .int .i64 tp, .slice a3 n3 c3, .slice a4 n4 c4] := by rw [HW.out]; exact Blk.new w _ _
  have HB : Below w.heap.size w wa := by rw [HW.out]; exact (Below.refl _ _).alloc (Nat.le_refl _) _
  by_cases hz : codeB p = 0
  · have hzz : (codeB p == 0) = true := by simpa using hz
    rw [hzz] at HPO
    cases hs : standB p ts with
    | false =>
      have HS1 := Lib.hid (HST.out hz)
      rw [hs] at HS1
      have hS := HNO.out (.inr hs)
      subst hS
      clear HNO HEX HST hz hzz hs
      go_enter Tryz.func26, Tryz.ntmps26
      go_wp2_with fail
      rw [← HW.out]
      refine (HPO.out _ HB).mono ?_
      rintro e w1 ⟨rfl, hb1⟩
      have B := B.below hb1 B.lt
      have HB := HB.trans (hb1.mono HB.size)
      have t0 := B.cell (j := 0) rfl
      have t1 := B.cell (j := 1) rfl
      have t2 := B.cell (j := 2) rfl
      have t3 := B.cell (j := 3) rfl
      have t4 := B.cell (j := 4) rfl
      have t5 := B.cell (j := 5) rfl
      go_wp2_with fail
      refine (HS1.out _ HB).mono ?_
      rintro e w2 ⟨rfl, hb2⟩
      have HB := HB.trans (hb2.mono HB.size)
      go_wp2
      go_ret
      exact ⟨rfl, HB⟩
    | true =>
      have HS1 := Lib.hid (HST.out hz)
      rw [hs] at HS1
      have HE := Lib.hid (HEX.out hz hs)
      clear HNO HEX HST hz hzz hs
      go_enter Tryz.func26, Tryz.ntmps26
      go_wp2_with fail
      rw [← HW.out]
      refine (HPO.out _ HB).mono ?_
      rintro e w1 ⟨rfl, hb1⟩
      have B := B.below hb1 B.lt
      have HB := HB.trans (hb1.mono HB.size)
      have t0 := B.cell (j := 0) rfl
      have t1 := B.cell (j := 1) rfl
      have t2 := B.cell (j := 2) rfl
      have t3 := B.cell (j := 3) rfl
      have t4 := B.cell (j := 4) rfl
      have t5 := B.cell (j := 5) rfl
      go_wp2_with fail
      refine (HS1.out _ HB).mono ?_
      rintro e w2 ⟨rfl, hb2⟩
      have B := B.below hb2 B.lt
      have HB := HB.trans (hb2.mono HB.size)
      clear t0 t1 t2 t3 t4 t5
      have t0 := B.cell (j := 0) rfl
      have t1 := B.cell (j := 1) rfl
      have t2 := B.cell (j := 2) rfl
      have t3 := B.cell (j := 3) rfl
      have t4 := B.cell (j := 4) rfl
      have t5 := B.cell (j := 5) rfl
      go_wp2_with fail
      refine (HE.out _ HB).mono ?_
      rintro e w3 ⟨rfl, hb3⟩
      have HB := HB.trans (hb3.mono HB.size)
      go_wp2
      go_ret
      exact ⟨rfl, HB⟩
  · have hzz : (codeB p == 0) = false := by simpa using hz
    rw [hzz] at HPO
    have hS := HNO.out (.inl hz)
    subst hS
    clear HNO HEX HST hz hzz
    go_enter Tryz.func26, Tryz.ntmps26
    go_wp2_with fail
    rw [← HW.out]
    refine (HPO.out _ HB).mono ?_
    rintro e w1 ⟨rfl, hb1⟩
    have HB := HB.trans (hb1.mono HB.size)
    go_wp2
    go_ret
    exact ⟨rfl, HB⟩
set_option maxHeartbeats 1600000 in
theorem implShowExp_any (r : PRow) (p : Prg) (a : Option Addr) (n c : Nat) (ts : List Tm) (w : World) (h : ProgAt w r p) (hcap : r.body.2.1 ≤ r.body.2.2) (ht : Terms w a n ts) (htab : Tabs w) :
    Calls Tryz.prog 21 #[progV r, .slice a n c] w fun e w' => e = .returned (.string ⟨(showB p ts).toArray⟩) ∧ Below w.heap.size w w' := by
  have HPO : Hid (∀ w', Below w.heap.size w w' → Calls Tryz.prog 41 #[progV r] w' fun e w'' => e = .returned (.bool (codeB p == 0)) ∧ Below w'.heap.size w' w'') := Lib.hid (fun w' hw => implProgOk_any r p w' (h.below hw) hcap)
  have HST : Hid (codeB p = 0 → ∀ w', Below w.heap.size w w' → Calls Tryz.prog 68 #[progV r, .slice a n c] w' fun e w'' => e = .returned (.bool (standB p ts)) ∧ Below w'.heap.size w' w'') := Lib.hid (fun hz w' hw => mayStand_any r _ _ _ _ a n c ts w' (code_lim h hz) (ht.below (Nat.le_refl _) hw))
  have HTR : Hid (standB p ts = true → ∃ T, Hid (stackOf ts = [T]) ∧ ∀ w', Below w.heap.size w w' → Calls Tryz.prog 70 #[.slice a n c] w' fun e w'' => ∃ u z, e = .returned (.iface u z) ∧ IsTree w'' (fun _ => True) (.iface u z) T ∧ Below w'.heap.size w' w'') := by
    refine Lib.hid fun hs => ?_
    obtain ⟨T, h1, h2, h3, h4, h5, h6, _⟩ := stand_tree hs
    exact ⟨T, Lib.hid h1, fun w' hw => treeOf_any a n c ts T w' (ht.below (Nat.le_refl _) hw) (by have := ht.1; omega) (Lib.hid h6) (Lib.hid h1)⟩
  have HEX : Hid (codeB p = 0 → standB p ts = true → ∀ T, stackOf ts = [T] → ∀ w' u z, Below w.heap.size w w' → IsTree w' (fun _ => True) (.iface u z) T → Calls Tryz.prog 69 #[progV r, .iface u z] w' fun e w'' => e = .returned (.string ⟨(showB p ts).toArray⟩) ∧ Below w'.heap.size w' w'') := by
    refine Lib.hid fun hz hs T hT w' u z hw hI => ?_
    obtain ⟨T', h1, h2, h3, h4, h5, _, _⟩ := stand_tree hs
    have e0 : T' = T := by rw [h1] at hT; injection hT
    subst e0
    have e1 := h.lows.1
    have e2 := h.secrets.1
    rw [showB_yes hz hs h1, e1, e2]
    exact textOf_any r T' _ w' (code_names h hz) h3 (by rw [← h2]; exact h4) (by rw [← h2]; exact stand_named h hz hs) (by rw [← h2]; omega) hI (htab.below hw)
  have hno := fun hh => showB_no (p := p) (ts := ts) hh
  have HNO := Lib.hid hno
  obtain ⟨S, HS⟩ : ∃ S, Hid (showB p ts = S) := ⟨_, rfl⟩
  rw [HS.out] at HEX HNO ⊢
  obtain ⟨wd, ⟨a1, n1, c1⟩, ⟨a2, n2, c2⟩, tp, ⟨a3, n3, c3⟩, ⟨a4, n4, c4⟩, rows⟩ := r
  clear h hno HS ht htab hcap
  show Calls Tryz.prog 21 #[.agg #[.int .i64 wd, .slice a1 n1 c1, .slice a2 n2 c2, .int .i64 tp, .slice a3 n3 c3, .slice a4 n4 c4], .slice a n c] w _
  obtain ⟨wa, HW⟩ : ∃ wa, Hid (wa = w.alloc (.cells #[.int .i64 wd, .slice a1 n1 c1, .slice a2 n2 c2, .int .i64 tp, .slice a3 n3 c3, .slice a4 n4 c4] 28)) := ⟨_, rfl⟩
  have B : Blk wa w.heap.size 28 [.int .i64 wd, .slice a1 n1 c1, .slice a2 n2 c2, .int .i64 tp, .slice a3 n3 c3, .slice a4 n4 c4] := by rw [HW.out]; exact Blk.new w _ _
  have HB : Below w.heap.size w wa := by rw [HW.out]; exact (Below.refl _ _).alloc (Nat.le_refl _) _
  by_cases hz : codeB p = 0
  · have hzz : (codeB p == 0) = true := by simpa using hz
    rw [hzz] at HPO
    cases hs : standB p ts with
    | false =>
      have HS1 := Lib.hid (HST.out hz)
      rw [hs] at HS1
      have hS := HNO.out (.inr hs)
      subst hS
      clear HNO HEX HST hz hzz hs HTR
      go_enter Tryz.func21, Tryz.ntmps21
      go_wp2_with fail
      rw [← HW.out]
      refine (HPO.out _ HB).mono ?_
      rintro e w1 ⟨rfl, hb1⟩
      have B := B.below hb1 B.lt
      have HB := HB.trans (hb1.mono HB.size)
      have t0 := B.cell (j := 0) rfl
      have t1 := B.cell (j := 1) rfl
      have t2 := B.cell (j := 2) rfl
      have t3 := B.cell (j := 3) rfl
      have t4 := B.cell (j := 4) rfl
      have t5 := B.cell (j := 5) rfl
      go_wp2_with fail
      refine (HS1.out _ HB).mono ?_
      rintro e w2 ⟨rfl, hb2⟩
      have HB := HB.trans (hb2.mono HB.size)
      go_wp2
      go_ret
      exact ⟨rfl, HB⟩
    | true =>
      have HS1 := Lib.hid (HST.out hz)
      rw [hs] at HS1
      obtain ⟨T, HT1, hTR⟩ := HTR.out hs
      have HTR1 := Lib.hid hTR
      have HE : Hid (∀ w' u z, Below w.heap.size w w' → IsTree w' (fun _ => True) (.iface u z) T → Calls Tryz.prog 69 #[.agg #[.int .i64 wd, .slice a1 n1 c1, .slice a2 n2 c2, .int .i64 tp, .slice a3 n3 c3, .slice a4 n4 c4], .iface u z] w' fun e w'' => e = .returned (.string ⟨S.toArray⟩) ∧ Below w'.heap.size w' w'') := Lib.hid (HEX.out hz hs T HT1.out)
      clear hTR
      clear HNO HEX HST hz hzz hs HTR HT1
      go_enter Tryz.func21, Tryz.ntmps21
      go_wp2_with fail
      rw [← HW.out]
      refine (HPO.out _ HB).mono ?_
      rintro e w1 ⟨rfl, hb1⟩
      have B := B.below hb1 B.lt
      have HB := HB.trans (hb1.mono HB.size)
      have t0 := B.cell (j := 0) rfl
      have t1 := B.cell (j := 1) rfl
      have t2 := B.cell (j := 2) rfl
      have t3 := B.cell (j := 3) rfl
      have t4 := B.cell (j := 4) rfl
      have t5 := B.cell (j := 5) rfl
      go_wp2_with fail
      refine (HS1.out _ HB).mono ?_
      rintro e w2 ⟨rfl, hb2⟩
      have B := B.below hb2 B.lt
      have HB := HB.trans (hb2.mono HB.size)
      clear t0 t1 t2 t3 t4 t5
      have t0 := B.cell (j := 0) rfl
      have t1 := B.cell (j := 1) rfl
      have t2 := B.cell (j := 2) rfl
      have t3 := B.cell (j := 3) rfl
      have t4 := B.cell (j := 4) rfl
      have t5 := B.cell (j := 5) rfl
      have HBP := Lib.hid B
      have HD : Below w2.heap.size w2 w2.drew := ⟨rfl, rfl, rfl, Nat.le_refl _, fun _ _ => rfl⟩
      go_wp2_with fail
      go_region_held3 (fun w' => w'.cell? ⟨w.heap.size, 0, none⟩ = some (.int .i64 wd) ∧ w'.cell? ⟨w.heap.size, 1, none⟩ = some (.slice a1 n1 c1) ∧ w'.cell? ⟨w.heap.size, 2, none⟩ = some (.slice a2 n2 c2) ∧ w'.cell? ⟨w.heap.size, 3, none⟩ = some (.int .i64 tp) ∧ w'.cell? ⟨w.heap.size, 4, none⟩ = some (.slice a3 n3 c3) ∧ w'.cell? ⟨w.heap.size, 5, none⟩ = some (.slice a4 n4 c4)) (first | (refine ⟨?_, ?_, ?_, ?_, ?_, ?_⟩ <;> assumption) | go_keep | (refine ⟨?_, ?_, ?_, ?_, ?_, ?_⟩ <;> go_keep)) (first
        | (go_at_call 70; refine (HTR1.out _ ?_).mono ?_; exact HB.trans (HD.mono HB.size); rintro e w3 ⟨u, z, rfl, hI, hb3⟩; have HB3 : Below w2.heap.size w2 w3 := HD.trans (hb3.mono HD.size); have B3 := HBP.out.below HB3 HBP.out.lt; have u0 := B3.cell (j := 0) rfl; have u1 := B3.cell (j := 1) rfl; have u2 := B3.cell (j := 2) rfl; have u3 := B3.cell (j := 3) rfl; have u4 := B3.cell (j := 4) rfl; have u5 := B3.cell (j := 5) rfl; have HI := Lib.hid hI; clear B3 hb3 hI)
        | (go_at_call 69; refine (HE.out w3 u z (HB.trans (HB3.mono HB.size)) HI.out).mono ?_; rintro e w4 ⟨rfl, hb4⟩; have HB4 : Below w2.heap.size w2 w4 := HB3.trans (hb4.mono HB3.size); have B4 := HBP.out.below HB4 HBP.out.lt; have v0 := B4.cell (j := 0) rfl; have v1 := B4.cell (j := 1) rfl; have v2 := B4.cell (j := 2) rfl; have v3 := B4.cell (j := 3) rfl; have v4 := B4.cell (j := 4) rfl; have v5 := B4.cell (j := 5) rfl; clear B4 hb4))
      all_goals
        go_wp2
        go_ret
        exact ⟨rfl, HB.trans (HB4.mono HB.size)⟩
  · have hzz : (codeB p == 0) = false := by simpa using hz
    rw [hzz] at HPO
    have hS := HNO.out (.inl hz)
    subst hS
    clear HNO HEX HST hz hzz HTR
    go_enter Tryz.func21, Tryz.ntmps21
    go_wp2_with fail
    rw [← HW.out]
    refine (HPO.out _ HB).mono ?_
    rintro e w1 ⟨rfl, hb1⟩
    have HB := HB.trans (hb1.mono HB.size)
    go_wp2
    go_ret
    exact ⟨rfl, HB⟩
end Go.Proofs.YtjboghmcmlkpoaaGreatDoor
