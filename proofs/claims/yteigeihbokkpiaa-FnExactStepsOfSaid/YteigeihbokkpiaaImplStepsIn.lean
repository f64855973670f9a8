/- The contract of the program's stepsIn. -/
import Derived.Test.YteigeihbokkpiaaImplSteps
namespace Go.Proofs.Yteigeihbokkpiaa
open Go.RowKit

/-- The contract, for bodies below a length. -/
def StepsInAt (N : Nat) : Prop := ∀ (a : Option Addr) (n c : Nat) (rs : List SRow) (ss : List Stm) (s : Nat) (w : World), n < N → n ≤ 40 → n ≤ c → Stmts w a n rs ss → Steps ss 0 n s →
  Calls Try.prog 37 #[.slice a n c] w fun e w' => e = .returned (.int .i64 (s : Int)) ∧ Below w.heap.size w w'
theorem stmts_nil (w : World) : Stmts w none 0 [] [] := ⟨rfl, rfl, by omega, fun h => absurd h (by omega), fun i h => absurd h (by omega)⟩
set_option maxRecDepth 20000 in
set_option maxHeartbeats 6400000 in
theorem stepsIn_step (N : Nat) (HI : Hid (StepsInAt N)) : StepsInAt (N + 1) := by
  intro a n c rs ss s w hN h40 hcap h hst
  have hbig := steps_bound hst (by omega)
  have HL := Lib.hid h.2.1
  have HS := Lib.hid h
  have HN : Hid (0 < n → ∀ w', Calls Try.prog 37 #[.slice none 0 0] w' fun e w'' => e = .returned (.int .i64 0) ∧ Below w'.heap.size w' w'') := Lib.hid (fun hp w' => HI.out none 0 0 [] [] 0 w' (by omega) (by omega) (by omega) (stmts_nil w') (.nil 0))
  go_enter Try.func37, Try.ntmps37
  go_wp2
  go_loopw [3, 4] (fun q x wr => ∃ k u t : Nat, k ≤ n ∧ x = .int .i64 (k : Int) ∧ q = .int .i64 (u : Int) ∧ u + t = s ∧ Hid (Steps ss k n t) ∧ Below w.heap.size w wr) (fun _ x _ => n - (intOf x).toNat)
  case atStart => exact ⟨0, 0, s, Nat.zero_le _, rfl, rfl, by omega, Lib.hid hst, Below.refl _ _⟩
  case round =>
    clear hst h
    obtain ⟨k, u, t, hkn, rfl, rfl, hut, HT, hbel⟩ := hrel
    by_cases hlt : k < n
    case neg =>
      obtain rfl : k = n := by omega
      have h0 := steps_none HT.out
      subst h0
      have e0 : u = s := by omega
      subst e0
      go_wp2
      go_ret
      exact ⟨rfl, hbel⟩
    have HN2 := Lib.hid (HN.out (by omega))
    clear HN
    have HN := HN2
    clear HN2
    obtain ⟨b, o, x, y, p1, m1, d1, p2, m2, d2, ts, us, rfl, hb, hz, hin1, hin2, hc1, hc2, hc3, hc4, _⟩ := (HS.out.below hbel).at_ hlt
    have hop : opAt ss k = x := by rw [opAt, hz.out]
    have hst := HT.out
    clear HT
    cases hst with
    | nil => omega
    | @plain _ _ s1 hi h2 h5 h8 p =>
      have HBD := Lib.hid (bodiesAt_plain (some ⟨b, o, none⟩) n c rs ss k wr (HS.out.below hbel) h40 hlt (end_plain hi h2 h5 h8))
      rw [hop] at h2 h5 h8
      have HP := Lib.hid p
      have hub : u + s1 + 1 < 3656158440062976 := by omega
      have HU := Lib.hid hut
      have HF1 : Hid (∀ w', Below w.heap.size w w' → Calls Try.prog 37 #[.slice none 0 0] w' fun e w'' => e = .returned (.int .i64 (0 : Int)) ∧ Below w'.heap.size w' w'') := Lib.hid (fun w' hw' => HN.out w')
      have HF2 : Hid (∀ w', Below w.heap.size w w' → Calls Try.prog 37 #[.slice none 0 0] w' fun e w'' => e = .returned (.int .i64 (0 : Int)) ∧ Below w'.heap.size w' w'') := Lib.hid (fun w' hw' => HN.out w')
      have HF3 : Hid (∀ w', Calls Try.prog 77 #[.agg #[.int .i64 x, .int .i64 y, .slice p1 m1 d1, .slice p2 m2 d2], .int .i64 (0 : Int), .int .i64 (0 : Int)] w' fun e w'' => e = .returned (.int .i64 ((1 : Nat) : Int)) ∧ Below w'.heap.size w' w'') := Lib.hid (fun w' => (stepsWith_any x y p1 p2 m1 m2 d1 d2 0 0 w' (by omega) (by omega) (fun h => absurd h h5)).mono fun _ _ ⟨he, hb⟩ => ⟨by rw [he]; exact ret_int (by unfold stepI; rw [if_neg h2, if_neg h5]; rfl), hb⟩)
      clear h2 h5 h8 hop p hut hbig
      go_wp2_with fail
      refine HBD.out.mono ?_
      rintro ed w1 ⟨rfl, hb1⟩
      have hbel1 := hbel.trans (hb1.mono hbel.size)
      have hbw1 : b < w1.heap.size := Nat.lt_of_lt_of_le hb hb1.size
      have f1 := lat_cell hbw1 ((hb1.cell hb).trans hc1)
      have f2 := lat_cell hbw1 ((hb1.cell hb).trans hc2)
      have f3 := lat_cell hbw1 ((hb1.cell hb).trans hc3)
      have f4 := lat_cell hbw1 ((hb1.cell hb).trans hc4)
      have HC1 := Lib.hid (fun p : Lat w1 => HF1.out p.wd (hbel1.trans (p.ok.mono hbel1.size)))
      have HC2 := Lib.hid (fun p : Lat w1 => HF2.out p.wd (hbel1.trans (p.ok.mono hbel1.size)))
      have HC3 := Lib.hid (fun p : Lat w1 => HF3.out p.wd)
      clear hc1 hc2 hc3 hc4
      go_wp2
      refine wp_region_lat (by kernel_rfl) (by kernel_rfl) ?_
      repeat (go_big_quiet_step (first | (go_at_call 37; first | with_reducible exact lat_calls (HC1.out _) | with_reducible exact lat_calls (HC2.out _)) | (go_at_call 77; exact lat_calls (HC3.out _))))
      refine wpQuiet_nil ?_
      intro _ hw'
      obtain ⟨⟨wq, hwq⟩, hw''⟩ := hw'
      subst hw''
      have ht := hbel1.trans (hwq.mono hbel1.size)
      clear f1 f2 f3 f4 HC1 HC2 HC3
      go_wp2
      go_roundw
      case rel => exact ⟨k + 1, u + 1, s1, by omega, by go_num, by go_num, by have := HU.out; omega, HP, ht⟩
      case measure => simp [intOf]; omega
    | @one _ e _ s1 t1 hi h2 he p q =>
      have q1 := (steps_small p).1
      have q2 := (steps_small q).1
      have hs_s1 := steps_bound p (by omega)
      have HBD := Lib.hid (bodiesAt_one b o n c rs ss k e wr (HS.out.below hbel) h40 hcap hlt (by omega) (by omega) he)
      obtain rfl : x = 2 := hop.symm.trans h2
      have HQ := Lib.hid q
      have hub : u + s1 + t1 + 1 < 3656158440062976 := by omega
      have HU := Lib.hid hut
      have HF1 : Hid (∀ w', Below w.heap.size w w' → Calls Try.prog 37 #[.slice (some ⟨b, o + (k + 1) * 4, none⟩) (e - (k + 1)) (c - (k + 1))] w' fun e w'' => e = .returned (.int .i64 (s1 : Int)) ∧ Below w'.heap.size w' w'') := Lib.hid (fun w' hw' => HI.out _ _ _ _ _ _ w' (by omega) (by omega) (by omega) ((HS.out.below hw').part (lo := k + 1) (hi := e) (by omega) (by omega)) (part_seg p (by rw [HL.out]; omega)))
      have HF2 : Hid (∀ w', Below w.heap.size w w' → Calls Try.prog 37 #[.slice none 0 0] w' fun e w'' => e = .returned (.int .i64 (0 : Int)) ∧ Below w'.heap.size w' w'') := Lib.hid (fun w' hw' => HN.out w')
      have HF3 : Hid (∀ w', Calls Try.prog 77 #[.agg #[.int .i64 2, .int .i64 y, .slice p1 m1 d1, .slice p2 m2 d2], .int .i64 (s1 : Int), .int .i64 (0 : Int)] w' fun e w'' => e = .returned (.int .i64 ((1 + s1 : Nat) : Int)) ∧ Below w'.heap.size w' w'') := Lib.hid (fun w' => (stepsWith_any 2 y p1 p2 m1 m2 d1 d2 s1 0 w' hs_s1 (by omega) (fun h => absurd h (by decide))).mono fun _ _ ⟨he, hb⟩ => ⟨by rw [he]; exact ret_int (by unfold stepI; rw [if_pos rfl]; omega), hb⟩)
      clear he h2 hop p q hut hbig
      go_wp2_with fail
      refine HBD.out.mono ?_
      rintro ed w1 ⟨rfl, hb1⟩
      have hbel1 := hbel.trans (hb1.mono hbel.size)
      have hbw1 : b < w1.heap.size := Nat.lt_of_lt_of_le hb hb1.size
      have f1 := lat_cell hbw1 ((hb1.cell hb).trans hc1)
      have f2 := lat_cell hbw1 ((hb1.cell hb).trans hc2)
      have f3 := lat_cell hbw1 ((hb1.cell hb).trans hc3)
      have f4 := lat_cell hbw1 ((hb1.cell hb).trans hc4)
      have HC1 := Lib.hid (fun p : Lat w1 => HF1.out p.wd (hbel1.trans (p.ok.mono hbel1.size)))
      have HC2 := Lib.hid (fun p : Lat w1 => HF2.out p.wd (hbel1.trans (p.ok.mono hbel1.size)))
      have HC3 := Lib.hid (fun p : Lat w1 => HF3.out p.wd)
      clear hc1 hc2 hc3 hc4
      go_wp2
      refine wp_region_lat (by kernel_rfl) (by kernel_rfl) ?_
      repeat (go_big_quiet_step (first | (go_at_call 37; first | with_reducible exact lat_calls (HC1.out _) | with_reducible exact lat_calls (HC2.out _)) | (go_at_call 77; exact lat_calls (HC3.out _))))
      refine wpQuiet_nil ?_
      intro _ hw'
      obtain ⟨⟨wq, hwq⟩, hw''⟩ := hw'
      subst hw''
      have ht := hbel1.trans (hwq.mono hbel1.size)
      clear f1 f2 f3 f4 HC1 HC2 HC3
      go_wp2
      go_roundw
      case rel => exact ⟨e + 1, u + (1 + s1), t1, by omega, by go_num, by go_num, by have := HU.out; omega, HQ, ht⟩
      case measure => simp [intOf]; omega
    | @two _ m e _ s1 s2 t1 hi h2 he p p' q =>
      have q1 := (steps_small p).1
      have q2 := (steps_small p').1
      have q3 := (steps_small q).1
      have hs_s1 := steps_bound p (by omega)
      have hs_s2 := steps_bound p' (by omega)
      have HBD := Lib.hid (bodiesAt_two b o n c rs ss k m e wr (HS.out.below hbel) h40 hcap (by omega) (by omega) (by omega) he)
      obtain rfl : x = 2 := hop.symm.trans h2
      have HQ := Lib.hid q
      have hub : u + max s1 s2 + t1 + 1 < 3656158440062976 := by omega
      have HU := Lib.hid hut
      have HF1 : Hid (∀ w', Below w.heap.size w w' → Calls Try.prog 37 #[.slice (some ⟨b, o + (k + 1) * 4, none⟩) (m - (k + 1)) (c - (k + 1))] w' fun e w'' => e = .returned (.int .i64 (s1 : Int)) ∧ Below w'.heap.size w' w'') := Lib.hid (fun w' hw' => HI.out _ _ _ _ _ _ w' (by omega) (by omega) (by omega) ((HS.out.below hw').part (lo := k + 1) (hi := m) (by omega) (by omega)) (part_seg p (by rw [HL.out]; omega)))
      have HF2 : Hid (∀ w', Below w.heap.size w w' → Calls Try.prog 37 #[.slice (some ⟨b, o + (m + 1) * 4, none⟩) (e - (m + 1)) (c - (m + 1))] w' fun e w'' => e = .returned (.int .i64 (s2 : Int)) ∧ Below w'.heap.size w' w'') := Lib.hid (fun w' hw' => HI.out _ _ _ _ _ _ w' (by omega) (by omega) (by omega) ((HS.out.below hw').part (lo := m + 1) (hi := e) (by omega) (by omega)) (part_seg p' (by rw [HL.out]; omega)))
      have HF3 : Hid (∀ w', Calls Try.prog 77 #[.agg #[.int .i64 2, .int .i64 y, .slice p1 m1 d1, .slice p2 m2 d2], .int .i64 (s1 : Int), .int .i64 (s2 : Int)] w' fun e w'' => e = .returned (.int .i64 ((1 + max s1 s2 : Nat) : Int)) ∧ Below w'.heap.size w' w'') := Lib.hid (fun w' => (stepsWith_any 2 y p1 p2 m1 m2 d1 d2 s1 s2 w' hs_s1 hs_s2 (fun h => absurd h (by decide))).mono fun _ _ ⟨he, hb⟩ => ⟨by rw [he]; exact ret_int (by unfold stepI; rw [if_pos rfl]; omega), hb⟩)
      clear he h2 hop p p' q hut hbig
      go_wp2_with fail
      refine HBD.out.mono ?_
      rintro ed w1 ⟨rfl, hb1⟩
      have hbel1 := hbel.trans (hb1.mono hbel.size)
      have hbw1 : b < w1.heap.size := Nat.lt_of_lt_of_le hb hb1.size
      have f1 := lat_cell hbw1 ((hb1.cell hb).trans hc1)
      have f2 := lat_cell hbw1 ((hb1.cell hb).trans hc2)
      have f3 := lat_cell hbw1 ((hb1.cell hb).trans hc3)
      have f4 := lat_cell hbw1 ((hb1.cell hb).trans hc4)
      have HC1 := Lib.hid (fun p : Lat w1 => HF1.out p.wd (hbel1.trans (p.ok.mono hbel1.size)))
      have HC2 := Lib.hid (fun p : Lat w1 => HF2.out p.wd (hbel1.trans (p.ok.mono hbel1.size)))
      have HC3 := Lib.hid (fun p : Lat w1 => HF3.out p.wd)
      clear hc1 hc2 hc3 hc4
      go_wp2
      refine wp_region_lat (by kernel_rfl) (by kernel_rfl) ?_
      repeat (go_big_quiet_step (first | (go_at_call 37; first | with_reducible exact lat_calls (HC1.out _) | with_reducible exact lat_calls (HC2.out _)) | (go_at_call 77; exact lat_calls (HC3.out _))))
      refine wpQuiet_nil ?_
      intro _ hw'
      obtain ⟨⟨wq, hwq⟩, hw''⟩ := hw'
      subst hw''
      have ht := hbel1.trans (hwq.mono hbel1.size)
      clear f1 f2 f3 f4 HC1 HC2 HC3
      go_wp2
      go_roundw
      case rel => exact ⟨e + 1, u + (1 + max s1 s2), t1, by omega, by go_num, by go_num, by have := HU.out; omega, HQ, ht⟩
      case measure => simp [intOf]; omega
    | @loop _ e _ kk s1 t1 hi h5 he hk h4 p q =>
      have q1 := (steps_small p).1
      have q2 := (steps_small q).1
      have hs_s1 := steps_bound p (by omega)
      have HBD := Lib.hid (bodiesAt_one b o n c rs ss k e wr (HS.out.below hbel) h40 hcap hlt (by omega) (by omega) he)
      obtain rfl : x = 5 := hop.symm.trans h5
      obtain rfl : y = (kk : Int) := by rw [hz.out] at hk; exact hk
      have HQ := Lib.hid q
      obtain ⟨X, HX⟩ : ∃ X : Nat, Hid (kk * (1 + s1) = X) := ⟨_, Lib.hid rfl⟩
      have hub : u + X + t1 + 1 < 3656158440062976 := by rw [HX.out] at hut; omega
      have HU := Lib.hid hut
      rw [HX.out] at HU
      have hmul : (kk : Int) * (1 + (s1 : Int)) = (X : Int) := by rw [← HX.out]; push_cast; rfl
      have HF1 : Hid (∀ w', Below w.heap.size w w' → Calls Try.prog 37 #[.slice (some ⟨b, o + (k + 1) * 4, none⟩) (e - (k + 1)) (c - (k + 1))] w' fun e w'' => e = .returned (.int .i64 (s1 : Int)) ∧ Below w'.heap.size w' w'') := Lib.hid (fun w' hw' => HI.out _ _ _ _ _ _ w' (by omega) (by omega) (by omega) ((HS.out.below hw').part (lo := k + 1) (hi := e) (by omega) (by omega)) (part_seg p (by rw [HL.out]; omega)))
      have HF2 : Hid (∀ w', Below w.heap.size w w' → Calls Try.prog 37 #[.slice none 0 0] w' fun e w'' => e = .returned (.int .i64 (0 : Int)) ∧ Below w'.heap.size w' w'') := Lib.hid (fun w' hw' => HN.out w')
      have HF3 : Hid (∀ w', Calls Try.prog 77 #[.agg #[.int .i64 5, .int .i64 (kk : Int), .slice p1 m1 d1, .slice p2 m2 d2], .int .i64 (s1 : Int), .int .i64 (0 : Int)] w' fun e w'' => e = .returned (.int .i64 ((1 + X : Nat) : Int)) ∧ Below w'.heap.size w' w'') := Lib.hid (fun w' => (stepsWith_any 5 (kk : Int) p1 p2 m1 m2 d1 d2 s1 0 w' hs_s1 (by omega) (fun _ => ⟨kk, h4, rfl⟩)).mono fun _ _ ⟨he, hb⟩ => ⟨by rw [he]; exact ret_int (by unfold stepI; rw [if_neg (by decide), if_pos rfl, hmul]; omega), hb⟩)
      clear he h5 hop p q hut hbig hk hmul
      go_wp2_with fail
      refine HBD.out.mono ?_
      rintro ed w1 ⟨rfl, hb1⟩
      have hbel1 := hbel.trans (hb1.mono hbel.size)
      have hbw1 : b < w1.heap.size := Nat.lt_of_lt_of_le hb hb1.size
      have f1 := lat_cell hbw1 ((hb1.cell hb).trans hc1)
      have f2 := lat_cell hbw1 ((hb1.cell hb).trans hc2)
      have f3 := lat_cell hbw1 ((hb1.cell hb).trans hc3)
      have f4 := lat_cell hbw1 ((hb1.cell hb).trans hc4)
      have HC1 := Lib.hid (fun p : Lat w1 => HF1.out p.wd (hbel1.trans (p.ok.mono hbel1.size)))
      have HC2 := Lib.hid (fun p : Lat w1 => HF2.out p.wd (hbel1.trans (p.ok.mono hbel1.size)))
      have HC3 := Lib.hid (fun p : Lat w1 => HF3.out p.wd)
      clear hc1 hc2 hc3 hc4
      go_wp2
      refine wp_region_lat (by kernel_rfl) (by kernel_rfl) ?_
      repeat (go_big_quiet_step (first | (go_at_call 37; first | with_reducible exact lat_calls (HC1.out _) | with_reducible exact lat_calls (HC2.out _)) | (go_at_call 77; exact lat_calls (HC3.out _))))
      refine wpQuiet_nil ?_
      intro _ hw'
      obtain ⟨⟨wq, hwq⟩, hw''⟩ := hw'
      subst hw''
      have ht := hbel1.trans (hwq.mono hbel1.size)
      clear f1 f2 f3 f4 HC1 HC2 HC3
      go_wp2
      go_roundw
      case rel => exact ⟨e + 1, u + (1 + X), t1, by omega, by go_num, by go_num, by have := HU.out; omega, HQ, ht⟩
      case measure => simp [intOf]; omega
    | @attempt _ m e _ s1 s2 t1 hi h8 he p p' q =>
      have q1 := (steps_small p).1
      have q2 := (steps_small p').1
      have q3 := (steps_small q).1
      have hs_s1 := steps_bound p (by omega)
      have hs_s2 := steps_bound p' (by omega)
      have HBD := Lib.hid (bodiesAt_two b o n c rs ss k m e wr (HS.out.below hbel) h40 hcap (by omega) (by omega) (by omega) he)
      obtain rfl : x = 8 := hop.symm.trans h8
      have HQ := Lib.hid q
      have hub : u + s1 + s2 + t1 + 1 < 3656158440062976 := by omega
      have HU := Lib.hid hut
      have HF1 : Hid (∀ w', Below w.heap.size w w' → Calls Try.prog 37 #[.slice (some ⟨b, o + (k + 1) * 4, none⟩) (m - (k + 1)) (c - (k + 1))] w' fun e w'' => e = .returned (.int .i64 (s1 : Int)) ∧ Below w'.heap.size w' w'') := Lib.hid (fun w' hw' => HI.out _ _ _ _ _ _ w' (by omega) (by omega) (by omega) ((HS.out.below hw').part (lo := k + 1) (hi := m) (by omega) (by omega)) (part_seg p (by rw [HL.out]; omega)))
      have HF2 : Hid (∀ w', Below w.heap.size w w' → Calls Try.prog 37 #[.slice (some ⟨b, o + (m + 1) * 4, none⟩) (e - (m + 1)) (c - (m + 1))] w' fun e w'' => e = .returned (.int .i64 (s2 : Int)) ∧ Below w'.heap.size w' w'') := Lib.hid (fun w' hw' => HI.out _ _ _ _ _ _ w' (by omega) (by omega) (by omega) ((HS.out.below hw').part (lo := m + 1) (hi := e) (by omega) (by omega)) (part_seg p' (by rw [HL.out]; omega)))
      have HF3 : Hid (∀ w', Calls Try.prog 77 #[.agg #[.int .i64 8, .int .i64 y, .slice p1 m1 d1, .slice p2 m2 d2], .int .i64 (s1 : Int), .int .i64 (s2 : Int)] w' fun e w'' => e = .returned (.int .i64 ((1 + s1 + s2 : Nat) : Int)) ∧ Below w'.heap.size w' w'') := Lib.hid (fun w' => (stepsWith_any 8 y p1 p2 m1 m2 d1 d2 s1 s2 w' hs_s1 hs_s2 (fun h => absurd h (by decide))).mono fun _ _ ⟨he, hb⟩ => ⟨by rw [he]; exact ret_int (by unfold stepI; rw [if_neg (by decide), if_neg (by decide)]; omega), hb⟩)
      clear he h8 hop p p' q hut hbig
      go_wp2_with fail
      refine HBD.out.mono ?_
      rintro ed w1 ⟨rfl, hb1⟩
      have hbel1 := hbel.trans (hb1.mono hbel.size)
      have hbw1 : b < w1.heap.size := Nat.lt_of_lt_of_le hb hb1.size
      have f1 := lat_cell hbw1 ((hb1.cell hb).trans hc1)
      have f2 := lat_cell hbw1 ((hb1.cell hb).trans hc2)
      have f3 := lat_cell hbw1 ((hb1.cell hb).trans hc3)
      have f4 := lat_cell hbw1 ((hb1.cell hb).trans hc4)
      have HC1 := Lib.hid (fun p : Lat w1 => HF1.out p.wd (hbel1.trans (p.ok.mono hbel1.size)))
      have HC2 := Lib.hid (fun p : Lat w1 => HF2.out p.wd (hbel1.trans (p.ok.mono hbel1.size)))
      have HC3 := Lib.hid (fun p : Lat w1 => HF3.out p.wd)
      clear hc1 hc2 hc3 hc4
      go_wp2
      refine wp_region_lat (by kernel_rfl) (by kernel_rfl) ?_
      repeat (go_big_quiet_step (first | (go_at_call 37; first | with_reducible exact lat_calls (HC1.out _) | with_reducible exact lat_calls (HC2.out _)) | (go_at_call 77; exact lat_calls (HC3.out _))))
      refine wpQuiet_nil ?_
      intro _ hw'
      obtain ⟨⟨wq, hwq⟩, hw''⟩ := hw'
      subst hw''
      have ht := hbel1.trans (hwq.mono hbel1.size)
      clear f1 f2 f3 f4 HC1 HC2 HC3
      go_wp2
      go_roundw
      case rel => exact ⟨e + 1, u + (1 + s1 + s2), t1, by omega, by go_num, by go_num, by have := HU.out; omega, HQ, ht⟩
      case measure => simp [intOf]; omega
theorem stepsIn_all : ∀ N, StepsInAt N
  | 0 => fun _ _ _ _ _ _ _ h => absurd h (by omega)
  | N + 1 => stepsIn_step N (Lib.hid (stepsIn_all N))
theorem stepsIn_any (a : Option Addr) (n c : Nat) (rs : List SRow) (ss : List Stm) (s : Nat) (w : World) (h40 : n ≤ 40) (hcap : n ≤ c) (h : Stmts w a n rs ss) (hst : Steps ss 0 n s) :
    Calls Try.prog 37 #[.slice a n c] w fun e w' => e = .returned (.int .i64 (s : Int)) ∧ Below w.heap.size w w' := stepsIn_all (n + 1) a n c rs ss s w (by omega) h40 hcap h hst
end Go.Proofs.Yteigeihbokkpiaa
