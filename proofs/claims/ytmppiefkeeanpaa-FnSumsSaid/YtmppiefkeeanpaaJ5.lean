/- Joined texts of this proof (SpecStepsOf, StmtEq, ProgCopies, ProgEq), in build order. -/
import Derived.Test.YtmppiefkeeanpaaJ4
import Derived.Test.YtmppiefkeeanpaaJ1
/- The contract of the model's l3Steps. -/
namespace Go.Proofs.Ytmppiefkeeanpaa
open Go.RowKit

theorem steps_none {ss : List Stm} {i t : Nat} (h : Steps ss i i t) : t = 0 := by
  cases h with
  | nil => rfl
  | plain _ _ _ _ p => have := (steps_small p).1; omega
  | one _ _ _ p q => have := (steps_small p).1; have := (steps_small q).1; omega
  | two _ _ _ p p' q => have := (steps_small p).1; have := (steps_small p').1; have := (steps_small q).1; omega
  | loop _ _ _ _ _ p q => have := (steps_small p).1; have := (steps_small q).1; omega
  | attempt _ _ _ p p' q => have := (steps_small p).1; have := (steps_small p').1; have := (steps_small q).1; omega
theorem end_plain {ss : List Stm} {i : Nat} (hi : i < ss.length) (h2 : opAt ss i ≠ 2) (h5 : opAt ss i ≠ 5) (h8 : opAt ss i ≠ 8) : endOf ss i = (-1, -1) := by
  rw [end_eq hi rfl, if_neg h5, if_neg h2, if_neg h8]
theorem Stmts.still {w w' : World} {a : Option Addr} {n : Nat} {rs : List SRow} {ss : List Stm} (h : Stmts w a n rs ss) (hs : Still w w') : Stmts w' a n rs ss := h.below (hs.below _)
theorem l1Max_any (x y : Int) (w : World) : Calls Try.prog 100 #[.int .i64 x, .int .i64 y] w fun e w' => e = .returned (.int .i64 (max x y)) ∧ w = w' := by
  by_cases h : x > y
  · go_enter Try.func100, Try.ntmps100
    go_wp2
    go_ret
    exact ⟨ret_int (by omega), rfl⟩
  · go_enter Try.func100, Try.ntmps100
    go_wp2
    go_ret
    exact ⟨ret_int (by omega), rfl⟩
/-- The contract, at a part. -/
def StepsAt (a : Option Addr) (n c : Nat) (rs : List SRow) (ss : List Stm) (i : Nat) : Prop :=
  ∀ (w : World) (j s : Nat), Stmts w a n rs ss → j ≤ n → Steps ss i j s → Calls Try.prog 83 #[.slice a n c, .int .i64 (i : Int), .int .i64 (j : Int)] w fun e w' => e = .returned (.int .i64 (s : Int)) ∧ Still w w'
theorem StepsAt.succ {a : Option Addr} {n c : Nat} {rs : List SRow} {ss : List Stm} {i : Nat} (h : StepsAt a n c rs ss (i + 1)) (w : World) (j s : Nat) (hs : Stmts w a n rs ss) (hj : j ≤ n) (ht : Steps ss (i + 1) j s) :
    Calls Try.prog 83 #[.slice a n c, .int .i64 ((i : Int) + 1), .int .i64 (j : Int)] w fun e w' => e = .returned (.int .i64 (s : Int)) ∧ Still w w' := by
  have := h w j s hs hj ht
  rwa [show ((i + 1 : Nat) : Int) = (i : Int) + 1 by omega] at this
set_option maxRecDepth 20000 in
set_option maxHeartbeats 1600000 in
theorem steps_at (a : Option Addr) (n c : Nat) (rs : List SRow) (ss : List Stm) (i : Nat) (h40 : n ≤ 40) (HI : Hid (∀ k, i < k → StepsAt a n c rs ss k)) : StepsAt a n c rs ss i := by
  intro w j s h hj hst
  have hbig := steps_bound hst (by omega)
  have hij := (steps_small hst).1
  have HL := Lib.hid h.2.1
  go_enter Try.func83, Try.ntmps83
  go_wp2
  go_loopw [7, 8] (fun q x wr => ∃ k u t : Nat, i ≤ k ∧ k ≤ j ∧ x = .int .i64 (k : Int) ∧ q = .int .i64 (u : Int) ∧ u + t = s ∧ Hid (Steps ss k j t) ∧ Still w wr) (fun _ x _ => j - (intOf x).toNat)
  case atStart => exact ⟨i, 0, s, Nat.le_refl _, hij, rfl, rfl, by omega, Lib.hid hst, Still.refl _⟩
  case round =>
    clear hst
    obtain ⟨k, u, t, hik, hkj, rfl, rfl, hut, HT, hstill⟩ := hrel
    have h' := h.still hstill
    by_cases hlt : k < j
    case neg =>
      obtain rfl : k = j := by omega
      have h0 := steps_none HT.out
      subst h0
      have e0 : u = s := by omega
      subst e0
      clear h'
      go_wp2
      go_ret
      exact ⟨rfl, hstill⟩
    have hend := l3End_any a n c rs ss k wr h' (by omega)
    obtain ⟨b, o, x, y, _, _, _, _, _, _, ts, us, rfl, hb, hz, hin1, hin2, hc1, hc2, _⟩ := h'.at_ (k := k) (by omega)
    have hop : opAt ss k = x := by rw [opAt, hz.out]
    have HS := Lib.hid h'
    clear h'
    have hst := HT.out
    clear HT
    cases hst with
    | nil => omega
    | @plain _ _ s1 hi h2 h5 h8 p =>
      rw [end_plain hi h2 h5 h8] at hend
      rw [hop] at h2 h5 h8
      have k2 : (x == 2) = false := by simpa using h2
      have k5 : (x == 5) = false := by simpa using h5
      have k8 : (x == 8) = false := by simpa using h8
      have HP := Lib.hid p
      have HC := Lib.hid hend
      have hub : u + s1 + 1 < 3656158440062976 := by omega
      have HU := Lib.hid hut
      clear hend h2 h5 h8 hop hc2 p hut hbig
      go_wp2_with (go_at_call 99; refine HC.out.mono ?_; rintro e w' ⟨rfl, rfl⟩)
      go_roundw
      case rel => exact ⟨k + 1, u + 1, s1, by omega, by omega, by go_num, by go_num, by have := HU.out; omega, HP, hstill⟩
      case measure => simp [intOf]; omega
    | @one _ e _ s1 t1 hi h2 he p q =>
      rw [he] at hend
      obtain rfl : x = 2 := hop.symm.trans h2
      have q1 := (steps_small p).1
      have q2 := (steps_small q).1
      have HP := Lib.hid ((HI.out (k + 1) (by omega)).succ wr e s1 HS.out (by omega) p)
      have HQ := Lib.hid q
      have HC := Lib.hid hend
      have hub : u + s1 + t1 + 1 < 3656158440062976 := by omega
      have HU := Lib.hid hut
      clear hend he h2 hop hc2 p q hut hbig
      go_wp2_with (go_at_call 99; refine HC.out.mono ?_; rintro e w' ⟨rfl, rfl⟩)
      refine HP.out.mono ?_
      rintro e w1 ⟨rfl, hw1⟩
      have hst2 := hstill.trans hw1
      go_wp2
      go_roundw
      case rel => exact ⟨e + 1, u + 1 + s1, t1, by omega, by omega, by go_num, by go_num, by have := HU.out; omega, HQ, hst2⟩
      case measure => simp [intOf]; omega
    | @two _ m e _ s1 s2 t1 hi h2 he p p' q =>
      rw [he] at hend
      obtain rfl : x = 2 := hop.symm.trans h2
      have q1 := (steps_small p).1
      have q2 := (steps_small p').1
      have q3 := (steps_small q).1
      have HP := Lib.hid ((HI.out (k + 1) (by omega)).succ wr m s1 HS.out (by omega) p)
      have HP2 : Hid (∀ w', Still wr w' → Calls Try.prog 83 #[.slice (some ⟨b, o, none⟩) n c, .int .i64 ((m : Int) + 1), .int .i64 (e : Int)] w' fun e w'' => e = .returned (.int .i64 (s2 : Int)) ∧ Still w' w'') := Lib.hid (fun w' hw' => (HI.out (m + 1) (by omega)).succ w' e s2 (HS.out.still hw') (by omega) p')
      have HQ := Lib.hid q
      have HC := Lib.hid hend
      have hub : u + max s1 s2 + t1 + 1 < 3656158440062976 := by omega
      have HU := Lib.hid hut
      clear hend he h2 hop hc2 p p' q hut hbig
      go_wp2_with (go_at_call 99; refine HC.out.mono ?_; rintro e w' ⟨rfl, rfl⟩)
      refine HP.out.mono ?_
      rintro e w1 ⟨rfl, hw1⟩
      have hst2 := hstill.trans hw1
      go_wp2_with fail
      refine (HP2.out _ hw1).mono ?_
      rintro e w2 ⟨rfl, hw2⟩
      have hst3 := hst2.trans hw2
      go_wp2_with (go_at_call 100; refine (l1Max_any _ _ _).mono ?_; rintro e w' ⟨rfl, rfl⟩; rw [show max (s1 : Int) (s2 : Int) = ((max s1 s2 : Nat) : Int) by omega])
      go_roundw
      case rel => exact ⟨e + 1, u + 1 + max s1 s2, t1, by omega, by omega, by go_num, by go_num, by have := HU.out; omega, HQ, hst3⟩
      case measure => simp [intOf]; omega
    | @loop _ e _ kk s1 t1 hi h5 he hk h4 p q =>
      rw [he] at hend
      obtain rfl : x = 5 := hop.symm.trans h5
      obtain rfl : y = (kk : Int) := by rw [hz.out] at hk; exact hk
      have q1 := (steps_small p).1
      have q2 := (steps_small q).1
      have HP : Hid (∀ w', Still wr w' → Calls Try.prog 83 #[.slice (some ⟨b, o, none⟩) n c, .int .i64 ((k : Int) + 1), .int .i64 (e : Int)] w' fun e w'' => e = .returned (.int .i64 (s1 : Int)) ∧ Still w' w'') := Lib.hid (fun w' hw' => (HI.out (k + 1) (by omega)).succ w' e s1 (HS.out.still hw') (by omega) p)
      have HQ := Lib.hid q
      have HC := Lib.hid hend
      obtain ⟨X, HX⟩ : ∃ X : Nat, Hid (kk * (1 + s1) = X) := ⟨_, Lib.hid rfl⟩
      have hub : u + X + t1 + 1 < 3656158440062976 := by rw [HX.out] at hut; omega
      have hs1 := steps_bound p (by omega)
      have HU := Lib.hid hut
      rw [HX.out] at HU
      have hmul : (kk : Int) * (1 + (s1 : Int)) = (X : Int) := by rw [← HX.out]; push_cast; rfl
      have f1 : ∀ n, (wr.drewN n).cell? ⟨b, o + k * 4, none⟩ = some (.int .i64 5) := fun _ => hc1
      have f2 : ∀ n, (wr.drewN n).cell? ⟨b, o + k * 4 + 1, none⟩ = some (.int .i64 (kk : Int)) := fun _ => hc2
      clear hend he h5 hop p q hut hbig hk
      go_wp2_with (go_at_call 99; refine HC.out.mono ?_; rintro e w' ⟨rfl, rfl⟩)
      go_quiet ((go_at_call 83; exact still_quiet (HP.out _ (Still.drew _ _))))
      clear f1 f2 hc1 hc2 hmul
      go_wp2
      go_roundw
      case rel => exact ⟨e + 1, u + 1 + X, t1, by omega, by omega, by go_num, by go_num, by have := HU.out; omega, HQ, hstill.draw _⟩
      case measure => simp [intOf]; omega
    | @attempt _ m e _ s1 s2 t1 hi h8 he p p' q =>
      rw [he] at hend
      obtain rfl : x = 8 := hop.symm.trans h8
      have q1 := (steps_small p).1
      have q2 := (steps_small p').1
      have q3 := (steps_small q).1
      have HP := Lib.hid ((HI.out (k + 1) (by omega)).succ wr m s1 HS.out (by omega) p)
      have HP2 : Hid (∀ w', Still wr w' → Calls Try.prog 83 #[.slice (some ⟨b, o, none⟩) n c, .int .i64 ((m : Int) + 1), .int .i64 (e : Int)] w' fun e w'' => e = .returned (.int .i64 (s2 : Int)) ∧ Still w' w'') := Lib.hid (fun w' hw' => (HI.out (m + 1) (by omega)).succ w' e s2 (HS.out.still hw') (by omega) p')
      have HQ := Lib.hid q
      have HC := Lib.hid hend
      have hub : u + s1 + s2 + t1 + 1 < 3656158440062976 := by omega
      have HU := Lib.hid hut
      clear hend he h8 hop hc2 p p' q hut hbig
      go_wp2_with (go_at_call 99; refine HC.out.mono ?_; rintro e w' ⟨rfl, rfl⟩)
      refine HP.out.mono ?_
      rintro e w1 ⟨rfl, hw1⟩
      have hst2 := hstill.trans hw1
      go_wp2_with fail
      refine (HP2.out _ hw1).mono ?_
      rintro e w2 ⟨rfl, hw2⟩
      have hst3 := hst2.trans hw2
      go_wp2
      go_roundw
      case rel => exact ⟨e + 1, u + 1 + s1 + s2, t1, by omega, by omega, by go_num, by go_num, by have := HU.out; omega, HQ, hst3⟩
      case measure => simp [intOf]; omega
theorem steps_all (a : Option Addr) (n c : Nat) (rs : List SRow) (ss : List Stm) (h40 : n ≤ 40) : ∀ (d i : Nat), n - i ≤ d → StepsAt a n c rs ss i
  | 0, i, hd => by
    refine steps_at a n c rs ss i h40 (Lib.hid (fun k hk => ?_))
    intro w j s h hj hst
    have := (steps_small hst).1
    omega
  | d + 1, i, hd => by
    refine steps_at a n c rs ss i h40 (Lib.hid (fun k hk => ?_))
    exact steps_all a n c rs ss h40 d k (by omega)
theorem l3Steps_any (a : Option Addr) (n c : Nat) (rs : List SRow) (ss : List Stm) (i j s : Nat) (w : World) (h : Stmts w a n rs ss) (h40 : n ≤ 40) (hj : j ≤ n) (hs : Steps ss i j s) :
    Calls Try.prog 83 #[.slice a n c, .int .i64 (i : Int), .int .i64 (j : Int)] w fun e w' => e = .returned (.int .i64 (s : Int)) ∧ Still w w' := steps_all a n c rs ss h40 _ i (Nat.le_refl _) w j s h hj hs
end Go.Proofs.Ytmppiefkeeanpaa
/- The contracts of the laws' own comparisons of Stmts and of slices of Stmts. -/
namespace Go.Proofs.Ytmppiefkeeanpaa
open Go.RowKit

theorem stm_ne {x y x' y' : Int} {ts us ts' us' : List Tm} (h : ¬ (x = x' ∧ y = y' ∧ ts = ts' ∧ us = us')) : decide ((⟨x, y, ts, us⟩ : Stm) = ⟨x', y', ts', us'⟩) = false :=
  decide_eq_false (fun e => h (by injection e with e1 e2 e3 e4; exact ⟨e1, e2, e3, e4⟩))
set_option maxHeartbeats 1600000 in
theorem eqStmt_any (x y x' y' : Int) (a1 a2 b1 b2 : Option Addr) (n1 n2 m1 m2 c1 c2 d1 d2 : Nat) (ts us ts' us' : List Tm) (w : World) (h1 : Terms w a1 n1 ts) (h2 : Terms w a2 n2 us) (h3 : Terms w b1 m1 ts') (h4 : Terms w b2 m2 us') :
    Calls Try.prog 77 #[.agg #[.int .i64 x, .int .i64 y, .slice a1 n1 c1, .slice a2 n2 c2], .agg #[.int .i64 x', .int .i64 y', .slice b1 m1 d1, .slice b2 m2 d2]] w fun e w' => e = .returned (.bool (decide ((⟨x, y, ts, us⟩ : Stm) = ⟨x', y', ts', us'⟩))) ∧ Below w.heap.size w w' := by
  have HB : Below w.heap.size w ((w.alloc (.cells #[.int .i64 x, .int .i64 y, .slice a1 n1 c1, .slice a2 n2 c2] 72)).alloc (.cells #[.int .i64 x', .int .i64 y', .slice b1 m1 d1, .slice b2 m2 d2] 72)) := ((Below.refl _ _).alloc (Nat.le_refl _) _).alloc (by simp) _
  by_cases e1 : x = x'
  · subst e1
    have hne0 : (x != x) = false := by simp
    by_cases e2 : y = y'
    · subst e2
      have hne1 : (y != y) = false := by simp
      have b0 : Blk ((w.alloc (.cells #[.int .i64 x, .int .i64 y, .slice a1 n1 c1, .slice a2 n2 c2] 72)).alloc (.cells #[.int .i64 x, .int .i64 y, .slice b1 m1 d1, .slice b2 m2 d2] 72)) w.heap.size 72 [.int .i64 x, .int .i64 y, .slice a1 n1 c1, .slice a2 n2 c2] := (Blk.new w _ _).alloc _
      have b1' : Blk ((w.alloc (.cells #[.int .i64 x, .int .i64 y, .slice a1 n1 c1, .slice a2 n2 c2] 72)).alloc (.cells #[.int .i64 x, .int .i64 y, .slice b1 m1 d1, .slice b2 m2 d2] 72)) (w.heap.size + 1) 72 [.int .i64 x, .int .i64 y, .slice b1 m1 d1, .slice b2 m2 d2] := by simpa using Blk.new (w.alloc _) 72 [.int .i64 x, .int .i64 y, .slice b1 m1 d1, .slice b2 m2 d2]
      have H0 := Lib.hid b0
      have H1 := Lib.hid b1'
      have HH := Lib.hid HB
      clear b0 b1' HB
      go_enter Try.func77, Try.ntmps77
      go_wp2_with fail
      refine (eqTermS_any _ _ _ _ _ _ _ _ _ (h1.below (Nat.le_refl _) HH.out) (h3.below (Nat.le_refl _) HH.out)).mono ?_
      rintro e w1 ⟨rfl, hb1⟩
      have q0 := (H0.out.below hb1 H0.out.lt).cell (j := 3) rfl
      have q1 := (H1.out.below hb1 H1.out.lt).cell (j := 3) rfl
      have hbel := HH.out.trans (hb1.mono HH.out.size)
      clear H0 H1 HH hb1 h1 h3
      by_cases e3 : ts = ts'
      · subst e3
        rw [decide_eq_true (rfl : ts = ts)]
        go_wp2_with fail
        refine (eqTermS_any _ _ _ _ _ _ _ _ _ (h2.below (Nat.le_refl _) hbel) (h4.below (Nat.le_refl _) hbel)).mono ?_
        rintro e w2 ⟨rfl, hb2⟩
        have hbel2 := hbel.trans (hb2.mono hbel.size)
        clear q0 q1 hb2 h2 h4 hbel
        by_cases e4 : us = us'
        · subst e4
          rw [decide_eq_true (rfl : us = us)]
          go_wp2
          go_ret
          exact ⟨ret_bool (by simp), hbel2⟩
        · rw [decide_eq_false e4]
          go_wp2
          go_ret
          exact ⟨ret_bool (stm_ne (fun h => e4 h.2.2.2)).symm, hbel2⟩
      · rw [decide_eq_false e3]
        go_wp2
        go_ret
        exact ⟨ret_bool (stm_ne (fun h => e3 h.2.2.1)).symm, hbel⟩
    · have hne1 : (y != y') = true := by simpa using e2
      go_enter Try.func77, Try.ntmps77
      go_wp2
      go_ret
      exact ⟨ret_bool (stm_ne (fun h => e2 h.2.1)).symm, HB⟩
  · have hne1 : (x != x') = true := by simpa using e1
    go_enter Try.func77, Try.ntmps77
    go_wp2
    go_ret
    exact ⟨ret_bool (stm_ne (fun h => e1 h.1)).symm, HB⟩
/-- The first k are alike. -/
def EqSt (xs ys : List Stm) (k : Nat) : Prop := ∀ i, i < k → stAt xs i = stAt ys i
theorem EqSt.zero (xs ys : List Stm) : EqSt xs ys 0 := fun i hi => absurd hi (by omega)
theorem EqSt.succ {xs ys : List Stm} {k : Nat} {t u : Stm} (h : EqSt xs ys k) (hx : Hid (stAt xs k = t)) (hy : Hid (stAt ys k = u)) (e : t = u) : EqSt xs ys (k + 1) := by
  intro i hi
  rcases Nat.lt_or_ge i k with hlt | hge
  · exact h i hlt
  · have : i = k := by omega
    subst this; rw [hx.out, hy.out]; exact e
theorem eqSt_all {xs ys : List Stm} (hl : xs.length = ys.length) (h : EqSt xs ys xs.length) : xs = ys := by
  apply List.ext_getElem hl
  intro i h1 h2
  have := h i h1
  simpa [stAt, List.getD_eq_getElem?_getD, h1, h2] using this
set_option maxHeartbeats 1600000 in
theorem eqStmtS_any (a b : Option Addr) (n m c d : Nat) (rs qs : List SRow) (xs ys : List Stm) (w : World) (hx : Stmts w a n rs xs) (hy : Stmts w b m qs ys) :
    Calls Try.prog 56 #[.slice a n c, .slice b m d] w fun e w' => e = .returned (.bool (decide (xs = ys))) ∧ Below w.heap.size w w' := by
  have HL := Lib.hid hx.2.1
  have HM := Lib.hid hy.2.1
  have hbd := hx.2.2.1
  have hbe := hy.2.2.1
  by_cases hnm : n = m
  · subst hnm
    have hne0 : ((n : Int) != (n : Int)) = false := by simp
    go_enter Try.func56, Try.ntmps56
    go_wp2
    go_loopw [5] (fun i wr => ∃ k : Nat, k ≤ n ∧ i = .int .i64 k ∧ EqSt xs ys k ∧ Below w.heap.size w wr) (fun i _ => n - (intOf i).toNat)
    case atStart => exact ⟨0, Nat.zero_le _, rfl, EqSt.zero _ _, Below.refl _ _⟩
    case round =>
      obtain ⟨k, hk, rfl, hg, hbel⟩ := hrel
      by_cases hlt : k < n
      · obtain ⟨b1, o1, x1, y1, p1, n1, c1, p2, n2, c2, ts, us, rfl, hb1, hxk, hin1, hin2, hc1, hc2, hc3, hc4, hT1, hT2⟩ := (hx.below hbel).at_ hlt
        obtain ⟨b2, o2, x2, y2, p3, n3, c3, p4, n4, c4, ts', us', rfl, hb2, hyk, hin3, hin4, hc5, hc6, hc7, hc8, hT3, hT4⟩ := (hy.below hbel).at_ hlt
        have f1 := lat_cell hb1 hc1
        have f2 := lat_cell hb1 hc2
        have f3 := lat_cell hb1 hc3
        have f4 := lat_cell hb1 hc4
        have f5 := lat_cell hb2 hc5
        have f6 := lat_cell hb2 hc6
        have f7 := lat_cell hb2 hc7
        have f8 := lat_cell hb2 hc8
        clear hc1 hc2 hc3 hc4 hc5 hc6 hc7 hc8
        obtain ⟨q, HQ⟩ : ∃ q, Hid (decide ((⟨x1, y1, ts, us⟩ : Stm) = ⟨x2, y2, ts', us'⟩) = q) := ⟨_, rfl⟩
        have hcon : ∀ p : Lat wr, Calls Try.prog 77 #[.agg #[.int .i64 x1, .int .i64 y1, .slice p1 n1 c1, .slice p2 n2 c2], .agg #[.int .i64 x2, .int .i64 y2, .slice p3 n3 c3, .slice p4 n4 c4]] p.wd fun e w' => e = .returned (.bool q) ∧ Below p.wd.heap.size p.wd w' := fun p => by
          rw [← HQ.out]; exact eqStmt_any _ _ _ _ _ _ _ _ _ _ _ _ _ _ _ _ _ _ _ _ _ (hT1.below (Nat.le_refl _) p.ok) (hT2.below (Nat.le_refl _) p.ok) (hT3.below (Nat.le_refl _) p.ok) (hT4.below (Nat.le_refl _) p.ok)
        have HC := Lib.hid hcon
        clear hcon hT1 hT2 hT3 hT4
        cases q with
        | true =>
          have HE := Lib.hid (of_decide_eq_true HQ.out)
          go_wp2
          refine wp_region_lat (by kernel_rfl) (by kernel_rfl) ?_
          repeat (quiet_step ((go_at_call 77; exact lat_calls (HC.out _))))
          refine wpQuiet_nil ?_
          intro _ hw'
          obtain ⟨⟨wq, hwq⟩, hw''⟩ := hw'
          subst hw''
          have ht := hbel.trans (hwq.mono hbel.size)
          clear f1 f2 f3 f4 f5 f6 f7 f8 HC
          go_wp2
          go_roundw
          case rel => exact ⟨k + 1, by omega, by go_num, hg.succ hxk hyk HE.out, ht⟩
          case measure => simp [intOf]; omega
        | false =>
          have HE := Lib.hid (of_decide_eq_false HQ.out)
          go_wp2
          refine wp_region_lat (by kernel_rfl) (by kernel_rfl) ?_
          repeat (quiet_step ((go_at_call 77; exact lat_calls (HC.out _))))
          refine wpQuiet_nil ?_
          intro _ hw'
          obtain ⟨⟨wq, hwq⟩, hw''⟩ := hw'
          subst hw''
          have ht := hbel.trans (hwq.mono hbel.size)
          clear f1 f2 f3 f4 f5 f6 f7 f8 HC
          go_wp2
          go_ret
          exact ⟨ret_bool (decide_eq_false (fun h => HE.out (by rw [← hxk.out, ← hyk.out, h]))).symm, ht⟩
      · obtain rfl : n = k := by omega
        go_wp2
        go_ret
        exact ⟨ret_bool (decide_eq_true (eqSt_all (HL.out.trans HM.out.symm) (by rw [HL.out]; exact hg))).symm, hbel⟩
  · have hne : ((n : Int) != (m : Int)) = true := by simp; omega
    go_enter Try.func56, Try.ntmps56
    go_wp2
    go_ret
    exact ⟨ret_bool (decide_eq_false (fun h => hnm (by rw [← HL.out, ← HM.out, h]))).symm, Below.refl _ _⟩
end Go.Proofs.Ytmppiefkeeanpaa
/- Words for programs (six cells: a number, two slices of Inputs, a number, a slice of numbers, a slice of Stmts); the contract of the laws' own copy of one (toProg). -/
namespace Go.Proofs.Ytmppiefkeeanpaa
open Go.RowKit

structure Prg where
  width : Int
  lows : List Tm
  secrets : List Tm
  temps : Int
  arrays : List Int
  body : List Stm
deriving DecidableEq
/-- Its six cells, and the cells of its statements. -/
structure PRow where
  width : Int
  lows : Sl
  secrets : Sl
  temps : Int
  arrays : Sl
  body : Sl
  rows : List SRow
def progV (r : PRow) : Value := .agg #[.int .i64 r.width, slV r.lows, slV r.secrets, .int .i64 r.temps, slV r.arrays, slV r.body]

/-- The cells r read as the program p. -/
structure ProgAt (w : World) (r : PRow) (p : Prg) : Prop where
  width : r.width = p.width
  temps : r.temps = p.temps
  inW : In64 p.width
  inT : In64 p.temps
  lows : Terms w r.lows.1 r.lows.2.1 p.lows
  secrets : Terms w r.secrets.1 r.secrets.2.1 p.secrets
  arrays : Ints w r.arrays.1 r.arrays.2.1 p.arrays
  body : Stmts w r.body.1 r.body.2.1 r.rows p.body
theorem ProgAt.below {w w' : World} {r : PRow} {p : Prg} (h : ProgAt w r p) (hb : Below w.heap.size w w') : ProgAt w' r p :=
  ⟨h.width, h.temps, h.inW, h.inT, h.lows.below (Nat.le_refl _) hb, h.secrets.below (Nat.le_refl _) hb, h.arrays.below hb, h.body.below hb⟩
/-- .. of the call's own, from block B on. -/
structure OwnProg (w : World) (B : Nat) (r : PRow) (p : Prg) : Prop where
  width : r.width = p.width
  temps : r.temps = p.temps
  inW : In64 p.width
  inT : In64 p.temps
  lows : OwnI w B r.lows.1 r.lows.2.1 r.lows.2.2 p.lows
  secrets : OwnI w B r.secrets.1 r.secrets.2.1 r.secrets.2.2 p.secrets
  arrays : Own w B r.arrays.1 r.arrays.2.1 r.arrays.2.2 p.arrays
  body : OwnStmts w B r.body.1 r.body.2.1 r.body.2.2 r.rows p.body
  apart : ∀ g, (slV r.lows).ownBlock = some g → (slV r.secrets).ownBlock ≠ some g
theorem OwnProg.reads {w : World} {B : Nat} {r : PRow} {p : Prg} (h : OwnProg w B r p) : ProgAt w r p :=
  ⟨h.width, h.temps, h.inW, h.inT, h.lows.terms, h.secrets.terms, h.arrays.ints, h.body.reads⟩
theorem OwnProg.below {w w' : World} {B : Nat} {r : PRow} {p : Prg} (h : OwnProg w B r p) (hb : Below w.heap.size w w') : OwnProg w' B r p :=
  ⟨h.width, h.temps, h.inW, h.inT, h.lows.below hb, h.secrets.below hb, h.arrays.below hb, h.body.below hb, h.apart⟩
theorem OwnProg.base {w : World} {B B' : Nat} {r : PRow} {p : Prg} (h : OwnProg w B r p) (hB : B' ≤ B) : OwnProg w B' r p :=
  ⟨h.width, h.temps, h.inW, h.inT, h.lows.base hB, h.secrets.base hB, h.arrays.base hB, h.body.base hB, h.apart⟩
/-- What a function that makes the program p leaves. -/
def MadeProg (w : World) (p : Prg) (e : Ending) (w' : World) : Prop :=
  ∃ r, e = .returned (progV r) ∧ OwnProg w' w.heap.size r p ∧ Below w.heap.size w w'

theorem OwnI.set {w : World} {B : Nat} {a : Option Addr} {n c : Nat} {ts : List Tm} (h : OwnI w B a n c ts) {b j : Nat} (hb : b < B) (v : Value) : OwnI (w.setCell ⟨b, j, none⟩ v) B a n c ts :=
  h.apart (grown_set _ _ _ _) (fun g hg e => by have := (h.block g hg).1; injection e with e; omega)
theorem Own.set {w : World} {B : Nat} {a : Option Addr} {n c : Nat} {zs : List Int} (h : Own w B a n c zs) {b j : Nat} (hb : b < B) (v : Value) : Own (w.setCell ⟨b, j, none⟩ v) B a n c zs :=
  h.other (grown_set _ _ _ _) (fun g e => by injection e with e; omega)
theorem OwnStmts.set {w : World} {B : Nat} {a : Option Addr} {n c : Nat} {rs : List SRow} {ss : List Stm} (h : OwnStmts w B a n c rs ss) {b j : Nat} (hb : b < B) (v : Value) : OwnStmts (w.setCell ⟨b, j, none⟩ v) B a n c rs ss := by
  refine ⟨h.1.kept (grown_set _ _ _ _) ?_, h.2.1, h.2.2.1, fun i hi => (h.2.2.2.1 i hi).set hb v, h.2.2.2.2⟩
  cases hv : (Value.slice a n c).ownBlock with
  | none => exact .inl rfl
  | some g =>
    refine .inr fun e => ?_
    have := (h.block g hv).1
    injection e with e
    omega

/-- The three blocks of a call of toProg: the argument's, the result's, the variable's. -/
structure PBox (w wi : World) (c0 c1 c2 : List Value) : Prop where
  arg : Blk wi w.heap.size 51 c0
  res : Blk wi (w.heap.size + 1) 31 c1
  out : Blk wi (w.heap.size + 2) 31 c2
  bel : Below w.heap.size w wi
theorem PBox.below {w wi wj : World} {c0 c1 c2 : List Value} (h : PBox w wi c0 c1 c2) (hb : Below wi.heap.size wi wj) : PBox w wj c0 c1 c2 :=
  ⟨h.arg.below hb h.arg.lt, h.res.below hb h.res.lt, h.out.below hb h.out.lt, h.bel.trans (hb.mono h.bel.size)⟩
theorem PBox.set {w wi : World} {c0 c1 c2 : List Value} (h : PBox w wi c0 c1 c2) (j : Nat) (v : Value) : PBox w (wi.setCell ⟨w.heap.size + 2, j, none⟩ v) c0 c1 (c2.set j v) :=
  ⟨h.arg.other (by omega) v, h.res.other (by omega) v, h.out.set v, below_set h.bel (by omega) v⟩
theorem PBox.lt {w wi : World} {c0 c1 c2 : List Value} (h : PBox w wi c0 c1 c2) : w.heap.size + 2 < wi.heap.size := h.out.lt
theorem pbox_new (w : World) (c0 c1 c2 : List Value) : PBox w (((w.alloc (.cells c0.toArray 51)).alloc (.cells c1.toArray 31)).alloc (.cells c2.toArray 31)) c0 c1 c2 :=
  ⟨((Blk.new w _ _).alloc _).alloc _, (by simpa using Blk.new (w.alloc _) 31 c1 : Blk _ _ _ _).alloc _, by simpa using Blk.new ((w.alloc _).alloc _) 31 c2, (((Below.refl _ _).alloc (Nat.le_refl _) _).alloc (by simp) _).alloc (by simp; omega) _⟩

set_option maxHeartbeats 3200000 in
theorem toProg_any (r : PRow) (p : Prg) (w : World) (h : ProgAt w r p) :
    Calls Try.prog 24 #[progV r] w (MadeProg w p) := by
  obtain ⟨wd, ⟨a1, n1, c1⟩, ⟨a2, n2, c2⟩, tp, ⟨a3, n3, c3⟩, ⟨a4, n4, c4⟩, rows⟩ := r
  obtain ⟨pw, pl, ps, pt, pa, pb⟩ := p
  obtain ⟨e1, e2, i1, i2, h1, h2, h3, h4⟩ := h
  simp only [] at e1 e2 i1 i2 h1 h2 h3 h4
  subst e1 e2
  show Calls Try.prog 24 #[.agg #[.int .i64 wd, .slice a1 n1 c1, .slice a2 n2 c2, .int .i64 tp, .slice a3 n3 c3, .slice a4 n4 c4]] w _
  obtain ⟨wa, HW⟩ : ∃ wa, Hid (wa = (((w.alloc (.cells #[.int .i64 wd, .slice a1 n1 c1, .slice a2 n2 c2, .int .i64 tp, .slice a3 n3 c3, .slice a4 n4 c4] 51)).alloc (.cells #[.int .i64 0, .slice none 0 0, .slice none 0 0, .int .i64 0, .slice none 0 0, .slice none 0 0] 31)).alloc (.cells #[.int .i64 wd, .slice none 0 0, .slice none 0 0, .int .i64 0, .slice none 0 0, .slice none 0 0] 31))) := ⟨_, rfl⟩
  have BX : PBox w wa [.int .i64 wd, .slice a1 n1 c1, .slice a2 n2 c2, .int .i64 tp, .slice a3 n3 c3, .slice a4 n4 c4] [.int .i64 0, .slice none 0 0, .slice none 0 0, .int .i64 0, .slice none 0 0, .slice none 0 0] [.int .i64 wd, .slice none 0 0, .slice none 0 0, .int .i64 0, .slice none 0 0, .slice none 0 0] := by rw [HW.out]; exact pbox_new w _ _ _
  go_enter Try.func24, Try.ntmps24
  go_wp2_with fail
  rw [← HW.out]
  refine (toInputS_any _ _ _ _ _ (h1.below (Nat.le_refl _) BX.bel)).mono ?_
  rintro e w1 ⟨p1, m1, d1, rfl, ho1, hb1⟩
  have B1 := BX.below hb1
  have l1 := BX.lt
  clear HW BX hb1 h1
  have f0 := B1.arg.cell (j := 2) rfl
  have f1 := B1.out.cell (j := 1) rfl
  have f2 := B1.out.frozen 1
  go_wp2_with fail
  obtain ⟨wb, HW⟩ : ∃ wb, Hid (wb = w1.setCell ⟨w.heap.size + 2, 1, none⟩ (.slice p1 m1 d1)) := ⟨_, rfl⟩
  rw [show w.heap.size + 1 + 1 = w.heap.size + 2 from rfl, ← HW.out]
  have C1 := B1.set 1 (.slice p1 m1 d1)
  have o1 := ho1.set (j := 1) l1 (.slice p1 m1 d1)
  rw [← HW.out] at C1 o1
  clear HW B1 ho1 f0 f1 f2
  refine (toInputS_any _ _ _ _ _ (h2.below (Nat.le_refl _) C1.bel)).mono ?_
  rintro e w2 ⟨p2, m2, d2, rfl, ho2, hb2⟩
  have hap : ∀ g, (Value.slice p1 m1 d1).ownBlock = some g → (Value.slice p2 m2 d2).ownBlock ≠ some g := fun g h1 h2 => by
    have := (o1.block g h1).2
    have := (ho2.block g h2).1
    omega
  have HA := Lib.hid hap
  have B2 := C1.below hb2
  have l2 := C1.lt
  have o1 := o1.below hb2
  clear C1 hb2 h2 hap
  have f0 := B2.arg.cell (j := 3) rfl
  have f1 := B2.out.cell (j := 2) rfl
  have f2 := B2.out.frozen 2
  have f3 := B2.arg.cell (j := 4) rfl
  have f4 := B2.out.cell (j := 3) rfl
  have f5 := B2.out.frozen 3
  go_wp2_with fail
  obtain ⟨wc, HW⟩ : ∃ wc, Hid (wc = (w2.setCell ⟨w.heap.size + 2, 2, none⟩ (.slice p2 m2 d2)).setCell ⟨w.heap.size + 2, 3, none⟩ (.int .i64 tp)) := ⟨_, rfl⟩
  rw [show w.heap.size + 1 + 1 = w.heap.size + 2 from rfl, ← HW.out]
  have C2 := (B2.set 2 (.slice p2 m2 d2)).set 3 (.int .i64 tp)
  have o1 := (o1.set (j := 2) l1 (.slice p2 m2 d2)).set (j := 3) l1 (.int .i64 tp)
  have o2 := (ho2.set (j := 2) l2 (.slice p2 m2 d2)).set (j := 3) l2 (.int .i64 tp)
  rw [← HW.out] at C2 o1 o2
  clear HW B2 ho2 f0 f1 f2 f3 f4 f5
  refine (toInt64S_any _ _ _ _ _ (h3.below C2.bel)).mono ?_
  rintro e w3 ⟨p3, m3, d3, rfl, ho3, hb3⟩
  have B3 := C2.below hb3
  have l3 := C2.lt
  have o1 := o1.below hb3
  have o2 := o2.below hb3
  clear C2 hb3 h3
  have f0 := B3.arg.cell (j := 5) rfl
  have f1 := B3.out.cell (j := 4) rfl
  have f2 := B3.out.frozen 4
  go_wp2_with fail
  obtain ⟨wd', HW⟩ : ∃ wd', Hid (wd' = w3.setCell ⟨w.heap.size + 2, 4, none⟩ (.slice p3 m3 d3)) := ⟨_, rfl⟩
  rw [show w.heap.size + 1 + 1 = w.heap.size + 2 from rfl, ← HW.out]
  have C3 := B3.set 4 (.slice p3 m3 d3)
  have o1 := o1.set (j := 4) l1 (.slice p3 m3 d3)
  have o2 := o2.set (j := 4) l2 (.slice p3 m3 d3)
  have o3 := ho3.set (j := 4) l3 (.slice p3 m3 d3)
  rw [← HW.out] at C3 o1 o2 o3
  clear HW B3 ho3 f0 f1 f2
  refine (toStmtS_any _ _ _ _ _ _ (h4.below C3.bel)).mono ?_
  rintro e w4 ⟨p4, m4, d4, rs, rfl, o4, hb4⟩
  have B4 := C3.below hb4
  have l4 := C3.lt
  have o1 := o1.below hb4
  have o2 := o2.below hb4
  have o3 := o3.below hb4
  clear C3 hb4 h4
  have a0 := B4.res.cell (j := 0) rfl
  have a1 := B4.res.cell (j := 1) rfl
  have a2 := B4.res.cell (j := 2) rfl
  have a3 := B4.res.cell (j := 3) rfl
  have a4 := B4.res.cell (j := 4) rfl
  have a5 := B4.res.cell (j := 5) rfl
  have z0 := B4.res.frozen 0
  have z1 := B4.res.frozen 1
  have z2 := B4.res.frozen 2
  have z3 := B4.res.frozen 3
  have z4 := B4.res.frozen 4
  have z5 := B4.res.frozen 5
  have e0 := B4.out.cell (j := 0) rfl
  have e1 := B4.out.cell (j := 1) rfl
  have e2 := B4.out.cell (j := 2) rfl
  have e3 := B4.out.cell (j := 3) rfl
  have e4 := B4.out.cell (j := 4) rfl
  have e5 := B4.out.cell (j := 5) rfl
  have e6 := B4.out.frozen 5
  have HB := Lib.hid B4.bel
  clear B4
  go_wp2
  refine bodyPost_ret (v := .agg #[.int .i64 wd, .slice p1 m1 d1, .slice p2 m2 d2, .int .i64 tp, .slice p3 m3 d3, .slice p4 m4 d4]) (by simp [results, Try.results24, go_sem, a0, a1, a2, a3, a4, a5]) rfl ?_
  have g1 : w.heap.size + 1 < wa.heap.size := by omega
  have g2 : w.heap.size + 1 < wb.heap.size := by omega
  have g3 : w.heap.size + 1 < wc.heap.size := by omega
  have g4 : w.heap.size + 1 < wd'.heap.size := by omega
  exact ⟨⟨wd, (p1, m1, d1), (p2, m2, d2), tp, (p3, m3, d3), (p4, m4, d4), rs⟩, rfl,
    ⟨rfl, rfl, i1, i2, (((((((o1.set l1 _).set g1 _).set g1 _).set g1 _).set g1 _).set g1 _).set g1 _).base (by omega), (((((((o2.set l2 _).set g2 _).set g2 _).set g2 _).set g2 _).set g2 _).set g2 _).base (by omega), (((((((o3.set l3 _).set g3 _).set g3 _).set g3 _).set g3 _).set g3 _).set g3 _).base (by omega), (((((((o4.set l4 _).set g4 _).set g4 _).set g4 _).set g4 _).set g4 _).set g4 _).base (by omega), HA.out⟩,
    below_set (below_set (below_set (below_set (below_set (below_set (below_set HB.out (by omega) _) (by omega) _) (by omega) _) (by omega) _) (by omega) _) (by omega) _) (by omega) _⟩
end Go.Proofs.Ytmppiefkeeanpaa
/- The contracts of the laws' own comparison of programs (eqProg), and of what measures them (szStmt, szStmtS, szProg). -/
namespace Go.Proofs.Ytmppiefkeeanpaa
open Go.RowKit

/-- The two blocks of a call of eqProg. -/
structure QBox (w wi : World) (c0 c1 : List Value) : Prop where
  one : Blk wi w.heap.size 31 c0
  two : Blk wi (w.heap.size + 1) 31 c1
  bel : Below w.heap.size w wi
theorem QBox.below {w wi wj : World} {c0 c1 : List Value} (h : QBox w wi c0 c1) (hb : Below wi.heap.size wi wj) : QBox w wj c0 c1 :=
  ⟨h.one.below hb h.one.lt, h.two.below hb h.two.lt, h.bel.trans (hb.mono h.bel.size)⟩
theorem qbox_new (w : World) (c0 c1 : List Value) : QBox w ((w.alloc (.cells c0.toArray 31)).alloc (.cells c1.toArray 31)) c0 c1 :=
  ⟨(Blk.new w _ _).alloc _, by simpa using Blk.new (w.alloc _) 31 c1, ((Below.refl _ _).alloc (Nat.le_refl _) _).alloc (by simp) _⟩
theorem prg_ne {p q : Prg} (h : ¬ (p.width = q.width ∧ p.lows = q.lows ∧ p.secrets = q.secrets ∧ p.temps = q.temps ∧ p.arrays = q.arrays ∧ p.body = q.body)) : decide (p = q) = false :=
  decide_eq_false (fun e => h (by subst e; exact ⟨rfl, rfl, rfl, rfl, rfl, rfl⟩))
set_option maxHeartbeats 3200000 in
theorem eqProg_any (r q : PRow) (p p' : Prg) (w : World) (h : ProgAt w r p) (h' : ProgAt w q p') :
    Calls Try.prog 26 #[progV r, progV q] w fun e w' => e = .returned (.bool (decide (p = p'))) ∧ Below w.heap.size w w' := by
  obtain ⟨wd, ⟨a1, n1, c1⟩, ⟨a2, n2, c2⟩, tp, ⟨a3, n3, c3⟩, ⟨a4, n4, c4⟩, rows⟩ := r
  obtain ⟨wd', ⟨b1, m1, d1⟩, ⟨b2, m2, d2⟩, tp', ⟨b3, m3, d3⟩, ⟨b4, m4, d4⟩, rows'⟩ := q
  obtain ⟨pw, pl, ps, pt, pa, pb⟩ := p
  obtain ⟨pw', pl', ps', pt', pa', pb'⟩ := p'
  obtain ⟨e1, e2, i1, i2, h1, h2, h3, h4⟩ := h
  obtain ⟨e1', e2', i1', i2', h1', h2', h3', h4'⟩ := h'
  simp only [] at e1 e2 i1 i2 h1 h2 h3 h4 e1' e2' i1' i2' h1' h2' h3' h4'
  subst e1 e2 e1' e2'
  show Calls Try.prog 26 #[.agg #[.int .i64 wd, .slice a1 n1 c1, .slice a2 n2 c2, .int .i64 tp, .slice a3 n3 c3, .slice a4 n4 c4], .agg #[.int .i64 wd', .slice b1 m1 d1, .slice b2 m2 d2, .int .i64 tp', .slice b3 m3 d3, .slice b4 m4 d4]] w _
  obtain ⟨wa, HW⟩ : ∃ wa, Hid (wa = ((w.alloc (.cells #[.int .i64 wd, .slice a1 n1 c1, .slice a2 n2 c2, .int .i64 tp, .slice a3 n3 c3, .slice a4 n4 c4] 31)).alloc (.cells #[.int .i64 wd', .slice b1 m1 d1, .slice b2 m2 d2, .int .i64 tp', .slice b3 m3 d3, .slice b4 m4 d4] 31))) := ⟨_, rfl⟩
  have BX : QBox w wa [.int .i64 wd, .slice a1 n1 c1, .slice a2 n2 c2, .int .i64 tp, .slice a3 n3 c3, .slice a4 n4 c4] [.int .i64 wd', .slice b1 m1 d1, .slice b2 m2 d2, .int .i64 tp', .slice b3 m3 d3, .slice b4 m4 d4] := by rw [HW.out]; exact qbox_new w _ _
  by_cases ew : wd = wd'
  · subst ew
    have hne0 : (wd != wd) = false := by simp
    go_enter Try.func26, Try.ntmps26
    go_wp2_with fail
    rw [← HW.out]
    refine (eqInputS_any _ _ _ _ _ _ _ _ _ (h1.below (Nat.le_refl _) BX.bel) (h1'.below (Nat.le_refl _) BX.bel)).mono ?_
    rintro e w1 ⟨rfl, hb1⟩
    have B1 := BX.below hb1
    clear BX HW hb1 h1 h1' hne0
    by_cases el : pl = pl'
    · subst el
      rw [decide_eq_true (rfl : pl = pl)]
      have f0 := B1.one.cell (j := 2) rfl
      have f1 := B1.two.cell (j := 2) rfl
      go_wp2_with fail
      refine (eqInputS_any _ _ _ _ _ _ _ _ _ (h2.below (Nat.le_refl _) B1.bel) (h2'.below (Nat.le_refl _) B1.bel)).mono ?_
      rintro e w2 ⟨rfl, hb2⟩
      have B2 := B1.below hb2
      clear B1 hb2 h2 h2' f0 f1
      by_cases es : ps = ps'
      · subst es
        rw [decide_eq_true (rfl : ps = ps)]
        have f0 := B2.one.cell (j := 3) rfl
        have f1 := B2.two.cell (j := 3) rfl
        by_cases et : tp = tp'
        · subst et
          have hne0 : (tp != tp) = false := by simp
          have f2 := B2.one.cell (j := 4) rfl
          have f3 := B2.two.cell (j := 4) rfl
          go_wp2_with fail
          refine (eqInt64S_any _ _ _ _ _ _ _ _ _ (h3.below B2.bel) (h3'.below B2.bel)).mono ?_
          rintro e w3 ⟨rfl, j, rfl⟩
          have B3 : QBox w (w2.drewN j) _ _ := ⟨B2.one, B2.two, below_dn B2.bel j⟩
          clear B2 h3 h3' f0 f1 f2 f3 hne0
          by_cases ea : pa = pa'
          · subst ea
            rw [decide_eq_true (rfl : pa = pa)]
            have f0 := B3.one.cell (j := 5) rfl
            have f1 := B3.two.cell (j := 5) rfl
            go_wp2_with fail
            refine (eqStmtS_any _ _ _ _ _ _ _ _ _ _ _ (h4.below B3.bel) (h4'.below B3.bel)).mono ?_
            rintro e w4 ⟨rfl, hb4⟩
            have hbel := B3.bel.trans (hb4.mono B3.bel.size)
            clear B3 hb4 h4 h4' f0 f1
            by_cases eb : pb = pb'
            · subst eb
              rw [decide_eq_true (rfl : pb = pb)]
              go_wp2
              go_ret
              exact ⟨ret_bool (by simp), hbel⟩
            · rw [decide_eq_false eb]
              go_wp2
              go_ret
              exact ⟨ret_bool (prg_ne (fun h => eb h.2.2.2.2.2)).symm, hbel⟩
          · rw [decide_eq_false ea]
            go_wp2
            go_ret
            exact ⟨ret_bool (prg_ne (fun h => ea h.2.2.2.2.1)).symm, B3.bel⟩
        · have hne0 : (tp != tp') = true := by simpa using et
          go_wp2
          go_ret
          exact ⟨ret_bool (prg_ne (fun h => et h.2.2.2.1)).symm, B2.bel⟩
      · rw [decide_eq_false es]
        go_wp2
        go_ret
        exact ⟨ret_bool (prg_ne (fun h => es h.2.2.1)).symm, B2.bel⟩
    · rw [decide_eq_false el]
      go_wp2
      go_ret
      exact ⟨ret_bool (prg_ne (fun h => el h.2.1)).symm, B1.bel⟩
  · have hne1 : (wd != wd') = true := by simpa using ew
    go_enter Try.func26, Try.ntmps26
    go_wp2
    go_ret
    exact ⟨ret_bool (prg_ne (fun h => ew h.1)).symm, by rw [← HW.out]; exact BX.bel⟩
end Go.Proofs.Ytmppiefkeeanpaa
