/- Joined texts of this proof (SpecStepsOf, StmtEq, ProgCopies, ProgEq), in build order. -/
import Derived.Test.YtmooecbdpfhnlaaT5
import Derived.Test.YtmooecbdpfhnlaaT1
/- The contract of the model's l3Steps. -/
namespace Go.Proofs.Ytmooecbdpfhnlaa
open Go.RowKit

theorem steps_none {ss : List Stm} {i t : Nat} (h : Steps ss i i t) : t = 0 := by
  cases h with
  | nil => rfl
  | plain _ _ _ _ p => have := (steps_small p).1; omega
  | one _ _ _ p q => have := (steps_small p).1; have := (steps_small q).1; omega
  | two _ _ _ p p' q => have := (steps_small p).1; have := (steps_small p').1; have := (steps_small q).1; omega
  | loop _ _ _ _ _ p q => have := (steps_small p).1; have := (steps_small q).1; omega
  | attempt _ _ _ p p' q => have := (steps_small p).1; have := (steps_small p').1; have := (steps_small q).1; omega
theorem end_plain {ss : List Stm} {i : Nat} (hi : i < ss.length) (h2 : opAt ss i ≠ 2) (h5 : opAt ss i ≠ 5) (h8 : opAt ss i ≠ 8) : endOf ss i = (-1, -1) := by
  rw [end_eq hi rfl, if_neg h5, if_neg h2, if_neg h8]
theorem Stmts.still {w w' : World} {a : Option Addr} {n : Nat} {rs : List SRow} {ss : List Stm} (h : Stmts w a n rs ss) (hs : Still w w') : Stmts w' a n rs ss := h.below (hs.below _)
theorem l1Max_any (x y : Int) (w : World) : Calls Try.prog 97 #[.int .i64 x, .int .i64 y] w fun e w' => e = .returned (.int .i64 (max x y)) ∧ w = w' := by
  by_cases h : x > y
  · go_enter Try.func97, Try.ntmps97
    go_wp2
    go_ret
    exact ⟨ret_int (by omega), rfl⟩
  · go_enter Try.func97, Try.ntmps97
    go_wp2
    go_ret
    exact ⟨ret_int (by omega), rfl⟩
/-- The contract, at a part. -/
def StepsAt (a : Option Addr) (n c : Nat) (rs : List SRow) (ss : List Stm) (i : Nat) : Prop :=
  ∀ (w : World) (j s : Nat), Stmts w a n rs ss → j ≤ n → Steps ss i j s → Calls Try.prog 51 #[.slice a n c, .int .i64 (i : Int), .int .i64 (j : Int)] w fun e w' => e = .returned (.int .i64 (s : Int)) ∧ Still w w'
theorem StepsAt.succ {a : Option Addr} {n c : Nat} {rs : List SRow} {ss : List Stm} {i : Nat} (h : StepsAt a n c rs ss (i + 1)) (w : World) (j s : Nat) (hs : Stmts w a n rs ss) (hj : j ≤ n) (ht : Steps ss (i + 1) j s) :
    Calls Try.prog 51 #[.slice a n c, .int .i64 ((i : Int) + 1), .int .i64 (j : Int)] w fun e w' => e = .returned (.int .i64 (s : Int)) ∧ Still w w' := by
  have := h w j s hs hj ht
  rwa [show ((i + 1 : Nat) : Int) = (i : Int) + 1 by omega] at this
set_option maxRecDepth 20000 in
set_option maxHeartbeats 1600000 in
theorem steps_at (a : Option Addr) (n c : Nat) (rs : List SRow) (ss : List Stm) (i : Nat) (h40 : n ≤ 40) (HI : Hid (∀ k, i < k → StepsAt a n c rs ss k)) : StepsAt a n c rs ss i := by
  intro w j s h hj hst
  have hbig := steps_bound hst (by omega)
  have hij := (steps_small hst).1
  have HL := Lib.hid h.2.1
  go_enter Try.func51, Try.ntmps51
  go_wp2
  go_loopw [7, 8] (fun q x wr => ∃ k u t : Nat, i ≤ k ∧ k ≤ j ∧ x = .int .i64 (k : Int) ∧ q = .int .i64 (u : Int) ∧ u + t = s ∧ Hid (Steps ss k j t) ∧ Still w wr) (fun _ x _ => j - (intOf x).toNat)
  case atStart => exact ⟨i, 0, s, Nat.le_refl _, hij, rfl, rfl, by omega, Lib.hid hst, Still.refl _⟩
  case round =>
    clear hst
    obtain ⟨k, u, t, hik, hkj, rfl, rfl, hut, HT, hstill⟩ := hrel
    have h' := h.still hstill
    by_cases hlt : k < j
    case neg =>
      obtain rfl : k = j := by omega
      have h0 := steps_none HT.out
      subst h0
      have e0 : u = s := by omega
      subst e0
      clear h'
      go_wp2
      go_ret
      exact ⟨rfl, hstill⟩
    have hend := l3End_any a n c rs ss k wr h' (by omega)
    obtain ⟨b, o, x, y, _, _, _, _, _, _, ts, us, rfl, hb, hz, hin1, hin2, hc1, hc2, _⟩ := h'.at_ (k := k) (by omega)
    have hop : opAt ss k = x := by rw [opAt, hz.out]
    have HS := Lib.hid h'
    clear h'
    have hst := HT.out
    clear HT
    cases hst with
    | nil => omega
    | @plain _ _ s1 hi h2 h5 h8 p =>
      rw [end_plain hi h2 h5 h8] at hend
      rw [hop] at h2 h5 h8
      have k2 : (x == 2) = false := by simpa using h2
      have k5 : (x == 5) = false := by simpa using h5
      have k8 : (x == 8) = false := by simpa using h8
      have HP := Lib.hid p
      have HC := Lib.hid hend
      have hub : u + s1 + 1 < 3656158440062976 := by omega
      have HU := Lib.hid hut
      clear hend h2 h5 h8 hop hc2 p hut hbig
      go_wp2_with (go_at_call 96; refine HC.out.mono ?_; rintro e w' ⟨rfl, rfl⟩)
      go_roundw
      case rel => exact ⟨k + 1, u + 1, s1, by omega, by omega, by go_num, by go_num, by have := HU.out; omega, HP, hstill⟩
      case measure => simp [intOf]; omega
    | @one _ e _ s1 t1 hi h2 he p q =>
      rw [he] at hend
      obtain rfl : x = 2 := hop.symm.trans h2
      have q1 := (steps_small p).1
      have q2 := (steps_small q).1
      have HP := Lib.hid ((HI.out (k + 1) (by omega)).succ wr e s1 HS.out (by omega) p)
      have HQ := Lib.hid q
      have HC := Lib.hid hend
      have hub : u + s1 + t1 + 1 < 3656158440062976 := by omega
      have HU := Lib.hid hut
      clear hend he h2 hop hc2 p q hut hbig
      go_wp2_with (go_at_call 96; refine HC.out.mono ?_; rintro e w' ⟨rfl, rfl⟩)
      refine HP.out.mono ?_
      rintro e w1 ⟨rfl, hw1⟩
      have hst2 := hstill.trans hw1
      go_wp2
      go_roundw
      case rel => exact ⟨e + 1, u + 1 + s1, t1, by omega, by omega, by go_num, by go_num, by have := HU.out; omega, HQ, hst2⟩
      case measure => simp [intOf]; omega
    | @two _ m e _ s1 s2 t1 hi h2 he p p' q =>
      rw [he] at hend
      obtain rfl : x = 2 := hop.symm.trans h2
      have q1 := (steps_small p).1
      have q2 := (steps_small p').1
      have q3 := (steps_small q).1
      have HP := Lib.hid ((HI.out (k + 1) (by omega)).succ wr m s1 HS.out (by omega) p)
      have HP2 : Hid (∀ w', Still wr w' → Calls Try.prog 51 #[.slice (some ⟨b, o, none⟩) n c, .int .i64 ((m : Int) + 1), .int .i64 (e : Int)] w' fun e w'' => e = .returned (.int .i64 (s2 : Int)) ∧ Still w' w'') := Lib.hid (fun w' hw' => (HI.out (m + 1) (by omega)).succ w' e s2 (HS.out.still hw') (by omega) p')
      have HQ := Lib.hid q
      have HC := Lib.hid hend
      have hub : u + max s1 s2 + t1 + 1 < 3656158440062976 := by omega
      have HU := Lib.hid hut
      clear hend he h2 hop hc2 p p' q hut hbig
      go_wp2_with (go_at_call 96; refine HC.out.mono ?_; rintro e w' ⟨rfl, rfl⟩)
      refine HP.out.mono ?_
      rintro e w1 ⟨rfl, hw1⟩
      have hst2 := hstill.trans hw1
      go_wp2_with fail
      refine (HP2.out _ hw1).mono ?_
      rintro e w2 ⟨rfl, hw2⟩
      have hst3 := hst2.trans hw2
      go_wp2_with (go_at_call 97; refine (l1Max_any _ _ _).mono ?_; rintro e w' ⟨rfl, rfl⟩; rw [show max (s1 : Int) (s2 : Int) = ((max s1 s2 : Nat) : Int) by omega])
      go_roundw
      case rel => exact ⟨e + 1, u + 1 + max s1 s2, t1, by omega, by omega, by go_num, by go_num, by have := HU.out; omega, HQ, hst3⟩
      case measure => simp [intOf]; omega
    | @loop _ e _ kk s1 t1 hi h5 he hk h4 p q =>
      rw [he] at hend
      obtain rfl : x = 5 := hop.symm.trans h5
      obtain rfl : y = (kk : Int) := by rw [hz.out] at hk; exact hk
      have q1 := (steps_small p).1
      have q2 := (steps_small q).1
      have HP : Hid (∀ w', Still wr w' → Calls Try.prog 51 #[.slice (some ⟨b, o, none⟩) n c, .int .i64 ((k : Int) + 1), .int .i64 (e : Int)] w' fun e w'' => e = .returned (.int .i64 (s1 : Int)) ∧ Still w' w'') := Lib.hid (fun w' hw' => (HI.out (k + 1) (by omega)).succ w' e s1 (HS.out.still hw') (by omega) p)
      have HQ := Lib.hid q
      have HC := Lib.hid hend
      obtain ⟨X, HX⟩ : ∃ X : Nat, Hid (kk * (1 + s1) = X) := ⟨_, Lib.hid rfl⟩
      have hub : u + X + t1 + 1 < 3656158440062976 := by rw [HX.out] at hut; omega
      have hs1 := steps_bound p (by omega)
      have HU := Lib.hid hut
      rw [HX.out] at HU
      have hmul : (kk : Int) * (1 + (s1 : Int)) = (X : Int) := by rw [← HX.out]; push_cast; rfl
      have f1 : ∀ n, (wr.drewN n).cell? ⟨b, o + k * 4, none⟩ = some (.int .i64 5) := fun _ => hc1
      have f2 : ∀ n, (wr.drewN n).cell? ⟨b, o + k * 4 + 1, none⟩ = some (.int .i64 (kk : Int)) := fun _ => hc2
      clear hend he h5 hop p q hut hbig hk
      go_wp2_with (go_at_call 96; refine HC.out.mono ?_; rintro e w' ⟨rfl, rfl⟩)
      go_quiet ((go_at_call 51; exact still_quiet (HP.out _ (Still.drew _ _))))
      clear f1 f2 hc1 hc2 hmul
      go_wp2
      go_roundw
      case rel => exact ⟨e + 1, u + 1 + X, t1, by omega, by omega, by go_num, by go_num, by have := HU.out; omega, HQ, hstill.draw _⟩
      case measure => simp [intOf]; omega
    | @attempt _ m e _ s1 s2 t1 hi h8 he p p' q =>
      rw [he] at hend
      obtain rfl : x = 8 := hop.symm.trans h8
      have q1 := (steps_small p).1
      have q2 := (steps_small p').1
      have q3 := (steps_small q).1
      have HP := Lib.hid ((HI.out (k + 1) (by omega)).succ wr m s1 HS.out (by omega) p)
      have HP2 : Hid (∀ w', Still wr w' → Calls Try.prog 51 #[.slice (some ⟨b, o, none⟩) n c, .int .i64 ((m : Int) + 1), .int .i64 (e : Int)] w' fun e w'' => e = .returned (.int .i64 (s2 : Int)) ∧ Still w' w'') := Lib.hid (fun w' hw' => (HI.out (m + 1) (by omega)).succ w' e s2 (HS.out.still hw') (by omega) p')
      have HQ := Lib.hid q
      have HC := Lib.hid hend
      have hub : u + s1 + s2 + t1 + 1 < 3656158440062976 := by omega
      have HU := Lib.hid hut
      clear hend he h8 hop hc2 p p' q hut hbig
      go_wp2_with (go_at_call 96; refine HC.out.mono ?_; rintro e w' ⟨rfl, rfl⟩)
      refine HP.out.mono ?_
      rintro e w1 ⟨rfl, hw1⟩
      have hst2 := hstill.trans hw1
      go_wp2_with fail
      refine (HP2.out _ hw1).mono ?_
      rintro e w2 ⟨rfl, hw2⟩
      have hst3 := hst2.trans hw2
      go_wp2
      go_roundw
      case rel => exact ⟨e + 1, u + 1 + s1 + s2, t1, by omega, by omega, by go_num, by go_num, by have := HU.out; omega, HQ, hst3⟩
      case measure => simp [intOf]; omega
theorem steps_all (a : Option Addr) (n c : Nat) (rs : List SRow) (ss : List Stm) (h40 : n ≤ 40) : ∀ (d i : Nat), n - i ≤ d → StepsAt a n c rs ss i
  | 0, i, hd => by
    refine steps_at a n c rs ss i h40 (Lib.hid (fun k hk => ?_))
    intro w j s h hj hst
    have := (steps_small hst).1
    omega
  | d + 1, i, hd => by
    refine steps_at a n c rs ss i h40 (Lib.hid (fun k hk => ?_))
    exact steps_all a n c rs ss h40 d k (by omega)
theorem l3Steps_any (a : Option Addr) (n c : Nat) (rs : List SRow) (ss : List Stm) (i j s : Nat) (w : World) (h : Stmts w a n rs ss) (h40 : n ≤ 40) (hj : j ≤ n) (hs : Steps ss i j s) :
    Calls Try.prog 51 #[.slice a n c, .int .i64 (i : Int), .int .i64 (j : Int)] w fun e w' => e = .returned (.int .i64 (s : Int)) ∧ Still w w' := steps_all a n c rs ss h40 _ i (Nat.le_refl _) w j s h hj hs
end Go.Proofs.Ytmooecbdpfhnlaa
/- The contracts of the laws' own comparisons of Stmts and of slices of Stmts. -/
namespace Go.Proofs.Ytmooecbdpfhnlaa
open Go.RowKit

/-- The first k are alike. -/
def EqSt (xs ys : List Stm) (k : Nat) : Prop := ∀ i, i < k → stAt xs i = stAt ys i
theorem EqSt.zero (xs ys : List Stm) : EqSt xs ys 0 := fun i hi => absurd hi (by omega)
theorem EqSt.succ {xs ys : List Stm} {k : Nat} {t u : Stm} (h : EqSt xs ys k) (hx : Hid (stAt xs k = t)) (hy : Hid (stAt ys k = u)) (e : t = u) : EqSt xs ys (k + 1) := by
  intro i hi
  rcases Nat.lt_or_ge i k with hlt | hge
  · exact h i hlt
  · have : i = k := by omega
    subst this; rw [hx.out, hy.out]; exact e
end Go.Proofs.Ytmooecbdpfhnlaa
/- Words for programs (six cells: a number, two slices of Inputs, a number, a slice of numbers, a slice of Stmts); the contract of the laws' own copy of one (toProg). -/
namespace Go.Proofs.Ytmooecbdpfhnlaa
open Go.RowKit

structure Prg where
  width : Int
  lows : List Tm
  secrets : List Tm
  temps : Int
  arrays : List Int
  body : List Stm
deriving DecidableEq
/-- Its six cells, and the cells of its statements. -/
structure PRow where
  width : Int
  lows : Sl
  secrets : Sl
  temps : Int
  arrays : Sl
  body : Sl
  rows : List SRow
def progV (r : PRow) : Value := .agg #[.int .i64 r.width, slV r.lows, slV r.secrets, .int .i64 r.temps, slV r.arrays, slV r.body]

/-- The cells r read as the program p. -/
structure ProgAt (w : World) (r : PRow) (p : Prg) : Prop where
  width : r.width = p.width
  temps : r.temps = p.temps
  inW : In64 p.width
  inT : In64 p.temps
  lows : Terms w r.lows.1 r.lows.2.1 p.lows
  secrets : Terms w r.secrets.1 r.secrets.2.1 p.secrets
  arrays : Ints w r.arrays.1 r.arrays.2.1 p.arrays
  body : Stmts w r.body.1 r.body.2.1 r.rows p.body
theorem ProgAt.below {w w' : World} {r : PRow} {p : Prg} (h : ProgAt w r p) (hb : Below w.heap.size w w') : ProgAt w' r p :=
  ⟨h.width, h.temps, h.inW, h.inT, h.lows.below (Nat.le_refl _) hb, h.secrets.below (Nat.le_refl _) hb, h.arrays.below hb, h.body.below hb⟩
/-- .. of the call's own, from block B on. -/
structure OwnProg (w : World) (B : Nat) (r : PRow) (p : Prg) : Prop where
  width : r.width = p.width
  temps : r.temps = p.temps
  inW : In64 p.width
  inT : In64 p.temps
  lows : OwnI w B r.lows.1 r.lows.2.1 r.lows.2.2 p.lows
  secrets : OwnI w B r.secrets.1 r.secrets.2.1 r.secrets.2.2 p.secrets
  arrays : Own w B r.arrays.1 r.arrays.2.1 r.arrays.2.2 p.arrays
  body : OwnStmts w B r.body.1 r.body.2.1 r.body.2.2 r.rows p.body
  apart : ∀ g, (slV r.lows).ownBlock = some g → (slV r.secrets).ownBlock ≠ some g
theorem OwnProg.reads {w : World} {B : Nat} {r : PRow} {p : Prg} (h : OwnProg w B r p) : ProgAt w r p :=
  ⟨h.width, h.temps, h.inW, h.inT, h.lows.terms, h.secrets.terms, h.arrays.ints, h.body.reads⟩
theorem OwnProg.below {w w' : World} {B : Nat} {r : PRow} {p : Prg} (h : OwnProg w B r p) (hb : Below w.heap.size w w') : OwnProg w' B r p :=
  ⟨h.width, h.temps, h.inW, h.inT, h.lows.below hb, h.secrets.below hb, h.arrays.below hb, h.body.below hb, h.apart⟩
theorem OwnProg.base {w : World} {B B' : Nat} {r : PRow} {p : Prg} (h : OwnProg w B r p) (hB : B' ≤ B) : OwnProg w B' r p :=
  ⟨h.width, h.temps, h.inW, h.inT, h.lows.base hB, h.secrets.base hB, h.arrays.base hB, h.body.base hB, h.apart⟩
/-- What a function that makes the program p leaves. -/
def MadeProg (w : World) (p : Prg) (e : Ending) (w' : World) : Prop :=
  ∃ r, e = .returned (progV r) ∧ OwnProg w' w.heap.size r p ∧ Below w.heap.size w w'

theorem OwnI.set {w : World} {B : Nat} {a : Option Addr} {n c : Nat} {ts : List Tm} (h : OwnI w B a n c ts) {b j : Nat} (hb : b < B) (v : Value) : OwnI (w.setCell ⟨b, j, none⟩ v) B a n c ts :=
  h.apart (grown_set _ _ _ _) (fun g hg e => by have := (h.block g hg).1; injection e with e; omega)
theorem Own.set {w : World} {B : Nat} {a : Option Addr} {n c : Nat} {zs : List Int} (h : Own w B a n c zs) {b j : Nat} (hb : b < B) (v : Value) : Own (w.setCell ⟨b, j, none⟩ v) B a n c zs :=
  h.other (grown_set _ _ _ _) (fun g e => by injection e with e; omega)
theorem OwnStmts.set {w : World} {B : Nat} {a : Option Addr} {n c : Nat} {rs : List SRow} {ss : List Stm} (h : OwnStmts w B a n c rs ss) {b j : Nat} (hb : b < B) (v : Value) : OwnStmts (w.setCell ⟨b, j, none⟩ v) B a n c rs ss := by
  refine ⟨h.1.kept (grown_set _ _ _ _) ?_, h.2.1, h.2.2.1, fun i hi => (h.2.2.2.1 i hi).set hb v, h.2.2.2.2⟩
  cases hv : (Value.slice a n c).ownBlock with
  | none => exact .inl rfl
  | some g =>
    refine .inr fun e => ?_
    have := (h.block g hv).1
    injection e with e
    omega

/-- The three blocks of a call of toProg: the argument's, the result's, the variable's. -/
structure PBox (w wi : World) (c0 c1 c2 : List Value) : Prop where
  arg : Blk wi w.heap.size 61 c0
  res : Blk wi (w.heap.size + 1) 28 c1
  out : Blk wi (w.heap.size + 2) 28 c2
  bel : Below w.heap.size w wi
theorem PBox.below {w wi wj : World} {c0 c1 c2 : List Value} (h : PBox w wi c0 c1 c2) (hb : Below wi.heap.size wi wj) : PBox w wj c0 c1 c2 :=
  ⟨h.arg.below hb h.arg.lt, h.res.below hb h.res.lt, h.out.below hb h.out.lt, h.bel.trans (hb.mono h.bel.size)⟩
theorem PBox.set {w wi : World} {c0 c1 c2 : List Value} (h : PBox w wi c0 c1 c2) (j : Nat) (v : Value) : PBox w (wi.setCell ⟨w.heap.size + 2, j, none⟩ v) c0 c1 (c2.set j v) :=
  ⟨h.arg.other (by omega) v, h.res.other (by omega) v, h.out.set v, below_set h.bel (by omega) v⟩
theorem PBox.lt {w wi : World} {c0 c1 c2 : List Value} (h : PBox w wi c0 c1 c2) : w.heap.size + 2 < wi.heap.size := h.out.lt
end Go.Proofs.Ytmooecbdpfhnlaa
/- The contracts of the laws' own comparison of programs (eqProg), and of what measures them (szStmt, szStmtS, szProg). -/
namespace Go.Proofs.Ytmooecbdpfhnlaa
open Go.RowKit

/-- The two blocks of a call of eqProg. -/
structure QBox (w wi : World) (c0 c1 : List Value) : Prop where
  one : Blk wi w.heap.size 28 c0
  two : Blk wi (w.heap.size + 1) 28 c1
  bel : Below w.heap.size w wi
theorem QBox.below {w wi wj : World} {c0 c1 : List Value} (h : QBox w wi c0 c1) (hb : Below wi.heap.size wi wj) : QBox w wj c0 c1 :=
  ⟨h.one.below hb h.one.lt, h.two.below hb h.two.lt, h.bel.trans (hb.mono h.bel.size)⟩
end Go.Proofs.Ytmooecbdpfhnlaa
