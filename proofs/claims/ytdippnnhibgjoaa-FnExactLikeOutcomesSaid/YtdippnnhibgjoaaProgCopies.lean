/- Words for programs (six cells: a number, two slices of Inputs, a number, a slice of numbers, a slice of Stmts); the contract of the laws' own copy of one (toProg). -/
import Derived.Test.YtdippnnhibgjoaaStmtEq
import Derived.Test.YtdippnnhibgjoaaCopies
namespace Go.Proofs.Ytdippnnhibgjoaa
open Go.RowKit

structure Prg where
  width : Int
  lows : List Tm
  secrets : List Tm
  temps : Int
  arrays : List Int
  body : List Stm
deriving DecidableEq
/-- Its six cells, and the cells of its statements. -/
structure PRow where
  width : Int
  lows : Sl
  secrets : Sl
  temps : Int
  arrays : Sl
  body : Sl
  rows : List SRow
def progV (r : PRow) : Value := .agg #[.int .i64 r.width, slV r.lows, slV r.secrets, .int .i64 r.temps, slV r.arrays, slV r.body]

/-- The cells r read as the program p. -/
structure ProgAt (w : World) (r : PRow) (p : Prg) : Prop where
  width : r.width = p.width
  temps : r.temps = p.temps
  inW : In64 p.width
  inT : In64 p.temps
  lows : Terms w r.lows.1 r.lows.2.1 p.lows
  secrets : Terms w r.secrets.1 r.secrets.2.1 p.secrets
  arrays : Ints w r.arrays.1 r.arrays.2.1 p.arrays
  body : Stmts w r.body.1 r.body.2.1 r.rows p.body
theorem ProgAt.below {w w' : World} {r : PRow} {p : Prg} (h : ProgAt w r p) (hb : Below w.heap.size w w') : ProgAt w' r p :=
  ⟨h.width, h.temps, h.inW, h.inT, h.lows.below (Nat.le_refl _) hb, h.secrets.below (Nat.le_refl _) hb, h.arrays.below hb, h.body.below hb⟩
/-- .. of the call's own, from block B on. -/
structure OwnProg (w : World) (B : Nat) (r : PRow) (p : Prg) : Prop where
  width : r.width = p.width
  temps : r.temps = p.temps
  inW : In64 p.width
  inT : In64 p.temps
  lows : OwnI w B r.lows.1 r.lows.2.1 r.lows.2.2 p.lows
  secrets : OwnI w B r.secrets.1 r.secrets.2.1 r.secrets.2.2 p.secrets
  arrays : Own w B r.arrays.1 r.arrays.2.1 r.arrays.2.2 p.arrays
  body : OwnStmts w B r.body.1 r.body.2.1 r.body.2.2 r.rows p.body
  apart : ∀ g, (slV r.lows).ownBlock = some g → (slV r.secrets).ownBlock ≠ some g
theorem OwnProg.reads {w : World} {B : Nat} {r : PRow} {p : Prg} (h : OwnProg w B r p) : ProgAt w r p :=
  ⟨h.width, h.temps, h.inW, h.inT, h.lows.terms, h.secrets.terms, h.arrays.ints, h.body.reads⟩
theorem OwnProg.below {w w' : World} {B : Nat} {r : PRow} {p : Prg} (h : OwnProg w B r p) (hb : Below w.heap.size w w') : OwnProg w' B r p :=
  ⟨h.width, h.temps, h.inW, h.inT, h.lows.below hb, h.secrets.below hb, h.arrays.below hb, h.body.below hb, h.apart⟩
theorem OwnProg.base {w : World} {B B' : Nat} {r : PRow} {p : Prg} (h : OwnProg w B r p) (hB : B' ≤ B) : OwnProg w B' r p :=
  ⟨h.width, h.temps, h.inW, h.inT, h.lows.base hB, h.secrets.base hB, h.arrays.base hB, h.body.base hB, h.apart⟩
/-- What a function that makes the program p leaves. -/
def MadeProg (w : World) (p : Prg) (e : Ending) (w' : World) : Prop :=
  ∃ r, e = .returned (progV r) ∧ OwnProg w' w.heap.size r p ∧ Below w.heap.size w w'

theorem OwnI.set {w : World} {B : Nat} {a : Option Addr} {n c : Nat} {ts : List Tm} (h : OwnI w B a n c ts) {b j : Nat} (hb : b < B) (v : Value) : OwnI (w.setCell ⟨b, j, none⟩ v) B a n c ts :=
  h.apart (grown_set _ _ _ _) (fun g hg e => by have := (h.block g hg).1; injection e with e; omega)
theorem Own.set {w : World} {B : Nat} {a : Option Addr} {n c : Nat} {zs : List Int} (h : Own w B a n c zs) {b j : Nat} (hb : b < B) (v : Value) : Own (w.setCell ⟨b, j, none⟩ v) B a n c zs :=
  h.other (grown_set _ _ _ _) (fun g e => by injection e with e; omega)
theorem OwnStmts.set {w : World} {B : Nat} {a : Option Addr} {n c : Nat} {rs : List SRow} {ss : List Stm} (h : OwnStmts w B a n c rs ss) {b j : Nat} (hb : b < B) (v : Value) : OwnStmts (w.setCell ⟨b, j, none⟩ v) B a n c rs ss := by
  refine ⟨h.1.kept (grown_set _ _ _ _) ?_, h.2.1, h.2.2.1, fun i hi => (h.2.2.2.1 i hi).set hb v, h.2.2.2.2⟩
  cases hv : (Value.slice a n c).ownBlock with
  | none => exact .inl rfl
  | some g =>
    refine .inr fun e => ?_
    have := (h.block g hv).1
    injection e with e
    omega

/-- The three blocks of a call of toProg: the argument's, the result's, the variable's. -/
structure PBox (w wi : World) (c0 c1 c2 : List Value) : Prop where
  arg : Blk wi w.heap.size 51 c0
  res : Blk wi (w.heap.size + 1) 31 c1
  out : Blk wi (w.heap.size + 2) 31 c2
  bel : Below w.heap.size w wi
theorem PBox.below {w wi wj : World} {c0 c1 c2 : List Value} (h : PBox w wi c0 c1 c2) (hb : Below wi.heap.size wi wj) : PBox w wj c0 c1 c2 :=
  ⟨h.arg.below hb h.arg.lt, h.res.below hb h.res.lt, h.out.below hb h.out.lt, h.bel.trans (hb.mono h.bel.size)⟩
theorem PBox.set {w wi : World} {c0 c1 c2 : List Value} (h : PBox w wi c0 c1 c2) (j : Nat) (v : Value) : PBox w (wi.setCell ⟨w.heap.size + 2, j, none⟩ v) c0 c1 (c2.set j v) :=
  ⟨h.arg.other (by omega) v, h.res.other (by omega) v, h.out.set v, below_set h.bel (by omega) v⟩
theorem PBox.lt {w wi : World} {c0 c1 c2 : List Value} (h : PBox w wi c0 c1 c2) : w.heap.size + 2 < wi.heap.size := h.out.lt
theorem pbox_new (w : World) (c0 c1 c2 : List Value) : PBox w (((w.alloc (.cells c0.toArray 51)).alloc (.cells c1.toArray 31)).alloc (.cells c2.toArray 31)) c0 c1 c2 :=
  ⟨((Blk.new w _ _).alloc _).alloc _, (by simpa using Blk.new (w.alloc _) 31 c1 : Blk _ _ _ _).alloc _, by simpa using Blk.new ((w.alloc _).alloc _) 31 c2, (((Below.refl _ _).alloc (Nat.le_refl _) _).alloc (by simp) _).alloc (by simp; omega) _⟩

set_option maxHeartbeats 3200000 in
theorem toProg_any (r : PRow) (p : Prg) (w : World) (h : ProgAt w r p) :
    Calls Try.prog 20 #[progV r] w (MadeProg w p) := by
  obtain ⟨wd, ⟨a1, n1, c1⟩, ⟨a2, n2, c2⟩, tp, ⟨a3, n3, c3⟩, ⟨a4, n4, c4⟩, rows⟩ := r
  obtain ⟨pw, pl, ps, pt, pa, pb⟩ := p
  obtain ⟨e1, e2, i1, i2, h1, h2, h3, h4⟩ := h
  simp only [] at e1 e2 i1 i2 h1 h2 h3 h4
  subst e1 e2
  show Calls Try.prog 20 #[.agg #[.int .i64 wd, .slice a1 n1 c1, .slice a2 n2 c2, .int .i64 tp, .slice a3 n3 c3, .slice a4 n4 c4]] w _
  obtain ⟨wa, HW⟩ : ∃ wa, Hid (wa = (((w.alloc (.cells #[.int .i64 wd, .slice a1 n1 c1, .slice a2 n2 c2, .int .i64 tp, .slice a3 n3 c3, .slice a4 n4 c4] 51)).alloc (.cells #[.int .i64 0, .slice none 0 0, .slice none 0 0, .int .i64 0, .slice none 0 0, .slice none 0 0] 31)).alloc (.cells #[.int .i64 wd, .slice none 0 0, .slice none 0 0, .int .i64 0, .slice none 0 0, .slice none 0 0] 31))) := ⟨_, rfl⟩
  have BX : PBox w wa [.int .i64 wd, .slice a1 n1 c1, .slice a2 n2 c2, .int .i64 tp, .slice a3 n3 c3, .slice a4 n4 c4] [.int .i64 0, .slice none 0 0, .slice none 0 0, .int .i64 0, .slice none 0 0, .slice none 0 0] [.int .i64 wd, .slice none 0 0, .slice none 0 0, .int .i64 0, .slice none 0 0, .slice none 0 0] := by rw [HW.out]; exact pbox_new w _ _ _
  go_enter Try.func20, Try.ntmps20
  go_wp2_with fail
  rw [← HW.out]
  refine (toInputS_any _ _ _ _ _ (h1.below (Nat.le_refl _) BX.bel)).mono ?_
  rintro e w1 ⟨p1, m1, d1, rfl, ho1, hb1⟩
  have B1 := BX.below hb1
  have l1 := BX.lt
  clear HW BX hb1 h1
  have f0 := B1.arg.cell (j := 2) rfl
  have f1 := B1.out.cell (j := 1) rfl
  have f2 := B1.out.frozen 1
  go_wp2_with fail
  obtain ⟨wb, HW⟩ : ∃ wb, Hid (wb = w1.setCell ⟨w.heap.size + 2, 1, none⟩ (.slice p1 m1 d1)) := ⟨_, rfl⟩
  rw [show w.heap.size + 1 + 1 = w.heap.size + 2 from rfl, ← HW.out]
  have C1 := B1.set 1 (.slice p1 m1 d1)
  have o1 := ho1.set (j := 1) l1 (.slice p1 m1 d1)
  rw [← HW.out] at C1 o1
  clear HW B1 ho1 f0 f1 f2
  refine (toInputS_any _ _ _ _ _ (h2.below (Nat.le_refl _) C1.bel)).mono ?_
  rintro e w2 ⟨p2, m2, d2, rfl, ho2, hb2⟩
  have hap : ∀ g, (Value.slice p1 m1 d1).ownBlock = some g → (Value.slice p2 m2 d2).ownBlock ≠ some g := fun g h1 h2 => by
    have := (o1.block g h1).2
    have := (ho2.block g h2).1
    omega
  have HA := Lib.hid hap
  have B2 := C1.below hb2
  have l2 := C1.lt
  have o1 := o1.below hb2
  clear C1 hb2 h2 hap
  have f0 := B2.arg.cell (j := 3) rfl
  have f1 := B2.out.cell (j := 2) rfl
  have f2 := B2.out.frozen 2
  have f3 := B2.arg.cell (j := 4) rfl
  have f4 := B2.out.cell (j := 3) rfl
  have f5 := B2.out.frozen 3
  go_wp2_with fail
  obtain ⟨wc, HW⟩ : ∃ wc, Hid (wc = (w2.setCell ⟨w.heap.size + 2, 2, none⟩ (.slice p2 m2 d2)).setCell ⟨w.heap.size + 2, 3, none⟩ (.int .i64 tp)) := ⟨_, rfl⟩
  rw [show w.heap.size + 1 + 1 = w.heap.size + 2 from rfl, ← HW.out]
  have C2 := (B2.set 2 (.slice p2 m2 d2)).set 3 (.int .i64 tp)
  have o1 := (o1.set (j := 2) l1 (.slice p2 m2 d2)).set (j := 3) l1 (.int .i64 tp)
  have o2 := (ho2.set (j := 2) l2 (.slice p2 m2 d2)).set (j := 3) l2 (.int .i64 tp)
  rw [← HW.out] at C2 o1 o2
  clear HW B2 ho2 f0 f1 f2 f3 f4 f5
  refine (toInt64S_any _ _ _ _ _ (h3.below C2.bel)).mono ?_
  rintro e w3 ⟨p3, m3, d3, rfl, ho3, hb3⟩
  have B3 := C2.below hb3
  have l3 := C2.lt
  have o1 := o1.below hb3
  have o2 := o2.below hb3
  clear C2 hb3 h3
  have f0 := B3.arg.cell (j := 5) rfl
  have f1 := B3.out.cell (j := 4) rfl
  have f2 := B3.out.frozen 4
  go_wp2_with fail
  obtain ⟨wd', HW⟩ : ∃ wd', Hid (wd' = w3.setCell ⟨w.heap.size + 2, 4, none⟩ (.slice p3 m3 d3)) := ⟨_, rfl⟩
  rw [show w.heap.size + 1 + 1 = w.heap.size + 2 from rfl, ← HW.out]
  have C3 := B3.set 4 (.slice p3 m3 d3)
  have o1 := o1.set (j := 4) l1 (.slice p3 m3 d3)
  have o2 := o2.set (j := 4) l2 (.slice p3 m3 d3)
  have o3 := ho3.set (j := 4) l3 (.slice p3 m3 d3)
  rw [← HW.out] at C3 o1 o2 o3
  clear HW B3 ho3 f0 f1 f2
  refine (toStmtS_any _ _ _ _ _ _ (h4.below C3.bel)).mono ?_
  rintro e w4 ⟨p4, m4, d4, rs, rfl, o4, hb4⟩
  have B4 := C3.below hb4
  have l4 := C3.lt
  have o1 := o1.below hb4
  have o2 := o2.below hb4
  have o3 := o3.below hb4
  clear C3 hb4 h4
  have a0 := B4.res.cell (j := 0) rfl
  have a1 := B4.res.cell (j := 1) rfl
  have a2 := B4.res.cell (j := 2) rfl
  have a3 := B4.res.cell (j := 3) rfl
  have a4 := B4.res.cell (j := 4) rfl
  have a5 := B4.res.cell (j := 5) rfl
  have z0 := B4.res.frozen 0
  have z1 := B4.res.frozen 1
  have z2 := B4.res.frozen 2
  have z3 := B4.res.frozen 3
  have z4 := B4.res.frozen 4
  have z5 := B4.res.frozen 5
  have e0 := B4.out.cell (j := 0) rfl
  have e1 := B4.out.cell (j := 1) rfl
  have e2 := B4.out.cell (j := 2) rfl
  have e3 := B4.out.cell (j := 3) rfl
  have e4 := B4.out.cell (j := 4) rfl
  have e5 := B4.out.cell (j := 5) rfl
  have e6 := B4.out.frozen 5
  have HB := Lib.hid B4.bel
  clear B4
  go_wp2
  refine bodyPost_ret (v := .agg #[.int .i64 wd, .slice p1 m1 d1, .slice p2 m2 d2, .int .i64 tp, .slice p3 m3 d3, .slice p4 m4 d4]) (by simp [results, Try.results20, go_sem, a0, a1, a2, a3, a4, a5]) rfl ?_
  have g1 : w.heap.size + 1 < wa.heap.size := by omega
  have g2 : w.heap.size + 1 < wb.heap.size := by omega
  have g3 : w.heap.size + 1 < wc.heap.size := by omega
  have g4 : w.heap.size + 1 < wd'.heap.size := by omega
  exact ⟨⟨wd, (p1, m1, d1), (p2, m2, d2), tp, (p3, m3, d3), (p4, m4, d4), rs⟩, rfl,
    ⟨rfl, rfl, i1, i2, (((((((o1.set l1 _).set g1 _).set g1 _).set g1 _).set g1 _).set g1 _).set g1 _).base (by omega), (((((((o2.set l2 _).set g2 _).set g2 _).set g2 _).set g2 _).set g2 _).set g2 _).base (by omega), (((((((o3.set l3 _).set g3 _).set g3 _).set g3 _).set g3 _).set g3 _).set g3 _).base (by omega), (((((((o4.set l4 _).set g4 _).set g4 _).set g4 _).set g4 _).set g4 _).set g4 _).base (by omega), HA.out⟩,
    below_set (below_set (below_set (below_set (below_set (below_set (below_set HB.out (by omega) _) (by omega) _) (by omega) _) (by omega) _) (by omega) _) (by omega) _) (by omega) _⟩
end Go.Proofs.Ytdippnnhibgjoaa
