/- A law's argument that is a program: what it is, as the statement's own reading gives it; what szProg answers for it. -/
import Derived.Test.YtdippnnhibgjoaaProgSize
import Derived.Deep.RegionWith
namespace Go.Proofs.Ytdippnnhibgjoaa
open Go.RowKit Go.ChangeShapes Go.WideShapes

/-- An argument that is a program: its slices read where they are not too long. -/
structure ArgProg (w : World) (r : PRow) : Prop where
  inW : In64 r.width
  inT : In64 r.temps
  lows : ArgTerms w r.lows.1 r.lows.2.1
  secrets : ArgTerms w r.secrets.1 r.secrets.2.1
  arrays : ArgInts w r.arrays.1 r.arrays.2.1
  body : ArgStmts w r.body.1 r.body.2.1
theorem ArgTerms.below {w w' : World} {a : Option Addr} {n : Nat} (h : ArgTerms w a n) (hb : Below w.heap.size w w') : ArgTerms w' a n :=
  ⟨h.1, fun hn => by obtain ⟨ts, ht⟩ := h.2 hn; exact ⟨ts, ht.below (Nat.le_refl _) hb⟩⟩
theorem ArgInts.below {w w' : World} {a : Option Addr} {n : Nat} (h : ArgInts w a n) (hb : Below w.heap.size w w') : ArgInts w' a n :=
  ⟨h.1, fun hn => by obtain ⟨ts, ht⟩ := h.2 hn; exact ⟨ts, ht.below hb⟩⟩
theorem ArgStmts.below {w w' : World} {a : Option Addr} {n : Nat} (h : ArgStmts w a n) (hb : Below w.heap.size w w') : ArgStmts w' a n :=
  ⟨h.1, fun hn => by obtain ⟨ts, ht⟩ := h.2 hn; exact ⟨ts, ht.below hb⟩⟩
theorem ArgProg.below {w w' : World} {r : PRow} (h : ArgProg w r) (hb : Below w.heap.size w w') : ArgProg w' r :=
  ⟨h.inW, h.inT, h.lows.below hb, h.secrets.below hb, h.arrays.below hb, h.body.below hb⟩
theorem array6 {α : Type} {cs : Array α} (h : cs.size = 6) : ∃ c0 c1 c2 c3 c4 c5, cs = #[c0, c1, c2, c3, c4, c5] := by
  obtain ⟨l⟩ := cs
  match l, h with
  | [c0, c1, c2, c3, c4, c5], _ => exact ⟨c0, c1, c2, c3, c4, c5, rfl⟩
theorem argInputs_cell {H : Type} {enc : TypeId × Value → H} {w : World} {base : Nat} {spare : Nat → Bool} {held : Bool} {fuel : Nat} {V : Value} {x : DataW H × List MemPlace} (h : DataW.trod enc Try.prog w base spare held fuel 48 [V] = some x) : ∃ a len cap, V = .slice a len cap ∧ ArgTerms w a len :=
  argPairs_cell Try.underlying48 Try.underlying116 (by kernel_rfl) (by kernel_rfl) rfl rfl h
set_option maxRecDepth 100000 in
theorem argProg_of {H : Type} {enc : TypeId × Value → H} {w : World} {base : Nat} {spare : Nat → Bool} {held : Bool} {rc : Reach} {b0 : Nat} {v : Value} {d : DataW H} {p : List MemPlace}
    (hv : Value.okWide Try.prog w rc b0 51 v) (h : DataW.Trod enc Try.prog w base spare held 51 v d p) : ∃ r : PRow, v = progV r ∧ ArgProg w r := by
  obtain ⟨cs, rfl, hsz⟩ := okWide_struct Try.underlying51 hv
  obtain ⟨v0, v1, v2, v3, v4, v5, rfl⟩ := array6 (hsz.trans (by kernel_rfl))
  obtain ⟨fuel, hf⟩ := h
  obtain ⟨_, n, hn⟩ := trod_cells Try.underlying51 (by kernel_rfl) (by kernel_rfl) hf
  obtain ⟨u0, y0, c0, d0⟩ := hn 0 _ rfl
  obtain ⟨u1, y1, c1, d1⟩ := hn 1 _ rfl
  obtain ⟨u2, y2, c2, d2⟩ := hn 2 _ rfl
  obtain ⟨u3, y3, c3, d3⟩ := hn 3 _ rfl
  obtain ⟨u4, y4, c4, d4⟩ := hn 4 _ rfl
  obtain ⟨u5, y5, c5, d5⟩ := hn 5 _ rfl
  simp [Value.cells] at c0 c1 c2 c3 c4 c5
  subst c0 c1 c2 c3 c4 c5
  obtain ⟨n0, e0, _, w0⟩ := DataW.trod_int Try.underlying2 d0
  obtain ⟨n3, e3, _, w3⟩ := DataW.trod_int Try.underlying2 d3
  obtain ⟨a1, l1, k1, rfl, t1⟩ := argInputs_cell d1
  obtain ⟨a2, l2, k2, rfl, t2⟩ := argInputs_cell d2
  obtain ⟨a4, l4, k4, rfl, t4⟩ := argInts_cell Try.underlying28 (by kernel_rfl) d4
  obtain ⟨a5, l5, k5, rfl, t5⟩ := argStmts_cell d5
  injection e0 with e0
  injection e3 with e3
  subst e0 e3
  exact ⟨⟨n0, (a1, l1, k1), (a2, l2, k2), n3, (a4, l4, k4), (a5, l5, k5), []⟩, rfl, ⟨in64_of w0, in64_of w3, t1, t2, t4, t5⟩⟩

/-- What szProg leaves: -1, or a number from 0 up, and then the argument reads as a program. -/
def SzProg (w : World) (left : Nat) (r : PRow) (e : Ending) (w' : World) : Prop :=
  Below w.heap.size w w' ∧ (e = .returned (.int .i64 (-1)) ∨ ∃ v : Nat, v ≤ left ∧ e = .returned (.int .i64 (v : Int)) ∧ ∃ rows p, ProgAt w { r with rows := rows } p)
set_option maxHeartbeats 1600000 in
theorem szProg_any (r : PRow) (left : Nat) (w : World) (h : ArgProg w r) (hl : left ≤ 1048576) :
    Calls Try.prog 18 #[progV r, .int .i64 (left : Int)] w (SzProg w left r) := by
  obtain ⟨wd, ⟨a1, n1, c1⟩, ⟨a2, n2, c2⟩, tp, ⟨a3, n3, c3⟩, ⟨a4, n4, c4⟩, rows0⟩ := r
  obtain ⟨i1, i2, h1, h2, h3, h4⟩ := h
  simp only [] at i1 i2 h1 h2 h3 h4
  have HB : Below w.heap.size w (w.alloc (.cells #[.int .i64 wd, .slice a1 n1 c1, .slice a2 n2 c2, .int .i64 tp, .slice a3 n3 c3, .slice a4 n4 c4] 51)) := (Below.refl _ _).alloc (Nat.le_refl _) _
  show Calls Try.prog 18 #[.agg #[.int .i64 wd, .slice a1 n1 c1, .slice a2 n2 c2, .int .i64 tp, .slice a3 n3 c3, .slice a4 n4 c4], .int .i64 (left : Int)] w _
  go_enter Try.func18, Try.ntmps18
  go_wp2_with fail
  by_cases e1 : n1 ≤ left
  case neg =>
    refine (szInputS_over _ _ _ _ _ (by omega) h1.1).mono ?_
    rintro e w1 ⟨rfl, rfl⟩
    go_wp2
    go_ret
    exact ⟨HB, .inl rfl⟩
  refine (szInputS_fits _ _ _ _ _ e1 hl).mono ?_
  rintro e w1 ⟨rfl, rfl⟩
  obtain ⟨L1, HL1⟩ : ∃ L1 : Nat, Hid (left - n1 = L1) := ⟨_, rfl⟩
  rw [HL1.out]
  have hl1 : L1 ≤ 1048576 := by have := HL1.out; omega
  go_wp2_with fail
  by_cases e2 : n2 ≤ L1
  case neg =>
    refine (szInputS_over _ _ _ _ _ (by omega) h2.1).mono ?_
    rintro e w1 ⟨rfl, rfl⟩
    go_wp2
    go_ret
    exact ⟨HB, .inl rfl⟩
  refine (szInputS_fits _ _ _ _ _ e2 hl1).mono ?_
  rintro e w1 ⟨rfl, rfl⟩
  obtain ⟨L2, HL2⟩ : ∃ L2 : Nat, Hid (L1 - n2 = L2) := ⟨_, rfl⟩
  rw [HL2.out]
  have hl2 : L2 ≤ 1048576 := by have := HL2.out; omega
  go_wp2_with fail
  by_cases e3 : n3 ≤ L2
  case neg =>
    refine (szInt64S_over _ _ _ _ _ (by omega) h3.1).mono ?_
    rintro e w1 ⟨rfl, rfl⟩
    go_wp2
    go_ret
    exact ⟨HB, .inl rfl⟩
  refine (szInt64S_fits _ _ _ _ _ e3 hl2).mono ?_
  rintro e w1 ⟨rfl, rfl⟩
  obtain ⟨L3, HL3⟩ : ∃ L3 : Nat, Hid (L2 - n3 = L3) := ⟨_, rfl⟩
  rw [HL3.out]
  have hl3 : L3 ≤ 1048576 := by have := HL3.out; omega
  go_wp2_with fail
  by_cases e4 : n4 ≤ L3
  case neg =>
    refine (szStmtS_over _ _ _ _ _ (by omega) h4.1).mono ?_
    rintro e w1 ⟨rfl, rfl⟩
    go_wp2
    go_ret
    exact ⟨HB, .inl rfl⟩
  obtain ⟨rs, hrs⟩ := h4.2 (by omega)
  refine (szStmtS_rows _ _ _ _ _ _ (hrs.below HB) e4 hl3).mono ?_
  rintro e w1 ⟨rfl, hb1⟩
  have hbel := HB.trans (hb1.mono HB.size)
  by_cases e5 : n4 + sumTo rs n4 ≤ L3
  · rw [szI_fits e5]
    obtain ⟨L4, HL4⟩ : ∃ L4 : Nat, Hid (L3 - (n4 + sumTo rs n4) = L4) := ⟨_, rfl⟩
    rw [HL4.out]
    have hl4 : L4 ≤ 1048576 := by have := HL4.out; omega
    obtain ⟨tl, Tl⟩ := h1.2 (by omega)
    obtain ⟨tu, Tu⟩ := h2.2 (by omega)
    obtain ⟨tz, Tz⟩ := h3.2 (by omega)
    obtain ⟨ts, Ts⟩ := hrs.reads (by omega)
    have HP := Lib.hid (show ProgAt w ⟨wd, (a1, n1, c1), (a2, n2, c2), tp, (a3, n3, c3), (a4, n4, c4), rs⟩ ⟨wd, tl, tu, tp, tz, ts⟩ from ⟨rfl, rfl, i1, i2, Tl, Tu, Tz, Ts⟩)
    clear Tl Tu Tz Ts hrs h1 h2 h3 h4
    go_wp2
    go_ret
    exact ⟨hbel, .inr ⟨L4, by have q1 := HL1.out; have q2 := HL2.out; have q3 := HL3.out; have q4 := HL4.out; omega, rfl, rs, _, HP.out⟩⟩
  · rw [szI_over (by omega)]
    clear hrs h1 h2 h3 h4
    go_wp2
    go_ret
    exact ⟨hbel, .inl rfl⟩
end Go.Proofs.Ytdippnnhibgjoaa
