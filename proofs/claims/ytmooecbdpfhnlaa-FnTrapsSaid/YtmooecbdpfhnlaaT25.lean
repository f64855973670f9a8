/- The contract of the laws' own draw of statements: deeds. (Written by tools/gen_deeds.py.) -/
import Derived.Test.YtmooecbdpfhnlaaT24
namespace Go.Proofs.Ytmooecbdpfhnlaa
open Go.RowKit

set_option maxRecDepth 20000 in
set_option maxHeartbeats 12800000 in
theorem deeds_2 (r : PRow) (A p most : Nat) (w : World) (hD : Dice w p) (hh : Head r A) (hm1 : 1 ≤ most) (hm4 : most ≤ 4) : Calls Try.prog 18 #[.pointer (some ⟨p, 0, none⟩), progV r, .int .i64 (most : Int), .int .i64 2] w (DrewS w p (most * 36)) := by
  have HF2 : Hid (∀ w', Dice w' p → Calls Try.prog 24 #[.pointer (some ⟨p, 0, none⟩), progV r, .int .i64 2] w' (DrewF w' p A 7)) := Lib.hid (fun w' h => formula_any r A p 2 w' (by omega) h hh)
  have HF1 : Hid (∀ w', Dice w' p → Calls Try.prog 24 #[.pointer (some ⟨p, 0, none⟩), progV r, .int .i64 1] w' (DrewF w' p A 3)) := Lib.hid (fun w' h => formula_any r A p 1 w' (by omega) h hh)
  have HI : Hid (∀ w' (mo : Nat), Dice w' p → 1 ≤ mo → mo ≤ 4 → Calls Try.prog 18 #[.pointer (some ⟨p, 0, none⟩), progV r, .int .i64 (mo : Int), .int .i64 1] w' (DrewS w' p (mo * 8))) := Lib.hid (fun w' mo h h1 h4 => deeds_1 r A p mo w' h hh h1 h4)
  obtain ⟨wd, ⟨a1, n1, c1⟩, ⟨a2, n2, c2⟩, tp, ⟨a3, n3, c3⟩, ⟨a4, n4, c4⟩, rows⟩ := r
  obtain ⟨rfl, rfl, rfl, rfl, hA⟩ := hh
  simp only [] at hA
  replace HF2 : Hid (∀ w', Dice w' p → Calls Try.prog 24 #[.pointer (some ⟨p, 0, none⟩), .agg #[.int .i64 wd, .slice a1 1 c1, .slice a2 2 c2, .int .i64 2, .slice a3 n3 c3, .slice a4 n4 c4], .int .i64 2] w' (DrewF w' p n3 7)) := HF2
  replace HF1 : Hid (∀ w', Dice w' p → Calls Try.prog 24 #[.pointer (some ⟨p, 0, none⟩), .agg #[.int .i64 wd, .slice a1 1 c1, .slice a2 2 c2, .int .i64 2, .slice a3 n3 c3, .slice a4 n4 c4], .int .i64 1] w' (DrewF w' p n3 3)) := HF1
  replace HI : Hid (∀ w' (mo : Nat), Dice w' p → 1 ≤ mo → mo ≤ 4 → Calls Try.prog 18 #[.pointer (some ⟨p, 0, none⟩), .agg #[.int .i64 wd, .slice a1 1 c1, .slice a2 2 c2, .int .i64 2, .slice a3 n3 c3, .slice a4 n4 c4], .int .i64 (mo : Int), .int .i64 1] w' (DrewS w' p (mo * 8))) := HI
  have hpB : p < w.heap.size + 1 := by have := hD.lt; omega
  obtain ⟨wa, HW⟩ : ∃ wa, Hid (wa = (w.alloc (.cells #[.int .i64 wd, .slice a1 1 c1, .slice a2 2 c2, .int .i64 2, .slice a3 n3 c3, .slice a4 n4 c4] 28)).alloc (.cells #[] 46)) := ⟨_, rfl⟩
  have G : GBox w wa p [.int .i64 wd, .slice a1 1 c1, .slice a2 2 c2, .int .i64 2, .slice a3 n3 c3, .slice a4 n4 c4] := by rw [HW.out]; exact (gbox_new w p _ hD).alloc _
  have O : AnyS wa (w.heap.size + 1) (some ⟨w.heap.size + 1, 0, none⟩) 0 0 := by
    rw [HW.out]
    have := anyS_empty (w.alloc (.cells #[.int .i64 wd, .slice a1 1 c1, .slice a2 2 c2, .int .i64 2, .slice a3 n3 c3, .slice a4 n4 c4] 28)) (w.heap.size + 1) (by simp)
    simpa using this
  show Calls Try.prog 18 #[.pointer (some ⟨p, 0, none⟩), .agg #[.int .i64 wd, .slice a1 1 c1, .slice a2 2 c2, .int .i64 2, .slice a3 n3 c3, .slice a4 n4 c4], .int .i64 (most : Int), .int .i64 2] w _
  go_enter Try.func18, Try.ntmps18
  go_wp2_with fail
  rw [← HW.out]
  refine (diceBelow_any p _ (most : Int) G.gen (by omega) (by omega)).mono ?_
  rintro e w0 ⟨x0, hx0, hx1, rfl, hd0, hg0⟩
  replace O := O.old hpB hg0
  replace G := G.step hd0 hg0
  obtain ⟨N, rfl⟩ : ∃ N : Nat, x0 = (N : Int) := ⟨x0.toNat, by omega⟩
  clear hd0 hg0 HW wa hD
  go_wp2
  go_loopw [9, 11] (fun ov nv wr => ∃ (j u n c : Nat) (a : Option Addr), j + u = 1 + N ∧ nv = .int .i64 (j : Int) ∧ ov = .slice a n c ∧ u ≤ n ∧ n ≤ u * 36 ∧ AnyS wr (w.heap.size + 1) a n c ∧ GBox w wr p [.int .i64 wd, .slice a1 1 c1, .slice a2 2 c2, .int .i64 2, .slice a3 n3 c3, .slice a4 n4 c4]) (fun _ nv _ => (intOf nv).toNat)
  case atStart => exact ⟨1 + N, 0, 0, 0, _, by omega, by go_num, rfl, by omega, by omega, O, G⟩
  case round =>
    clear O G
    obtain ⟨j, u, n, c, a, hju, rfl, rfl, hun, hnu, O, G⟩ := hrel
    have hsr := G.base
    by_cases hj : 0 < j
    case neg =>
      obtain rfl : j = 0 := by omega
      obtain ⟨g, rfl⟩ := O.some_ (by omega)
      go_wp2
      go_ret
      exact ⟨g, n, c, rfl, by omega, by omega, O.base (by omega), G.gen, G.grown⟩
    obtain ⟨i, rfl⟩ : ∃ i, j = i + 1 := ⟨j - 1, by omega⟩
    have hjp : decide (((i + 1 : Nat) : Int) > 0) = true := by simp
    go_wp2_with fail
    refine (diceBelow_any p _ 10 G.gen (by omega) (by omega)).mono ?_
    rintro e w1 ⟨k, hk0, hk1, rfl, hd1, hg1⟩
    replace O := O.old hpB hg1
    replace G := G.step hd1 hg1
    clear hd1 hg1 hj
    have hs1 := G.base
    by_cases hk3 : k < 3
    · have k3 : decide (k < 3) = true := by simpa using hk3
      have t0 := G.arg.cell (j := 0) rfl
      have t1 := G.arg.cell (j := 1) rfl
      have t2 := G.arg.cell (j := 2) rfl
      have t3 := G.arg.cell (j := 3) rfl
      have t4 := G.arg.cell (j := 4) rfl
      have t5 := G.arg.cell (j := 5) rfl
      go_wp2_with fail
      have G0 := G.drew
      have O0 : AnyS w1.drew (w.heap.size + 1) a n c := O
      go_region_held3 (fun w' => w'.cell? ⟨w.heap.size, 0, none⟩ = some (.int .i64 wd) ∧ w'.cell? ⟨w.heap.size, 1, none⟩ = some (.slice a1 1 c1) ∧ w'.cell? ⟨w.heap.size, 2, none⟩ = some (.slice a2 2 c2) ∧ w'.cell? ⟨w.heap.size, 3, none⟩ = some (.int .i64 2) ∧ w'.cell? ⟨w.heap.size, 4, none⟩ = some (.slice a3 n3 c3) ∧ w'.cell? ⟨w.heap.size, 5, none⟩ = some (.slice a4 n4 c4)) (first | (refine ⟨?_, ?_, ?_, ?_, ?_, ?_⟩ <;> assumption) | go_keep | (refine ⟨?_, ?_, ?_, ?_, ?_, ?_⟩ <;> go_keep)) (first
        | (go_at_call 19; refine (diceBelow_any p _ 2 G0.gen (by omega) (by omega)).mono ?_; rintro e w2 ⟨y, hy0, hy1, rfl, hd2, hg2⟩; have O2 := O0.old hpB hg2; have G2 := G0.step hd2 hg2; have hwy : IntKind.i64.wrap (3 + y) = 3 + y := wrapI _ (by omega) (by omega); have u0 := G2.arg.cell (j := 0) rfl; have u1 := G2.arg.cell (j := 1) rfl; have u2 := G2.arg.cell (j := 2) rfl; have u3 := G2.arg.cell (j := 3) rfl; have u4 := G2.arg.cell (j := 4) rfl; have u5 := G2.arg.cell (j := 5) rfl; clear hd2 hg2)
        | (go_at_call 24; refine (HF2.out _ G2.gen).mono ?_; rintro e w3 ⟨g3, m3, d3, ts3, rfl, p3, q3, _, ho3, hd3, hg3⟩; have T3 := ho3.base G2.base; have O3 := O2.old hpB hg3; have G3 := G2.step hd3 hg3; have hs3 := G3.base; have v0 := G3.arg.cell (j := 0) rfl; have v1 := G3.arg.cell (j := 1) rfl; have v2 := G3.arg.cell (j := 2) rfl; have v3 := G3.arg.cell (j := 3) rfl; have v4 := G3.arg.cell (j := 4) rfl; have v5 := G3.arg.cell (j := 5) rfl; clear ho3 hd3 hg3)
        | (refine step_pushS _ (by rfl) _ _ (by rfl) (w.heap.size + 1) _ _ _ (by rfl) (O3.alloc _) ⟨w3.heap.size, 0, none⟩ 1 1 (by rfl) (news_exp (by first | exact in64s (by omega) (by omega) | exact in64_wrap _) (by first | exact in64s (by omega) (by omega) | exact in64_wrap _) T3) (by omega) (by omega) (by simp; omega) ?_; intro b4 e4 w4 O4 hg4; have G4 := (G3.alloc _).grow hg4.1 (fun g e => (O3.block g e).1); have x0 := G4.arg.cell (j := 0) rfl; have x1 := G4.arg.cell (j := 1) rfl; have x2 := G4.arg.cell (j := 2) rfl; have x3 := G4.arg.cell (j := 3) rfl; have x4 := G4.arg.cell (j := 4) rfl; have x5 := G4.arg.cell (j := 5) rfl; clear hg4))
      clear O G
      have O := O4
      have G := G4
      clear O4 G4 O0 O2 O3 G0 G2 G3 T3
      go_wp2
      go_roundw
      case rel => exact ⟨i, u + 1, n + 1, e4, b4, by omega, by go_num, rfl, by omega, by omega, O, G⟩
      case measure => simp [intOf]
    have k3 : decide (k < 3) = false := by simpa using hk3
    by_cases hk5 : k < 5
    · have k5 : decide (k < 5) = true := by simpa using hk5
      have t0 := G.arg.cell (j := 0) rfl
      have t1 := G.arg.cell (j := 1) rfl
      have t2 := G.arg.cell (j := 2) rfl
      have t3 := G.arg.cell (j := 3) rfl
      have t4 := G.arg.cell (j := 4) rfl
      have t5 := G.arg.cell (j := 5) rfl
      go_wp2_with fail
      refine (HF2.out _ G.gen).mono ?_
      rintro e w11 ⟨g11, m11, d11, ts11, rfl, p11, q11, _, ho11, hd11, hg11⟩
      have T11 := ho11.base G.base
      replace O := O.old hpB hg11
      replace G := G.step hd11 hg11
      have hs11 := G.base
      clear ho11 hd11 hg11
      clear t0 t1 t2 t3 t4 t5
      go_wp2_with (at_builtin; refine wpList_pushS _ rfl _ _ rfl (w.heap.size + 1) _ _ _ rfl (O.alloc _) ⟨w11.heap.size, 0, none⟩ 1 1 rfl (news_exp (by first | exact in64s (by omega) (by omega) | exact in64_wrap _) (by first | exact in64s (by omega) (by omega) | exact in64_wrap _) T11) (by omega) (by simp; omega) ?_)
      intro b12 e12 w12 O12 hg12
      replace G := (G.alloc _).grow hg12.1 (fun g e => (O.block g e).1)
      replace O := O12
      have hs12 := G.base
      clear hg12
      go_wp2
      go_roundw
      case rel => exact ⟨i, u + 1, n + 1, e12, b12, by omega, by go_num, rfl, by omega, by omega, O, G⟩
      case measure => simp [intOf]
    have k5 : decide (k < 5) = false := by simpa using hk5
    by_cases e5 : k = 5
    · subst e5
      by_cases hn3 : 0 < n3
      case neg =>
        have hn0 : decide ((n3 : Int) > 0) = false := by simp; omega
        have t0 := G.arg.cell (j := 0) rfl
        have t1 := G.arg.cell (j := 1) rfl
        have t2 := G.arg.cell (j := 2) rfl
        have t3 := G.arg.cell (j := 3) rfl
        have t4 := G.arg.cell (j := 4) rfl
        have t5 := G.arg.cell (j := 5) rfl
        go_wp2_with fail
        refine (diceBelow_any p _ 3 G.gen (by omega) (by omega)).mono ?_
        rintro e w11 ⟨y11, hy11, hz11, rfl, hd11, hg11⟩
        replace O := O.old hpB hg11
        replace G := G.step hd11 hg11
        have hs11 := G.base
        clear hd11 hg11
        clear t0 t1 t2 t3 t4 t5
        go_wp2_with fail
        refine (variable_any y11 _ (inTm1 hy11 (by omega))).mono ?_
        rintro e w12 ⟨rfl, ho12, hb12⟩
        have T12 := ho12.base G.base
        replace O := O.below hb12
        replace G := G.below hb12
        have hs12 := G.base
        clear ho12 hb12
        go_wp2_with (at_builtin; refine wpList_pushS _ rfl _ _ rfl (w.heap.size + 1) _ _ _ rfl (O.alloc _) ⟨w12.heap.size, 0, none⟩ 1 1 rfl (news_exp (by first | exact in64s (by omega) (by omega) | exact in64_wrap _) (by first | exact in64s (by omega) (by omega) | exact in64_wrap _) T12) (by omega) (by simp; omega) ?_)
        intro b13 e13 w13 O13 hg13
        replace G := (G.alloc _).grow hg13.1 (fun g e => (O.block g e).1)
        replace O := O13
        have hs13 := G.base
        clear hg13
        go_wp2
        go_roundw
        case rel => exact ⟨i, u + 1, n + 1, e13, b13, by omega, by go_num, rfl, by omega, by omega, O, G⟩
        case measure => simp [intOf]
      have hn0 : decide ((n3 : Int) > 0) = true := by simp; omega
      have t0 := G.arg.cell (j := 0) rfl
      have t1 := G.arg.cell (j := 1) rfl
      have t2 := G.arg.cell (j := 2) rfl
      have t3 := G.arg.cell (j := 3) rfl
      have t4 := G.arg.cell (j := 4) rfl
      have t5 := G.arg.cell (j := 5) rfl
      go_wp2_with fail
      have G0 := G.drew
      have O0 : AnyS w1.drew (w.heap.size + 1) a n c := O
      go_region_held3 (fun w' => w'.cell? ⟨w.heap.size, 0, none⟩ = some (.int .i64 wd) ∧ w'.cell? ⟨w.heap.size, 1, none⟩ = some (.slice a1 1 c1) ∧ w'.cell? ⟨w.heap.size, 2, none⟩ = some (.slice a2 2 c2) ∧ w'.cell? ⟨w.heap.size, 3, none⟩ = some (.int .i64 2) ∧ w'.cell? ⟨w.heap.size, 4, none⟩ = some (.slice a3 n3 c3) ∧ w'.cell? ⟨w.heap.size, 5, none⟩ = some (.slice a4 n4 c4)) (first | (refine ⟨?_, ?_, ?_, ?_, ?_, ?_⟩ <;> assumption) | go_keep | (refine ⟨?_, ?_, ?_, ?_, ?_, ?_⟩ <;> go_keep)) (first
        | (go_at_call 24; refine (HF1.out _ G0.gen).mono ?_; rintro e w2 ⟨g2, m2, d2, ts2, rfl, p2, q2, _, ho2, hd2, hg2⟩; have T2 := ho2.base G0.base; have O2 := O0.old hpB hg2; have G2 := G0.step hd2 hg2; have u0 := G2.arg.cell (j := 0) rfl; have u1 := G2.arg.cell (j := 1) rfl; have u2 := G2.arg.cell (j := 2) rfl; have u3 := G2.arg.cell (j := 3) rfl; have u4 := G2.arg.cell (j := 4) rfl; have u5 := G2.arg.cell (j := 5) rfl; clear ho2 hd2 hg2)
        | (go_at_call 24; refine (HF1.out _ G2.gen).mono ?_; rintro e w3 ⟨g3, m3, d3, ts3, rfl, p3, q3, _, ho3, hd3, hg3⟩; have T3 := ho3.base G2.base; have T2' := ownT_gen G2 T2 hg3; have O3 := O2.old hpB hg3; have G3 := G2.step hd3 hg3; have hs3 := G3.base; have v0 := G3.arg.cell (j := 0) rfl; have v1 := G3.arg.cell (j := 1) rfl; have v2 := G3.arg.cell (j := 2) rfl; have v3 := G3.arg.cell (j := 3) rfl; have v4 := G3.arg.cell (j := 4) rfl; have v5 := G3.arg.cell (j := 5) rfl; clear ho3 hd3 hg3)
        | (refine step_pushS _ (by rfl) _ _ (by rfl) (w.heap.size + 1) _ _ _ (by rfl) (O3.alloc _) ⟨w3.heap.size, 0, none⟩ 1 1 (by rfl) (news_both (by first | exact in64s (by omega) (by omega) | exact in64_wrap _) (by first | exact in64s (by omega) (by omega) | exact in64_wrap _) T2' T3) (by omega) (by omega) (by simp; omega) ?_; intro b4 e4 w4 O4 hg4; have G4 := (G3.alloc _).grow hg4.1 (fun g e => (O3.block g e).1); have x0 := G4.arg.cell (j := 0) rfl; have x1 := G4.arg.cell (j := 1) rfl; have x2 := G4.arg.cell (j := 2) rfl; have x3 := G4.arg.cell (j := 3) rfl; have x4 := G4.arg.cell (j := 4) rfl; have x5 := G4.arg.cell (j := 5) rfl; clear hg4))
      clear O G
      have O := O4
      have G := G4
      clear O4 G4 O0 O2 O3 G0 G2 G3 T3
      go_wp2
      go_roundw
      case rel => exact ⟨i, u + 1, n + 1, e4, b4, by omega, by go_num, rfl, by omega, by omega, O, G⟩
      case measure => simp [intOf]
    by_cases e6 : k = 6
    · subst e6
      have t0 := G.arg.cell (j := 0) rfl
      have t1 := G.arg.cell (j := 1) rfl
      have t2 := G.arg.cell (j := 2) rfl
      have t3 := G.arg.cell (j := 3) rfl
      have t4 := G.arg.cell (j := 4) rfl
      have t5 := G.arg.cell (j := 5) rfl
      go_wp2_with fail
      refine (HF1.out _ G.gen).mono ?_
      rintro e w11 ⟨g11, m11, d11, ts11, rfl, p11, q11, _, ho11, hd11, hg11⟩
      have T11 := ho11.base G.base
      replace O := O.old hpB hg11
      replace G := G.step hd11 hg11
      have hs11 := G.base
      clear ho11 hd11 hg11
      clear t0 t1 t2 t3 t4 t5
      go_wp2_with (at_builtin; refine wpList_pushS _ rfl _ _ rfl (w.heap.size + 1) _ _ _ rfl (O.alloc _) ⟨w11.heap.size, 0, none⟩ 1 1 rfl (news_exp (by first | exact in64s (by omega) (by omega) | exact in64_wrap _) (by first | exact in64s (by omega) (by omega) | exact in64_wrap _) T11) (by omega) (by simp; omega) ?_)
      intro b12 e12 w12 O12 hg12
      replace G := (G.alloc _).grow hg12.1 (fun g e => (O.block g e).1)
      replace O := O12
      have hs12 := G.base
      clear hg12
      have t0 := G.arg.cell (j := 0) rfl
      have t1 := G.arg.cell (j := 1) rfl
      have t2 := G.arg.cell (j := 2) rfl
      have t3 := G.arg.cell (j := 3) rfl
      have t4 := G.arg.cell (j := 4) rfl
      have t5 := G.arg.cell (j := 5) rfl
      go_wp2_with fail
      refine (HI.out _ 2 G.gen (by omega) (by omega)).mono ?_
      rintro e w13 ⟨g13, m13, d13, rfl, p13, q13, ho13, hd13, hg13⟩
      have T13 := ho13.base G.base
      replace O := O.old hpB hg13
      replace G := G.step hd13 hg13
      have hs13 := G.base
      clear ho13 hd13 hg13
      clear t0 t1 t2 t3 t4 t5
      go_wp2_with (at_builtin; refine wpList_pushS _ rfl _ _ rfl (w.heap.size + 1) _ _ _ rfl O ⟨g13, 0, none⟩ m13 d13 rfl T13.news (by omega) (by omega) ?_)
      intro b14 e14 w14 O14 hg14
      replace G := G.grow hg14.1 (fun g e => (O.block g e).1)
      replace O := O14
      have hs14 := G.base
      clear hg14
      go_wp2_with fail
      refine (diceBelow_any p _ 2 G.gen (by omega) (by omega)).mono ?_
      rintro e w15 ⟨y15, hy15, hz15, rfl, hd15, hg15⟩
      replace O := O.old hpB hg15
      replace G := G.step hd15 hg15
      have hs15 := G.base
      clear hd15 hg15
      by_cases hz0 : y15 = 0
      · subst hz0
        go_wp2_with (at_builtin; refine wpList_pushS _ rfl _ _ rfl (w.heap.size + 1) _ _ _ rfl (O.alloc _) ⟨w15.heap.size, 0, none⟩ 1 1 rfl (news_plain (op := 3) (x := 0) (by first | exact in64s (by omega) (by omega) | exact in64_wrap _) (by first | exact in64s (by omega) (by omega) | exact in64_wrap _)) (by omega) (by simp; omega) ?_)
        intro b16 e16 w16 O16 hg16
        replace G := (G.alloc _).grow hg16.1 (fun g e => (O.block g e).1)
        replace O := O16
        have hs16 := G.base
        clear hg16
        have t0 := G.arg.cell (j := 0) rfl
        have t1 := G.arg.cell (j := 1) rfl
        have t2 := G.arg.cell (j := 2) rfl
        have t3 := G.arg.cell (j := 3) rfl
        have t4 := G.arg.cell (j := 4) rfl
        have t5 := G.arg.cell (j := 5) rfl
        go_wp2_with fail
        refine (HI.out _ 2 G.gen (by omega) (by omega)).mono ?_
        rintro e w17 ⟨g17, m17, d17, rfl, p17, q17, ho17, hd17, hg17⟩
        have T17 := ho17.base G.base
        replace O := O.old hpB hg17
        replace G := G.step hd17 hg17
        have hs17 := G.base
        clear ho17 hd17 hg17
        clear t0 t1 t2 t3 t4 t5
        go_wp2_with (at_builtin; refine wpList_pushS _ rfl _ _ rfl (w.heap.size + 1) _ _ _ rfl O ⟨g17, 0, none⟩ m17 d17 rfl T17.news (by omega) (by omega) ?_)
        intro b18 e18 w18 O18 hg18
        replace G := G.grow hg18.1 (fun g e => (O.block g e).1)
        replace O := O18
        have hs18 := G.base
        clear hg18
        go_wp2_with (at_builtin; refine wpList_pushS _ rfl _ _ rfl (w.heap.size + 1) _ _ _ rfl (O.alloc _) ⟨w18.heap.size, 0, none⟩ 1 1 rfl (news_plain (op := 4) (x := 0) (by first | exact in64s (by omega) (by omega) | exact in64_wrap _) (by first | exact in64s (by omega) (by omega) | exact in64_wrap _)) (by omega) (by simp; omega) ?_)
        intro b19 e19 w19 O19 hg19
        replace G := (G.alloc _).grow hg19.1 (fun g e => (O.block g e).1)
        replace O := O19
        have hs19 := G.base
        clear hg19
        go_wp2
        go_roundw
        case rel => exact ⟨i, u + 1, n + 1 + m13 + 1 + m17 + 1, e19, b19, by omega, by go_num, rfl, by omega, by omega, O, G⟩
        case measure => simp [intOf]
      · have hzz : (y15 == 0) = false := by simpa using hz0
        go_wp2_with (at_builtin; refine wpList_pushS _ rfl _ _ rfl (w.heap.size + 1) _ _ _ rfl (O.alloc _) ⟨w15.heap.size, 0, none⟩ 1 1 rfl (news_plain (op := 4) (x := 0) (by first | exact in64s (by omega) (by omega) | exact in64_wrap _) (by first | exact in64s (by omega) (by omega) | exact in64_wrap _)) (by omega) (by simp; omega) ?_)
        intro b16 e16 w16 O16 hg16
        replace G := (G.alloc _).grow hg16.1 (fun g e => (O.block g e).1)
        replace O := O16
        have hs16 := G.base
        clear hg16
        go_wp2
        go_roundw
        case rel => exact ⟨i, u + 1, n + 1 + m13 + 1, e16, b16, by omega, by go_num, rfl, by omega, by omega, O, G⟩
        case measure => simp [intOf]
    by_cases e7 : k = 7
    · subst e7
      go_wp2_with fail
      refine (diceBelow_any p _ 4 G.gen (by omega) (by omega)).mono ?_
      rintro e w11 ⟨y11, hy11, hz11, rfl, hd11, hg11⟩
      replace O := O.old hpB hg11
      replace G := G.step hd11 hg11
      have hs11 := G.base
      clear hd11 hg11
      go_wp2_with (at_builtin; refine wpList_pushS _ rfl _ _ rfl (w.heap.size + 1) _ _ _ rfl (O.alloc _) ⟨w11.heap.size, 0, none⟩ 1 1 rfl (news_plain (op := 5) (x := y11) (by first | exact in64s (by omega) (by omega) | exact in64_wrap _) (by first | exact in64s (by omega) (by omega) | exact in64_wrap _)) (by omega) (by simp; omega) ?_)
      intro b12 e12 w12 O12 hg12
      replace G := (G.alloc _).grow hg12.1 (fun g e => (O.block g e).1)
      replace O := O12
      have hs12 := G.base
      clear hg12
      have t0 := G.arg.cell (j := 0) rfl
      have t1 := G.arg.cell (j := 1) rfl
      have t2 := G.arg.cell (j := 2) rfl
      have t3 := G.arg.cell (j := 3) rfl
      have t4 := G.arg.cell (j := 4) rfl
      have t5 := G.arg.cell (j := 5) rfl
      go_wp2_with fail
      refine (HI.out _ 2 G.gen (by omega) (by omega)).mono ?_
      rintro e w13 ⟨g13, m13, d13, rfl, p13, q13, ho13, hd13, hg13⟩
      have T13 := ho13.base G.base
      replace O := O.old hpB hg13
      replace G := G.step hd13 hg13
      have hs13 := G.base
      clear ho13 hd13 hg13
      clear t0 t1 t2 t3 t4 t5
      go_wp2_with (at_builtin; refine wpList_pushS _ rfl _ _ rfl (w.heap.size + 1) _ _ _ rfl O ⟨g13, 0, none⟩ m13 d13 rfl T13.news (by omega) (by omega) ?_)
      intro b14 e14 w14 O14 hg14
      replace G := G.grow hg14.1 (fun g e => (O.block g e).1)
      replace O := O14
      have hs14 := G.base
      clear hg14
      go_wp2_with (at_builtin; refine wpList_pushS _ rfl _ _ rfl (w.heap.size + 1) _ _ _ rfl (O.alloc _) ⟨w14.heap.size, 0, none⟩ 1 1 rfl (news_plain (op := 4) (x := 0) (by first | exact in64s (by omega) (by omega) | exact in64_wrap _) (by first | exact in64s (by omega) (by omega) | exact in64_wrap _)) (by omega) (by simp; omega) ?_)
      intro b15 e15 w15 O15 hg15
      replace G := (G.alloc _).grow hg15.1 (fun g e => (O.block g e).1)
      replace O := O15
      have hs15 := G.base
      clear hg15
      go_wp2
      go_roundw
      case rel => exact ⟨i, u + 1, n + 1 + m13 + 1, e15, b15, by omega, by go_num, rfl, by omega, by omega, O, G⟩
      case measure => simp [intOf]
    by_cases e8 : k = 8
    · subst e8
      go_wp2_with (at_builtin; refine wpList_pushS _ rfl _ _ rfl (w.heap.size + 1) _ _ _ rfl (O.alloc _) ⟨w1.heap.size, 0, none⟩ 1 1 rfl (news_plain (op := 8) (x := 0) (by first | exact in64s (by omega) (by omega) | exact in64_wrap _) (by first | exact in64s (by omega) (by omega) | exact in64_wrap _)) (by omega) (by simp; omega) ?_)
      intro b11 e11 w11 O11 hg11
      replace G := (G.alloc _).grow hg11.1 (fun g e => (O.block g e).1)
      replace O := O11
      have hs11 := G.base
      clear hg11
      have t0 := G.arg.cell (j := 0) rfl
      have t1 := G.arg.cell (j := 1) rfl
      have t2 := G.arg.cell (j := 2) rfl
      have t3 := G.arg.cell (j := 3) rfl
      have t4 := G.arg.cell (j := 4) rfl
      have t5 := G.arg.cell (j := 5) rfl
      go_wp2_with fail
      refine (HI.out _ 2 G.gen (by omega) (by omega)).mono ?_
      rintro e w12 ⟨g12, m12, d12, rfl, p12, q12, ho12, hd12, hg12⟩
      have T12 := ho12.base G.base
      replace O := O.old hpB hg12
      replace G := G.step hd12 hg12
      have hs12 := G.base
      clear ho12 hd12 hg12
      clear t0 t1 t2 t3 t4 t5
      go_wp2_with (at_builtin; refine wpList_pushS _ rfl _ _ rfl (w.heap.size + 1) _ _ _ rfl O ⟨g12, 0, none⟩ m12 d12 rfl T12.news (by omega) (by omega) ?_)
      intro b13 e13 w13 O13 hg13
      replace G := G.grow hg13.1 (fun g e => (O.block g e).1)
      replace O := O13
      have hs13 := G.base
      clear hg13
      go_wp2_with fail
      refine (diceBelow_any p _ 2 G.gen (by omega) (by omega)).mono ?_
      rintro e w14 ⟨y14, hy14, hz14, rfl, hd14, hg14⟩
      replace O := O.old hpB hg14
      replace G := G.step hd14 hg14
      have hs14 := G.base
      clear hd14 hg14
      go_wp2_with fail
      refine (diceBelow_any p _ 2 G.gen (by omega) (by omega)).mono ?_
      rintro e w15 ⟨y15, hy15, hz15, rfl, hd15, hg15⟩
      replace O := O.old hpB hg15
      replace G := G.step hd15 hg15
      have hs15 := G.base
      clear hd15 hg15
      go_wp2_with (at_builtin; refine wpList_pushS _ rfl _ _ rfl (w.heap.size + 1) _ _ _ rfl (O.alloc _) ⟨w15.heap.size, 0, none⟩ 2 2 rfl (news_two (op := 7) (x := y14) (op' := 9) (x' := y15) (by first | exact in64s (by omega) (by omega) | exact in64_wrap _) (by first | exact in64s (by omega) (by omega) | exact in64_wrap _) (by first | exact in64s (by omega) (by omega) | exact in64_wrap _) (by first | exact in64s (by omega) (by omega) | exact in64_wrap _)) (by omega) (by simp; omega) ?_)
      intro b16 e16 w16 O16 hg16
      replace G := (G.alloc _).grow hg16.1 (fun g e => (O.block g e).1)
      replace O := O16
      have hs16 := G.base
      clear hg16
      have t0 := G.arg.cell (j := 0) rfl
      have t1 := G.arg.cell (j := 1) rfl
      have t2 := G.arg.cell (j := 2) rfl
      have t3 := G.arg.cell (j := 3) rfl
      have t4 := G.arg.cell (j := 4) rfl
      have t5 := G.arg.cell (j := 5) rfl
      go_wp2_with fail
      refine (HI.out _ 1 G.gen (by omega) (by omega)).mono ?_
      rintro e w17 ⟨g17, m17, d17, rfl, p17, q17, ho17, hd17, hg17⟩
      have T17 := ho17.base G.base
      replace O := O.old hpB hg17
      replace G := G.step hd17 hg17
      have hs17 := G.base
      clear ho17 hd17 hg17
      clear t0 t1 t2 t3 t4 t5
      go_wp2_with (at_builtin; refine wpList_pushS _ rfl _ _ rfl (w.heap.size + 1) _ _ _ rfl O ⟨g17, 0, none⟩ m17 d17 rfl T17.news (by omega) (by omega) ?_)
      intro b18 e18 w18 O18 hg18
      replace G := G.grow hg18.1 (fun g e => (O.block g e).1)
      replace O := O18
      have hs18 := G.base
      clear hg18
      go_wp2_with (at_builtin; refine wpList_pushS _ rfl _ _ rfl (w.heap.size + 1) _ _ _ rfl (O.alloc _) ⟨w18.heap.size, 0, none⟩ 1 1 rfl (news_plain (op := 4) (x := 0) (by first | exact in64s (by omega) (by omega) | exact in64_wrap _) (by first | exact in64s (by omega) (by omega) | exact in64_wrap _)) (by omega) (by simp; omega) ?_)
      intro b19 e19 w19 O19 hg19
      replace G := (G.alloc _).grow hg19.1 (fun g e => (O.block g e).1)
      replace O := O19
      have hs19 := G.base
      clear hg19
      go_wp2
      go_roundw
      case rel => exact ⟨i, u + 1, n + 1 + m12 + 2 + m17 + 1, e19, b19, by omega, by go_num, rfl, by omega, by omega, O, G⟩
      case measure => simp [intOf]
    obtain rfl : k = 9 := by omega
    have t0 := G.arg.cell (j := 0) rfl
    have t1 := G.arg.cell (j := 1) rfl
    have t2 := G.arg.cell (j := 2) rfl
    have t3 := G.arg.cell (j := 3) rfl
    have t4 := G.arg.cell (j := 4) rfl
    have t5 := G.arg.cell (j := 5) rfl
    go_wp2_with fail
    refine (diceBelow_any p _ 3 G.gen (by omega) (by omega)).mono ?_
    rintro e w11 ⟨y11, hy11, hz11, rfl, hd11, hg11⟩
    replace O := O.old hpB hg11
    replace G := G.step hd11 hg11
    have hs11 := G.base
    clear hd11 hg11
    clear t0 t1 t2 t3 t4 t5
    go_wp2_with fail
    refine (variable_any y11 _ (inTm1 hy11 (by omega))).mono ?_
    rintro e w12 ⟨rfl, ho12, hb12⟩
    have T12 := ho12.base G.base
    replace O := O.below hb12
    replace G := G.below hb12
    have hs12 := G.base
    clear ho12 hb12
    go_wp2_with (at_builtin; refine wpList_pushS _ rfl _ _ rfl (w.heap.size + 1) _ _ _ rfl (O.alloc _) ⟨w12.heap.size, 0, none⟩ 1 1 rfl (news_exp (by first | exact in64s (by omega) (by omega) | exact in64_wrap _) (by first | exact in64s (by omega) (by omega) | exact in64_wrap _) T12) (by omega) (by simp; omega) ?_)
    intro b13 e13 w13 O13 hg13
    replace G := (G.alloc _).grow hg13.1 (fun g e => (O.block g e).1)
    replace O := O13
    have hs13 := G.base
    clear hg13
    go_wp2
    go_roundw
    case rel => exact ⟨i, u + 1, n + 1, e13, b13, by omega, by go_num, rfl, by omega, by omega, O, G⟩
    case measure => simp [intOf]
end Go.Proofs.Ytmooecbdpfhnlaa
