/- Joined texts of this proof (Deeds2, DrawProg, Programs, SpecVal0), in build order. -/
import Derived.Test.YtmooecbdpfhnlaaT22
import Derived.Test.YtmooecbdpfhnlaaT10
import Derived.Test.YtmooecbdpfhnlaaT18
import Derived.Test.YtmooecbdpfhnlaaT6
/- The contract of the laws' own draw of statements: deeds. (Written by tools/gen_deeds.py.) -/
namespace Go.Proofs.Ytmooecbdpfhnlaa
open Go.RowKit

set_option maxRecDepth 20000 in
set_option maxHeartbeats 12800000 in
theorem deeds_2 (r : PRow) (A p most : Nat) (w : World) (hD : Dice w p) (hh : Head r A) (hm1 : 1 ≤ most) (hm4 : most ≤ 4) : Calls Try.prog 18 #[.pointer (some ⟨p, 0, none⟩), progV r, .int .i64 (most : Int), .int .i64 2] w (DrewS w p (most * 36)) := by
  have HF2 : Hid (∀ w', Dice w' p → Calls Try.prog 24 #[.pointer (some ⟨p, 0, none⟩), progV r, .int .i64 2] w' (DrewF w' p A 7)) := Lib.hid (fun w' h => formula_any r A p 2 w' (by omega) h hh)
  have HF1 : Hid (∀ w', Dice w' p → Calls Try.prog 24 #[.pointer (some ⟨p, 0, none⟩), progV r, .int .i64 1] w' (DrewF w' p A 3)) := Lib.hid (fun w' h => formula_any r A p 1 w' (by omega) h hh)
  have HI : Hid (∀ w' (mo : Nat), Dice w' p → 1 ≤ mo → mo ≤ 4 → Calls Try.prog 18 #[.pointer (some ⟨p, 0, none⟩), progV r, .int .i64 (mo : Int), .int .i64 1] w' (DrewS w' p (mo * 8))) := Lib.hid (fun w' mo h h1 h4 => deeds_1 r A p mo w' h hh h1 h4)
  obtain ⟨wd, ⟨a1, n1, c1⟩, ⟨a2, n2, c2⟩, tp, ⟨a3, n3, c3⟩, ⟨a4, n4, c4⟩, rows⟩ := r
  obtain ⟨rfl, rfl, rfl, rfl, hA⟩ := hh
  simp only [] at hA
  replace HF2 : Hid (∀ w', Dice w' p → Calls Try.prog 24 #[.pointer (some ⟨p, 0, none⟩), .agg #[.int .i64 wd, .slice a1 1 c1, .slice a2 2 c2, .int .i64 2, .slice a3 n3 c3, .slice a4 n4 c4], .int .i64 2] w' (DrewF w' p n3 7)) := HF2
  replace HF1 : Hid (∀ w', Dice w' p → Calls Try.prog 24 #[.pointer (some ⟨p, 0, none⟩), .agg #[.int .i64 wd, .slice a1 1 c1, .slice a2 2 c2, .int .i64 2, .slice a3 n3 c3, .slice a4 n4 c4], .int .i64 1] w' (DrewF w' p n3 3)) := HF1
  replace HI : Hid (∀ w' (mo : Nat), Dice w' p → 1 ≤ mo → mo ≤ 4 → Calls Try.prog 18 #[.pointer (some ⟨p, 0, none⟩), .agg #[.int .i64 wd, .slice a1 1 c1, .slice a2 2 c2, .int .i64 2, .slice a3 n3 c3, .slice a4 n4 c4], .int .i64 (mo : Int), .int .i64 1] w' (DrewS w' p (mo * 8))) := HI
  have hpB : p < w.heap.size + 1 := by have := hD.lt; omega
  obtain ⟨wa, HW⟩ : ∃ wa, Hid (wa = (w.alloc (.cells #[.int .i64 wd, .slice a1 1 c1, .slice a2 2 c2, .int .i64 2, .slice a3 n3 c3, .slice a4 n4 c4] 28)).alloc (.cells #[] 46)) := ⟨_, rfl⟩
  have G : GBox w wa p [.int .i64 wd, .slice a1 1 c1, .slice a2 2 c2, .int .i64 2, .slice a3 n3 c3, .slice a4 n4 c4] := by rw [HW.out]; exact (gbox_new w p _ hD).alloc _
  have O : AnyS wa (w.heap.size + 1) (some ⟨w.heap.size + 1, 0, none⟩) 0 0 := by
    rw [HW.out]
    have := anyS_empty (w.alloc (.cells #[.int .i64 wd, .slice a1 1 c1, .slice a2 2 c2, .int .i64 2, .slice a3 n3 c3, .slice a4 n4 c4] 28)) (w.heap.size + 1) (by simp)
    simpa using this
  show Calls Try.prog 18 #[.pointer (some ⟨p, 0, none⟩), .agg #[.int .i64 wd, .slice a1 1 c1, .slice a2 2 c2, .int .i64 2, .slice a3 n3 c3, .slice a4 n4 c4], .int .i64 (most : Int), .int .i64 2] w _
  go_enter Try.func18, Try.ntmps18
  go_wp2_with fail
  rw [← HW.out]
  refine (diceBelow_any p _ (most : Int) G.gen (by omega) (by omega)).mono ?_
  rintro e w0 ⟨x0, hx0, hx1, rfl, hd0, hg0⟩
  replace O := O.old hpB hg0
  replace G := G.step hd0 hg0
  obtain ⟨N, rfl⟩ : ∃ N : Nat, x0 = (N : Int) := ⟨x0.toNat, by omega⟩
  clear hd0 hg0 HW wa hD
  go_wp2
  go_loopw [9, 11] (fun ov nv wr => ∃ (j u n c : Nat) (a : Option Addr), j + u = 1 + N ∧ nv = .int .i64 (j : Int) ∧ ov = .slice a n c ∧ u ≤ n ∧ n ≤ u * 36 ∧ AnyS wr (w.heap.size + 1) a n c ∧ GBox w wr p [.int .i64 wd, .slice a1 1 c1, .slice a2 2 c2, .int .i64 2, .slice a3 n3 c3, .slice a4 n4 c4]) (fun _ nv _ => (intOf nv).toNat)
  case atStart => exact ⟨1 + N, 0, 0, 0, _, by omega, by go_num, rfl, by omega, by omega, O, G⟩
  case round =>
    clear O G
    obtain ⟨j, u, n, c, a, hju, rfl, rfl, hun, hnu, O, G⟩ := hrel
    have hsr := G.base
    by_cases hj : 0 < j
    case neg =>
      obtain rfl : j = 0 := by omega
      obtain ⟨g, rfl⟩ := O.some_ (by omega)
      go_wp2
      go_ret
      exact ⟨g, n, c, rfl, by omega, by omega, O.base (by omega), G.gen, G.grown⟩
    obtain ⟨i, rfl⟩ : ∃ i, j = i + 1 := ⟨j - 1, by omega⟩
    have hjp : decide (((i + 1 : Nat) : Int) > 0) = true := by simp
    go_wp2_with fail
    refine (diceBelow_any p _ 10 G.gen (by omega) (by omega)).mono ?_
    rintro e w1 ⟨k, hk0, hk1, rfl, hd1, hg1⟩
    replace O := O.old hpB hg1
    replace G := G.step hd1 hg1
    clear hd1 hg1 hj
    have hs1 := G.base
    by_cases hk3 : k < 3
    · have k3 : decide (k < 3) = true := by simpa using hk3
      have t0 := G.arg.cell (j := 0) rfl
      have t1 := G.arg.cell (j := 1) rfl
      have t2 := G.arg.cell (j := 2) rfl
      have t3 := G.arg.cell (j := 3) rfl
      have t4 := G.arg.cell (j := 4) rfl
      have t5 := G.arg.cell (j := 5) rfl
      go_wp2_with fail
      have G0 := G.drew
      have O0 : AnyS w1.drew (w.heap.size + 1) a n c := O
      go_region_held3 (fun w' => w'.cell? ⟨w.heap.size, 0, none⟩ = some (.int .i64 wd) ∧ w'.cell? ⟨w.heap.size, 1, none⟩ = some (.slice a1 1 c1) ∧ w'.cell? ⟨w.heap.size, 2, none⟩ = some (.slice a2 2 c2) ∧ w'.cell? ⟨w.heap.size, 3, none⟩ = some (.int .i64 2) ∧ w'.cell? ⟨w.heap.size, 4, none⟩ = some (.slice a3 n3 c3) ∧ w'.cell? ⟨w.heap.size, 5, none⟩ = some (.slice a4 n4 c4)) (first | (refine ⟨?_, ?_, ?_, ?_, ?_, ?_⟩ <;> assumption) | go_keep | (refine ⟨?_, ?_, ?_, ?_, ?_, ?_⟩ <;> go_keep)) (first
        | (go_at_call 19; refine (diceBelow_any p _ 2 G0.gen (by omega) (by omega)).mono ?_; rintro e w2 ⟨y, hy0, hy1, rfl, hd2, hg2⟩; have O2 := O0.old hpB hg2; have G2 := G0.step hd2 hg2; have hwy : IntKind.i64.wrap (3 + y) = 3 + y := wrapI _ (by omega) (by omega); have u0 := G2.arg.cell (j := 0) rfl; have u1 := G2.arg.cell (j := 1) rfl; have u2 := G2.arg.cell (j := 2) rfl; have u3 := G2.arg.cell (j := 3) rfl; have u4 := G2.arg.cell (j := 4) rfl; have u5 := G2.arg.cell (j := 5) rfl; clear hd2 hg2)
        | (go_at_call 24; refine (HF2.out _ G2.gen).mono ?_; rintro e w3 ⟨g3, m3, d3, ts3, rfl, p3, q3, _, ho3, hd3, hg3⟩; have T3 := ho3.base G2.base; have O3 := O2.old hpB hg3; have G3 := G2.step hd3 hg3; have hs3 := G3.base; have v0 := G3.arg.cell (j := 0) rfl; have v1 := G3.arg.cell (j := 1) rfl; have v2 := G3.arg.cell (j := 2) rfl; have v3 := G3.arg.cell (j := 3) rfl; have v4 := G3.arg.cell (j := 4) rfl; have v5 := G3.arg.cell (j := 5) rfl; clear ho3 hd3 hg3)
        | (refine step_pushS _ (by rfl) _ _ (by rfl) (w.heap.size + 1) _ _ _ (by rfl) (O3.alloc _) ⟨w3.heap.size, 0, none⟩ 1 1 (by rfl) (news_exp (by first | exact in64s (by omega) (by omega) | exact in64_wrap _) (by first | exact in64s (by omega) (by omega) | exact in64_wrap _) T3) (by omega) (by omega) (by simp; omega) ?_; intro b4 e4 w4 O4 hg4; have G4 := (G3.alloc _).grow hg4.1 (fun g e => (O3.block g e).1); have x0 := G4.arg.cell (j := 0) rfl; have x1 := G4.arg.cell (j := 1) rfl; have x2 := G4.arg.cell (j := 2) rfl; have x3 := G4.arg.cell (j := 3) rfl; have x4 := G4.arg.cell (j := 4) rfl; have x5 := G4.arg.cell (j := 5) rfl; clear hg4))
      clear O G
      have O := O4
      have G := G4
      clear O4 G4 O0 O2 O3 G0 G2 G3 T3
      go_wp2
      go_roundw
      case rel => exact ⟨i, u + 1, n + 1, e4, b4, by omega, by go_num, rfl, by omega, by omega, O, G⟩
      case measure => simp [intOf]
    have k3 : decide (k < 3) = false := by simpa using hk3
    by_cases hk5 : k < 5
    · have k5 : decide (k < 5) = true := by simpa using hk5
      have t0 := G.arg.cell (j := 0) rfl
      have t1 := G.arg.cell (j := 1) rfl
      have t2 := G.arg.cell (j := 2) rfl
      have t3 := G.arg.cell (j := 3) rfl
      have t4 := G.arg.cell (j := 4) rfl
      have t5 := G.arg.cell (j := 5) rfl
      go_wp2_with fail
      refine (HF2.out _ G.gen).mono ?_
      rintro e w11 ⟨g11, m11, d11, ts11, rfl, p11, q11, _, ho11, hd11, hg11⟩
      have T11 := ho11.base G.base
      replace O := O.old hpB hg11
      replace G := G.step hd11 hg11
      have hs11 := G.base
      clear ho11 hd11 hg11
      clear t0 t1 t2 t3 t4 t5
      go_wp2_with (at_builtin; refine wpList_pushS _ rfl _ _ rfl (w.heap.size + 1) _ _ _ rfl (O.alloc _) ⟨w11.heap.size, 0, none⟩ 1 1 rfl (news_exp (by first | exact in64s (by omega) (by omega) | exact in64_wrap _) (by first | exact in64s (by omega) (by omega) | exact in64_wrap _) T11) (by omega) (by simp; omega) ?_)
      intro b12 e12 w12 O12 hg12
      replace G := (G.alloc _).grow hg12.1 (fun g e => (O.block g e).1)
      replace O := O12
      have hs12 := G.base
      clear hg12
      go_wp2
      go_roundw
      case rel => exact ⟨i, u + 1, n + 1, e12, b12, by omega, by go_num, rfl, by omega, by omega, O, G⟩
      case measure => simp [intOf]
    have k5 : decide (k < 5) = false := by simpa using hk5
    by_cases e5 : k = 5
    · subst e5
      by_cases hn3 : 0 < n3
      case neg =>
        have hn0 : decide ((n3 : Int) > 0) = false := by simp; omega
        have t0 := G.arg.cell (j := 0) rfl
        have t1 := G.arg.cell (j := 1) rfl
        have t2 := G.arg.cell (j := 2) rfl
        have t3 := G.arg.cell (j := 3) rfl
        have t4 := G.arg.cell (j := 4) rfl
        have t5 := G.arg.cell (j := 5) rfl
        go_wp2_with fail
        refine (diceBelow_any p _ 3 G.gen (by omega) (by omega)).mono ?_
        rintro e w11 ⟨y11, hy11, hz11, rfl, hd11, hg11⟩
        replace O := O.old hpB hg11
        replace G := G.step hd11 hg11
        have hs11 := G.base
        clear hd11 hg11
        clear t0 t1 t2 t3 t4 t5
        go_wp2_with fail
        refine (variable_any y11 _ (inTm1 hy11 (by omega))).mono ?_
        rintro e w12 ⟨rfl, ho12, hb12⟩
        have T12 := ho12.base G.base
        replace O := O.below hb12
        replace G := G.below hb12
        have hs12 := G.base
        clear ho12 hb12
        go_wp2_with (at_builtin; refine wpList_pushS _ rfl _ _ rfl (w.heap.size + 1) _ _ _ rfl (O.alloc _) ⟨w12.heap.size, 0, none⟩ 1 1 rfl (news_exp (by first | exact in64s (by omega) (by omega) | exact in64_wrap _) (by first | exact in64s (by omega) (by omega) | exact in64_wrap _) T12) (by omega) (by simp; omega) ?_)
        intro b13 e13 w13 O13 hg13
        replace G := (G.alloc _).grow hg13.1 (fun g e => (O.block g e).1)
        replace O := O13
        have hs13 := G.base
        clear hg13
        go_wp2
        go_roundw
        case rel => exact ⟨i, u + 1, n + 1, e13, b13, by omega, by go_num, rfl, by omega, by omega, O, G⟩
        case measure => simp [intOf]
      have hn0 : decide ((n3 : Int) > 0) = true := by simp; omega
      have t0 := G.arg.cell (j := 0) rfl
      have t1 := G.arg.cell (j := 1) rfl
      have t2 := G.arg.cell (j := 2) rfl
      have t3 := G.arg.cell (j := 3) rfl
      have t4 := G.arg.cell (j := 4) rfl
      have t5 := G.arg.cell (j := 5) rfl
      go_wp2_with fail
      have G0 := G.drew
      have O0 : AnyS w1.drew (w.heap.size + 1) a n c := O
      go_region_held3 (fun w' => w'.cell? ⟨w.heap.size, 0, none⟩ = some (.int .i64 wd) ∧ w'.cell? ⟨w.heap.size, 1, none⟩ = some (.slice a1 1 c1) ∧ w'.cell? ⟨w.heap.size, 2, none⟩ = some (.slice a2 2 c2) ∧ w'.cell? ⟨w.heap.size, 3, none⟩ = some (.int .i64 2) ∧ w'.cell? ⟨w.heap.size, 4, none⟩ = some (.slice a3 n3 c3) ∧ w'.cell? ⟨w.heap.size, 5, none⟩ = some (.slice a4 n4 c4)) (first | (refine ⟨?_, ?_, ?_, ?_, ?_, ?_⟩ <;> assumption) | go_keep | (refine ⟨?_, ?_, ?_, ?_, ?_, ?_⟩ <;> go_keep)) (first
        | (go_at_call 24; refine (HF1.out _ G0.gen).mono ?_; rintro e w2 ⟨g2, m2, d2, ts2, rfl, p2, q2, _, ho2, hd2, hg2⟩; have T2 := ho2.base G0.base; have O2 := O0.old hpB hg2; have G2 := G0.step hd2 hg2; have u0 := G2.arg.cell (j := 0) rfl; have u1 := G2.arg.cell (j := 1) rfl; have u2 := G2.arg.cell (j := 2) rfl; have u3 := G2.arg.cell (j := 3) rfl; have u4 := G2.arg.cell (j := 4) rfl; have u5 := G2.arg.cell (j := 5) rfl; clear ho2 hd2 hg2)
        | (go_at_call 24; refine (HF1.out _ G2.gen).mono ?_; rintro e w3 ⟨g3, m3, d3, ts3, rfl, p3, q3, _, ho3, hd3, hg3⟩; have T3 := ho3.base G2.base; have T2' := ownT_gen G2 T2 hg3; have O3 := O2.old hpB hg3; have G3 := G2.step hd3 hg3; have hs3 := G3.base; have v0 := G3.arg.cell (j := 0) rfl; have v1 := G3.arg.cell (j := 1) rfl; have v2 := G3.arg.cell (j := 2) rfl; have v3 := G3.arg.cell (j := 3) rfl; have v4 := G3.arg.cell (j := 4) rfl; have v5 := G3.arg.cell (j := 5) rfl; clear ho3 hd3 hg3)
        | (refine step_pushS _ (by rfl) _ _ (by rfl) (w.heap.size + 1) _ _ _ (by rfl) (O3.alloc _) ⟨w3.heap.size, 0, none⟩ 1 1 (by rfl) (news_both (by first | exact in64s (by omega) (by omega) | exact in64_wrap _) (by first | exact in64s (by omega) (by omega) | exact in64_wrap _) T2' T3) (by omega) (by omega) (by simp; omega) ?_; intro b4 e4 w4 O4 hg4; have G4 := (G3.alloc _).grow hg4.1 (fun g e => (O3.block g e).1); have x0 := G4.arg.cell (j := 0) rfl; have x1 := G4.arg.cell (j := 1) rfl; have x2 := G4.arg.cell (j := 2) rfl; have x3 := G4.arg.cell (j := 3) rfl; have x4 := G4.arg.cell (j := 4) rfl; have x5 := G4.arg.cell (j := 5) rfl; clear hg4))
      clear O G
      have O := O4
      have G := G4
      clear O4 G4 O0 O2 O3 G0 G2 G3 T3
      go_wp2
      go_roundw
      case rel => exact ⟨i, u + 1, n + 1, e4, b4, by omega, by go_num, rfl, by omega, by omega, O, G⟩
      case measure => simp [intOf]
    by_cases e6 : k = 6
    · subst e6
      have t0 := G.arg.cell (j := 0) rfl
      have t1 := G.arg.cell (j := 1) rfl
      have t2 := G.arg.cell (j := 2) rfl
      have t3 := G.arg.cell (j := 3) rfl
      have t4 := G.arg.cell (j := 4) rfl
      have t5 := G.arg.cell (j := 5) rfl
      go_wp2_with fail
      refine (HF1.out _ G.gen).mono ?_
      rintro e w11 ⟨g11, m11, d11, ts11, rfl, p11, q11, _, ho11, hd11, hg11⟩
      have T11 := ho11.base G.base
      replace O := O.old hpB hg11
      replace G := G.step hd11 hg11
      have hs11 := G.base
      clear ho11 hd11 hg11
      clear t0 t1 t2 t3 t4 t5
      go_wp2_with (at_builtin; refine wpList_pushS _ rfl _ _ rfl (w.heap.size + 1) _ _ _ rfl (O.alloc _) ⟨w11.heap.size, 0, none⟩ 1 1 rfl (news_exp (by first | exact in64s (by omega) (by omega) | exact in64_wrap _) (by first | exact in64s (by omega) (by omega) | exact in64_wrap _) T11) (by omega) (by simp; omega) ?_)
      intro b12 e12 w12 O12 hg12
      replace G := (G.alloc _).grow hg12.1 (fun g e => (O.block g e).1)
      replace O := O12
      have hs12 := G.base
      clear hg12
      have t0 := G.arg.cell (j := 0) rfl
      have t1 := G.arg.cell (j := 1) rfl
      have t2 := G.arg.cell (j := 2) rfl
      have t3 := G.arg.cell (j := 3) rfl
      have t4 := G.arg.cell (j := 4) rfl
      have t5 := G.arg.cell (j := 5) rfl
      go_wp2_with fail
      refine (HI.out _ 2 G.gen (by omega) (by omega)).mono ?_
      rintro e w13 ⟨g13, m13, d13, rfl, p13, q13, ho13, hd13, hg13⟩
      have T13 := ho13.base G.base
      replace O := O.old hpB hg13
      replace G := G.step hd13 hg13
      have hs13 := G.base
      clear ho13 hd13 hg13
      clear t0 t1 t2 t3 t4 t5
      go_wp2_with (at_builtin; refine wpList_pushS _ rfl _ _ rfl (w.heap.size + 1) _ _ _ rfl O ⟨g13, 0, none⟩ m13 d13 rfl T13.news (by omega) (by omega) ?_)
      intro b14 e14 w14 O14 hg14
      replace G := G.grow hg14.1 (fun g e => (O.block g e).1)
      replace O := O14
      have hs14 := G.base
      clear hg14
      go_wp2_with fail
      refine (diceBelow_any p _ 2 G.gen (by omega) (by omega)).mono ?_
      rintro e w15 ⟨y15, hy15, hz15, rfl, hd15, hg15⟩
      replace O := O.old hpB hg15
      replace G := G.step hd15 hg15
      have hs15 := G.base
      clear hd15 hg15
      by_cases hz0 : y15 = 0
      · subst hz0
        go_wp2_with (at_builtin; refine wpList_pushS _ rfl _ _ rfl (w.heap.size + 1) _ _ _ rfl (O.alloc _) ⟨w15.heap.size, 0, none⟩ 1 1 rfl (news_plain (op := 3) (x := 0) (by first | exact in64s (by omega) (by omega) | exact in64_wrap _) (by first | exact in64s (by omega) (by omega) | exact in64_wrap _)) (by omega) (by simp; omega) ?_)
        intro b16 e16 w16 O16 hg16
        replace G := (G.alloc _).grow hg16.1 (fun g e => (O.block g e).1)
        replace O := O16
        have hs16 := G.base
        clear hg16
        have t0 := G.arg.cell (j := 0) rfl
        have t1 := G.arg.cell (j := 1) rfl
        have t2 := G.arg.cell (j := 2) rfl
        have t3 := G.arg.cell (j := 3) rfl
        have t4 := G.arg.cell (j := 4) rfl
        have t5 := G.arg.cell (j := 5) rfl
        go_wp2_with fail
        refine (HI.out _ 2 G.gen (by omega) (by omega)).mono ?_
        rintro e w17 ⟨g17, m17, d17, rfl, p17, q17, ho17, hd17, hg17⟩
        have T17 := ho17.base G.base
        replace O := O.old hpB hg17
        replace G := G.step hd17 hg17
        have hs17 := G.base
        clear ho17 hd17 hg17
        clear t0 t1 t2 t3 t4 t5
        go_wp2_with (at_builtin; refine wpList_pushS _ rfl _ _ rfl (w.heap.size + 1) _ _ _ rfl O ⟨g17, 0, none⟩ m17 d17 rfl T17.news (by omega) (by omega) ?_)
        intro b18 e18 w18 O18 hg18
        replace G := G.grow hg18.1 (fun g e => (O.block g e).1)
        replace O := O18
        have hs18 := G.base
        clear hg18
        go_wp2_with (at_builtin; refine wpList_pushS _ rfl _ _ rfl (w.heap.size + 1) _ _ _ rfl (O.alloc _) ⟨w18.heap.size, 0, none⟩ 1 1 rfl (news_plain (op := 4) (x := 0) (by first | exact in64s (by omega) (by omega) | exact in64_wrap _) (by first | exact in64s (by omega) (by omega) | exact in64_wrap _)) (by omega) (by simp; omega) ?_)
        intro b19 e19 w19 O19 hg19
        replace G := (G.alloc _).grow hg19.1 (fun g e => (O.block g e).1)
        replace O := O19
        have hs19 := G.base
        clear hg19
        go_wp2
        go_roundw
        case rel => exact ⟨i, u + 1, n + 1 + m13 + 1 + m17 + 1, e19, b19, by omega, by go_num, rfl, by omega, by omega, O, G⟩
        case measure => simp [intOf]
      · have hzz : (y15 == 0) = false := by simpa using hz0
        go_wp2_with (at_builtin; refine wpList_pushS _ rfl _ _ rfl (w.heap.size + 1) _ _ _ rfl (O.alloc _) ⟨w15.heap.size, 0, none⟩ 1 1 rfl (news_plain (op := 4) (x := 0) (by first | exact in64s (by omega) (by omega) | exact in64_wrap _) (by first | exact in64s (by omega) (by omega) | exact in64_wrap _)) (by omega) (by simp; omega) ?_)
        intro b16 e16 w16 O16 hg16
        replace G := (G.alloc _).grow hg16.1 (fun g e => (O.block g e).1)
        replace O := O16
        have hs16 := G.base
        clear hg16
        go_wp2
        go_roundw
        case rel => exact ⟨i, u + 1, n + 1 + m13 + 1, e16, b16, by omega, by go_num, rfl, by omega, by omega, O, G⟩
        case measure => simp [intOf]
    by_cases e7 : k = 7
    · subst e7
      go_wp2_with fail
      refine (diceBelow_any p _ 4 G.gen (by omega) (by omega)).mono ?_
      rintro e w11 ⟨y11, hy11, hz11, rfl, hd11, hg11⟩
      replace O := O.old hpB hg11
      replace G := G.step hd11 hg11
      have hs11 := G.base
      clear hd11 hg11
      go_wp2_with (at_builtin; refine wpList_pushS _ rfl _ _ rfl (w.heap.size + 1) _ _ _ rfl (O.alloc _) ⟨w11.heap.size, 0, none⟩ 1 1 rfl (news_plain (op := 5) (x := y11) (by first | exact in64s (by omega) (by omega) | exact in64_wrap _) (by first | exact in64s (by omega) (by omega) | exact in64_wrap _)) (by omega) (by simp; omega) ?_)
      intro b12 e12 w12 O12 hg12
      replace G := (G.alloc _).grow hg12.1 (fun g e => (O.block g e).1)
      replace O := O12
      have hs12 := G.base
      clear hg12
      have t0 := G.arg.cell (j := 0) rfl
      have t1 := G.arg.cell (j := 1) rfl
      have t2 := G.arg.cell (j := 2) rfl
      have t3 := G.arg.cell (j := 3) rfl
      have t4 := G.arg.cell (j := 4) rfl
      have t5 := G.arg.cell (j := 5) rfl
      go_wp2_with fail
      refine (HI.out _ 2 G.gen (by omega) (by omega)).mono ?_
      rintro e w13 ⟨g13, m13, d13, rfl, p13, q13, ho13, hd13, hg13⟩
      have T13 := ho13.base G.base
      replace O := O.old hpB hg13
      replace G := G.step hd13 hg13
      have hs13 := G.base
      clear ho13 hd13 hg13
      clear t0 t1 t2 t3 t4 t5
      go_wp2_with (at_builtin; refine wpList_pushS _ rfl _ _ rfl (w.heap.size + 1) _ _ _ rfl O ⟨g13, 0, none⟩ m13 d13 rfl T13.news (by omega) (by omega) ?_)
      intro b14 e14 w14 O14 hg14
      replace G := G.grow hg14.1 (fun g e => (O.block g e).1)
      replace O := O14
      have hs14 := G.base
      clear hg14
      go_wp2_with (at_builtin; refine wpList_pushS _ rfl _ _ rfl (w.heap.size + 1) _ _ _ rfl (O.alloc _) ⟨w14.heap.size, 0, none⟩ 1 1 rfl (news_plain (op := 4) (x := 0) (by first | exact in64s (by omega) (by omega) | exact in64_wrap _) (by first | exact in64s (by omega) (by omega) | exact in64_wrap _)) (by omega) (by simp; omega) ?_)
      intro b15 e15 w15 O15 hg15
      replace G := (G.alloc _).grow hg15.1 (fun g e => (O.block g e).1)
      replace O := O15
      have hs15 := G.base
      clear hg15
      go_wp2
      go_roundw
      case rel => exact ⟨i, u + 1, n + 1 + m13 + 1, e15, b15, by omega, by go_num, rfl, by omega, by omega, O, G⟩
      case measure => simp [intOf]
    by_cases e8 : k = 8
    · subst e8
      go_wp2_with (at_builtin; refine wpList_pushS _ rfl _ _ rfl (w.heap.size + 1) _ _ _ rfl (O.alloc _) ⟨w1.heap.size, 0, none⟩ 1 1 rfl (news_plain (op := 8) (x := 0) (by first | exact in64s (by omega) (by omega) | exact in64_wrap _) (by first | exact in64s (by omega) (by omega) | exact in64_wrap _)) (by omega) (by simp; omega) ?_)
      intro b11 e11 w11 O11 hg11
      replace G := (G.alloc _).grow hg11.1 (fun g e => (O.block g e).1)
      replace O := O11
      have hs11 := G.base
      clear hg11
      have t0 := G.arg.cell (j := 0) rfl
      have t1 := G.arg.cell (j := 1) rfl
      have t2 := G.arg.cell (j := 2) rfl
      have t3 := G.arg.cell (j := 3) rfl
      have t4 := G.arg.cell (j := 4) rfl
      have t5 := G.arg.cell (j := 5) rfl
      go_wp2_with fail
      refine (HI.out _ 2 G.gen (by omega) (by omega)).mono ?_
      rintro e w12 ⟨g12, m12, d12, rfl, p12, q12, ho12, hd12, hg12⟩
      have T12 := ho12.base G.base
      replace O := O.old hpB hg12
      replace G := G.step hd12 hg12
      have hs12 := G.base
      clear ho12 hd12 hg12
      clear t0 t1 t2 t3 t4 t5
      go_wp2_with (at_builtin; refine wpList_pushS _ rfl _ _ rfl (w.heap.size + 1) _ _ _ rfl O ⟨g12, 0, none⟩ m12 d12 rfl T12.news (by omega) (by omega) ?_)
      intro b13 e13 w13 O13 hg13
      replace G := G.grow hg13.1 (fun g e => (O.block g e).1)
      replace O := O13
      have hs13 := G.base
      clear hg13
      go_wp2_with fail
      refine (diceBelow_any p _ 2 G.gen (by omega) (by omega)).mono ?_
      rintro e w14 ⟨y14, hy14, hz14, rfl, hd14, hg14⟩
      replace O := O.old hpB hg14
      replace G := G.step hd14 hg14
      have hs14 := G.base
      clear hd14 hg14
      go_wp2_with fail
      refine (diceBelow_any p _ 2 G.gen (by omega) (by omega)).mono ?_
      rintro e w15 ⟨y15, hy15, hz15, rfl, hd15, hg15⟩
      replace O := O.old hpB hg15
      replace G := G.step hd15 hg15
      have hs15 := G.base
      clear hd15 hg15
      go_wp2_with (at_builtin; refine wpList_pushS _ rfl _ _ rfl (w.heap.size + 1) _ _ _ rfl (O.alloc _) ⟨w15.heap.size, 0, none⟩ 2 2 rfl (news_two (op := 7) (x := y14) (op' := 9) (x' := y15) (by first | exact in64s (by omega) (by omega) | exact in64_wrap _) (by first | exact in64s (by omega) (by omega) | exact in64_wrap _) (by first | exact in64s (by omega) (by omega) | exact in64_wrap _) (by first | exact in64s (by omega) (by omega) | exact in64_wrap _)) (by omega) (by simp; omega) ?_)
      intro b16 e16 w16 O16 hg16
      replace G := (G.alloc _).grow hg16.1 (fun g e => (O.block g e).1)
      replace O := O16
      have hs16 := G.base
      clear hg16
      have t0 := G.arg.cell (j := 0) rfl
      have t1 := G.arg.cell (j := 1) rfl
      have t2 := G.arg.cell (j := 2) rfl
      have t3 := G.arg.cell (j := 3) rfl
      have t4 := G.arg.cell (j := 4) rfl
      have t5 := G.arg.cell (j := 5) rfl
      go_wp2_with fail
      refine (HI.out _ 1 G.gen (by omega) (by omega)).mono ?_
      rintro e w17 ⟨g17, m17, d17, rfl, p17, q17, ho17, hd17, hg17⟩
      have T17 := ho17.base G.base
      replace O := O.old hpB hg17
      replace G := G.step hd17 hg17
      have hs17 := G.base
      clear ho17 hd17 hg17
      clear t0 t1 t2 t3 t4 t5
      go_wp2_with (at_builtin; refine wpList_pushS _ rfl _ _ rfl (w.heap.size + 1) _ _ _ rfl O ⟨g17, 0, none⟩ m17 d17 rfl T17.news (by omega) (by omega) ?_)
      intro b18 e18 w18 O18 hg18
      replace G := G.grow hg18.1 (fun g e => (O.block g e).1)
      replace O := O18
      have hs18 := G.base
      clear hg18
      go_wp2_with (at_builtin; refine wpList_pushS _ rfl _ _ rfl (w.heap.size + 1) _ _ _ rfl (O.alloc _) ⟨w18.heap.size, 0, none⟩ 1 1 rfl (news_plain (op := 4) (x := 0) (by first | exact in64s (by omega) (by omega) | exact in64_wrap _) (by first | exact in64s (by omega) (by omega) | exact in64_wrap _)) (by omega) (by simp; omega) ?_)
      intro b19 e19 w19 O19 hg19
      replace G := (G.alloc _).grow hg19.1 (fun g e => (O.block g e).1)
      replace O := O19
      have hs19 := G.base
      clear hg19
      go_wp2
      go_roundw
      case rel => exact ⟨i, u + 1, n + 1 + m12 + 2 + m17 + 1, e19, b19, by omega, by go_num, rfl, by omega, by omega, O, G⟩
      case measure => simp [intOf]
    obtain rfl : k = 9 := by omega
    have t0 := G.arg.cell (j := 0) rfl
    have t1 := G.arg.cell (j := 1) rfl
    have t2 := G.arg.cell (j := 2) rfl
    have t3 := G.arg.cell (j := 3) rfl
    have t4 := G.arg.cell (j := 4) rfl
    have t5 := G.arg.cell (j := 5) rfl
    go_wp2_with fail
    refine (diceBelow_any p _ 3 G.gen (by omega) (by omega)).mono ?_
    rintro e w11 ⟨y11, hy11, hz11, rfl, hd11, hg11⟩
    replace O := O.old hpB hg11
    replace G := G.step hd11 hg11
    have hs11 := G.base
    clear hd11 hg11
    clear t0 t1 t2 t3 t4 t5
    go_wp2_with fail
    refine (variable_any y11 _ (inTm1 hy11 (by omega))).mono ?_
    rintro e w12 ⟨rfl, ho12, hb12⟩
    have T12 := ho12.base G.base
    replace O := O.below hb12
    replace G := G.below hb12
    have hs12 := G.base
    clear ho12 hb12
    go_wp2_with (at_builtin; refine wpList_pushS _ rfl _ _ rfl (w.heap.size + 1) _ _ _ rfl (O.alloc _) ⟨w12.heap.size, 0, none⟩ 1 1 rfl (news_exp (by first | exact in64s (by omega) (by omega) | exact in64_wrap _) (by first | exact in64s (by omega) (by omega) | exact in64_wrap _) T12) (by omega) (by simp; omega) ?_)
    intro b13 e13 w13 O13 hg13
    replace G := (G.alloc _).grow hg13.1 (fun g e => (O.block g e).1)
    replace O := O13
    have hs13 := G.base
    clear hg13
    go_wp2
    go_roundw
    case rel => exact ⟨i, u + 1, n + 1, e13, b13, by omega, by go_num, rfl, by omega, by omega, O, G⟩
    case measure => simp [intOf]
end Go.Proofs.Ytmooecbdpfhnlaa
/- The contract of the laws' own draw of a program: program. -/
namespace Go.Proofs.Ytmooecbdpfhnlaa
open Go.RowKit

/-! What a drawn program is. -/
structure Drawn (P : Prg) (l s b s' b' : Int) (A : Nat) : Prop where
  width : P.width = 2 ∨ P.width = 3
  lows : P.lows = [(l, 0)]
  secrets : P.secrets = [(s, b), (s', b')]
  temps : P.temps = 2
  arrays : P.arrays.length = A
  fewA : A ≤ 1
  sizes : ∀ z ∈ P.arrays, 1 ≤ z ∧ z ≤ 3
  l0 : 0 ≤ l
  l1 : l ≤ 2
  s0 : 1 ≤ s
  s1 : s ≤ 3
  b0 : 0 ≤ b
  b1 : b ≤ 2
  s0' : 0 ≤ s'
  s1' : s' ≤ 3
  b0' : 0 ≤ b'
  b1' : b' ≤ 2
theorem bits_small {x : Int} (h0 : 0 ≤ x) (h1 : x ≤ 3) : bitsN x.toNat ≤ 2 := bitsN_le 2 _ (by have : (2 : Nat) ^ 2 = 4 := rfl; omega)
/-- The program that is drawn when no other was right. -/
theorem last_ok {P : Prg} {l s b s' b' : Int} {A : Nat} (h : Drawn P l s b s' b' A) (hb : P.body = [⟨6, 0, [], [(1, 1)]⟩]) : codeB P = 0 := by
  obtain ⟨wd, lo, se, tp, ar, bo⟩ := P
  obtain ⟨h1, h2, h3, h4, h5, h6, h7, l0, l1, s0, s1, b0, b1, s0', s1', b0', b1'⟩ := h
  simp only [] at h1 h2 h3 h4 h5 h7 hb
  subst h2 h3 h4 hb
  have hw : 1 ≤ wd ∧ wd ≤ 8 := by omega
  have hS : (4 : Int) ≤ ((2 ^ wd.toNat : Nat) : Int) := by rcases h1 with rfl | rfl <;> decide
  have hi : inpB ⟨wd, [(l, 0)], [(s, b), (s', b')], 2, ar, [⟨6, 0, [], [(1, 1)]⟩]⟩ = true := by
    have q1 := bits_small l0 (by omega)
    have q2 := bits_small (x := s) (by omega) s1
    have q3 := bits_small s0' s1'
    simp only [inpB, inputsB, inpOk, bitsTo, tmAt, List.all_cons, List.all_nil, List.length_cons, List.length_nil, Bool.and_eq_true, decide_eq_true_eq, List.getD_cons_zero, List.getD_cons_succ]
    refine ⟨⟨⟨⟨⟨⟨⟨?_, ?_⟩, ?_, ?_⟩, ?_⟩, trivial⟩, ?_⟩, ⟨⟨⟨⟨?_, ?_⟩, ?_, ?_⟩, ?_⟩, ⟨⟨⟨?_, ?_⟩, ?_, ?_⟩, ?_⟩, trivial⟩, ?_⟩, ?_⟩ <;> first | omega | simp
  have hr : roomB ⟨wd, [(l, 0)], [(s, b), (s', b')], 2, ar, [⟨6, 0, [], [(1, 1)]⟩]⟩ = true := by
    simp only [roomB, Bool.and_eq_true, decide_eq_true_eq, List.length_cons, List.length_nil]
    refine ⟨⟨⟨⟨by omega, by omega⟩, by omega⟩, by omega⟩, List.all_eq_true.2 fun z hz => ?_⟩
    have := h7 z hz
    simp; omega
  have hst : stmtsB ⟨wd, [(l, 0)], [(s, b), (s', b')], 2, ar, [⟨6, 0, [], [(1, 1)]⟩]⟩ = true := by
    simp [stmtsB, stmtB, bears, bodyB, namesB, nameOk, expB, runD, tOkB, takesI, numOk]
  have hbl : blockOf [(⟨6, 0, [], [(1, 1)]⟩ : Stm)] 0 = 1 := by
    rw [block_next (by simp) (by simp [opAt, stAt]) (by simp [opAt, stAt]), block_past (by simp)]; rfl
  unfold codeB
  rw [if_neg (by simpa using hw), hi, if_neg (by simp), hr, if_neg (by simp), hst, if_neg (by simp), if_neg (by simp [hbl])]
  have hlo : LoopsOk [(⟨6, 0, [], [(1, 1)]⟩ : Stm)] := by
    intro i hi h5
    obtain rfl : i = 0 := by simpa using hi
    simp [opAt, stAt] at h5
  have := (steps_small (stepsN_spec (part_steps hlo _ 0 1 (Nat.le_refl _) (by simp) hbl))).2
  rw [if_neg]
  intro hbig
  have h2 : (stepsN [(⟨6, 0, [], [(1, 1)]⟩ : Stm)] + 1) * (stepsN [(⟨6, 0, [], [(1, 1)]⟩ : Stm)] + 1) ≤ 6 := by simpa using this
  have h3 : 401 * 401 ≤ (stepsN [(⟨6, 0, [], [(1, 1)]⟩ : Stm)] + 1) * (stepsN [(⟨6, 0, [], [(1, 1)]⟩ : Stm)] + 1) := Nat.mul_le_mul (by have : 400 < stepsN [(⟨6, 0, [], [(1, 1)]⟩ : Stm)] := hbig; omega) (by have : 400 < stepsN [(⟨6, 0, [], [(1, 1)]⟩ : Stm)] := hbig; omega)
  omega

/-! The blocks of the draw under way. -/
theorem Blk.gen {w w' : World} {b g : Nat} {t : TypeId} {xs : List Value} (h : Blk w b t xs) (hg : w.grownBy w' (some g)) (hne : b ≠ g) : Blk w' b t xs := (hg.block b h.lt (fun e => by injection e with e; omega)).trans h
/-- The drawn array, if there is one. -/
def ArrAt (w wi : World) (bp : Nat) (a : Option Addr) (A c : Nat) (zs : List Int) : Prop :=
  (a = none ∧ A = 0 ∧ c = 0 ∧ zs = []) ∨ ∃ ba z, a = some ⟨ba, 0, none⟩ ∧ A = 1 ∧ c = 1 ∧ zs = [z] ∧ 1 ≤ z ∧ z ≤ 3 ∧ Blk wi ba 2 [.int .i64 z] ∧ w.heap.size < ba ∧ ba ≠ bp
structure PBx (w wi : World) (p bl bs bp : Nat) (l s b s' b' : Int) (a : Option Addr) (A c : Nat) (zs : List Int) (cs : List Value) : Prop where
  res : Blk wi w.heap.size 28 [.int .i64 0, .slice none 0 0, .slice none 0 0, .int .i64 0, .slice none 0 0, .slice none 0 0]
  lows : Blk wi bl 80 [.int .i64 l, .int .i64 0]
  secrets : Blk wi bs 80 [.int .i64 s, .int .i64 b, .int .i64 s', .int .i64 b']
  arr : ArrAt w wi bp a A c zs
  prog : Blk wi bp 28 cs
  gen : Dice wi p
  grown : w.grownBy wi (some p)
  old : p < w.heap.size
  o1 : w.heap.size < bl
  o2 : w.heap.size < bs
  o3 : w.heap.size < bp
  n1 : bl ≠ bp
  n2 : bs ≠ bp
section
variable {w wi wj : World} {p bl bs bp : Nat} {l s b s' b' : Int} {a : Option Addr} {A c : Nat} {zs : List Int} {cs : List Value}
theorem ArrAt.gen {g : Nat} (h : ArrAt w wi bp a A c zs) (hg : wi.grownBy wj (some g)) (hne : g ≤ w.heap.size ∨ g = bp) : ArrAt w wj bp a A c zs := by
  rcases h with h | ⟨ba, z, h1, h2, h3, h4, h5, h6, h7, h8, h9⟩
  · exact .inl h
  · exact .inr ⟨ba, z, h1, h2, h3, h4, h5, h6, h7.gen hg (by omega), h8, h9⟩
theorem ArrAt.below (h : ArrAt w wi bp a A c zs) (hb : Below wi.heap.size wi wj) : ArrAt w wj bp a A c zs := by
  rcases h with h | ⟨ba, z, h1, h2, h3, h4, h5, h6, h7, h8, h9⟩
  · exact .inl h
  · exact .inr ⟨ba, z, h1, h2, h3, h4, h5, h6, h7.below hb h7.lt, h8, h9⟩
theorem PBx.step (h : PBx w wi p bl bs bp l s b s' b' a A c zs cs) (hd : Dice wj p) (hg : wi.grownBy wj (some p)) : PBx w wj p bl bs bp l s b s' b' a A c zs cs := by
  have q := h.old
  have q1 := h.o1
  have q2 := h.o2
  have q3 := h.o3
  exact ⟨h.res.gen hg (by omega), h.lows.gen hg (by omega), h.secrets.gen hg (by omega), h.arr.gen hg (.inl (by omega)), h.prog.gen hg (by omega), hd, only_trans h.grown hg, q, q1, q2, q3, h.n1, h.n2⟩
theorem PBx.below (h : PBx w wi p bl bs bp l s b s' b' a A c zs cs) (hb : Below wi.heap.size wi wj) : PBx w wj p bl bs bp l s b s' b' a A c zs cs :=
  ⟨h.res.below hb h.res.lt, h.lows.below hb h.lows.lt, h.secrets.below hb h.secrets.lt, h.arr.below hb, h.prog.below hb h.prog.lt, h.gen.below hb, only_more h.grown (only_below hb none) (fun g e => by cases e), h.old, h.o1, h.o2, h.o3, h.n1, h.n2⟩
theorem PBx.alloc (h : PBx w wi p bl bs bp l s b s' b' a A c zs cs) (o : Obj) : PBx w (wi.alloc o) p bl bs bp l s b s' b' a A c zs cs := h.below ((Below.refl _ _).alloc (Nat.le_refl _) o)
theorem PBx.set (h : PBx w wi p bl bs bp l s b s' b' a A c zs cs) (j : Nat) (v : Value) : PBx w (wi.setCell ⟨bp, j, none⟩ v) p bl bs bp l s b s' b' a A c zs (cs.set j v) := by
  have q := h.old
  have q3 := h.o3
  have hg := grown_set wi bp j v
  exact ⟨h.res.gen hg (by omega), h.lows.gen hg h.n1, h.secrets.gen hg h.n2, h.arr.gen hg (.inr rfl), h.prog.set v, h.gen.other hg (fun g e => by injection e with e; omega), only_more h.grown hg (fun g e => by injection e with e; omega), q, h.o1, h.o2, q3, h.n1, h.n2⟩
theorem ArrAt.ints (h : ArrAt w wi bp a A c zs) : Ints wi a A zs ∧ zs.length = A ∧ A ≤ 1 ∧ ∀ z ∈ zs, 1 ≤ z ∧ z ≤ 3 := by
  rcases h with ⟨rfl, rfl, rfl, rfl⟩ | ⟨ba, z, rfl, rfl, rfl, rfl, h5, h6, h7, h8, h9⟩
  · exact ⟨⟨rfl, by omega, fun z hz => by simp at hz, fun h => absurd h (by omega)⟩, rfl, by omega, fun z hz => by simp at hz⟩
  · refine ⟨⟨rfl, by omega, fun y hy => ?_, fun _ => ⟨ba, 0, rfl, h7.lt, fun i hi => ?_⟩⟩, rfl, by omega, fun y hy => ?_⟩
    · rw [List.mem_singleton] at hy; subst hy; exact in64s (by omega) (by omega)
    · obtain rfl : i = 0 := by omega
      exact h7.cell rfl
    · rw [List.mem_singleton] at hy; subst hy; omega
/-- A program of the drawn head, and of a body. -/
theorem PBx.progAt {wd : Int} {ab : Option Addr} {nb cb : Nat} {rs : List SRow} {ss : List Stm} (h : PBx w wi p bl bs bp l s b s' b' a A c zs cs) (hl : 0 ≤ l ∧ l ≤ 2) (hs : 1 ≤ s ∧ s ≤ 3) (hb : 0 ≤ b ∧ b ≤ 2) (hs' : 0 ≤ s' ∧ s' ≤ 3) (hb' : 0 ≤ b' ∧ b' ≤ 2) (hw : 2 ≤ wd ∧ wd ≤ 3) (hbody : Stmts wi ab nb rs ss) :
    ProgAt wi ⟨wd, (some ⟨bl, 0, none⟩, 1, 1), (some ⟨bs, 0, none⟩, 2, 2), 2, (a, A, c), (ab, nb, cb), rs⟩ ⟨wd, [(l, 0)], [(s, b), (s', b')], 2, zs, ss⟩ := by
  refine ⟨rfl, rfl, in64s (by simp only []; omega) (by simp only []; omega), in64s (by simp) (by simp), ⟨rfl, by simp, fun t ht => ?_, fun _ => ⟨bl, 0, rfl, h.lows.lt, fun i hi => ?_⟩⟩, ⟨rfl, by simp, fun t ht => ?_, fun _ => ⟨bs, 0, rfl, h.secrets.lt, fun i hi => ?_⟩⟩, h.arr.ints.1, hbody⟩
  · rw [List.mem_singleton] at ht; subst ht; exact inTm_small (by omega) (by omega) (by omega) (by omega)
  · obtain rfl : i = 0 := by simp only [] at hi; omega
    exact ⟨h.lows.cell rfl, h.lows.cell rfl⟩
  · simp only [List.mem_cons, List.not_mem_nil, or_false] at ht
    rcases ht with rfl | rfl
    · exact inTm_small (by omega) (by omega) (by omega) (by omega)
    · exact inTm_small (by omega) (by omega) (by omega) (by omega)
  · match i, hi with
    | 0, _ => exact ⟨h.secrets.cell rfl, h.secrets.cell rfl⟩
    | 1, _ => exact ⟨h.secrets.cell rfl, h.secrets.cell rfl⟩
theorem PBx.drawn {wd : Int} {ss : List Stm} (h : PBx w wi p bl bs bp l s b s' b' a A c zs cs) (hl : 0 ≤ l ∧ l ≤ 2) (hs : 1 ≤ s ∧ s ≤ 3) (hb : 0 ≤ b ∧ b ≤ 2) (hs' : 0 ≤ s' ∧ s' ≤ 3) (hb' : 0 ≤ b' ∧ b' ≤ 2) (hw : 2 ≤ wd ∧ wd ≤ 3) :
    Drawn ⟨wd, [(l, 0)], [(s, b), (s', b')], 2, zs, ss⟩ l s b s' b' A :=
  ⟨by simp only []; omega, rfl, rfl, rfl, h.arr.ints.2.1, h.arr.ints.2.2.1, h.arr.ints.2.2.2, hl.1, hl.2, hs.1, hs.2, hb.1, hb.2, hs'.1, hs'.2, hb'.1, hb'.2⟩
end
/-- A right program was drawn. -/
def DrewP (w : World) (p : Nat) (e : Ending) (w' : World) : Prop :=
  ∃ r P A l s b s' b', e = .returned (progV r) ∧ ProgAt w' r P ∧ r.body.2.1 ≤ r.body.2.2 ∧ Head r A ∧ codeB P = 0 ∧ Drawn P l s b s' b' A ∧ ((∀ ba oa, r.arrays.1 = some ⟨ba, oa, none⟩ → w.heap.size < ba) ∧ ∀ w'', w'.grownBy w'' (some p) → ProgAt w'' r P) ∧ Dice w' p ∧ w.grownBy w' (some p)
end Go.Proofs.Ytmooecbdpfhnlaa
/- The contract of the laws' own draw of a program: program. -/
namespace Go.Proofs.Ytmooecbdpfhnlaa
open Go.RowKit

/-- What is told of the drawn numbers. -/
structure Nums (x l s b s' b' : Int) : Prop where
  w : 2 ≤ 2 + x ∧ 2 + x ≤ 3
  l : 0 ≤ l ∧ l ≤ 2
  s : 1 ≤ s ∧ s ≤ 3
  b : 0 ≤ b ∧ b ≤ 2
  s' : 0 ≤ s' ∧ s' ≤ 3
  b' : 0 ≤ b' ∧ b' ≤ 2
theorem drewP_of {w wi : World} {p bl bs bp : Nat} {x l s b s' b' : Int} {a : Option Addr} {A c : Nat} {zs : List Int} {cs : List Value} {ab : Option Addr} {nb cb : Nat} {rs : List SRow} {ss : List Stm}
    (B : PBx w wi p bl bs bp l s b s' b' a A c zs cs) (N : Nums x l s b s' b') (hS : OwnS wi (w.heap.size + 1) ab nb cb rs ss) (hok : codeB ⟨2 + x, [(l, 0)], [(s, b), (s', b')], 2, zs, ss⟩ = 0) (v0 v1 v2 v3 v4 v5 : Value) :
    DrewP w p (.returned (.agg #[.int .i64 (2 + x), .slice (some ⟨bl, 0, none⟩) 1 1, .slice (some ⟨bs, 0, none⟩) 2 2, .int .i64 2, .slice a A c, .slice ab nb cb])) ((((((wi.setCell ⟨w.heap.size, 0, none⟩ v0).setCell ⟨w.heap.size, 1, none⟩ v1).setCell ⟨w.heap.size, 2, none⟩ v2).setCell ⟨w.heap.size, 3, none⟩ v3).setCell ⟨w.heap.size, 4, none⟩ v4).setCell ⟨w.heap.size, 5, none⟩ v5) := by
  have hg : wi.grownBy ((((((wi.setCell ⟨w.heap.size, 0, none⟩ v0).setCell ⟨w.heap.size, 1, none⟩ v1).setCell ⟨w.heap.size, 2, none⟩ v2).setCell ⟨w.heap.size, 3, none⟩ v3).setCell ⟨w.heap.size, 4, none⟩ v4).setCell ⟨w.heap.size, 5, none⟩ v5) (some w.heap.size) :=
    only_trans (only_trans (only_trans (only_trans (only_trans (grown_set _ _ _ _) (grown_set _ _ _ _)) (grown_set _ _ _ _)) (grown_set _ _ _ _)) (grown_set _ _ _ _)) (grown_set _ _ _ _)
  generalize ((((((wi.setCell ⟨w.heap.size, 0, none⟩ v0).setCell ⟨w.heap.size, 1, none⟩ v1).setCell ⟨w.heap.size, 2, none⟩ v2).setCell ⟨w.heap.size, 3, none⟩ v3).setCell ⟨w.heap.size, 4, none⟩ v4).setCell ⟨w.heap.size, 5, none⟩ v5) = wj at hg
  have q1 := B.o1
  have q2 := B.o2
  have q3 := B.o3
  have q := B.old
  have hS' := hS.old (Nat.lt_succ_self _) hg
  have key : ∀ w'', wj.grownBy w'' (some p) → ProgAt w'' ⟨2 + x, (some ⟨bl, 0, none⟩, 1, 1), (some ⟨bs, 0, none⟩, 2, 2), 2, (a, A, c), (ab, nb, cb), rs⟩ ⟨2 + x, [(l, 0)], [(s, b), (s', b')], 2, zs, ss⟩ := by
    intro w'' hg2
    have P := B.progAt (cb := cb) N.l N.s N.b N.s' N.b' N.w hS.reads
    refine ⟨P.width, P.temps, P.inW, P.inT, ⟨P.lows.1, P.lows.2.1, P.lows.2.2.1, fun _ => ?_⟩, ⟨P.secrets.1, P.secrets.2.1, P.secrets.2.2.1, fun _ => ?_⟩, ((B.arr.gen hg (.inl (Nat.le_refl _))).gen hg2 (.inl (by omega))).ints.1, (hS'.old (by omega) hg2).reads⟩
    · have hb := (B.lows.gen hg (by omega)).gen hg2 (by omega)
      refine ⟨bl, 0, rfl, hb.lt, fun i hi => ?_⟩
      obtain rfl : i = 0 := by simp only [] at hi; omega
      exact ⟨hb.cell rfl, hb.cell rfl⟩
    · have hb := (B.secrets.gen hg (by omega)).gen hg2 (by omega)
      refine ⟨bs, 0, rfl, hb.lt, fun i hi => ?_⟩
      match i, hi with
      | 0, _ => exact ⟨hb.cell rfl, hb.cell rfl⟩
      | 1, _ => exact ⟨hb.cell rfl, hb.cell rfl⟩
  refine ⟨⟨2 + x, (some ⟨bl, 0, none⟩, 1, 1), (some ⟨bs, 0, none⟩, 2, 2), 2, (a, A, c), (ab, nb, cb), rs⟩, ⟨2 + x, [(l, 0)], [(s, b), (s', b')], 2, zs, ss⟩, A, l, s, b, s', b', rfl, key _ (World.grownBy.refl _ _), hS.cap, ⟨rfl, rfl, rfl, rfl, B.arr.ints.2.2.1⟩, hok, B.drawn N.l N.s N.b N.s' N.b' N.w, ⟨fun ba oa e => ?_, key⟩, B.gen.other hg (fun g e => by injection e with e; omega), only_more B.grown hg (fun g e => by injection e with e; omega)⟩
  rcases B.arr with ⟨h1, _⟩ | ⟨ba', z, h1, _, _, _, _, _, _, h8, _⟩
  · rw [show (a : Option Addr) = none from h1] at e; cases e
  · have e' : (a : Option Addr) = some ⟨ba, oa, none⟩ := e
    rw [h1] at e'
    injection e' with e'
    injection e' with e'
    omega
set_option maxRecDepth 20000 in
set_option maxHeartbeats 12800000 in
theorem program_any (p : Nat) (w : World) (hD : Dice w p) : Calls Try.prog 13 #[.pointer (some ⟨p, 0, none⟩)] w (DrewP w p) := by
  have hp := hD.lt
  have R0 : Blk (w.alloc (.cells #[.int .i64 0, .slice none 0 0, .slice none 0 0, .int .i64 0, .slice none 0 0, .slice none 0 0] 28)) w.heap.size 28 [.int .i64 0, .slice none 0 0, .slice none 0 0, .int .i64 0, .slice none 0 0, .slice none 0 0] := Blk.new w _ _
  have g0 : w.grownBy (w.alloc (.cells #[.int .i64 0, .slice none 0 0, .slice none 0 0, .int .i64 0, .slice none 0 0, .slice none 0 0] 28)) (some p) := only_alloc (World.grownBy.refl _ _) _
  go_enter Try.func13, Try.ntmps13
  go_wp2_with fail
  refine (diceBelow_any p _ 2 (hD.alloc _) (by omega) (by omega)).mono ?_
  rintro e w1 ⟨x, hx0, hx1, rfl, D1, g1⟩
  have R1 := R0.gen g1 (by omega)
  have GR1 := only_trans g0 g1
  clear R0 g0 g1
  go_wp2_with fail
  refine (diceBelow_any p _ 3 D1 (by omega) (by omega)).mono ?_
  rintro e w2 ⟨l, hl0, hl1, rfl, D2, g2⟩
  have R2 := R1.gen g2 (by omega)
  have GR2 := only_trans GR1 g2
  have z2 := R2.lt
  clear R1 GR1 g2 D1
  go_wp2_with fail
  refine (diceBelow_any p _ 3 (D2.alloc _) (by omega) (by omega)).mono ?_
  rintro e w3 ⟨s, hs0, hs1, rfl, D3, g3⟩
  have R3 := (R2.alloc _).gen g3 (by omega)
  have L3 := (Blk.new w2 80 [.int .i64 l, .int .i64 0]).gen g3 (by omega)
  have GR3 := only_trans (only_alloc GR2 _) g3
  clear R2 GR2 g3 D2
  go_wp2_with fail
  refine (diceBelow_any p _ 3 D3 (by omega) (by omega)).mono ?_
  rintro e w4 ⟨b, hb0, hb1, rfl, D4, g4⟩
  have R4 := R3.gen g4 (by omega)
  have L4 := L3.gen g4 (by omega)
  have GR4 := only_trans GR3 g4
  clear R3 L3 GR3 g4 D3
  go_wp2_with fail
  refine (diceBelow_any p _ 4 D4 (by omega) (by omega)).mono ?_
  rintro e w5 ⟨s', hs0', hs1', rfl, D5, g5⟩
  have R5 := R4.gen g5 (by omega)
  have L5 := L4.gen g5 (by omega)
  have GR5 := only_trans GR4 g5
  clear R4 L4 GR4 g5 D4
  go_wp2_with fail
  refine (diceBelow_any p _ 3 D5 (by omega) (by omega)).mono ?_
  rintro e w6 ⟨b', hb0', hb1', rfl, D6, g6⟩
  have R6 := R5.gen g6 (by omega)
  have L6 := L5.gen g6 (by omega)
  have GR6 := only_trans GR5 g6
  have z6 := R6.lt
  have zl := L6.lt
  clear R5 L5 GR5 g6 D5
  obtain ⟨wa, HW⟩ : ∃ wa, Hid (wa = (w6.alloc (.cells #[.int .i64 (1 + s), .int .i64 b, .int .i64 s', .int .i64 b'] 80)).alloc (.cells #[.int .i64 (2 + x), .slice (some ⟨w2.heap.size, 0, none⟩) 1 1, .slice (some ⟨w6.heap.size, 0, none⟩) 2 2, .int .i64 2, .slice none 0 0, .slice none 0 0] 28)) := ⟨_, rfl⟩
  have S6 : Blk wa w6.heap.size 80 [.int .i64 (1 + s), .int .i64 b, .int .i64 s', .int .i64 b'] := by rw [HW.out]; exact (Blk.new w6 _ _).alloc _
  have P6 : Blk wa (w6.heap.size + 1) 28 [.int .i64 (2 + x), .slice (some ⟨w2.heap.size, 0, none⟩) 1 1, .slice (some ⟨w6.heap.size, 0, none⟩) 2 2, .int .i64 2, .slice none 0 0, .slice none 0 0] := by
    rw [HW.out]
    have := Blk.new (w6.alloc (.cells #[.int .i64 (1 + s), .int .i64 b, .int .i64 s', .int .i64 b'] 80)) 28 [.int .i64 (2 + x), .slice (some ⟨w2.heap.size, 0, none⟩) 1 1, .slice (some ⟨w6.heap.size, 0, none⟩) 2 2, .int .i64 2, .slice none 0 0, .slice none 0 0]
    simpa using this
  have B : PBx w wa p w2.heap.size w6.heap.size (w6.heap.size + 1) l (1 + s) b s' b' none 0 0 [] [.int .i64 (2 + x), .slice (some ⟨w2.heap.size, 0, none⟩) 1 1, .slice (some ⟨w6.heap.size, 0, none⟩) 2 2, .int .i64 2, .slice none 0 0, .slice none 0 0] :=
    ⟨by rw [HW.out]; exact (R6.alloc _).alloc _, by rw [HW.out]; exact (L6.alloc _).alloc _, S6, .inl ⟨rfl, rfl, rfl, rfl⟩, P6, by rw [HW.out]; exact (D6.alloc _).alloc _, by rw [HW.out]; exact only_alloc (only_alloc GR6 _) _, hp, by omega, by omega, by omega, by omega, by omega⟩
  have N : Nums x l (1 + s) b s' b' := ⟨⟨by omega, by omega⟩, ⟨hl0, by omega⟩, ⟨by omega, by omega⟩, ⟨hb0, by omega⟩, ⟨hs0', by omega⟩, ⟨hb0', by omega⟩⟩
  clear R6 L6 GR6 D6 S6 P6
  go_wp2_with fail
  rw [← HW.out]
  refine (diceBelow_any p _ 2 B.gen (by omega) (by omega)).mono ?_
  rintro e w7 ⟨y, hy0, hy1, rfl, D7, g7⟩
  replace B := B.step D7 g7
  clear HW D7 g7
  go_upto_if 27 with fail
  go_cut [] (fun wx => ∃ (a : Option Addr) (A c : Nat) (zs : List Int), PBx w wx p w2.heap.size w6.heap.size (w6.heap.size + 1) l (1 + s) b s' b' a A c zs [.int .i64 (2 + x), .slice (some ⟨w2.heap.size, 0, none⟩) 1 1, .slice (some ⟨w6.heap.size, 0, none⟩) 2 2, .int .i64 2, .slice a A c, .slice none 0 0])
  case first =>
    by_cases hy : y = 0
    · subst hy
      go_wp2_with fail
      refine (diceBelow_any p _ 3 B.gen (by omega) (by omega)).mono ?_
      rintro e w8 ⟨z, hz0, hz1, rfl, D8, g8⟩
      replace B := B.step D8 g8
      have hB8 := B.prog.lt
      have B1 := B.alloc (.cells #[.int .i64 (1 + z)] 2)
      have B2 := (B.set 4 (.slice (some ⟨w8.heap.size, 0, none⟩) 1 1)).alloc (.cells #[.int .i64 (1 + z)] 2)
      have t4 := B1.prog.cell (j := 4) rfl
      have f4 := B1.prog.frozen 4
      clear B D8 g8
      go_wp2_with fail
      go_meet
      refine ⟨some ⟨w8.heap.size, 0, none⟩, 1, 1, [1 + z], ⟨B2.res, B2.lows, B2.secrets, .inr ⟨w8.heap.size, 1 + z, rfl, rfl, rfl, rfl, by omega, by omega, ?_, by omega, by omega⟩, B2.prog, B2.gen, B2.grown, B2.old, B2.o1, B2.o2, B2.o3, B2.n1, B2.n2⟩⟩
      have := Blk.new (w8.setCell ⟨w6.heap.size + 1, 4, none⟩ (.slice (some ⟨w8.heap.size, 0, none⟩) 1 1)) 2 [.int .i64 (1 + z)]
      simpa using this
    · have hyy : (y == 0) = false := by simpa using hy
      go_wp2_with fail
      go_meet
      exact ⟨none, 0, 0, [], B⟩
  case rest =>
    clear B
    obtain ⟨a, A, c, zs, B⟩ := hcut
    have hA1 := B.arr.ints.2.2.1
    have HDE : Hid (∀ (w' : World) (ab : Option Addr) (nb cb : Nat), Dice w' p → Calls Try.prog 18 #[.pointer (some ⟨p, 0, none⟩), .agg #[.int .i64 (2 + x), .slice (some ⟨w2.heap.size, 0, none⟩) 1 1, .slice (some ⟨w6.heap.size, 0, none⟩) 2 2, .int .i64 2, .slice a A c, .slice ab nb cb], .int .i64 4, .int .i64 2] w' (DrewS w' p (4 * 36))) := Lib.hid (fun w' ab nb cb h => deeds_2 ⟨2 + x, (some ⟨w2.heap.size, 0, none⟩, 1, 1), (some ⟨w6.heap.size, 0, none⟩, 2, 2), 2, (a, A, c), (ab, nb, cb), []⟩ A p 4 w' h ⟨rfl, rfl, rfl, rfl, hA1⟩ (by omega) (by omega))
    have HPO : Hid (∀ (w' : World) (ab : Option Addr) (nb cb : Nat) (rs : List SRow) (P : Prg), ProgAt w' ⟨2 + x, (some ⟨w2.heap.size, 0, none⟩, 1, 1), (some ⟨w6.heap.size, 0, none⟩, 2, 2), 2, (a, A, c), (ab, nb, cb), rs⟩ P → Calls Try.prog 21 #[.agg #[.int .i64 (2 + x), .slice (some ⟨w2.heap.size, 0, none⟩) 1 1, .slice (some ⟨w6.heap.size, 0, none⟩) 2 2, .int .i64 2, .slice a A c, .slice ab nb cb]] w' fun e w'' => e = .returned (.bool (codeB P == 0)) ∧ Below w'.heap.size w' w'') := Lib.hid (fun w' ab nb cb rs P h => specProgOk_any ⟨2 + x, (some ⟨w2.heap.size, 0, none⟩, 1, 1), (some ⟨w6.heap.size, 0, none⟩, 2, 2), 2, (a, A, c), (ab, nb, cb), rs⟩ P w' h)
    go_wp2
    go_loopw [4] (fun iv wr => ∃ (k nb cb : Nat) (ab : Option Addr), k ≤ 8 ∧ iv = .int .i64 (k : Int) ∧ PBx w wr p w2.heap.size w6.heap.size (w6.heap.size + 1) l (1 + s) b s' b' a A c zs [.int .i64 (2 + x), .slice (some ⟨w2.heap.size, 0, none⟩) 1 1, .slice (some ⟨w6.heap.size, 0, none⟩) 2 2, .int .i64 2, .slice a A c, .slice ab nb cb]) (fun iv _ => 8 - (intOf iv).toNat)
    case atStart => exact ⟨0, 0, 0, none, by omega, rfl, B⟩
    case round =>
      clear B
      obtain ⟨k, nb, cb, ab, hk, rfl, B⟩ := hrel
      have hlt := B.prog.lt
      by_cases hk8 : k < 8
      case neg =>
        obtain rfl : k = 8 := by omega
        go_wp2_with fail
        refine (variable_any 1 _ (inTm1 (by omega) (by omega))).mono ?_
        rintro e w9 ⟨rfl, ho9, hb9⟩
        replace B := B.below hb9
        have hs9 := hb9.size
        have E9 : OwnS (w9.alloc (.cells #[.int .i64 6, .int .i64 0, .slice none 0 0, .slice (some ⟨wr.heap.size, 0, none⟩) 1 1] 46)) wr.heap.size (some ⟨w9.heap.size, 0, none⟩) 1 1 [⟨6, 0, (none, 0, 0), (some ⟨wr.heap.size, 0, none⟩, 1, 1)⟩] [⟨6, 0, [], [(1, 1)]⟩] := by
          refine ⟨World.ownsRow_lit w9 #[.int .i64 6, .int .i64 0, .slice none 0 0, .slice (some ⟨wr.heap.size, 0, none⟩) 1 1] 1 hs9 (by unfold maxLen; omega) rfl, by omega, rfl, fun i hi => ?_⟩
          obtain rfl : i = 0 := by omega
          exact ⟨rfl, rfl, in64s (by simp [stAt]) (by simp [stAt]), in64s (by simp [stAt]) (by simp [stAt]), ownT_nil _ _, ho9.alloc _⟩
        have B1 := B.alloc (.cells #[.int .i64 6, .int .i64 0, .slice none 0 0, .slice (some ⟨wr.heap.size, 0, none⟩) 1 1] 46)
        have f5 := B1.prog.frozen 5
        have t5 := B1.prog.cell (j := 5) rfl
        have B2 := B1.set 5 (.slice (some ⟨w9.heap.size, 0, none⟩) 1 1)
        have E10 := (E9.old hlt (grown_set _ (w6.heap.size + 1) 5 (.slice (some ⟨w9.heap.size, 0, none⟩) 1 1))).base (B' := w.heap.size + 1) (by have := B.o3; omega)
        have hok : codeB ⟨2 + x, [(l, 0)], [(1 + s, b), (s', b')], 2, zs, [⟨6, 0, [], [(1, 1)]⟩]⟩ = 0 := last_ok (B.drawn N.l N.s N.b N.s' N.b' N.w) rfl
        clear B B1 E9 ho9 hb9
        go_upto_region 11 with fail
        obtain ⟨wb, HW⟩ : ∃ wb, Hid (wb = (w9.alloc (.cells #[.int .i64 6, .int .i64 0, .slice none 0 0, .slice (some ⟨wr.heap.size, 0, none⟩) 1 1] 46)).setCell ⟨w6.heap.size + 1, 5, none⟩ (.slice (some ⟨w9.heap.size, 0, none⟩) 1 1)) := ⟨_, rfl⟩
        rw [← HW.out]
        rw [← HW.out] at B2 E10
        clear HW t5 f5
        have a0 := B2.res.cell (j := 0) rfl
        have z0 := B2.res.frozen 0
        have e0 := B2.prog.cell (j := 0) rfl
        have a1 := B2.res.cell (j := 1) rfl
        have z1 := B2.res.frozen 1
        have e1 := B2.prog.cell (j := 1) rfl
        have a2 := B2.res.cell (j := 2) rfl
        have z2 := B2.res.frozen 2
        have e2 := B2.prog.cell (j := 2) rfl
        have a3 := B2.res.cell (j := 3) rfl
        have z3 := B2.res.frozen 3
        have e3 := B2.prog.cell (j := 3) rfl
        have a4 := B2.res.cell (j := 4) rfl
        have z4 := B2.res.frozen 4
        have e4 := B2.prog.cell (j := 4) rfl
        have a5 := B2.res.cell (j := 5) rfl
        have z5 := B2.res.frozen 5
        have e5 := B2.prog.cell (j := 5) rfl
        go_wp2
        refine bodyPost_ret (v := .agg #[.int .i64 (2 + x), .slice (some ⟨w2.heap.size, 0, none⟩) 1 1, .slice (some ⟨w6.heap.size, 0, none⟩) 2 2, .int .i64 2, .slice a A c, .slice (some ⟨w9.heap.size, 0, none⟩) 1 1]) (by simp [results, Try.results13, go_sem, a0, a1, a2, a3, a4, a5]) rfl ?_
        exact drewP_of B2 N E10 hok _ _ _ _ _ _
      have hk8' : decide ((k : Int) < 8) = true := by simp; omega
      have t0 := B.prog.cell (j := 0) rfl
      have t1 := B.prog.cell (j := 1) rfl
      have t2 := B.prog.cell (j := 2) rfl
      have t3 := B.prog.cell (j := 3) rfl
      have t4 := B.prog.cell (j := 4) rfl
      have t5 := B.prog.cell (j := 5) rfl
      go_wp2_with fail
      refine (HDE.out _ ab nb cb B.gen).mono ?_
      rintro e w9 ⟨g, n, cc, rfl, hn1, hn2, ⟨rs, ss, S9⟩, D9, g9⟩
      replace B := B.step D9 g9
      clear D9 g9 t0 t1 t2 t3 t4 t5
      have f5 := B.prog.frozen 5
      have t0 := B.prog.cell (j := 0) rfl
      have t1 := B.prog.cell (j := 1) rfl
      have t2 := B.prog.cell (j := 2) rfl
      have t3 := B.prog.cell (j := 3) rfl
      have t4 := B.prog.cell (j := 4) rfl
      have t5 := B.prog.cell (j := 5) rfl
      have B2 := B.set 5 (.slice (some ⟨g, 0, none⟩) n cc)
      have S10 := (S9.old hlt (grown_set _ (w6.heap.size + 1) 5 (.slice (some ⟨g, 0, none⟩) n cc))).base (B' := w.heap.size + 1) (by have := B.o3; omega)
      obtain ⟨wb, HW⟩ : ∃ wb, Hid (wb = w9.setCell ⟨w6.heap.size + 1, 5, none⟩ (.slice (some ⟨g, 0, none⟩) n cc)) := ⟨_, rfl⟩
      rw [← HW.out] at B2 S10
      clear B S9
      go_wp2_with fail
      rw [← HW.out]
      refine (HPO.out wb (some ⟨g, 0, none⟩) n cc rs ⟨2 + x, [(l, 0)], [(1 + s, b), (s', b')], 2, zs, ss⟩ (B2.progAt N.l N.s N.b N.s' N.b' N.w S10.reads)).mono ?_
      rintro e w10 ⟨rfl, hb10⟩
      replace B2 := B2.below hb10
      replace S10 := S10.below hb10
      clear HW t0 t1 t2 t3 t4 t5 f5 hb10
      cases hz : (codeB ⟨2 + x, [(l, 0)], [(1 + s, b), (s', b')], 2, zs, ss⟩ == 0) with
      | true =>
        have hok : codeB ⟨2 + x, [(l, 0)], [(1 + s, b), (s', b')], 2, zs, ss⟩ = 0 := by simpa using hz
        have a0 := B2.res.cell (j := 0) rfl
        have z0 := B2.res.frozen 0
        have e0 := B2.prog.cell (j := 0) rfl
        have a1 := B2.res.cell (j := 1) rfl
        have z1 := B2.res.frozen 1
        have e1 := B2.prog.cell (j := 1) rfl
        have a2 := B2.res.cell (j := 2) rfl
        have z2 := B2.res.frozen 2
        have e2 := B2.prog.cell (j := 2) rfl
        have a3 := B2.res.cell (j := 3) rfl
        have z3 := B2.res.frozen 3
        have e3 := B2.prog.cell (j := 3) rfl
        have a4 := B2.res.cell (j := 4) rfl
        have z4 := B2.res.frozen 4
        have e4 := B2.prog.cell (j := 4) rfl
        have a5 := B2.res.cell (j := 5) rfl
        have z5 := B2.res.frozen 5
        have e5 := B2.prog.cell (j := 5) rfl
        go_wp2
        refine bodyPost_ret (v := .agg #[.int .i64 (2 + x), .slice (some ⟨w2.heap.size, 0, none⟩) 1 1, .slice (some ⟨w6.heap.size, 0, none⟩) 2 2, .int .i64 2, .slice a A c, .slice (some ⟨g, 0, none⟩) n cc]) (by simp [results, Try.results13, go_sem, a0, a1, a2, a3, a4, a5]) rfl ?_
        exact drewP_of B2 N S10 hok _ _ _ _ _ _
      | false =>
        go_wp2
        go_roundw
        case rel => exact ⟨k + 1, n, cc, _, by omega, by go_num, B2⟩
        case measure => simp [intOf]; omega
end Go.Proofs.Ytmooecbdpfhnlaa
/- The contracts of the model's l5Bit, l5Shift, l5Bits, l5Op: what a Term makes of values. -/
namespace Go.Proofs.Ytmooecbdpfhnlaa
open Go.RowKit

def shiftF (up : Bool) (S a k : Nat) : Nat := match up with | true => a * 2 ^ k % S | false => a / 2 ^ k
def bi (b : Bool) : Nat := if b = true then 1 else 0

end Go.Proofs.Ytmooecbdpfhnlaa
