/- The contract of the laws' own draw of an expression: formula. -/
import Derived.Test.YteigeihbokkpiaaDrawForm
namespace Go.Proofs.Yteigeihbokkpiaa
open Go.RowKit

def FSaid (d : Nat) : Prop := d ≤ 5 → ∀ (r : PRow) (A p : Nat) (w : World), Dice w p → Head r A →
  Calls Try.prog 82 #[.pointer (some ⟨p, 0, none⟩), progV r, .int .i64 (d : Int)] w (DrewF w p A (2 ^ (d + 1) - 1))
theorem inTm1 {x : Int} (h0 : 0 ≤ x) (h1 : x ≤ 255) : InTm (1, x) := inTm_small (by omega) (by omega) (by omega) (by omega)
theorem inTm0 {x : Int} (h0 : 0 ≤ x) (h1 : x ≤ 255) : InTm (0, x) := inTm_small (by omega) (by omega) (by omega) (by omega)
/-- What a leaf leaves. -/
theorem drewF_leaf {w wi wj : World} {p A m : Nat} {cs : List Value} {ts : List Tm} (G : GBox w wi p cs) (hf : Formula 5 A ts) (hm : 1 ≤ m) (ho : OwnT wj wi.heap.size (some ⟨wi.heap.size, 0, none⟩) 1 1 ts) (hb : Below wi.heap.size wi wj) :
    DrewF w p A m (.returned (.slice (some ⟨wi.heap.size, 0, none⟩) 1 1)) wj :=
  ⟨_, 1, 1, ts, rfl, Nat.le_refl _, hm, hf, ho.base (by have := G.base; omega), (G.below hb).gen, (G.below hb).grown⟩
set_option maxRecDepth 20000 in
set_option maxHeartbeats 6400000 in
theorem formula_zero : FSaid 0 := by
  intro _ r A p w hd hh
  obtain ⟨wd, ⟨a1, n1, c1⟩, ⟨a2, n2, c2⟩, tp, ⟨a3, n3, c3⟩, ⟨a4, n4, c4⟩, rows⟩ := r
  obtain ⟨rfl, rfl, rfl, rfl, hA⟩ := hh
  simp only [] at hA
  obtain ⟨wa, HW⟩ : ∃ wa, Hid (wa = w.alloc (.cells #[.int .i64 wd, .slice a1 1 c1, .slice a2 2 c2, .int .i64 2, .slice a3 n3 c3, .slice a4 n4 c4] 28)) := ⟨_, rfl⟩
  have G : GBox w wa p [.int .i64 wd, .slice a1 1 c1, .slice a2 2 c2, .int .i64 2, .slice a3 n3 c3, .slice a4 n4 c4] := by rw [HW.out]; exact gbox_new w p _ hd
  show Calls Try.prog 82 #[.pointer (some ⟨p, 0, none⟩), .agg #[.int .i64 wd, .slice a1 1 c1, .slice a2 2 c2, .int .i64 2, .slice a3 n3 c3, .slice a4 n4 c4], .int .i64 0] w _
  go_enter Try.func82, Try.ntmps82
  go_wp2_with fail
  rw [← HW.out]
  refine (diceBelow_any p _ 3 G.gen (by omega) (by omega)).mono ?_
  rintro e w1 ⟨x, hx0, hx1, rfl, hd1, hg1⟩
  have G := G.step hd1 hg1
  by_cases hx : 0 < x
  · have hxx : decide (x > 0) = true := by simpa using hx
    go_wp2_with fail
    refine (diceBelow_any p _ 5 G.gen (by omega) (by omega)).mono ?_
    rintro e w2 ⟨y, hy0, hy1, rfl, hd2, hg2⟩
    have G := G.step hd2 hg2
    go_wp2_with fail
    refine (variable_any y _ (inTm1 hy0 (by omega))).mono ?_
    rintro e w3 ⟨rfl, ho3, hb3⟩
    go_wp2
    go_ret
    exact drewF_leaf G (form_var 5 n3 hy0 (by omega) (by omega)) (by simp) ho3 hb3
  · have hxx : decide (x > 0) = false := by simpa using hx
    go_wp2_with fail
    refine (diceBelow_any p _ 4 G.gen (by omega) (by omega)).mono ?_
    rintro e w2 ⟨y, hy0, hy1, rfl, hd2, hg2⟩
    have G := G.step hd2 hg2
    go_wp2_with fail
    refine (number_any y _ (inTm0 hy0 (by omega))).mono ?_
    rintro e w3 ⟨rfl, ho3, hb3⟩
    go_wp2
    go_ret
    exact drewF_leaf G (form_num 5 n3 hy0 (by omega)) (by simp) ho3 hb3

set_option maxRecDepth 20000 in
set_option maxHeartbeats 12800000 in
theorem formula_succ (d : Nat) (ih : Hid (FSaid d)) : FSaid (d + 1) := by
  intro hd5 r A p w hd hh
  have HF : Hid (∀ w', Dice w' p → Calls Try.prog 82 #[.pointer (some ⟨p, 0, none⟩), progV r, .int .i64 (d : Int)] w' (DrewF w' p A (2 ^ (d + 1) - 1))) := Lib.hid (fun w' h => ih.out (by omega) r A p w' h hh)
  obtain ⟨wd, ⟨a1, n1, c1⟩, ⟨a2, n2, c2⟩, tp, ⟨a3, n3, c3⟩, ⟨a4, n4, c4⟩, rows⟩ := r
  obtain ⟨rfl, rfl, rfl, rfl, hA⟩ := hh
  simp only [] at hA
  obtain ⟨M, HM⟩ : ∃ M, Hid (2 ^ (d + 1) - 1 = M) := ⟨_, Lib.hid rfl⟩
  have HM2 : Hid (2 ^ (d + 1 + 1) - 1 = 2 * M + 1) := Lib.hid (by rw [← HM.out, Nat.pow_succ 2 (d + 1)]; have := Nat.one_le_two_pow (n := d + 1); omega)
  have hMs : M ≤ 100 := by
    rw [← HM.out]
    have : 2 ^ (d + 1) ≤ 2 ^ 5 := Nat.pow_le_pow_right (by omega) (by omega)
    omega
  rw [HM.out] at HF
  rw [HM2.out]
  clear ih HM HM2
  obtain ⟨wa, HW⟩ : ∃ wa, Hid (wa = w.alloc (.cells #[.int .i64 wd, .slice a1 1 c1, .slice a2 2 c2, .int .i64 2, .slice a3 n3 c3, .slice a4 n4 c4] 28)) := ⟨_, rfl⟩
  have G : GBox w wa p [.int .i64 wd, .slice a1 1 c1, .slice a2 2 c2, .int .i64 2, .slice a3 n3 c3, .slice a4 n4 c4] := by rw [HW.out]; exact gbox_new w p _ hd
  show Calls Try.prog 82 #[.pointer (some ⟨p, 0, none⟩), .agg #[.int .i64 wd, .slice a1 1 c1, .slice a2 2 c2, .int .i64 2, .slice a3 n3 c3, .slice a4 n4 c4], .int .i64 ((d + 1 : Nat) : Int)] w _
  replace HF : Hid (∀ w', Dice w' p → Calls Try.prog 82 #[.pointer (some ⟨p, 0, none⟩), .agg #[.int .i64 wd, .slice a1 1 c1, .slice a2 2 c2, .int .i64 2, .slice a3 n3 c3, .slice a4 n4 c4], .int .i64 (d : Int)] w' (DrewF w' p n3 M)) := HF
  have hd0 : (((d + 1 : Nat) : Int) == 0) = false := by simp; omega
  go_enter Try.func82, Try.ntmps82
  go_wp2_with fail
  rw [← HW.out]
  refine (diceBelow_any p _ 4 G.gen (by omega) (by omega)).mono ?_
  rintro e w0 ⟨z, hz0, hz1, rfl, hd0', hg0⟩
  have G := G.step hd0' hg0
  clear HW hg0 hd0'
  by_cases hz : z = 0
  · subst hz
    go_wp2_with fail
    refine (diceBelow_any p _ 3 G.gen (by omega) (by omega)).mono ?_
    rintro e w1 ⟨x, hx0, hx1, rfl, hd1, hg1⟩
    have G := G.step hd1 hg1
    by_cases hx : 0 < x
    · have hxx : decide (x > 0) = true := by simpa using hx
      go_wp2_with fail
      refine (diceBelow_any p _ 5 G.gen (by omega) (by omega)).mono ?_
      rintro e w2 ⟨y, hy0, hy1, rfl, hd2, hg2⟩
      have G := G.step hd2 hg2
      go_wp2_with fail
      refine (variable_any y _ (inTm1 hy0 (by omega))).mono ?_
      rintro e w3 ⟨rfl, ho3, hb3⟩
      go_wp2
      go_ret
      exact drewF_leaf G (form_var 5 n3 hy0 (by omega) (by omega)) (by omega) ho3 hb3
    · have hxx : decide (x > 0) = false := by simpa using hx
      go_wp2_with fail
      refine (diceBelow_any p _ 4 G.gen (by omega) (by omega)).mono ?_
      rintro e w2 ⟨y, hy0, hy1, rfl, hd2, hg2⟩
      have G := G.step hd2 hg2
      go_wp2_with fail
      refine (number_any y _ (inTm0 hy0 (by omega))).mono ?_
      rintro e w3 ⟨rfl, ho3, hb3⟩
      go_wp2
      go_ret
      exact drewF_leaf G (form_num 5 n3 hy0 (by omega)) (by omega) ho3 hb3
  have hzz : (z == 0) = false := by simpa using hz
  go_wp2_with fail
  refine (diceBelow_any p _ 12 G.gen (by omega) (by omega)).mono ?_
  rintro e w1 ⟨op, hop0, hop1, rfl, hd1, hg1⟩
  have G := G.step hd1 hg1
  clear hd1 hg1 hz hzz hz0 hz1
  go_wp2_with fail
  refine (diceBelow_any p _ 8 G.gen (by omega) (by omega)).mono ?_
  rintro e w2 ⟨x, hx0, hx1, rfl, hd2, hg2⟩
  have G := G.step hd2 hg2
  clear hd2 hg2
  by_cases hx : x = 0
  · subst hx
    go_wp2_with fail
    refine (diceBelow_any p _ 2 G.gen (by omega) (by omega)).mono ?_
    rintro e w3 ⟨y, hy0, hy1, rfl, hd3, hg3⟩
    have G := G.step hd3 hg3
    clear hd3 hg3
    have t0 := G.arg.cell (j := 0) rfl
    have t1 := G.arg.cell (j := 1) rfl
    have t2 := G.arg.cell (j := 2) rfl
    have t3 := G.arg.cell (j := 3) rfl
    have t4 := G.arg.cell (j := 4) rfl
    have t5 := G.arg.cell (j := 5) rfl
    go_wp2_with fail
    refine (HF.out _ G.gen).mono ?_
    rintro e w4 ⟨g4, n4', c4', ts, rfl, hn1, hnM, hf4, ho4, hd4, hg4⟩
    have O := ho4.base G.base
    have G := G.step hd4 hg4
    have hs4 := G.base
    clear ho4 hd4 hg4 t0 t1 t2 t3 t4 t5
    go_wp2_with (at_builtin; refine wpList_pushT _ rfl _ _ rfl (w.heap.size + 1) _ _ _ ts rfl (O.alloc _) w4.heap.size (3 + y) 0 rfl (by simp) (by simp) (inTm_small (by omega) (by omega) (by omega) (by omega)) (by omega) (by simp; omega) ?_)
    intro a5 c5 w5 ho5 hg5
    obtain ⟨g5, rfl, _, _⟩ := ownT_some ho5 (by omega)
    have G := (G.alloc _).grow hg5.1 (fun g e => (O.block g e).1)
    clear hg5 O
    go_wp2
    go_ret
    exact ⟨g5, _, c5, _, rfl, by omega, by omega, form_not hf4 (by omega) (by omega), ho5.base (by omega), G.gen, G.grown⟩
  have hxx : (x == 0) = false := by simpa using hx
  clear hx hx0 hx1
  have t0 := G.arg.cell (j := 0) rfl
  have t1 := G.arg.cell (j := 1) rfl
  have t2 := G.arg.cell (j := 2) rfl
  have t3 := G.arg.cell (j := 3) rfl
  have t4 := G.arg.cell (j := 4) rfl
  have t5 := G.arg.cell (j := 5) rfl
  go_upto_region 10 with fail
  go_cut [62] (fun s wx => ∃ b : Bool, s = .bool b ∧ (b = true → 0 < n3) ∧ GBox w wx p [.int .i64 wd, .slice a1 1 c1, .slice a2 2 c2, .int .i64 2, .slice a3 n3 c3, .slice a4 n4 c4])
  case first =>
    by_cases hn3 : 0 < n3
    · have hnn : decide ((n3 : Int) > 0) = true := by simp; omega
      go_wp2_with fail
      refine (diceBelow_any p _ 8 G.gen (by omega) (by omega)).mono ?_
      rintro e w3 ⟨y, hy0, hy1, rfl, hd3, hg3⟩
      have G := G.step hd3 hg3
      go_wp2_with fail
      go_meet
      exact ⟨y == 0, rfl, fun _ => hn3, G⟩
    · have hnn : decide ((n3 : Int) > 0) = false := by simp; omega
      go_wp2_with fail
      go_meet
      exact ⟨false, rfl, (fun h => Bool.noConfusion h), G⟩
  case rest =>
    clear t0 t1 t2 t3 t4 t5 G
    obtain ⟨b, rfl, hb3, G⟩ := hcut
    have t0 := G.arg.cell (j := 0) rfl
    have t1 := G.arg.cell (j := 1) rfl
    have t2 := G.arg.cell (j := 2) rfl
    have t3 := G.arg.cell (j := 3) rfl
    have t4 := G.arg.cell (j := 4) rfl
    have t5 := G.arg.cell (j := 5) rfl
    cases b with
    | true =>
      have hn3 := hb3 rfl
      go_wp2_with fail
      have G0 := G.drew
      have hwd : IntKind.i64.wrap (d : Int) = (d : Int) := wrapI _ (by omega) (by omega)
      go_region_held3 (fun w' => w'.cell? ⟨w.heap.size, 0, none⟩ = some (.int .i64 wd) ∧ w'.cell? ⟨w.heap.size, 1, none⟩ = some (.slice a1 1 c1) ∧ w'.cell? ⟨w.heap.size, 2, none⟩ = some (.slice a2 2 c2) ∧ w'.cell? ⟨w.heap.size, 3, none⟩ = some (.int .i64 2) ∧ w'.cell? ⟨w.heap.size, 4, none⟩ = some (.slice a3 n3 c3) ∧ w'.cell? ⟨w.heap.size, 5, none⟩ = some (.slice a4 n4 c4)) (first | (refine ⟨?_, ?_, ?_, ?_, ?_, ?_⟩ <;> assumption) | go_keep | (refine ⟨?_, ?_, ?_, ?_, ?_, ?_⟩ <;> go_keep)) (first
        | (go_at_call 82; refine (HF.out _ G0.gen).mono ?_; rintro e w4 ⟨g4, n4', c4', ts, rfl, hn1, hnM, hf4, ho4, hd4, hg4⟩; have O := ho4.base G0.base; have G1 := G0.step hd4 hg4; have u0 := G1.arg.cell (j := 0) rfl; have u1 := G1.arg.cell (j := 1) rfl; have u2 := G1.arg.cell (j := 2) rfl; have u3 := G1.arg.cell (j := 3) rfl; have u4 := G1.arg.cell (j := 4) rfl; have u5 := G1.arg.cell (j := 5) rfl; clear ho4 hd4 hg4)
        | (go_at_call 45; refine (diceBelow_any p _ (n3 : Int) G1.gen (by omega) (by omega)).mono ?_; rintro e w5 ⟨y, hy0, hy1, rfl, hd5, hg5⟩; have O5 := ownT_gen G1 O hg5; have G2 := G1.step hd5 hg5; have hs5 := G2.base; have v0 := G2.arg.cell (j := 0) rfl; have v1 := G2.arg.cell (j := 1) rfl; have v2 := G2.arg.cell (j := 2) rfl; have v3 := G2.arg.cell (j := 3) rfl; have v4 := G2.arg.cell (j := 4) rfl; have v5 := G2.arg.cell (j := 5) rfl; clear hd5 hg5)
        | (refine step_pushT _ (by rfl) _ _ (by rfl) (w.heap.size + 1) _ _ _ ts (by rfl) (O5.alloc _) w5.heap.size 2 y (by rfl) (by simp) (by simp) (inTm_small (by omega) (by omega) (by omega) (by omega)) (by omega) (by simp; omega) ?_; intro a6 c6 w6 ho6 hg6; have G3 := (G2.alloc _).grow hg6.1 (fun g e => (O5.block g e).1); have x0 := G3.arg.cell (j := 0) rfl; have x1 := G3.arg.cell (j := 1) rfl; have x2 := G3.arg.cell (j := 2) rfl; have x3 := G3.arg.cell (j := 3) rfl; have x4 := G3.arg.cell (j := 4) rfl; have x5 := G3.arg.cell (j := 5) rfl))
      all_goals
        obtain ⟨g6, rfl, _, _⟩ := ownT_some ho6 (by omega)
        go_wp2
        go_ret
        exact ⟨g6, _, c6, _, rfl, by omega, by omega, form_cell hf4 hy0 (by omega) (by omega), ho6.base (by omega), G3.gen, G3.grown⟩
    | false =>
      go_wp2_with fail
      have G0 := G.drew
      have hwd : IntKind.i64.wrap (d : Int) = (d : Int) := wrapI _ (by omega) (by omega)
      go_region_held3 (fun w' => w'.cell? ⟨w.heap.size, 0, none⟩ = some (.int .i64 wd) ∧ w'.cell? ⟨w.heap.size, 1, none⟩ = some (.slice a1 1 c1) ∧ w'.cell? ⟨w.heap.size, 2, none⟩ = some (.slice a2 2 c2) ∧ w'.cell? ⟨w.heap.size, 3, none⟩ = some (.int .i64 2) ∧ w'.cell? ⟨w.heap.size, 4, none⟩ = some (.slice a3 n3 c3) ∧ w'.cell? ⟨w.heap.size, 5, none⟩ = some (.slice a4 n4 c4)) (first | (refine ⟨?_, ?_, ?_, ?_, ?_, ?_⟩ <;> assumption) | go_keep | (refine ⟨?_, ?_, ?_, ?_, ?_, ?_⟩ <;> go_keep)) (first
        | (go_at_call 82; refine (HF.out _ G0.gen).mono ?_; rintro e w4 ⟨g4, n4', c4', ts, rfl, hn1, hnM, hf4, ho4, hd4, hg4⟩; have O := ho4.base G0.base; have G1 := G0.step hd4 hg4; have u0 := G1.arg.cell (j := 0) rfl; have u1 := G1.arg.cell (j := 1) rfl; have u2 := G1.arg.cell (j := 2) rfl; have u3 := G1.arg.cell (j := 3) rfl; have u4 := G1.arg.cell (j := 4) rfl; have u5 := G1.arg.cell (j := 5) rfl; clear ho4 hd4 hg4)
        | (go_at_call 82; refine (HF.out _ G1.gen).mono ?_; rintro e w5 ⟨g5, n5, c5, us, rfl, hn51, hn5M, hf5, ho5, hd5, hg5⟩; have O5 := ho5.base G1.base; have O4 := ownT_gen G1 O hg5; have G2 := G1.step hd5 hg5; have v0 := G2.arg.cell (j := 0) rfl; have v1 := G2.arg.cell (j := 1) rfl; have v2 := G2.arg.cell (j := 2) rfl; have v3 := G2.arg.cell (j := 3) rfl; have v4 := G2.arg.cell (j := 4) rfl; have v5 := G2.arg.cell (j := 5) rfl; clear ho5 hd5 hg5)
        | (go_at_call 105; refine (two_any _ _ _ _ _ _ _ _ _ ts us _ O4.terms O5.terms (inTm_small (by omega) (by omega) (by omega) (by omega)) (by omega)).mono ?_; rintro e w6 ⟨a6, c6, rfl, ho6, hb6⟩; have G3 := G2.below hb6; have x0 := G3.arg.cell (j := 0) rfl; have x1 := G3.arg.cell (j := 1) rfl; have x2 := G3.arg.cell (j := 2) rfl; have x3 := G3.arg.cell (j := 3) rfl; have x4 := G3.arg.cell (j := 4) rfl; have x5 := G3.arg.cell (j := 5) rfl))
      all_goals
        obtain ⟨g6, rfl, _, _⟩ := ownT_some ho6 (by omega)
        have hs6 := G2.base
        go_wp2
        go_ret
        exact ⟨g6, _, c6, _, rfl, by omega, by omega, form_two hf4 hf5 (by omega) (by omega), ho6.base (by omega), G3.gen, G3.grown⟩
theorem formula_all : ∀ d, FSaid d := by
  intro d
  induction d with
  | zero => exact formula_zero
  | succ d ih => exact formula_succ d (Lib.hid ih)
theorem formula_any (r : PRow) (A p d : Nat) (w : World) (hd : d ≤ 5) (hd' : Dice w p) (hh : Head r A) :
    Calls Try.prog 82 #[.pointer (some ⟨p, 0, none⟩), progV r, .int .i64 (d : Int)] w (DrewF w p A (2 ^ (d + 1) - 1)) := formula_all d hd r A p w hd' hh
end Go.Proofs.Yteigeihbokkpiaa
