/- The contracts of the program's CodeOf, ProgOk and StepsOf. -/
import Derived.Test.YteigeihbokkpiaaSpecProgOk
import Derived.Test.YteigeihbokkpiaaImplRoom
import Derived.Test.YteigeihbokkpiaaImplStmts
import Derived.Test.YteigeihbokkpiaaImplStepsIn
namespace Go.Proofs.Yteigeihbokkpiaa
open Go.RowKit

theorem own_cap {w : World} {B k : Nat} {e : TypeId} {a : Option Addr} {n c : Nat} {xs : List Value} (h : w.ownsRow B e k (.slice a n c) n xs) : n ≤ c := by
  obtain ⟨_, h2⟩ := h
  rcases h2 with ⟨e1, h0⟩ | ⟨g, cap, cur, e1, hb, hg, hnc, hcm, hcs, ht⟩
  · injection e1 with _ e2 e3; omega
  · injection e1 with _ e2 e3; omega
theorem OwnProg.cap {w : World} {B : Nat} {r : PRow} {p : Prg} (h : OwnProg w B r p) : r.body.2.1 ≤ r.body.2.2 := own_cap h.body.1
set_option maxRecDepth 20000 in
set_option maxHeartbeats 3200000 in
theorem implCodeOf_any (r : PRow) (p : Prg) (w : World) (h : ProgAt w r p) (hcap : r.body.2.1 ≤ r.body.2.2) :
    Calls Try.prog 11 #[progV r] w fun e w' => e = .returned (.int .i64 (codeB p)) ∧ Below w.heap.size w w' := by
  obtain ⟨Z, HZ⟩ : ∃ Z, Hid (codeB p = Z) := ⟨_, rfl⟩
  rw [HZ.out]
  have hZ := HZ.out
  unfold codeB at hZ
  by_cases hw : 1 ≤ p.width ∧ p.width ≤ 8
  case neg =>
    rw [if_pos hw] at hZ
    subst hZ
    have hin : (decide (1 ≤ p.width) && decide (p.width ≤ 8)) = false := by rw [← Bool.not_eq_true]; simpa using hw
    obtain ⟨wd, ⟨a1, n1, c1⟩, ⟨a2, n2, c2⟩, tp, ⟨a3, n3, c3⟩, ⟨a4, n4, c4⟩, rows⟩ := r
    have e1 := h.width
    simp only [] at e1
    rw [← e1] at hin
    clear e1 h hw HZ
    show Calls Try.prog 11 #[.agg #[.int .i64 wd, .slice a1 n1 c1, .slice a2 n2 c2, .int .i64 tp, .slice a3 n3 c3, .slice a4 n4 c4]] w _
    go_enter Try.func11, Try.ntmps11
    go_wp2_with (go_at_call 32; refine (isWithin_any _ _ _ _).mono ?_; rintro e w' ⟨rfl, rfl⟩; rw [hin])
    go_ret
    exact ⟨rfl, (Below.refl _ _).alloc (Nat.le_refl _) _⟩
  rw [if_neg (by simpa using hw)] at hZ
  obtain ⟨wd, ⟨a1, n1, c1⟩, ⟨a2, n2, c2⟩, tp, ⟨a3, n3, c3⟩, ⟨a4, n4, c4⟩, rows⟩ := r
  obtain ⟨pw, pl, ps, pt, pa, pb⟩ := p
  have HPA := h
  obtain ⟨e1, e2, i1, i2, h1, h2, h3, h4⟩ := h
  simp only [] at e1 e2 i1 i2 h1 h2 h3 h4 hw hcap
  subst e1 e2
  obtain ⟨W, rfl⟩ : ∃ W : Nat, wd = (W : Int) := ⟨wd.toNat, by omega⟩
  have hin : (decide (1 ≤ (W : Int)) && decide ((W : Int) ≤ 8)) = true := by simpa using hw
  have HIN := Lib.hid hin
  have hW8 : W ≤ 8 := by omega
  have HP := Lib.hid HPA
  have L1 := Lib.hid h1.1
  have L2 := Lib.hid h2.1
  have L3 := Lib.hid h3.1
  have L4 := Lib.hid h4.2.1
  have HCAP := Lib.hid hcap
  clear HPA hin h1 h2 h3 h4 HZ hcap
  have HZ := Lib.hid hZ
  clear hZ
  show Calls Try.prog 11 #[.agg #[.int .i64 (W : Int), .slice a1 n1 c1, .slice a2 n2 c2, .int .i64 tp, .slice a3 n3 c3, .slice a4 n4 c4]] w _
  obtain ⟨wa, HW⟩ : ∃ wa, Hid (wa = w.alloc (.cells #[.int .i64 (W : Int), .slice a1 n1 c1, .slice a2 n2 c2, .int .i64 tp, .slice a3 n3 c3, .slice a4 n4 c4] 28)) := ⟨_, rfl⟩
  have B : Blk wa w.heap.size 28 [.int .i64 (W : Int), .slice a1 n1 c1, .slice a2 n2 c2, .int .i64 tp, .slice a3 n3 c3, .slice a4 n4 c4] := by rw [HW.out]; exact Blk.new w _ _
  have HB : Below w.heap.size w wa := by rw [HW.out]; exact (Below.refl _ _).alloc (Nat.le_refl _) _
  go_enter Try.func11, Try.ntmps11
  go_wp2_with (go_at_call 32; refine (isWithin_any _ _ _ _).mono ?_; rintro e w' ⟨rfl, rfl⟩; rw [HIN.out])
  obtain ⟨X1, H1⟩ : ∃ X1, Hid (inpB ⟨(W : Int), pl, ps, tp, pa, pb⟩ = X1) := ⟨_, rfl⟩
  rw [H1.out] at HZ
  rw [← HW.out]
  refine (inputsOk_any ⟨(W : Int), (a1, n1, c1), (a2, n2, c2), tp, (a3, n3, c3), (a4, n4, c4), rows⟩ ⟨(W : Int), pl, ps, tp, pa, pb⟩ W _ rfl hW8 (HP.out.below HB)).mono ?_
  rintro e w1 ⟨rfl, hb1⟩
  rw [H1.out]
  have B := B.below hb1 B.lt
  have HB := HB.trans (hb1.mono HB.size)
  clear hb1 HW
  have t0 := B.cell (j := 0) rfl
  have t1 := B.cell (j := 1) rfl
  have t2 := B.cell (j := 2) rfl
  have t3 := B.cell (j := 3) rfl
  have t4 := B.cell (j := 4) rfl
  have t5 := B.cell (j := 5) rfl
  cases X1 with
  | false =>
    have hz := HZ.out
    rw [if_pos rfl] at hz
    subst hz
    go_wp2
    go_ret
    exact ⟨rfl, HB⟩
  | true =>
  rw [if_neg (by simp)] at HZ
  obtain ⟨X3, H3⟩ : ∃ X3, Hid (roomB ⟨(W : Int), pl, ps, tp, pa, pb⟩ = X3) := ⟨_, rfl⟩
  rw [H3.out] at HZ
  go_wp2_with fail
  refine (roomOk_any ⟨(W : Int), (a1, n1, c1), (a2, n2, c2), tp, (a3, n3, c3), (a4, n4, c4), rows⟩ ⟨(W : Int), pl, ps, tp, pa, pb⟩ _ (HP.out.below HB)).mono ?_
  rintro e w4 ⟨rfl, hb4⟩
  rw [H3.out]
  clear t0 t1 t2 t3 t4 t5
  have B := B.below hb4 B.lt
  have HB := HB.trans (hb4.mono HB.size)
  clear hb4
  have t0 := B.cell (j := 0) rfl
  have t1 := B.cell (j := 1) rfl
  have t2 := B.cell (j := 2) rfl
  have t3 := B.cell (j := 3) rfl
  have t4 := B.cell (j := 4) rfl
  have t5 := B.cell (j := 5) rfl
  cases X3 with
  | false =>
    have hz := HZ.out
    rw [if_pos rfl] at hz
    subst hz
    go_wp2
    go_ret
    exact ⟨rfl, HB⟩
  | true =>
  rw [if_neg (by simp)] at HZ
  have hroom := H3.out
  simp only [roomB, Bool.and_eq_true, decide_eq_true_eq] at hroom
  have hinp := H1.out
  simp only [inpB, inputsB, Bool.and_eq_true, decide_eq_true_eq] at hinp
  have hl1 : n1 ≤ 3 := by have := L1.out; omega
  have hl2 : n2 ≤ 3 := by have := L2.out; omega
  have hl3 : n3 ≤ 2 := by have := L3.out; omega
  have hl4 : n4 ≤ 40 := by have := L4.out; omega
  obtain ⟨T, rfl⟩ : ∃ T : Nat, tp = (T : Int) := ⟨tp.toNat, by omega⟩
  have hT : T ≤ 6 := by omega
  have HLim := Lib.hid (show Lim ⟨(W : Int), (a1, n1, c1), (a2, n2, c2), (T : Int), (a3, n3, c3), (a4, n4, c4), rows⟩ W (n1 + n2) T n3 from ⟨rfl, hW8, rfl, by omega, rfl, by omega, rfl, by omega⟩)
  clear hroom hinp
  obtain ⟨X4, H4⟩ : ∃ X4, Hid (pb.all (stmtB (2 ^ W) (n1 + n2) T n3) = X4) := ⟨_, rfl⟩
  have HS : Hid (stmtsB ⟨(W : Int), pl, ps, (T : Int), pa, pb⟩ = X4) := Lib.hid (by simp only [stmtsB, Int.toNat_natCast, L1.out, L2.out, L3.out, H4.out])
  rw [HS.out] at HZ
  go_wp2_with fail
  refine (stmtsOk_any _ ⟨(W : Int), pl, ps, (T : Int), pa, pb⟩ W (n1 + n2) T n3 _ (HP.out.below HB) HLim.out).mono ?_
  rintro e w5 ⟨rfl, hb5⟩
  simp only [H4.out]
  clear t0 t1 t2 t3 t4 t5
  have B := B.below hb5 B.lt
  have HB := HB.trans (hb5.mono HB.size)
  clear hb5
  have t0 := B.cell (j := 0) rfl
  have t1 := B.cell (j := 1) rfl
  have t2 := B.cell (j := 2) rfl
  have t3 := B.cell (j := 3) rfl
  have t4 := B.cell (j := 4) rfl
  have t5 := B.cell (j := 5) rfl
  cases X4 with
  | false =>
    have hz := HZ.out
    rw [if_pos rfl] at hz
    subst hz
    go_wp2
    go_ret
    exact ⟨rfl, HB⟩
  | true =>
  rw [if_neg (by simp)] at HZ
  have hlo := loops_ok H4.out
  obtain ⟨K, HK⟩ : ∃ K, Hid (blockOf pb 0 = K) := ⟨_, rfl⟩
  simp only [HK.out, L4.out] at HZ
  go_wp2_with fail
  refine (wellNested_any a4 n4 c4 rows pb _ (HP.out.body.below HB) hl4).mono ?_
  rintro e w6 ⟨rfl, hb6⟩
  rw [HK.out]
  clear t0 t1 t2 t3 t4 t5
  have B := B.below hb6 B.lt
  have HB := HB.trans (hb6.mono HB.size)
  clear hb6
  have t5 := B.cell (j := 5) rfl
  by_cases hK : K = (n4 : Int)
  case neg =>
    have hz := HZ.out
    rw [if_pos hK] at hz
    subst hz
    rw [decide_eq_false hK]
    go_wp2
    go_ret
    exact ⟨rfl, HB⟩
  rw [if_neg (by simpa using hK)] at HZ
  have hex := part_steps hlo _ 0 pb.length (Nat.le_refl _) (Nat.zero_le _) (by rw [HK.out, hK, L4.out])
  have hst := stepsN_spec hex
  obtain ⟨Q, HQ⟩ : ∃ Q, Hid (stepsN pb = Q) := ⟨_, rfl⟩
  rw [HQ.out] at hst
  rw [HQ.out] at HZ
  rw [L4.out] at hst
  rw [decide_eq_true hK]
  have HD : Hid (∀ w', Below w.heap.size w w' → Calls Try.prog 37 #[.slice a4 n4 c4] w' fun e w'' => e = .returned (.int .i64 (Q : Int)) ∧ Below w'.heap.size w' w'') := Lib.hid (fun w' hw' => stepsIn_any a4 n4 c4 rows pb Q w' hl4 HCAP.out (HP.out.body.below hw') hst)
  clear hex hst hlo hK
  go_wp2_with fail
  refine (HD.out _ HB).mono ?_
  rintro e w7 ⟨rfl, hs7⟩
  have HB := HB.trans (hs7.mono HB.size)
  by_cases hQ : 400 < Q
  · have hz := HZ.out
    rw [if_pos hQ] at hz
    subst hz
    have hd2 : decide ((Q : Int) > 400) = true := by simp; omega
    go_wp2
    go_ret
    exact ⟨rfl, HB⟩
  · have hz := HZ.out
    rw [if_neg hQ] at hz
    subst hz
    have hd2 : decide ((Q : Int) > 400) = false := by simp; omega
    go_wp2
    go_ret
    exact ⟨rfl, HB⟩
set_option maxHeartbeats 800000 in
theorem implProgOk_any (r : PRow) (p : Prg) (w : World) (h : ProgAt w r p) (hcap : r.body.2.1 ≤ r.body.2.2) :
    Calls Try.prog 14 #[progV r] w fun e w' => e = .returned (.bool (codeB p == 0)) ∧ Below w.heap.size w w' := by
  have HC : Hid (∀ w', Below w.heap.size w w' → Calls Try.prog 11 #[progV r] w' fun e w'' => e = .returned (.int .i64 (codeB p)) ∧ Below w'.heap.size w' w'') := Lib.hid (fun w' hw => implCodeOf_any r p w' (h.below hw) hcap)
  obtain ⟨Z, HZ⟩ : ∃ Z, Hid (codeB p = Z) := ⟨_, rfl⟩
  rw [HZ.out] at HC ⊢
  obtain ⟨wd, ⟨a1, n1, c1⟩, ⟨a2, n2, c2⟩, tp, ⟨a3, n3, c3⟩, ⟨a4, n4, c4⟩, rows⟩ := r
  clear h HZ hcap
  show Calls Try.prog 14 #[.agg #[.int .i64 wd, .slice a1 n1 c1, .slice a2 n2 c2, .int .i64 tp, .slice a3 n3 c3, .slice a4 n4 c4]] w _
  have HB : Below w.heap.size w (w.alloc (.cells #[.int .i64 wd, .slice a1 n1 c1, .slice a2 n2 c2, .int .i64 tp, .slice a3 n3 c3, .slice a4 n4 c4] 28)) := (Below.refl _ _).alloc (Nat.le_refl _) _
  go_enter Try.func14, Try.ntmps14
  go_wp2_with fail
  refine (HC.out _ HB).mono ?_
  rintro e w1 ⟨rfl, hb1⟩
  have HB := HB.trans (hb1.mono HB.size)
  go_wp2
  go_ret
  exact ⟨ret_bool (by cases hz : (Z == 0) <;> simp_all), HB⟩
set_option maxHeartbeats 800000 in
theorem implStepsOf_any (r : PRow) (p : Prg) (w : World) (h : ProgAt w r p) (hcap : r.body.2.1 ≤ r.body.2.2) :
    Calls Try.prog 12 #[progV r] w fun e w' => e = .returned (.int .i64 (stepsB p)) ∧ Below w.heap.size w w' := by
  have HC : Hid (∀ w', Below w.heap.size w w' → Calls Try.prog 14 #[progV r] w' fun e w'' => e = .returned (.bool (codeB p == 0)) ∧ Below w'.heap.size w' w'') := Lib.hid (fun w' hw => implProgOk_any r p w' (h.below hw) hcap)
  obtain ⟨S, HS⟩ : ∃ S, Hid (stepsB p = S) := ⟨_, rfl⟩
  rw [HS.out]
  obtain ⟨wd, ⟨a1, n1, c1⟩, ⟨a2, n2, c2⟩, tp, ⟨a3, n3, c3⟩, ⟨a4, n4, c4⟩, rows⟩ := r
  simp only [] at hcap
  have HCAP := Lib.hid hcap
  clear hcap
  show Calls Try.prog 12 #[.agg #[.int .i64 wd, .slice a1 n1 c1, .slice a2 n2 c2, .int .i64 tp, .slice a3 n3 c3, .slice a4 n4 c4]] w _
  obtain ⟨wa, HW⟩ : ∃ wa, Hid (wa = w.alloc (.cells #[.int .i64 wd, .slice a1 n1 c1, .slice a2 n2 c2, .int .i64 tp, .slice a3 n3 c3, .slice a4 n4 c4] 28)) := ⟨_, rfl⟩
  have B : Blk wa w.heap.size 28 [.int .i64 wd, .slice a1 n1 c1, .slice a2 n2 c2, .int .i64 tp, .slice a3 n3 c3, .slice a4 n4 c4] := by rw [HW.out]; exact Blk.new w _ _
  have HB : Below w.heap.size w wa := by rw [HW.out]; exact (Below.refl _ _).alloc (Nat.le_refl _) _
  by_cases hz : codeB p = 0
  · have hzz : (codeB p == 0) = true := by simpa using hz
    rw [hzz] at HC
    obtain ⟨h40, hst⟩ := codeB_ok hz
    have hS : S = (stepsN p.body : Int) := by rw [← HS.out, stepsB, if_pos hz]
    obtain ⟨Q, HQ⟩ : ∃ Q, Hid (stepsN p.body = Q) := ⟨_, rfl⟩
    rw [HQ.out] at hst hS
    have h4 := h.body
    simp only [] at h4
    rw [h4.2.1] at h40 hst
    have HD : Hid (∀ w', Below w.heap.size w w' → Calls Try.prog 37 #[.slice a4 n4 c4] w' fun e w'' => e = .returned (.int .i64 (Q : Int)) ∧ Below w'.heap.size w' w'') := Lib.hid (fun w' hw' => stepsIn_any a4 n4 c4 rows p.body Q w' h40 HCAP.out (h4.below hw') hst)
    subst hS
    clear hst h4 h hz hzz HS
    go_enter Try.func12, Try.ntmps12
    go_wp2_with fail
    rw [← HW.out]
    refine (HC.out _ HB).mono ?_
    rintro e w1 ⟨rfl, hb1⟩
    have B := B.below hb1 B.lt
    have HB := HB.trans (hb1.mono HB.size)
    have t5 := B.cell (j := 5) rfl
    go_wp2_with fail
    refine (HD.out _ HB).mono ?_
    rintro e w2 ⟨rfl, hs2⟩
    have HB := HB.trans (hs2.mono HB.size)
    go_wp2
    go_ret
    exact ⟨rfl, HB⟩
  · have hzz : (codeB p == 0) = false := by simpa using hz
    rw [hzz] at HC
    have hS : S = -1 := by rw [← HS.out, stepsB, if_neg hz]
    subst hS
    clear h hz hzz HS
    go_enter Try.func12, Try.ntmps12
    go_wp2_with fail
    rw [← HW.out]
    refine (HC.out _ HB).mono ?_
    rintro e w1 ⟨rfl, hb1⟩
    have HB := HB.trans (hb1.mono HB.size)
    go_wp2
    go_ret
    exact ⟨rfl, HB⟩
end Go.Proofs.Yteigeihbokkpiaa
