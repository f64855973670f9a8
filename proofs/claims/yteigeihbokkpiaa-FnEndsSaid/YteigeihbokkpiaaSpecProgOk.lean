/- The contracts of the model's ProgOk and StepsOf. -/
import Derived.Test.YteigeihbokkpiaaSpecCodeOf
namespace Go.Proofs.Yteigeihbokkpiaa
open Go.RowKit

/-- What StepsOf answers. -/
noncomputable def stepsB (p : Prg) : Int := if codeB p = 0 then (stepsN p.body : Int) else -1
theorem codeB_ok {p : Prg} (h : codeB p = 0) : p.body.length ≤ 40 ∧ Steps p.body 0 p.body.length (stepsN p.body) := by
  unfold codeB at h
  split at h
  · exact absurd h (by decide)
  split at h
  · exact absurd h (by decide)
  split at h
  · exact absurd h (by decide)
  split at h
  · exact absurd h (by decide)
  split at h
  · exact absurd h (by decide)
  rename_i h3 h4 h5
  have hs : stmtsB p = true := by simpa using h4
  have hr : roomB p = true := by simpa using h3
  have hb : blockOf p.body 0 = (p.body.length : Int) := by simpa using h5
  simp only [roomB, Bool.and_eq_true, decide_eq_true_eq] at hr
  exact ⟨by omega, stepsN_spec (part_steps (loops_ok hs) _ 0 _ (Nat.le_refl _) (Nat.zero_le _) hb)⟩
set_option maxHeartbeats 800000 in
theorem specProgOk_any (r : PRow) (p : Prg) (w : World) (h : ProgAt w r p) :
    Calls Try.prog 23 #[progV r] w fun e w' => e = .returned (.bool (codeB p == 0)) ∧ Below w.heap.size w w' := by
  have HC : Hid (∀ w', Below w.heap.size w w' → Calls Try.prog 13 #[progV r] w' fun e w'' => e = .returned (.int .i64 (codeB p)) ∧ Below w'.heap.size w' w'') := Lib.hid (fun w' hw => specCodeOf_any r p w' (h.below hw))
  obtain ⟨Z, HZ⟩ : ∃ Z, Hid (codeB p = Z) := ⟨_, rfl⟩
  rw [HZ.out] at HC ⊢
  obtain ⟨wd, ⟨a1, n1, c1⟩, ⟨a2, n2, c2⟩, tp, ⟨a3, n3, c3⟩, ⟨a4, n4, c4⟩, rows⟩ := r
  clear h HZ
  show Calls Try.prog 23 #[.agg #[.int .i64 wd, .slice a1 n1 c1, .slice a2 n2 c2, .int .i64 tp, .slice a3 n3 c3, .slice a4 n4 c4]] w _
  have HB : Below w.heap.size w (w.alloc (.cells #[.int .i64 wd, .slice a1 n1 c1, .slice a2 n2 c2, .int .i64 tp, .slice a3 n3 c3, .slice a4 n4 c4] 28)) := (Below.refl _ _).alloc (Nat.le_refl _) _
  go_enter Try.func23, Try.ntmps23
  go_wp2_with fail
  refine (HC.out _ HB).mono ?_
  rintro e w1 ⟨rfl, hb1⟩
  have HB := HB.trans (hb1.mono HB.size)
  go_wp2
  go_ret
  exact ⟨ret_bool (by cases hz : (Z == 0) <;> simp_all), HB⟩
set_option maxHeartbeats 800000 in
theorem specStepsOf_any (r : PRow) (p : Prg) (w : World) (h : ProgAt w r p) :
    Calls Try.prog 29 #[progV r] w fun e w' => e = .returned (.int .i64 (stepsB p)) ∧ Below w.heap.size w w' := by
  have HC : Hid (∀ w', Below w.heap.size w w' → Calls Try.prog 23 #[progV r] w' fun e w'' => e = .returned (.bool (codeB p == 0)) ∧ Below w'.heap.size w' w'') := Lib.hid (fun w' hw => specProgOk_any r p w' (h.below hw))
  obtain ⟨S, HS⟩ : ∃ S, Hid (stepsB p = S) := ⟨_, rfl⟩
  rw [HS.out]
  obtain ⟨wd, ⟨a1, n1, c1⟩, ⟨a2, n2, c2⟩, tp, ⟨a3, n3, c3⟩, ⟨a4, n4, c4⟩, rows⟩ := r
  show Calls Try.prog 29 #[.agg #[.int .i64 wd, .slice a1 n1 c1, .slice a2 n2 c2, .int .i64 tp, .slice a3 n3 c3, .slice a4 n4 c4]] w _
  obtain ⟨wa, HW⟩ : ∃ wa, Hid (wa = w.alloc (.cells #[.int .i64 wd, .slice a1 n1 c1, .slice a2 n2 c2, .int .i64 tp, .slice a3 n3 c3, .slice a4 n4 c4] 28)) := ⟨_, rfl⟩
  have B : Blk wa w.heap.size 28 [.int .i64 wd, .slice a1 n1 c1, .slice a2 n2 c2, .int .i64 tp, .slice a3 n3 c3, .slice a4 n4 c4] := by rw [HW.out]; exact Blk.new w _ _
  have HB : Below w.heap.size w wa := by rw [HW.out]; exact (Below.refl _ _).alloc (Nat.le_refl _) _
  by_cases hz : codeB p = 0
  · have hzz : (codeB p == 0) = true := by simpa using hz
    rw [hzz] at HC
    obtain ⟨h40, hst⟩ := codeB_ok hz
    have hS : S = (stepsN p.body : Int) := by rw [← HS.out, stepsB, if_pos hz]
    obtain ⟨Q, HQ⟩ : ∃ Q, Hid (stepsN p.body = Q) := ⟨_, rfl⟩
    rw [HQ.out] at hst hS
    have h4 := h.body
    simp only [] at h4
    rw [h4.2.1] at h40 hst
    have HD : Hid (∀ w', Below w.heap.size w w' → Calls Try.prog 44 #[.slice a4 n4 c4, .int .i64 0, .int .i64 (n4 : Int)] w' fun e w'' => e = .returned (.int .i64 (Q : Int)) ∧ Still w' w'') := Lib.hid (fun w' hw' => l3Steps_any a4 n4 c4 rows p.body 0 n4 Q w' (h4.below hw') h40 (Nat.le_refl _) hst)
    subst hS
    clear hst h4 h hz hzz HS
    go_enter Try.func29, Try.ntmps29
    go_wp2_with fail
    rw [← HW.out]
    refine (HC.out _ HB).mono ?_
    rintro e w1 ⟨rfl, hb1⟩
    have B := B.below hb1 B.lt
    have HB := HB.trans (hb1.mono HB.size)
    have t5 := B.cell (j := 5) rfl
    go_wp2_with fail
    refine (HD.out _ HB).mono ?_
    rintro e w2 ⟨rfl, hs2⟩
    have HB := HB.trans (hs2.below _)
    go_wp2
    go_ret
    exact ⟨rfl, HB⟩
  · have hzz : (codeB p == 0) = false := by simpa using hz
    rw [hzz] at HC
    have hS : S = -1 := by rw [← HS.out, stepsB, if_neg hz]
    subst hS
    clear h hz hzz HS
    go_enter Try.func29, Try.ntmps29
    go_wp2_with fail
    rw [← HW.out]
    refine (HC.out _ HB).mono ?_
    rintro e w1 ⟨rfl, hb1⟩
    have HB := HB.trans (hb1.mono HB.size)
    go_wp2
    go_ret
    exact ⟨rfl, HB⟩
end Go.Proofs.Yteigeihbokkpiaa
