/- The contract of the model's MayTrap. -/
import Derived.Test.YtmooecbdpfhnlaaT16
namespace Go.Proofs.Ytmooecbdpfhnlaa
open Go.RowKit

set_option maxHeartbeats 1600000 in
theorem specMayTrap_any (r : PRow) (p : Prg) (a : Option Addr) (n c : Nat) (ts : List Tm) (w : World) (h : ProgAt w r p) (ht : Terms w a n ts) (hc : n ≤ c) :
    Calls Try.prog 26 #[progV r, .slice a n c] w fun e w' => e = .returned (.bool (trapQ p ts)) ∧ Below w.heap.size w w' := by
  have HPO : Hid (∀ w', Below w.heap.size w w' → Calls Try.prog 21 #[progV r] w' fun e w'' => e = .returned (.bool (codeB p == 0)) ∧ Below w'.heap.size w' w'') := Lib.hid (fun w' hw => specProgOk_any r p w' (h.below hw))
  have HST : Hid (codeB p = 0 → ∀ w', Below w.heap.size w w' → Calls Try.prog 60 #[progV r, .slice a n c] w' fun e w'' => e = .returned (.bool (standQ p ts)) ∧ Below w'.heap.size w' w'') := Lib.hid (fun hz w' hw => l3Exp_any r _ _ _ _ a n c ts w' (code_lim h hz) (ht.below (Nat.le_refl _) hw))
  have HMY : Hid (codeB p = 0 → standQ p ts = true → ∀ w', Below w.heap.size w w' → Calls Try.prog 61 #[progV r, .slice a n c] w' fun e w'' => e = .returned (.bool (Tr.traps p.arrays (stackOf ts))) ∧ Below w'.heap.size w' w'') := Lib.hid (fun hz hs w' hw => l9May_any r p a n c ts w' (h.below hw) hz hs (ht.below (Nat.le_refl _) hw) hc)
  obtain ⟨m, HM⟩ : ∃ m, Hid (Tr.traps p.arrays (stackOf ts) = m) := ⟨_, rfl⟩
  obtain ⟨b, HBS⟩ : ∃ b, Hid (standQ p ts = b) := ⟨_, rfl⟩
  rw [HM.out] at HMY
  rw [HBS.out] at HST HMY
  rw [trapQ, HM.out, HBS.out]
  obtain ⟨wd, ⟨a1, n1, c1⟩, ⟨a2, n2, c2⟩, tp, ⟨a3, n3, c3⟩, ⟨a4, n4, c4⟩, rows⟩ := r
  clear h ht hc HM HBS
  show Calls Try.prog 26 #[.agg #[.int .i64 wd, .slice a1 n1 c1, .slice a2 n2 c2, .int .i64 tp, .slice a3 n3 c3, .slice a4 n4 c4], .slice a n c] w _
  obtain ⟨wa, HW⟩ : ∃ wa, Hid (wa = w.alloc (.cells #[.int .i64 wd, .slice a1 n1 c1, .slice a2 n2 c2, .int .i64 tp, .slice a3 n3 c3, .slice a4 n4 c4] 28)) := ⟨_, rfl⟩
  have B : Blk wa w.heap.size 28 [.int .i64 wd, .slice a1 n1 c1, .slice a2 n2 c2, .int .i64 tp, .slice a3 n3 c3, .slice a4 n4 c4] := by rw [HW.out]; exact Blk.new w _ _
  have HB : Below w.heap.size w wa := by rw [HW.out]; exact (Below.refl _ _).alloc (Nat.le_refl _) _
  by_cases hz : codeB p = 0
  · have hzz : (codeB p == 0) = true := by simpa using hz
    rw [hzz] at HPO ⊢
    have HE := Lib.hid (HST.out hz)
    cases b with
    | false =>
      clear HST HMY hz hzz
      go_enter Try.func26, Try.ntmps26
      go_wp2_with fail
      rw [← HW.out]
      refine (HPO.out _ HB).mono ?_
      rintro e w1 ⟨rfl, hb1⟩
      have B := B.below hb1 B.lt
      have HB := HB.trans (hb1.mono HB.size)
      have t0 := B.cell (j := 0) rfl
      have t1 := B.cell (j := 1) rfl
      have t2 := B.cell (j := 2) rfl
      have t3 := B.cell (j := 3) rfl
      have t4 := B.cell (j := 4) rfl
      have t5 := B.cell (j := 5) rfl
      go_wp2_with fail
      refine (HE.out _ HB).mono ?_
      rintro e w2 ⟨rfl, hb2⟩
      have HB := HB.trans (hb2.mono HB.size)
      clear t0 t1 t2 t3 t4 t5
      go_wp2
      go_ret
      exact ⟨rfl, HB⟩
    | true =>
      have HE2 := Lib.hid (HMY.out hz rfl)
      clear HST HMY hz hzz
      go_enter Try.func26, Try.ntmps26
      go_wp2_with fail
      rw [← HW.out]
      refine (HPO.out _ HB).mono ?_
      rintro e w1 ⟨rfl, hb1⟩
      have B := B.below hb1 B.lt
      have HB := HB.trans (hb1.mono HB.size)
      have t0 := B.cell (j := 0) rfl
      have t1 := B.cell (j := 1) rfl
      have t2 := B.cell (j := 2) rfl
      have t3 := B.cell (j := 3) rfl
      have t4 := B.cell (j := 4) rfl
      have t5 := B.cell (j := 5) rfl
      go_wp2_with fail
      refine (HE.out _ HB).mono ?_
      rintro e w2 ⟨rfl, hb2⟩
      have B := B.below hb2 B.lt
      have HB := HB.trans (hb2.mono HB.size)
      clear t0 t1 t2 t3 t4 t5
      have t0 := B.cell (j := 0) rfl
      have t1 := B.cell (j := 1) rfl
      have t2 := B.cell (j := 2) rfl
      have t3 := B.cell (j := 3) rfl
      have t4 := B.cell (j := 4) rfl
      have t5 := B.cell (j := 5) rfl
      go_wp2_with fail
      refine (HE2.out _ HB).mono ?_
      rintro e w3 ⟨rfl, hb3⟩
      have HB := HB.trans (hb3.mono HB.size)
      clear t0 t1 t2 t3 t4 t5
      go_wp2
      go_ret
      exact ⟨rfl, HB⟩
  · have hzz : (codeB p == 0) = false := by simpa using hz
    rw [hzz] at HPO ⊢
    clear HST HMY hz hzz
    go_enter Try.func26, Try.ntmps26
    go_wp2_with fail
    rw [← HW.out]
    refine (HPO.out _ HB).mono ?_
    rintro e w1 ⟨rfl, hb1⟩
    have HB := HB.trans (hb1.mono HB.size)
    go_wp2
    go_ret
    exact ⟨rfl, HB⟩
end Go.Proofs.Ytmooecbdpfhnlaa
