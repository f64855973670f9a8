/- The contracts of the model's l3Is, l3Block, l3End, EndOf. -/
import Derived.Test.YtdippnnhibgjoaaNestMath
import Derived.Test.YtdippnnhibgjoaaNatOk
namespace Go.Proofs.Ytdippnnhibgjoaa
open Go.RowKit

theorem Stmts.op {w : World} {a : Option Addr} {n : Nat} {rs : List SRow} {ss : List Stm} (h : Stmts w a n rs ss) {k : Nat} (hk : k < n) :
    ∃ b o x, a = some ⟨b, o, none⟩ ∧ Hid (opAt ss k = x) ∧ In64 x ∧ w.cell? ⟨b, o + k * 4, none⟩ = some (.int .i64 x) := by
  obtain ⟨b, o, x, y, _, _, _, _, _, _, ts, us, rfl, _, hz, hin, _, hc, _⟩ := h.at_ hk
  exact ⟨b, o, x, rfl, Lib.hid (by rw [opAt, hz.out]), hin, hc⟩
set_option maxHeartbeats 800000 in
theorem l3Is_any (a : Option Addr) (n c : Nat) (rs : List SRow) (ss : List Stm) (z op : Int) (w : World) (h : Stmts w a n rs ss) :
    Calls Try.prog 102 #[.slice a n c, .int .i64 z, .int .i64 op] w fun e w' => e = .returned (.bool (isAt ss z op)) ∧ w = w' := by
  have hbd := h.2.2.1
  obtain ⟨R, HR⟩ : ∃ R, Hid (isAt ss z op = R) := ⟨_, rfl⟩
  have hR := HR.out
  simp only [isAt, h.2.1] at hR
  have HRR := Lib.hid hR
  rw [HR.out]
  clear hR HR
  by_cases hz : 0 ≤ z ∧ z ≤ (n : Int) - 1
  · have hin : (decide (0 ≤ z) && decide (z ≤ (n : Int) - 1)) = true := by simpa using hz
    obtain ⟨k, rfl⟩ : ∃ k : Nat, z = (k : Int) := ⟨z.toNat, by omega⟩
    obtain ⟨b, o, x, rfl, hx, hix, hc⟩ := h.op (k := k) (by omega)
    have hlt : k < n := by omega
    go_enter Try.func102, Try.ntmps102
    go_wp2_with (go_at_call 46; refine (in_any _ _ _ _).mono ?_; rintro e w' ⟨rfl, rfl⟩; rw [hin])
    go_ret
    exact ⟨ret_bool (by rw [← HRR.out, hin, Int.toNat_natCast, hx.out]; rfl), rfl⟩
  · have hin : (decide (0 ≤ z) && decide (z ≤ (n : Int) - 1)) = false := by rw [← Bool.not_eq_true]; simpa using hz
    go_enter Try.func102, Try.ntmps102
    go_wp2_with (go_at_call 46; refine (in_any _ _ _ _).mono ?_; rintro e w' ⟨rfl, rfl⟩; rw [hin])
    go_ret
    exact ⟨ret_bool (by rw [← HRR.out, hin]; rfl), rfl⟩
/-- The two contracts, at a place. -/
def BlockAt (w : World) (a : Option Addr) (n c : Nat) (ss : List Stm) (i : Nat) : Prop :=
  Calls Try.prog 64 #[.slice a n c, .int .i64 (i : Int)] w fun e w' => e = .returned (.int .i64 (blockOf ss i)) ∧ w = w'
def EndAt (w : World) (a : Option Addr) (n c : Nat) (ss : List Stm) (i : Nat) : Prop :=
  Calls Try.prog 85 #[.slice a n c, .int .i64 (i : Int)] w fun e w' => e = .returned (.tuple #[.int .i64 (endOf ss i).1, .int .i64 (endOf ss i).2]) ∧ w = w'
set_option maxHeartbeats 1600000 in
theorem block_at (w : World) (a : Option Addr) (n c : Nat) (rs : List SRow) (ss : List Stm) (h : Stmts w a n rs ss) (i : Nat) (hi : i ≤ n) (HE : Hid (∀ j, i ≤ j → j < n → EndAt w a n c ss j)) : BlockAt w a n c ss i := by
  have hbd := h.2.2.1
  have HL := Lib.hid h.2.1
  obtain ⟨R, HR⟩ : ∃ R, Hid (blockOf ss i = R) := ⟨_, rfl⟩
  unfold BlockAt
  rw [HR.out]
  go_enter Try.func64, Try.ntmps64
  go_wp2
  go_loop [1] (fun q => ∃ k : Nat, i ≤ k ∧ k ≤ n ∧ q = .int .i64 (k : Int) ∧ Hid (blockOf ss k = R)) (fun q => n - (intOf q).toNat)
  case atStart => exact ⟨i, Nat.le_refl _, hi, rfl, HR⟩
  case round =>
    obtain ⟨k, hik, hk, rfl, hK⟩ := hrel
    by_cases hlt : k < n
    · obtain ⟨b, o, x, rfl, hx, hix, hc⟩ := h.op hlt
      have hl : k < ss.length := by rw [HL.out]; exact hlt
      by_cases hs : x = 3 ∨ x = 9 ∨ x = 4
      · have HQ := Lib.hid (hK.out.symm.trans (block_stop hl (by rw [hx.out]; exact hs)))
        rcases hs with rfl | rfl | rfl <;> (go_wp2; go_ret; exact ⟨ret_int HQ.out.symm, rfl⟩)
      have k3 : (x == 3) = false := by simp; omega
      have k9 : (x == 9) = false := by simp; omega
      have k4 : (x == 4) = false := by simp; omega
      by_cases ho : x = 2 ∨ x = 5 ∨ x = 8
      · have hin := end_in ss hl
        have hp := HE.out k hik hlt
        unfold EndAt at hp
        have HO := Lib.hid (show opAt ss k = 2 ∨ opAt ss k = 5 ∨ opAt ss k = 8 by rw [hx.out]; exact ho)
        obtain ⟨⟨M, E⟩, HP⟩ : ∃ P, Hid (endOf ss k = P) := ⟨_, rfl⟩
        rw [HP.out] at hin hp
        simp only [] at hp
        have HC := Lib.hid hp
        clear hp hs
        by_cases hE : E < 0
        · have HQ := Lib.hid (hK.out.symm.trans (block_bad hl HO.out (by rw [HP.out]; exact hE)))
          clear hin
          rcases ho with rfl | rfl | rfl <;>
          · go_wp2_with fail
            refine HC.out.mono ?_
            rintro e w1 ⟨rfl, rfl⟩
            go_wp2
            go_ret
            exact ⟨ret_int HQ.out.symm, rfl⟩
        · have hE2 : (k : Int) < E ∧ E < n := by
            rcases hin with q | q
            · injection q with q1 q2; omega
            · have := HL.out; simp only [] at q; omega
          obtain ⟨m, rfl⟩ : ∃ m : Nat, E = (m : Int) := ⟨E.toNat, by omega⟩
          have HQ := Lib.hid ((block_over hl HO.out (by rw [HP.out]; exact Int.natCast_nonneg m)).symm.trans hK.out)
          rw [HP.out] at HQ
          simp only [Int.toNat_natCast] at HQ
          clear hin
          rcases ho with rfl | rfl | rfl <;>
          · go_wp2_with fail
            refine HC.out.mono ?_
            rintro e w1 ⟨rfl, rfl⟩
            go_wp2
            go_round
            case rel => exact ⟨m + 1, by omega, by omega, by go_num, HQ⟩
            case measure => simp [intOf]; omega
      · have HQ := Lib.hid ((block_next hl (by rw [hx.out]; exact hs) (by rw [hx.out]; exact ho)).symm.trans hK.out)
        have k2 : (x == 2) = false := by simp; omega
        have k5 : (x == 5) = false := by simp; omega
        have k8 : (x == 8) = false := by simp; omega
        clear hs ho
        go_wp2
        go_round
        case rel => exact ⟨k + 1, by omega, by omega, by go_num, HQ⟩
        case measure => simp [intOf]; omega
    · obtain rfl : n = k := by omega
      have HQ := Lib.hid (hK.out.symm.trans (block_past (by rw [HL.out]; exact Nat.le_refl _)))
      go_wp2
      go_ret
      exact ⟨ret_int HQ.out.symm, rfl⟩
end Go.Proofs.Ytdippnnhibgjoaa
