/- Joined texts of this proof (SpecNest, SpecEnd, SpecSteps, SpecStepsOf, SpecCode, SpecCodeOf), in build order. -/
import Derived.Test.YtjboghmcmlkpoaaGreatDoorJ14
import Derived.Test.YtjboghmcmlkpoaaGreatDoorJ1
import Derived.Test.YtjboghmcmlkpoaaGreatDoorJ12
/- The contracts of the model's l3Is, l3Block, l3End, EndOf. -/
namespace Go.Proofs.YtjboghmcmlkpoaaGreatDoor
open Go.RowKit

theorem Stmts.op {w : World} {a : Option Addr} {n : Nat} {rs : List SRow} {ss : List Stm} (h : Stmts w a n rs ss) {k : Nat} (hk : k < n) :
    ∃ b o x, a = some ⟨b, o, none⟩ ∧ Hid (opAt ss k = x) ∧ In64 x ∧ w.cell? ⟨b, o + k * 4, none⟩ = some (.int .i64 x) := by
  obtain ⟨b, o, x, y, _, _, _, _, _, _, ts, us, rfl, _, hz, hin, _, hc, _⟩ := h.at_ hk
  exact ⟨b, o, x, rfl, Lib.hid (by rw [opAt, hz.out]), hin, hc⟩
set_option maxHeartbeats 800000 in
theorem l3Is_any (a : Option Addr) (n c : Nat) (rs : List SRow) (ss : List Stm) (z op : Int) (w : World) (h : Stmts w a n rs ss) :
    Calls Tryz.prog 188 #[.slice a n c, .int .i64 z, .int .i64 op] w fun e w' => e = .returned (.bool (isAt ss z op)) ∧ w = w' := by
  have hbd := h.2.2.1
  obtain ⟨R, HR⟩ : ∃ R, Hid (isAt ss z op = R) := ⟨_, rfl⟩
  have hR := HR.out
  simp only [isAt, h.2.1] at hR
  have HRR := Lib.hid hR
  rw [HR.out]
  clear hR HR
  by_cases hz : 0 ≤ z ∧ z ≤ (n : Int) - 1
  · have hin : (decide (0 ≤ z) && decide (z ≤ (n : Int) - 1)) = true := by simpa using hz
    obtain ⟨k, rfl⟩ : ∃ k : Nat, z = (k : Int) := ⟨z.toNat, by omega⟩
    obtain ⟨b, o, x, rfl, hx, hix, hc⟩ := h.op (k := k) (by omega)
    have hlt : k < n := by omega
    go_enter Tryz.func188, Tryz.ntmps188
    go_wp2_with (go_at_call 105; refine (in_any _ _ _ _).mono ?_; rintro e w' ⟨rfl, rfl⟩; rw [hin])
    go_ret
    exact ⟨ret_bool (by rw [← HRR.out, hin, Int.toNat_natCast, hx.out]; rfl), rfl⟩
  · have hin : (decide (0 ≤ z) && decide (z ≤ (n : Int) - 1)) = false := by rw [← Bool.not_eq_true]; simpa using hz
    go_enter Tryz.func188, Tryz.ntmps188
    go_wp2_with (go_at_call 105; refine (in_any _ _ _ _).mono ?_; rintro e w' ⟨rfl, rfl⟩; rw [hin])
    go_ret
    exact ⟨ret_bool (by rw [← HRR.out, hin]; rfl), rfl⟩
/-- The two contracts, at a place. -/
def BlockAt (w : World) (a : Option Addr) (n c : Nat) (ss : List Stm) (i : Nat) : Prop :=
  Calls Tryz.prog 110 #[.slice a n c, .int .i64 (i : Int)] w fun e w' => e = .returned (.int .i64 (blockOf ss i)) ∧ w = w'
def EndAt (w : World) (a : Option Addr) (n c : Nat) (ss : List Stm) (i : Nat) : Prop :=
  Calls Tryz.prog 154 #[.slice a n c, .int .i64 (i : Int)] w fun e w' => e = .returned (.tuple #[.int .i64 (endOf ss i).1, .int .i64 (endOf ss i).2]) ∧ w = w'
set_option maxHeartbeats 1600000 in
theorem block_at (w : World) (a : Option Addr) (n c : Nat) (rs : List SRow) (ss : List Stm) (h : Stmts w a n rs ss) (i : Nat) (hi : i ≤ n) (HE : Hid (∀ j, i ≤ j → j < n → EndAt w a n c ss j)) : BlockAt w a n c ss i := by
  have hbd := h.2.2.1
  have HL := Lib.hid h.2.1
  obtain ⟨R, HR⟩ : ∃ R, Hid (blockOf ss i = R) := ⟨_, rfl⟩
  unfold BlockAt
  rw [HR.out]
  go_enter Tryz.func110, Tryz.ntmps110
  go_wp2
  go_loop [1] (fun q => ∃ k : Nat, i ≤ k ∧ k ≤ n ∧ q = .int .i64 (k : Int) ∧ Hid (blockOf ss k = R)) (fun q => n - (intOf q).toNat)
  case atStart => exact ⟨i, Nat.le_refl _, hi, rfl, HR⟩
  case round =>
    obtain ⟨k, hik, hk, rfl, hK⟩ := hrel
    by_cases hlt : k < n
    · obtain ⟨b, o, x, rfl, hx, hix, hc⟩ := h.op hlt
      have hl : k < ss.length := by rw [HL.out]; exact hlt
      by_cases hs : x = 3 ∨ x = 9 ∨ x = 4
      · have HQ := Lib.hid (hK.out.symm.trans (block_stop hl (by rw [hx.out]; exact hs)))
        rcases hs with rfl | rfl | rfl <;> (go_wp2; go_ret; exact ⟨ret_int HQ.out.symm, rfl⟩)
      have k3 : (x == 3) = false := by simp; omega
      have k9 : (x == 9) = false := by simp; omega
      have k4 : (x == 4) = false := by simp; omega
      by_cases ho : x = 2 ∨ x = 5 ∨ x = 8
      · have hin := end_in ss hl
        have hp := HE.out k hik hlt
        unfold EndAt at hp
        have HO := Lib.hid (show opAt ss k = 2 ∨ opAt ss k = 5 ∨ opAt ss k = 8 by rw [hx.out]; exact ho)
        obtain ⟨⟨M, E⟩, HP⟩ : ∃ P, Hid (endOf ss k = P) := ⟨_, rfl⟩
        rw [HP.out] at hin hp
        simp only [] at hp
        have HC := Lib.hid hp
        clear hp hs
        by_cases hE : E < 0
        · have HQ := Lib.hid (hK.out.symm.trans (block_bad hl HO.out (by rw [HP.out]; exact hE)))
          clear hin
          rcases ho with rfl | rfl | rfl <;>
          · go_wp2_with fail
            refine HC.out.mono ?_
            rintro e w1 ⟨rfl, rfl⟩
            go_wp2
            go_ret
            exact ⟨ret_int HQ.out.symm, rfl⟩
        · have hE2 : (k : Int) < E ∧ E < n := by
            rcases hin with q | q
            · injection q with q1 q2; omega
            · have := HL.out; simp only [] at q; omega
          obtain ⟨m, rfl⟩ : ∃ m : Nat, E = (m : Int) := ⟨E.toNat, by omega⟩
          have HQ := Lib.hid ((block_over hl HO.out (by rw [HP.out]; exact Int.natCast_nonneg m)).symm.trans hK.out)
          rw [HP.out] at HQ
          simp only [Int.toNat_natCast] at HQ
          clear hin
          rcases ho with rfl | rfl | rfl <;>
          · go_wp2_with fail
            refine HC.out.mono ?_
            rintro e w1 ⟨rfl, rfl⟩
            go_wp2
            go_round
            case rel => exact ⟨m + 1, by omega, by omega, by go_num, HQ⟩
            case measure => simp [intOf]; omega
      · have HQ := Lib.hid ((block_next hl (by rw [hx.out]; exact hs) (by rw [hx.out]; exact ho)).symm.trans hK.out)
        have k2 : (x == 2) = false := by simp; omega
        have k5 : (x == 5) = false := by simp; omega
        have k8 : (x == 8) = false := by simp; omega
        clear hs ho
        go_wp2
        go_round
        case rel => exact ⟨k + 1, by omega, by omega, by go_num, HQ⟩
        case measure => simp [intOf]; omega
    · obtain rfl : n = k := by omega
      have HQ := Lib.hid (hK.out.symm.trans (block_past (by rw [HL.out]; exact Nat.le_refl _)))
      go_wp2
      go_ret
      exact ⟨ret_int HQ.out.symm, rfl⟩
end Go.Proofs.YtjboghmcmlkpoaaGreatDoor
/- The contracts of the model's l3End, l3Block and EndOf. -/
namespace Go.Proofs.YtjboghmcmlkpoaaGreatDoor
open Go.RowKit

theorem end_eq {ss : List Stm} {i : Nat} {M : Int} (hi : i < ss.length) (hM : blockOf ss (i + 1) = M) : endOf ss i =
    (if opAt ss i = 5 then (if isAt ss M 4 then (-1, M) else (-1, -1))
     else if opAt ss i = 2 then (if isAt ss M 4 then (-1, M) else if isAt ss M 3 then (if isAt ss (blockOf ss (M.toNat + 1)) 4 then (M, blockOf ss (M.toNat + 1)) else (-1, -1)) else (-1, -1))
     else if opAt ss i = 8 then (if isAt ss M 9 then (if isAt ss (blockOf ss (M.toNat + 1)) 4 then (M, blockOf ss (M.toNat + 1)) else (-1, -1)) else (-1, -1))
     else (-1, -1)) := by
  have hb := block_in ss (i := i + 1) (by omega)
  rw [hM] at hb
  have hlt : ∀ op, isAt ss M op = true → i < M.toNat := fun op h => by
    have := isAt_range h
    rcases hb with q | q <;> omega
  rw [endOf, if_pos hi, hM]
  by_cases h3 : isAt ss M 3 = true
  · rw [dif_pos ⟨h3, hlt 3 h3⟩, if_pos h3]
    by_cases h9 : isAt ss M 9 = true
    · rw [dif_pos ⟨h9, hlt 9 h9⟩, if_pos h9]
    · rw [dif_neg (fun h => h9 h.1), if_neg h9]
  · rw [dif_neg (fun h => h3 h.1), if_neg h3]
    by_cases h9 : isAt ss M 9 = true
    · rw [dif_pos ⟨h9, hlt 9 h9⟩, if_pos h9]
    · rw [dif_neg (fun h => h9 h.1), if_neg h9]
theorem ret_two {x y : Int} {p : Int × Int} (h : p = (x, y)) : Ending.returned (.tuple #[.int .i64 x, .int .i64 y]) = .returned (.tuple #[.int .i64 p.1, .int .i64 p.2]) := by rw [h]

set_option maxHeartbeats 3200000 in
theorem end_at (w : World) (a : Option Addr) (n c : Nat) (rs : List SRow) (ss : List Stm) (h : Stmts w a n rs ss) (i : Nat) (hi : i < n) (HB : Hid (∀ j, i < j → j ≤ n → BlockAt w a n c ss j)) : EndAt w a n c ss i := by
  have hbd := h.2.2.1
  have hl : i < ss.length := by rw [h.2.1]; exact hi
  obtain ⟨M, HM⟩ : ∃ M, Hid (blockOf ss (i + 1) = M) := ⟨_, rfl⟩
  have HQ := Lib.hid (end_eq hl HM.out)
  have hb := HB.out (i + 1) (by omega) (by omega)
  unfold BlockAt at hb
  rw [HM.out, show ((i + 1 : Nat) : Int) = (i : Int) + 1 by omega] at hb
  have HC := Lib.hid hb
  have hM := block_in ss (i := i + 1) (by omega)
  rw [HM.out] at hM
  have hM2 : M = -1 ∨ ((i : Int) + 1 ≤ M ∧ M ≤ n) := by
    have := h.2.1
    rcases hM with q | q
    · exact .inl q
    · exact .inr (by omega)
  have HS := Lib.hid h
  have HI : Hid (∀ z op : Int, Calls Tryz.prog 188 #[.slice a n c, .int .i64 z, .int .i64 op] w fun e w' => e = .returned (.bool (isAt ss z op)) ∧ w = w') := Lib.hid (fun z op => l3Is_any a n c rs ss z op w h)
  clear hb hM
  unfold EndAt
  obtain ⟨b, o, x, rfl, hx, hix, hc⟩ := h.op hi
  rw [hx.out] at HQ
  clear h
  obtain ⟨A4, H4⟩ : ∃ A4, Hid (isAt ss M 4 = A4) := ⟨_, rfl⟩
  obtain ⟨A3, H3⟩ : ∃ A3, Hid (isAt ss M 3 = A3) := ⟨_, rfl⟩
  obtain ⟨A9, H9⟩ : ∃ A9, Hid (isAt ss M 9 = A9) := ⟨_, rfl⟩
  obtain ⟨E, HE⟩ : ∃ E, Hid (blockOf ss (M.toNat + 1) = E) := ⟨_, rfl⟩
  obtain ⟨B4, HB4⟩ : ∃ B4, Hid (isAt ss E 4 = B4) := ⟨_, rfl⟩
  simp only [H4.out, H3.out, H9.out, HE.out, HB4.out] at HQ
  have two : Hid (∀ op, isAt ss M op = true → Calls Tryz.prog 110 #[.slice (some ⟨b, o, none⟩) n c, .int .i64 (M + 1)] w fun e w' => e = .returned (.int .i64 E) ∧ w = w') := Lib.hid (fun op ho => by
    have hr := isAt_range ho
    have hlen := HS.out.2.1
    have hb := HB.out (M.toNat + 1) (by omega) (by omega)
    unfold BlockAt at hb
    rw [HE.out, show ((M.toNat + 1 : Nat) : Int) = M + 1 by omega] at hb
    exact hb)
  by_cases h5 : x = 5
  · subst h5
    simp only [if_true] at HQ
    cases A4 with
    | true =>
      go_enter Tryz.func154, Tryz.ntmps154
      go_wp2_with (first | (go_at_call 110; refine HC.out.mono ?_; rintro e w' ⟨rfl, rfl⟩) | (go_at_call 188; refine (HI.out _ _).mono ?_; rintro e w' ⟨rfl, rfl⟩; first | rw [H4.out]))
      go_ret2
      exact ⟨ret_two HQ.out, rfl⟩
    | false =>
      go_enter Tryz.func154, Tryz.ntmps154
      go_wp2_with (first | (go_at_call 110; refine HC.out.mono ?_; rintro e w' ⟨rfl, rfl⟩) | (go_at_call 188; refine (HI.out _ _).mono ?_; rintro e w' ⟨rfl, rfl⟩; first | rw [H4.out]))
      go_ret2
      exact ⟨ret_two HQ.out, rfl⟩
  rw [if_neg h5] at HQ
  by_cases h2 : x = 2
  · subst h2
    clear h5
    rw [if_pos rfl] at HQ
    cases A4 with
    | true =>
      go_enter Tryz.func154, Tryz.ntmps154
      go_wp2_with (first | (go_at_call 110; refine HC.out.mono ?_; rintro e w' ⟨rfl, rfl⟩) | (go_at_call 188; refine (HI.out _ _).mono ?_; rintro e w' ⟨rfl, rfl⟩; first | rw [H4.out]))
      go_ret2
      exact ⟨ret_two HQ.out, rfl⟩
    | false =>
      cases A3 with
      | false =>
        go_enter Tryz.func154, Tryz.ntmps154
        go_wp2_with (first | (go_at_call 110; refine HC.out.mono ?_; rintro e w' ⟨rfl, rfl⟩) | (go_at_call 188; refine (HI.out _ _).mono ?_; rintro e w' ⟨rfl, rfl⟩; first | rw [H4.out] | rw [H3.out]))
        go_ret2
        exact ⟨ret_two HQ.out, rfl⟩
      | true =>
        have HT := Lib.hid (two.out 3 H3.out)
        have hr := isAt_range H3.out
        have hM3 : 0 ≤ M ∧ M < n := by have := HS.out.2.1; omega
        clear hr
        cases B4 with
        | true =>
          go_enter Tryz.func154, Tryz.ntmps154
          go_wp2_with (first | (go_at_call 110; first | (with_reducible refine HC.out.mono ?_; rintro e w' ⟨rfl, rfl⟩) | (with_reducible refine HT.out.mono ?_; rintro e w' ⟨rfl, rfl⟩)) | (go_at_call 188; refine (HI.out _ _).mono ?_; rintro e w' ⟨rfl, rfl⟩; first | rw [H4.out] | rw [H3.out] | rw [HB4.out]))
          go_ret2
          exact ⟨ret_two HQ.out, rfl⟩
        | false =>
          go_enter Tryz.func154, Tryz.ntmps154
          go_wp2_with (first | (go_at_call 110; first | (with_reducible refine HC.out.mono ?_; rintro e w' ⟨rfl, rfl⟩) | (with_reducible refine HT.out.mono ?_; rintro e w' ⟨rfl, rfl⟩)) | (go_at_call 188; refine (HI.out _ _).mono ?_; rintro e w' ⟨rfl, rfl⟩; first | rw [H4.out] | rw [H3.out] | rw [HB4.out]))
          go_ret2
          exact ⟨ret_two HQ.out, rfl⟩
  rw [if_neg h2] at HQ
  by_cases h8 : x = 8
  · subst h8
    clear h5 h2
    rw [if_pos rfl] at HQ
    cases A9 with
    | false =>
      go_enter Tryz.func154, Tryz.ntmps154
      go_wp2_with (first | (go_at_call 110; refine HC.out.mono ?_; rintro e w' ⟨rfl, rfl⟩) | (go_at_call 188; refine (HI.out _ _).mono ?_; rintro e w' ⟨rfl, rfl⟩; first | rw [H9.out]))
      go_ret2
      exact ⟨ret_two HQ.out, rfl⟩
    | true =>
      have HT := Lib.hid (two.out 9 H9.out)
      have hr := isAt_range H9.out
      have hM3 : 0 ≤ M ∧ M < n := by have := HS.out.2.1; omega
      clear hr
      cases B4 with
      | true =>
        go_enter Tryz.func154, Tryz.ntmps154
        go_wp2_with (first | (go_at_call 110; first | (with_reducible refine HC.out.mono ?_; rintro e w' ⟨rfl, rfl⟩) | (with_reducible refine HT.out.mono ?_; rintro e w' ⟨rfl, rfl⟩)) | (go_at_call 188; refine (HI.out _ _).mono ?_; rintro e w' ⟨rfl, rfl⟩; first | rw [H9.out] | rw [HB4.out]))
        go_ret2
        exact ⟨ret_two HQ.out, rfl⟩
      | false =>
        go_enter Tryz.func154, Tryz.ntmps154
        go_wp2_with (first | (go_at_call 110; first | (with_reducible refine HC.out.mono ?_; rintro e w' ⟨rfl, rfl⟩) | (with_reducible refine HT.out.mono ?_; rintro e w' ⟨rfl, rfl⟩)) | (go_at_call 188; refine (HI.out _ _).mono ?_; rintro e w' ⟨rfl, rfl⟩; first | rw [H9.out] | rw [HB4.out]))
        go_ret2
        exact ⟨ret_two HQ.out, rfl⟩
  rw [if_neg h8] at HQ
  have k5 : (x == 5) = false := by simpa using h5
  have k2 : (x == 2) = false := by simpa using h2
  have k8 : (x == 8) = false := by simpa using h8
  clear h5 h2 h8
  go_enter Tryz.func154, Tryz.ntmps154
  go_wp2_with (first | (go_at_call 110; refine HC.out.mono ?_; rintro e w' ⟨rfl, rfl⟩) | (go_at_call 188; refine (HI.out _ _).mono ?_; rintro e w' ⟨rfl, rfl⟩; first | rw [H4.out]))
  go_ret2
  exact ⟨ret_two HQ.out, rfl⟩
theorem nest_at (w : World) (a : Option Addr) (n c : Nat) (rs : List SRow) (ss : List Stm) (h : Stmts w a n rs ss) : ∀ (d i : Nat), n - i ≤ d → i ≤ n → BlockAt w a n c ss i ∧ (i < n → EndAt w a n c ss i)
  | 0, i, hd, hi => ⟨block_at w a n c rs ss h i hi (Lib.hid (fun j h1 h2 => absurd h2 (by omega))), fun h' => absurd h' (by omega)⟩
  | d + 1, i, hd, hi => by
    have hb : ∀ j, i < j → j ≤ n → BlockAt w a n c ss j := fun j h1 h2 => (nest_at w a n c rs ss h d j (by omega) h2).1
    have he : ∀ j, i < j → j < n → EndAt w a n c ss j := fun j h1 h2 => (nest_at w a n c rs ss h d j (by omega) (by omega)).2 h2
    have hei : i < n → EndAt w a n c ss i := fun h' => end_at w a n c rs ss h i h' (Lib.hid hb)
    refine ⟨block_at w a n c rs ss h i hi (Lib.hid (fun j h1 h2 => ?_)), hei⟩
    rcases Nat.lt_or_ge i j with hlt | hge
    · exact he j hlt h2
    · obtain rfl : i = j := by omega
      exact hei h2
theorem l3Block_any (a : Option Addr) (n c : Nat) (rs : List SRow) (ss : List Stm) (i : Nat) (w : World) (h : Stmts w a n rs ss) (hi : i ≤ n) :
    Calls Tryz.prog 110 #[.slice a n c, .int .i64 (i : Int)] w fun e w' => e = .returned (.int .i64 (blockOf ss i)) ∧ w = w' := (nest_at w a n c rs ss h _ i (Nat.le_refl _) hi).1
theorem l3End_any (a : Option Addr) (n c : Nat) (rs : List SRow) (ss : List Stm) (i : Nat) (w : World) (h : Stmts w a n rs ss) (hi : i < n) :
    Calls Tryz.prog 154 #[.slice a n c, .int .i64 (i : Int)] w fun e w' => e = .returned (.tuple #[.int .i64 (endOf ss i).1, .int .i64 (endOf ss i).2]) ∧ w = w' := (nest_at w a n c rs ss h _ i (Nat.le_refl _) (by omega)).2 hi
end Go.Proofs.YtjboghmcmlkpoaaGreatDoor
/- A well nested part takes some steps; the contract of the model's l3Steps. -/
namespace Go.Proofs.YtjboghmcmlkpoaaGreatDoor
open Go.RowKit

/-- The loops' numbers are from 0 to 4. -/
def LoopsOk (ss : List Stm) : Prop := ∀ i, i < ss.length → opAt ss i = 5 → ∃ k : Nat, k ≤ 4 ∧ (stAt ss i).n = (k : Int)
theorem isAt_op {ss : List Stm} {z op : Int} (h : isAt ss z op = true) : opAt ss z.toNat = op := by
  simp only [isAt, Bool.and_eq_true, beq_iff_eq] at h
  exact h.2
/-- A body that ends at j takes some steps up to there. -/
theorem part_steps {ss : List Stm} (hL : LoopsOk ss) : ∀ (d i j : Nat), ss.length - i ≤ d → i ≤ ss.length → blockOf ss i = (j : Int) → ∃ s, Steps ss i j s
  | 0, i, j, hd, hi, hb => by
    rw [block_past (by omega)] at hb
    obtain rfl : i = j := by omega
    exact ⟨0, .nil i⟩
  | d + 1, i, j, hd, hi, hb => by
    by_cases hlt : i < ss.length
    case neg =>
      rw [block_past (by omega)] at hb
      obtain rfl : i = j := by omega
      exact ⟨0, .nil i⟩
    by_cases hs : opAt ss i = 3 ∨ opAt ss i = 9 ∨ opAt ss i = 4
    · rw [block_stop hlt hs] at hb
      obtain rfl : i = j := by omega
      exact ⟨0, .nil i⟩
    by_cases ho : opAt ss i = 2 ∨ opAt ss i = 5 ∨ opAt ss i = 8
    case neg =>
      rw [block_next hlt hs ho] at hb
      obtain ⟨s, h⟩ := part_steps hL d (i + 1) j (by omega) (by omega) hb
      exact ⟨_, .plain hlt (fun h => ho (.inl h)) (fun h => ho (.inr (.inl h))) (fun h => ho (.inr (.inr h))) h⟩
    have hin := end_in ss hlt
    by_cases he : (endOf ss i).2 < 0
    · rw [block_bad hlt ho he] at hb
      omega
    rw [block_over hlt ho (by omega)] at hb
    obtain ⟨M, hM⟩ : ∃ M, blockOf ss (i + 1) = M := ⟨_, rfl⟩
    have heq := end_eq hlt hM
    obtain ⟨⟨p1, p2⟩, hP⟩ : ∃ P, endOf ss i = P := ⟨_, rfl⟩
    rw [hP] at hin he hb heq
    simp only [] at he hb
    have hin2 : (i : Int) < p2 ∧ p2 < ss.length ∧ (p1 = -1 ∨ ((i : Int) < p1 ∧ p1 < p2)) := by
      rcases hin with q | q
      · injection q with q1 q2; omega
      · exact q
    obtain ⟨e, rfl⟩ : ∃ e : Nat, p2 = (e : Int) := ⟨p2.toNat, by omega⟩
    rw [Int.toNat_natCast] at hb
    obtain ⟨t, ht⟩ := part_steps hL d (e + 1) j (by omega) (by omega) hb
    have one : p1 = -1 → M = (e : Int) → ∃ s, Steps ss (i + 1) e s := fun _ h => part_steps hL d (i + 1) e (by omega) (by omega) (hM.trans h)
    have neg : ¬ ((e : Int) = -1) := by omega
    have two : ∀ m : Nat, M = (m : Int) → (i : Int) < m → m < ss.length → blockOf ss (M.toNat + 1) = (e : Int) → (∃ s, Steps ss (i + 1) m s) ∧ ∃ s, Steps ss (m + 1) e s := fun m h1 h2 h3 h4 => by
      rw [h1, Int.toNat_natCast] at h4
      exact ⟨part_steps hL d (i + 1) m (by omega) (by omega) (hM.trans h1), part_steps hL d (m + 1) e (by omega) (by omega) h4⟩
    rcases ho with ho | ho | ho
    · rw [ho, if_neg (by decide), if_pos rfl] at heq
      split at heq
      · injection heq with e1 e2
        obtain ⟨s, h⟩ := one e1 e2.symm
        exact ⟨_, .one hlt ho (by rw [hP, e1]) h ht⟩
      · split at heq
        · split at heq
          · injection heq with e1 e2
            rename_i hm _
            have hr := isAt_range hm
            have hb' := block_in ss (i := i + 1) (by omega)
            rw [hM] at hb'
            obtain ⟨m, rfl⟩ : ∃ m : Nat, M = (m : Int) := ⟨M.toNat, by omega⟩
            obtain ⟨⟨s, h⟩, s', h'⟩ := two m rfl (by rcases hb' with q | q <;> omega) (by omega) e2.symm
            exact ⟨_, .two hlt ho (by rw [hP, e1]) h h' ht⟩
          · injection heq with e1 e2; exact absurd e2 neg
        · injection heq with e1 e2; exact absurd e2 neg
    · rw [ho, if_pos rfl] at heq
      split at heq
      · injection heq with e1 e2
        obtain ⟨s, h⟩ := one e1 e2.symm
        obtain ⟨k, hk4, hk⟩ := hL i hlt ho
        exact ⟨_, .loop hlt ho (by rw [hP, e1]) hk hk4 h ht⟩
      · injection heq with e1 e2; exact absurd e2 neg
    · rw [ho, if_neg (by decide), if_neg (by decide), if_pos rfl] at heq
      split at heq
      · split at heq
        · injection heq with e1 e2
          rename_i hm _
          have hr := isAt_range hm
          have hb' := block_in ss (i := i + 1) (by omega)
          rw [hM] at hb'
          obtain ⟨m, rfl⟩ : ∃ m : Nat, M = (m : Int) := ⟨M.toNat, by omega⟩
          obtain ⟨⟨s, h⟩, s', h'⟩ := two m rfl (by rcases hb' with q | q <;> omega) (by omega) e2.symm
          exact ⟨_, .attempt hlt ho (by rw [hP, e1]) h h' ht⟩
        · injection heq with e1 e2; exact absurd e2 neg
      · injection heq with e1 e2; exact absurd e2 neg
end Go.Proofs.YtjboghmcmlkpoaaGreatDoor
/- The contract of the model's l3Steps. -/
namespace Go.Proofs.YtjboghmcmlkpoaaGreatDoor
open Go.RowKit

theorem steps_none {ss : List Stm} {i t : Nat} (h : Steps ss i i t) : t = 0 := by
  cases h with
  | nil => rfl
  | plain _ _ _ _ p => have := (steps_small p).1; omega
  | one _ _ _ p q => have := (steps_small p).1; have := (steps_small q).1; omega
  | two _ _ _ p p' q => have := (steps_small p).1; have := (steps_small p').1; have := (steps_small q).1; omega
  | loop _ _ _ _ _ p q => have := (steps_small p).1; have := (steps_small q).1; omega
  | attempt _ _ _ p p' q => have := (steps_small p).1; have := (steps_small p').1; have := (steps_small q).1; omega
theorem end_plain {ss : List Stm} {i : Nat} (hi : i < ss.length) (h2 : opAt ss i ≠ 2) (h5 : opAt ss i ≠ 5) (h8 : opAt ss i ≠ 8) : endOf ss i = (-1, -1) := by
  rw [end_eq hi rfl, if_neg h5, if_neg h2, if_neg h8]
theorem Stmts.still {w w' : World} {a : Option Addr} {n : Nat} {rs : List SRow} {ss : List Stm} (h : Stmts w a n rs ss) (hs : Still w w') : Stmts w' a n rs ss := h.below (hs.below _)
theorem l1Max_any (x y : Int) (w : World) : Calls Tryz.prog 155 #[.int .i64 x, .int .i64 y] w fun e w' => e = .returned (.int .i64 (max x y)) ∧ w = w' := by
  by_cases h : x > y
  · go_enter Tryz.func155, Tryz.ntmps155
    go_wp2
    go_ret
    exact ⟨ret_int (by omega), rfl⟩
  · go_enter Tryz.func155, Tryz.ntmps155
    go_wp2
    go_ret
    exact ⟨ret_int (by omega), rfl⟩
/-- The contract, at a part. -/
def StepsAt (a : Option Addr) (n c : Nat) (rs : List SRow) (ss : List Stm) (i : Nat) : Prop :=
  ∀ (w : World) (j s : Nat), Stmts w a n rs ss → j ≤ n → Steps ss i j s → Calls Tryz.prog 111 #[.slice a n c, .int .i64 (i : Int), .int .i64 (j : Int)] w fun e w' => e = .returned (.int .i64 (s : Int)) ∧ Still w w'
theorem StepsAt.succ {a : Option Addr} {n c : Nat} {rs : List SRow} {ss : List Stm} {i : Nat} (h : StepsAt a n c rs ss (i + 1)) (w : World) (j s : Nat) (hs : Stmts w a n rs ss) (hj : j ≤ n) (ht : Steps ss (i + 1) j s) :
    Calls Tryz.prog 111 #[.slice a n c, .int .i64 ((i : Int) + 1), .int .i64 (j : Int)] w fun e w' => e = .returned (.int .i64 (s : Int)) ∧ Still w w' := by
  have := h w j s hs hj ht
  rwa [show ((i + 1 : Nat) : Int) = (i : Int) + 1 by omega] at this
set_option maxRecDepth 20000 in
set_option maxHeartbeats 1600000 in
theorem steps_at (a : Option Addr) (n c : Nat) (rs : List SRow) (ss : List Stm) (i : Nat) (h40 : n ≤ 40) (HI : Hid (∀ k, i < k → StepsAt a n c rs ss k)) : StepsAt a n c rs ss i := by
  intro w j s h hj hst
  have hbig := steps_bound hst (by omega)
  have hij := (steps_small hst).1
  have HL := Lib.hid h.2.1
  go_enter Tryz.func111, Tryz.ntmps111
  go_wp2
  go_loopw [7, 8] (fun q x wr => ∃ k u t : Nat, i ≤ k ∧ k ≤ j ∧ x = .int .i64 (k : Int) ∧ q = .int .i64 (u : Int) ∧ u + t = s ∧ Hid (Steps ss k j t) ∧ Still w wr) (fun _ x _ => j - (intOf x).toNat)
  case atStart => exact ⟨i, 0, s, Nat.le_refl _, hij, rfl, rfl, by omega, Lib.hid hst, Still.refl _⟩
  case round =>
    clear hst
    obtain ⟨k, u, t, hik, hkj, rfl, rfl, hut, HT, hstill⟩ := hrel
    have h' := h.still hstill
    by_cases hlt : k < j
    case neg =>
      obtain rfl : k = j := by omega
      have h0 := steps_none HT.out
      subst h0
      have e0 : u = s := by omega
      subst e0
      clear h'
      go_wp2
      go_ret
      exact ⟨rfl, hstill⟩
    have hend := l3End_any a n c rs ss k wr h' (by omega)
    obtain ⟨b, o, x, y, _, _, _, _, _, _, ts, us, rfl, hb, hz, hin1, hin2, hc1, hc2, _⟩ := h'.at_ (k := k) (by omega)
    have hop : opAt ss k = x := by rw [opAt, hz.out]
    have HS := Lib.hid h'
    clear h'
    have hst := HT.out
    clear HT
    cases hst with
    | nil => omega
    | @plain _ _ s1 hi h2 h5 h8 p =>
      rw [end_plain hi h2 h5 h8] at hend
      rw [hop] at h2 h5 h8
      have k2 : (x == 2) = false := by simpa using h2
      have k5 : (x == 5) = false := by simpa using h5
      have k8 : (x == 8) = false := by simpa using h8
      have HP := Lib.hid p
      have HC := Lib.hid hend
      have hub : u + s1 + 1 < 3656158440062976 := by omega
      have HU := Lib.hid hut
      clear hend h2 h5 h8 hop hc2 p hut hbig
      go_wp2_with (go_at_call 154; refine HC.out.mono ?_; rintro e w' ⟨rfl, rfl⟩)
      go_roundw
      case rel => exact ⟨k + 1, u + 1, s1, by omega, by omega, by go_num, by go_num, by have := HU.out; omega, HP, hstill⟩
      case measure => simp [intOf]; omega
    | @one _ e _ s1 t1 hi h2 he p q =>
      rw [he] at hend
      obtain rfl : x = 2 := hop.symm.trans h2
      have q1 := (steps_small p).1
      have q2 := (steps_small q).1
      have HP := Lib.hid ((HI.out (k + 1) (by omega)).succ wr e s1 HS.out (by omega) p)
      have HQ := Lib.hid q
      have HC := Lib.hid hend
      have hub : u + s1 + t1 + 1 < 3656158440062976 := by omega
      have HU := Lib.hid hut
      clear hend he h2 hop hc2 p q hut hbig
      go_wp2_with (go_at_call 154; refine HC.out.mono ?_; rintro e w' ⟨rfl, rfl⟩)
      refine HP.out.mono ?_
      rintro e w1 ⟨rfl, hw1⟩
      have hst2 := hstill.trans hw1
      go_wp2
      go_roundw
      case rel => exact ⟨e + 1, u + 1 + s1, t1, by omega, by omega, by go_num, by go_num, by have := HU.out; omega, HQ, hst2⟩
      case measure => simp [intOf]; omega
    | @two _ m e _ s1 s2 t1 hi h2 he p p' q =>
      rw [he] at hend
      obtain rfl : x = 2 := hop.symm.trans h2
      have q1 := (steps_small p).1
      have q2 := (steps_small p').1
      have q3 := (steps_small q).1
      have HP := Lib.hid ((HI.out (k + 1) (by omega)).succ wr m s1 HS.out (by omega) p)
      have HP2 : Hid (∀ w', Still wr w' → Calls Tryz.prog 111 #[.slice (some ⟨b, o, none⟩) n c, .int .i64 ((m : Int) + 1), .int .i64 (e : Int)] w' fun e w'' => e = .returned (.int .i64 (s2 : Int)) ∧ Still w' w'') := Lib.hid (fun w' hw' => (HI.out (m + 1) (by omega)).succ w' e s2 (HS.out.still hw') (by omega) p')
      have HQ := Lib.hid q
      have HC := Lib.hid hend
      have hub : u + max s1 s2 + t1 + 1 < 3656158440062976 := by omega
      have HU := Lib.hid hut
      clear hend he h2 hop hc2 p p' q hut hbig
      go_wp2_with (go_at_call 154; refine HC.out.mono ?_; rintro e w' ⟨rfl, rfl⟩)
      refine HP.out.mono ?_
      rintro e w1 ⟨rfl, hw1⟩
      have hst2 := hstill.trans hw1
      go_wp2_with fail
      refine (HP2.out _ hw1).mono ?_
      rintro e w2 ⟨rfl, hw2⟩
      have hst3 := hst2.trans hw2
      go_wp2_with (go_at_call 155; refine (l1Max_any _ _ _).mono ?_; rintro e w' ⟨rfl, rfl⟩; rw [show max (s1 : Int) (s2 : Int) = ((max s1 s2 : Nat) : Int) by omega])
      go_roundw
      case rel => exact ⟨e + 1, u + 1 + max s1 s2, t1, by omega, by omega, by go_num, by go_num, by have := HU.out; omega, HQ, hst3⟩
      case measure => simp [intOf]; omega
    | @loop _ e _ kk s1 t1 hi h5 he hk h4 p q =>
      rw [he] at hend
      obtain rfl : x = 5 := hop.symm.trans h5
      obtain rfl : y = (kk : Int) := by rw [hz.out] at hk; exact hk
      have q1 := (steps_small p).1
      have q2 := (steps_small q).1
      have HP : Hid (∀ w', Still wr w' → Calls Tryz.prog 111 #[.slice (some ⟨b, o, none⟩) n c, .int .i64 ((k : Int) + 1), .int .i64 (e : Int)] w' fun e w'' => e = .returned (.int .i64 (s1 : Int)) ∧ Still w' w'') := Lib.hid (fun w' hw' => (HI.out (k + 1) (by omega)).succ w' e s1 (HS.out.still hw') (by omega) p)
      have HQ := Lib.hid q
      have HC := Lib.hid hend
      obtain ⟨X, HX⟩ : ∃ X : Nat, Hid (kk * (1 + s1) = X) := ⟨_, Lib.hid rfl⟩
      have hub : u + X + t1 + 1 < 3656158440062976 := by rw [HX.out] at hut; omega
      have hs1 := steps_bound p (by omega)
      have HU := Lib.hid hut
      rw [HX.out] at HU
      have hmul : (kk : Int) * (1 + (s1 : Int)) = (X : Int) := by rw [← HX.out]; push_cast; rfl
      have f1 : ∀ n, (wr.drewN n).cell? ⟨b, o + k * 4, none⟩ = some (.int .i64 5) := fun _ => hc1
      have f2 : ∀ n, (wr.drewN n).cell? ⟨b, o + k * 4 + 1, none⟩ = some (.int .i64 (kk : Int)) := fun _ => hc2
      clear hend he h5 hop p q hut hbig hk
      go_wp2_with (go_at_call 154; refine HC.out.mono ?_; rintro e w' ⟨rfl, rfl⟩)
      go_quiet ((go_at_call 111; exact still_quiet (HP.out _ (Still.drew _ _))))
      clear f1 f2 hc1 hc2 hmul
      go_wp2
      go_roundw
      case rel => exact ⟨e + 1, u + 1 + X, t1, by omega, by omega, by go_num, by go_num, by have := HU.out; omega, HQ, hstill.draw _⟩
      case measure => simp [intOf]; omega
    | @attempt _ m e _ s1 s2 t1 hi h8 he p p' q =>
      rw [he] at hend
      obtain rfl : x = 8 := hop.symm.trans h8
      have q1 := (steps_small p).1
      have q2 := (steps_small p').1
      have q3 := (steps_small q).1
      have HP := Lib.hid ((HI.out (k + 1) (by omega)).succ wr m s1 HS.out (by omega) p)
      have HP2 : Hid (∀ w', Still wr w' → Calls Tryz.prog 111 #[.slice (some ⟨b, o, none⟩) n c, .int .i64 ((m : Int) + 1), .int .i64 (e : Int)] w' fun e w'' => e = .returned (.int .i64 (s2 : Int)) ∧ Still w' w'') := Lib.hid (fun w' hw' => (HI.out (m + 1) (by omega)).succ w' e s2 (HS.out.still hw') (by omega) p')
      have HQ := Lib.hid q
      have HC := Lib.hid hend
      have hub : u + s1 + s2 + t1 + 1 < 3656158440062976 := by omega
      have HU := Lib.hid hut
      clear hend he h8 hop hc2 p p' q hut hbig
      go_wp2_with (go_at_call 154; refine HC.out.mono ?_; rintro e w' ⟨rfl, rfl⟩)
      refine HP.out.mono ?_
      rintro e w1 ⟨rfl, hw1⟩
      have hst2 := hstill.trans hw1
      go_wp2_with fail
      refine (HP2.out _ hw1).mono ?_
      rintro e w2 ⟨rfl, hw2⟩
      have hst3 := hst2.trans hw2
      go_wp2
      go_roundw
      case rel => exact ⟨e + 1, u + 1 + s1 + s2, t1, by omega, by omega, by go_num, by go_num, by have := HU.out; omega, HQ, hst3⟩
      case measure => simp [intOf]; omega
theorem steps_all (a : Option Addr) (n c : Nat) (rs : List SRow) (ss : List Stm) (h40 : n ≤ 40) : ∀ (d i : Nat), n - i ≤ d → StepsAt a n c rs ss i
  | 0, i, hd => by
    refine steps_at a n c rs ss i h40 (Lib.hid (fun k hk => ?_))
    intro w j s h hj hst
    have := (steps_small hst).1
    omega
  | d + 1, i, hd => by
    refine steps_at a n c rs ss i h40 (Lib.hid (fun k hk => ?_))
    exact steps_all a n c rs ss h40 d k (by omega)
theorem l3Steps_any (a : Option Addr) (n c : Nat) (rs : List SRow) (ss : List Stm) (i j s : Nat) (w : World) (h : Stmts w a n rs ss) (h40 : n ≤ 40) (hj : j ≤ n) (hs : Steps ss i j s) :
    Calls Tryz.prog 111 #[.slice a n c, .int .i64 (i : Int), .int .i64 (j : Int)] w fun e w' => e = .returned (.int .i64 (s : Int)) ∧ Still w w' := steps_all a n c rs ss h40 _ i (Nat.le_refl _) w j s h hj hs
end Go.Proofs.YtjboghmcmlkpoaaGreatDoor
/- The contract of the model's CodeOf. -/
namespace Go.Proofs.YtjboghmcmlkpoaaGreatDoor
open Go.RowKit

open Classical in
/-- The steps of a whole body. -/
noncomputable def stepsN (ss : List Stm) : Nat := if h : ∃ s, Steps ss 0 ss.length s then h.choose else 0
theorem stepsN_spec {ss : List Stm} (h : ∃ s, Steps ss 0 ss.length s) : Steps ss 0 ss.length (stepsN ss) := by
  unfold stepsN
  rw [dif_pos h]
  exact h.choose_spec
def inpB (p : Prg) : Bool := (inputsB (2 ^ p.width.toNat) true p.lows && inputsB (2 ^ p.width.toNat) false p.secrets) && decide (bitsTo p.lows p.lows.length + bitsTo p.secrets p.secrets.length ≤ 10)
def stmtsB (p : Prg) : Bool := p.body.all (stmtB (2 ^ p.width.toNat) (p.lows.length + p.secrets.length) p.temps.toNat p.arrays.length)
/-- What CodeOf answers. -/
noncomputable def codeB (p : Prg) : Int :=
  if ¬ (1 ≤ p.width ∧ p.width ≤ 8) then 1
  else if inpB p = false then 2
  else if roomB p = false then 3
  else if stmtsB p = false then 4
  else if blockOf p.body 0 ≠ (p.body.length : Int) then 5
  else if 400 < stepsN p.body then 6 else 0
theorem loops_ok {S I T A : Nat} {ss : List Stm} (h : ss.all (stmtB S I T A) = true) : LoopsOk ss := by
  intro i hi h5
  have := List.all_eq_true.1 h _ (stAt_mem hi)
  unfold opAt at h5
  simp only [stmtB, Bool.and_eq_true] at this
  have hn := this.2
  rw [h5] at hn
  simp only [numOk] at hn
  simp at hn
  exact ⟨(stAt ss i).n.toNat, by omega, by omega⟩
end Go.Proofs.YtjboghmcmlkpoaaGreatDoor
/- The contract of the model's CodeOf. -/
namespace Go.Proofs.YtjboghmcmlkpoaaGreatDoor
open Go.RowKit

set_option maxRecDepth 20000 in
set_option maxHeartbeats 3200000 in
theorem specCodeOf_any (r : PRow) (p : Prg) (w : World) (h : ProgAt w r p) :
    Calls Tryz.prog 46 #[progV r] w fun e w' => e = .returned (.int .i64 (codeB p)) ∧ Below w.heap.size w w' := by
  obtain ⟨Z, HZ⟩ : ∃ Z, Hid (codeB p = Z) := ⟨_, rfl⟩
  rw [HZ.out]
  have hZ := HZ.out
  unfold codeB at hZ
  by_cases hw : 1 ≤ p.width ∧ p.width ≤ 8
  case neg =>
    rw [if_pos hw] at hZ
    subst hZ
    have hin : (decide (1 ≤ p.width) && decide (p.width ≤ 8)) = false := by rw [← Bool.not_eq_true]; simpa using hw
    obtain ⟨wd, ⟨a1, n1, c1⟩, ⟨a2, n2, c2⟩, tp, ⟨a3, n3, c3⟩, ⟨a4, n4, c4⟩, rows⟩ := r
    have e1 := h.width
    simp only [] at e1
    rw [← e1] at hin
    clear e1 h hw HZ
    show Calls Tryz.prog 46 #[.agg #[.int .i64 wd, .slice a1 n1 c1, .slice a2 n2 c2, .int .i64 tp, .slice a3 n3 c3, .slice a4 n4 c4]] w _
    go_enter Tryz.func46, Tryz.ntmps46
    go_wp2_with (go_at_call 105; refine (in_any _ _ _ _).mono ?_; rintro e w' ⟨rfl, rfl⟩; rw [hin])
    go_ret
    exact ⟨rfl, (Below.refl _ _).alloc (Nat.le_refl _) _⟩
  rw [if_neg (by simpa using hw)] at hZ
  obtain ⟨wd, ⟨a1, n1, c1⟩, ⟨a2, n2, c2⟩, tp, ⟨a3, n3, c3⟩, ⟨a4, n4, c4⟩, rows⟩ := r
  obtain ⟨pw, pl, ps, pt, pa, pb⟩ := p
  have HPA := h
  obtain ⟨e1, e2, i1, i2, h1, h2, h3, h4⟩ := h
  simp only [] at e1 e2 i1 i2 h1 h2 h3 h4 hw
  subst e1 e2
  obtain ⟨W, rfl⟩ : ∃ W : Nat, wd = (W : Int) := ⟨wd.toNat, by omega⟩
  have hin : (decide (1 ≤ (W : Int)) && decide ((W : Int) ≤ 8)) = true := by simpa using hw
  have HIN := Lib.hid hin
  have hW8 : W ≤ 8 := by omega
  have HP := Lib.hid HPA
  have L1 := Lib.hid h1.1
  have L2 := Lib.hid h2.1
  have L3 := Lib.hid h3.1
  have L4 := Lib.hid h4.2.1
  have hm4 := h4.2.2.1
  clear HPA hin h1 h2 h3 h4 HZ
  have HZ := Lib.hid hZ
  clear hZ
  show Calls Tryz.prog 46 #[.agg #[.int .i64 (W : Int), .slice a1 n1 c1, .slice a2 n2 c2, .int .i64 tp, .slice a3 n3 c3, .slice a4 n4 c4]] w _
  obtain ⟨wa, HW⟩ : ∃ wa, Hid (wa = w.alloc (.cells #[.int .i64 (W : Int), .slice a1 n1 c1, .slice a2 n2 c2, .int .i64 tp, .slice a3 n3 c3, .slice a4 n4 c4] 28)) := ⟨_, rfl⟩
  have B : Blk wa w.heap.size 28 [.int .i64 (W : Int), .slice a1 n1 c1, .slice a2 n2 c2, .int .i64 tp, .slice a3 n3 c3, .slice a4 n4 c4] := by rw [HW.out]; exact Blk.new w _ _
  have HB : Below w.heap.size w wa := by rw [HW.out]; exact (Below.refl _ _).alloc (Nat.le_refl _) _
  go_enter Tryz.func46, Tryz.ntmps46
  go_wp2_with (go_at_call 105; refine (in_any _ _ _ _).mono ?_; rintro e w' ⟨rfl, rfl⟩; rw [HIN.out])
  obtain ⟨X1, H1⟩ : ∃ X1, Hid (inputsB (2 ^ W) true pl = X1) := ⟨_, rfl⟩
  obtain ⟨X2, H2⟩ : ∃ X2, Hid (inputsB (2 ^ W) false ps = X2) := ⟨_, rfl⟩
  obtain ⟨N, HN⟩ : ∃ N, Hid (bitsTo pl pl.length + bitsTo ps ps.length = N) := ⟨_, rfl⟩
  have HI : Hid (inpB ⟨(W : Int), pl, ps, tp, pa, pb⟩ = ((X1 && X2) && decide (N ≤ 10))) := Lib.hid (by simp only [inpB, Int.toNat_natCast, H1.out, H2.out, HN.out])
  rw [HI.out] at HZ
  rw [← HW.out]
  refine (l3Inputs_any ⟨(W : Int), (a1, n1, c1), (a2, n2, c2), tp, (a3, n3, c3), (a4, n4, c4), rows⟩ W _ _ _ _ _ _ rfl hW8 (HP.out.lows.below (Nat.le_refl _) HB)).mono ?_
  rintro e w1 ⟨rfl, hb1⟩
  simp only [H1.out]
  have B := B.below hb1 B.lt
  have HB := HB.trans (hb1.mono HB.size)
  clear hb1 HW
  have t0 := B.cell (j := 0) rfl
  have t1 := B.cell (j := 1) rfl
  have t2 := B.cell (j := 2) rfl
  have t3 := B.cell (j := 3) rfl
  have t4 := B.cell (j := 4) rfl
  have t5 := B.cell (j := 5) rfl
  cases X1 with
  | false =>
    have hz := HZ.out
    rw [Bool.false_and, Bool.false_and, if_pos rfl] at hz
    subst hz
    go_wp2
    go_ret
    exact ⟨rfl, HB⟩
  | true =>
  go_wp2_with fail
  refine (l3Inputs_any ⟨(W : Int), (a1, n1, c1), (a2, n2, c2), tp, (a3, n3, c3), (a4, n4, c4), rows⟩ W _ _ _ _ _ _ rfl hW8 (HP.out.secrets.below (Nat.le_refl _) HB)).mono ?_
  rintro e w2 ⟨rfl, hb2⟩
  simp only [H2.out]
  clear t0 t1 t2 t3 t4 t5
  have B := B.below hb2 B.lt
  have HB := HB.trans (hb2.mono HB.size)
  clear hb2
  have t0 := B.cell (j := 0) rfl
  have t1 := B.cell (j := 1) rfl
  have t2 := B.cell (j := 2) rfl
  have t3 := B.cell (j := 3) rfl
  have t4 := B.cell (j := 4) rfl
  have t5 := B.cell (j := 5) rfl
  cases X2 with
  | false =>
    have hz := HZ.out
    rw [Bool.and_false, Bool.false_and, if_pos rfl] at hz
    subst hz
    go_wp2
    go_ret
    exact ⟨rfl, HB⟩
  | true =>
  go_wp2_with fail
  refine (l3AllBits_any ⟨(W : Int), (a1, n1, c1), (a2, n2, c2), tp, (a3, n3, c3), (a4, n4, c4), rows⟩ ⟨(W : Int), pl, ps, tp, pa, pb⟩ _ (HP.out.below HB)).mono ?_
  rintro e w3 ⟨rfl, hb3⟩
  simp only [HN.out]
  clear t0 t1 t2 t3 t4 t5
  have B := B.below hb3 B.lt
  have HB := HB.trans (hb3.mono HB.size)
  clear hb3
  have t0 := B.cell (j := 0) rfl
  have t1 := B.cell (j := 1) rfl
  have t2 := B.cell (j := 2) rfl
  have t3 := B.cell (j := 3) rfl
  have t4 := B.cell (j := 4) rfl
  have t5 := B.cell (j := 5) rfl
  rw [Bool.and_self, Bool.true_and] at HZ
  by_cases hN : N ≤ 10
  case neg =>
    have hz := HZ.out
    rw [decide_eq_false hN, if_pos rfl] at hz
    subst hz
    have hd : decide ((N : Int) > 10) = true := by simp; omega
    go_wp2
    go_ret
    exact ⟨rfl, HB⟩
  have hd : decide ((N : Int) > 10) = false := by simp; omega
  rw [decide_eq_true hN, if_neg (by simp)] at HZ
  obtain ⟨X3, H3⟩ : ∃ X3, Hid (roomB ⟨(W : Int), pl, ps, tp, pa, pb⟩ = X3) := ⟨_, rfl⟩
  rw [H3.out] at HZ
  go_wp2_with fail
  refine (l3Room_any ⟨(W : Int), (a1, n1, c1), (a2, n2, c2), tp, (a3, n3, c3), (a4, n4, c4), rows⟩ ⟨(W : Int), pl, ps, tp, pa, pb⟩ _ (HP.out.below HB)).mono ?_
  rintro e w4 ⟨rfl, hb4⟩
  rw [H3.out]
  clear t0 t1 t2 t3 t4 t5 hd
  have B := B.below hb4 B.lt
  have HB := HB.trans (hb4.mono HB.size)
  clear hb4
  have t0 := B.cell (j := 0) rfl
  have t1 := B.cell (j := 1) rfl
  have t2 := B.cell (j := 2) rfl
  have t3 := B.cell (j := 3) rfl
  have t4 := B.cell (j := 4) rfl
  have t5 := B.cell (j := 5) rfl
  cases X3 with
  | false =>
    have hz := HZ.out
    rw [if_pos rfl] at hz
    subst hz
    go_wp2
    go_ret
    exact ⟨rfl, HB⟩
  | true =>
  rw [if_neg (by simp)] at HZ
  have hroom := H3.out
  simp only [roomB, Bool.and_eq_true, decide_eq_true_eq] at hroom
  have hl1 : n1 ≤ 3 := by have q := H1.out; simp only [inputsB, Bool.and_eq_true, decide_eq_true_eq] at q; have := L1.out; omega
  have hl2 : n2 ≤ 3 := by have q := H2.out; simp only [inputsB, Bool.and_eq_true, decide_eq_true_eq] at q; have := L2.out; omega
  have hl3 : n3 ≤ 2 := by have := L3.out; omega
  have hl4 : n4 ≤ 40 := by have := L4.out; omega
  obtain ⟨T, rfl⟩ : ∃ T : Nat, tp = (T : Int) := ⟨tp.toNat, by omega⟩
  have hT : T ≤ 6 := by omega
  have HLim := Lib.hid (show Lim ⟨(W : Int), (a1, n1, c1), (a2, n2, c2), (T : Int), (a3, n3, c3), (a4, n4, c4), rows⟩ W (n1 + n2) T n3 from ⟨rfl, hW8, rfl, by omega, rfl, by omega, rfl, by omega⟩)
  clear hroom
  obtain ⟨X4, H4⟩ : ∃ X4, Hid (pb.all (stmtB (2 ^ W) (n1 + n2) T n3) = X4) := ⟨_, rfl⟩
  have HS : Hid (stmtsB ⟨(W : Int), pl, ps, (T : Int), pa, pb⟩ = X4) := Lib.hid (by simp only [stmtsB, Int.toNat_natCast, L1.out, L2.out, L3.out, H4.out])
  rw [HS.out] at HZ
  go_wp2_with fail
  refine (l3Stmts_any _ ⟨(W : Int), pl, ps, (T : Int), pa, pb⟩ W (n1 + n2) T n3 _ (HP.out.below HB) HLim.out).mono ?_
  rintro e w5 ⟨rfl, hb5⟩
  simp only [H4.out]
  clear t0 t1 t2 t3 t4 t5
  have B := B.below hb5 B.lt
  have HB := HB.trans (hb5.mono HB.size)
  clear hb5
  have t0 := B.cell (j := 0) rfl
  have t1 := B.cell (j := 1) rfl
  have t2 := B.cell (j := 2) rfl
  have t3 := B.cell (j := 3) rfl
  have t4 := B.cell (j := 4) rfl
  have t5 := B.cell (j := 5) rfl
  cases X4 with
  | false =>
    have hz := HZ.out
    rw [if_pos rfl] at hz
    subst hz
    go_wp2
    go_ret
    exact ⟨rfl, HB⟩
  | true =>
  rw [if_neg (by simp)] at HZ
  have hlo := loops_ok H4.out
  obtain ⟨K, HK⟩ : ∃ K, Hid (blockOf pb 0 = K) := ⟨_, rfl⟩
  simp only [HK.out, L4.out] at HZ
  have hblk := l3Block_any a4 n4 c4 rows pb 0 w5 (HP.out.body.below HB) (Nat.zero_le _)
  rw [HK.out] at hblk
  have HC := Lib.hid hblk
  clear hblk
  by_cases hK : K = (n4 : Int)
  case neg =>
    have hz := HZ.out
    rw [if_pos hK] at hz
    subst hz
    have hd : (K != (n4 : Int)) = true := by simpa using hK
    go_wp2_with (go_at_call 110; refine HC.out.mono ?_; rintro e w' ⟨rfl, rfl⟩)
    go_ret
    exact ⟨rfl, HB⟩
  rw [if_neg (by simpa using hK)] at HZ
  have hex := part_steps hlo _ 0 pb.length (Nat.le_refl _) (Nat.zero_le _) (by rw [HK.out, hK, L4.out])
  have hst := stepsN_spec hex
  obtain ⟨Q, HQ⟩ : ∃ Q, Hid (stepsN pb = Q) := ⟨_, rfl⟩
  rw [HQ.out] at hst
  rw [HQ.out] at HZ
  rw [L4.out] at hst
  have HD : Hid (∀ w', Below w.heap.size w w' → Calls Tryz.prog 111 #[.slice a4 n4 c4, .int .i64 0, .int .i64 (n4 : Int)] w' fun e w'' => e = .returned (.int .i64 (Q : Int)) ∧ Still w' w'') := Lib.hid (fun w' hw' => l3Steps_any a4 n4 c4 rows pb 0 n4 Q w' (HP.out.body.below hw') hl4 (Nat.le_refl _) hst)
  clear hex hst hlo
  have hd : (K != (n4 : Int)) = false := by simpa using hK
  go_wp2_with (go_at_call 110; refine HC.out.mono ?_; rintro e w' ⟨rfl, rfl⟩)
  refine (HD.out _ HB).mono ?_
  rintro e w6 ⟨rfl, hs6⟩
  have HB := HB.trans (hs6.below _)
  by_cases hQ : 400 < Q
  · have hz := HZ.out
    rw [if_pos hQ] at hz
    subst hz
    have hd2 : decide ((Q : Int) > 400) = true := by simp; omega
    go_wp2
    go_ret
    exact ⟨rfl, HB⟩
  · have hz := HZ.out
    rw [if_neg hQ] at hz
    subst hz
    have hd2 : decide ((Q : Int) > 400) = false := by simp; omega
    go_wp2
    go_ret
    exact ⟨rfl, HB⟩
end Go.Proofs.YtjboghmcmlkpoaaGreatDoor
