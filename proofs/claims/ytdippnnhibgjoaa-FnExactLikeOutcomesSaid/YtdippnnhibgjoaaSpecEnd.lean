/- The contracts of the model's l3End, l3Block and EndOf. -/
import Derived.Test.YtdippnnhibgjoaaSpecNest
namespace Go.Proofs.Ytdippnnhibgjoaa
open Go.RowKit

theorem end_eq {ss : List Stm} {i : Nat} {M : Int} (hi : i < ss.length) (hM : blockOf ss (i + 1) = M) : endOf ss i =
    (if opAt ss i = 5 then (if isAt ss M 4 then (-1, M) else (-1, -1))
     else if opAt ss i = 2 then (if isAt ss M 4 then (-1, M) else if isAt ss M 3 then (if isAt ss (blockOf ss (M.toNat + 1)) 4 then (M, blockOf ss (M.toNat + 1)) else (-1, -1)) else (-1, -1))
     else if opAt ss i = 8 then (if isAt ss M 9 then (if isAt ss (blockOf ss (M.toNat + 1)) 4 then (M, blockOf ss (M.toNat + 1)) else (-1, -1)) else (-1, -1))
     else (-1, -1)) := by
  have hb := block_in ss (i := i + 1) (by omega)
  rw [hM] at hb
  have hlt : ∀ op, isAt ss M op = true → i < M.toNat := fun op h => by
    have := isAt_range h
    rcases hb with q | q <;> omega
  rw [endOf, if_pos hi, hM]
  by_cases h3 : isAt ss M 3 = true
  · rw [dif_pos ⟨h3, hlt 3 h3⟩, if_pos h3]
    by_cases h9 : isAt ss M 9 = true
    · rw [dif_pos ⟨h9, hlt 9 h9⟩, if_pos h9]
    · rw [dif_neg (fun h => h9 h.1), if_neg h9]
  · rw [dif_neg (fun h => h3 h.1), if_neg h3]
    by_cases h9 : isAt ss M 9 = true
    · rw [dif_pos ⟨h9, hlt 9 h9⟩, if_pos h9]
    · rw [dif_neg (fun h => h9 h.1), if_neg h9]
theorem ret_two {x y : Int} {p : Int × Int} (h : p = (x, y)) : Ending.returned (.tuple #[.int .i64 x, .int .i64 y]) = .returned (.tuple #[.int .i64 p.1, .int .i64 p.2]) := by rw [h]

set_option maxHeartbeats 3200000 in
theorem end_at (w : World) (a : Option Addr) (n c : Nat) (rs : List SRow) (ss : List Stm) (h : Stmts w a n rs ss) (i : Nat) (hi : i < n) (HB : Hid (∀ j, i < j → j ≤ n → BlockAt w a n c ss j)) : EndAt w a n c ss i := by
  have hbd := h.2.2.1
  have hl : i < ss.length := by rw [h.2.1]; exact hi
  obtain ⟨M, HM⟩ : ∃ M, Hid (blockOf ss (i + 1) = M) := ⟨_, rfl⟩
  have HQ := Lib.hid (end_eq hl HM.out)
  have hb := HB.out (i + 1) (by omega) (by omega)
  unfold BlockAt at hb
  rw [HM.out, show ((i + 1 : Nat) : Int) = (i : Int) + 1 by omega] at hb
  have HC := Lib.hid hb
  have hM := block_in ss (i := i + 1) (by omega)
  rw [HM.out] at hM
  have hM2 : M = -1 ∨ ((i : Int) + 1 ≤ M ∧ M ≤ n) := by
    have := h.2.1
    rcases hM with q | q
    · exact .inl q
    · exact .inr (by omega)
  have HS := Lib.hid h
  have HI : Hid (∀ z op : Int, Calls Try.prog 102 #[.slice a n c, .int .i64 z, .int .i64 op] w fun e w' => e = .returned (.bool (isAt ss z op)) ∧ w = w') := Lib.hid (fun z op => l3Is_any a n c rs ss z op w h)
  clear hb hM
  unfold EndAt
  obtain ⟨b, o, x, rfl, hx, hix, hc⟩ := h.op hi
  rw [hx.out] at HQ
  clear h
  obtain ⟨A4, H4⟩ : ∃ A4, Hid (isAt ss M 4 = A4) := ⟨_, rfl⟩
  obtain ⟨A3, H3⟩ : ∃ A3, Hid (isAt ss M 3 = A3) := ⟨_, rfl⟩
  obtain ⟨A9, H9⟩ : ∃ A9, Hid (isAt ss M 9 = A9) := ⟨_, rfl⟩
  obtain ⟨E, HE⟩ : ∃ E, Hid (blockOf ss (M.toNat + 1) = E) := ⟨_, rfl⟩
  obtain ⟨B4, HB4⟩ : ∃ B4, Hid (isAt ss E 4 = B4) := ⟨_, rfl⟩
  simp only [H4.out, H3.out, H9.out, HE.out, HB4.out] at HQ
  have two : Hid (∀ op, isAt ss M op = true → Calls Try.prog 64 #[.slice (some ⟨b, o, none⟩) n c, .int .i64 (M + 1)] w fun e w' => e = .returned (.int .i64 E) ∧ w = w') := Lib.hid (fun op ho => by
    have hr := isAt_range ho
    have hlen := HS.out.2.1
    have hb := HB.out (M.toNat + 1) (by omega) (by omega)
    unfold BlockAt at hb
    rw [HE.out, show ((M.toNat + 1 : Nat) : Int) = M + 1 by omega] at hb
    exact hb)
  by_cases h5 : x = 5
  · subst h5
    simp only [if_true] at HQ
    cases A4 with
    | true =>
      go_enter Try.func85, Try.ntmps85
      go_wp2_with (first | (go_at_call 64; refine HC.out.mono ?_; rintro e w' ⟨rfl, rfl⟩) | (go_at_call 102; refine (HI.out _ _).mono ?_; rintro e w' ⟨rfl, rfl⟩; first | rw [H4.out]))
      go_ret2
      exact ⟨ret_two HQ.out, rfl⟩
    | false =>
      go_enter Try.func85, Try.ntmps85
      go_wp2_with (first | (go_at_call 64; refine HC.out.mono ?_; rintro e w' ⟨rfl, rfl⟩) | (go_at_call 102; refine (HI.out _ _).mono ?_; rintro e w' ⟨rfl, rfl⟩; first | rw [H4.out]))
      go_ret2
      exact ⟨ret_two HQ.out, rfl⟩
  rw [if_neg h5] at HQ
  by_cases h2 : x = 2
  · subst h2
    clear h5
    rw [if_pos rfl] at HQ
    cases A4 with
    | true =>
      go_enter Try.func85, Try.ntmps85
      go_wp2_with (first | (go_at_call 64; refine HC.out.mono ?_; rintro e w' ⟨rfl, rfl⟩) | (go_at_call 102; refine (HI.out _ _).mono ?_; rintro e w' ⟨rfl, rfl⟩; first | rw [H4.out]))
      go_ret2
      exact ⟨ret_two HQ.out, rfl⟩
    | false =>
      cases A3 with
      | false =>
        go_enter Try.func85, Try.ntmps85
        go_wp2_with (first | (go_at_call 64; refine HC.out.mono ?_; rintro e w' ⟨rfl, rfl⟩) | (go_at_call 102; refine (HI.out _ _).mono ?_; rintro e w' ⟨rfl, rfl⟩; first | rw [H4.out] | rw [H3.out]))
        go_ret2
        exact ⟨ret_two HQ.out, rfl⟩
      | true =>
        have HT := Lib.hid (two.out 3 H3.out)
        have hr := isAt_range H3.out
        have hM3 : 0 ≤ M ∧ M < n := by have := HS.out.2.1; omega
        clear hr
        cases B4 with
        | true =>
          go_enter Try.func85, Try.ntmps85
          go_wp2_with (first | (go_at_call 64; first | (with_reducible refine HC.out.mono ?_; rintro e w' ⟨rfl, rfl⟩) | (with_reducible refine HT.out.mono ?_; rintro e w' ⟨rfl, rfl⟩)) | (go_at_call 102; refine (HI.out _ _).mono ?_; rintro e w' ⟨rfl, rfl⟩; first | rw [H4.out] | rw [H3.out] | rw [HB4.out]))
          go_ret2
          exact ⟨ret_two HQ.out, rfl⟩
        | false =>
          go_enter Try.func85, Try.ntmps85
          go_wp2_with (first | (go_at_call 64; first | (with_reducible refine HC.out.mono ?_; rintro e w' ⟨rfl, rfl⟩) | (with_reducible refine HT.out.mono ?_; rintro e w' ⟨rfl, rfl⟩)) | (go_at_call 102; refine (HI.out _ _).mono ?_; rintro e w' ⟨rfl, rfl⟩; first | rw [H4.out] | rw [H3.out] | rw [HB4.out]))
          go_ret2
          exact ⟨ret_two HQ.out, rfl⟩
  rw [if_neg h2] at HQ
  by_cases h8 : x = 8
  · subst h8
    clear h5 h2
    rw [if_pos rfl] at HQ
    cases A9 with
    | false =>
      go_enter Try.func85, Try.ntmps85
      go_wp2_with (first | (go_at_call 64; refine HC.out.mono ?_; rintro e w' ⟨rfl, rfl⟩) | (go_at_call 102; refine (HI.out _ _).mono ?_; rintro e w' ⟨rfl, rfl⟩; first | rw [H9.out]))
      go_ret2
      exact ⟨ret_two HQ.out, rfl⟩
    | true =>
      have HT := Lib.hid (two.out 9 H9.out)
      have hr := isAt_range H9.out
      have hM3 : 0 ≤ M ∧ M < n := by have := HS.out.2.1; omega
      clear hr
      cases B4 with
      | true =>
        go_enter Try.func85, Try.ntmps85
        go_wp2_with (first | (go_at_call 64; first | (with_reducible refine HC.out.mono ?_; rintro e w' ⟨rfl, rfl⟩) | (with_reducible refine HT.out.mono ?_; rintro e w' ⟨rfl, rfl⟩)) | (go_at_call 102; refine (HI.out _ _).mono ?_; rintro e w' ⟨rfl, rfl⟩; first | rw [H9.out] | rw [HB4.out]))
        go_ret2
        exact ⟨ret_two HQ.out, rfl⟩
      | false =>
        go_enter Try.func85, Try.ntmps85
        go_wp2_with (first | (go_at_call 64; first | (with_reducible refine HC.out.mono ?_; rintro e w' ⟨rfl, rfl⟩) | (with_reducible refine HT.out.mono ?_; rintro e w' ⟨rfl, rfl⟩)) | (go_at_call 102; refine (HI.out _ _).mono ?_; rintro e w' ⟨rfl, rfl⟩; first | rw [H9.out] | rw [HB4.out]))
        go_ret2
        exact ⟨ret_two HQ.out, rfl⟩
  rw [if_neg h8] at HQ
  have k5 : (x == 5) = false := by simpa using h5
  have k2 : (x == 2) = false := by simpa using h2
  have k8 : (x == 8) = false := by simpa using h8
  clear h5 h2 h8
  go_enter Try.func85, Try.ntmps85
  go_wp2_with (first | (go_at_call 64; refine HC.out.mono ?_; rintro e w' ⟨rfl, rfl⟩) | (go_at_call 102; refine (HI.out _ _).mono ?_; rintro e w' ⟨rfl, rfl⟩; first | rw [H4.out]))
  go_ret2
  exact ⟨ret_two HQ.out, rfl⟩
theorem nest_at (w : World) (a : Option Addr) (n c : Nat) (rs : List SRow) (ss : List Stm) (h : Stmts w a n rs ss) : ∀ (d i : Nat), n - i ≤ d → i ≤ n → BlockAt w a n c ss i ∧ (i < n → EndAt w a n c ss i)
  | 0, i, hd, hi => ⟨block_at w a n c rs ss h i hi (Lib.hid (fun j h1 h2 => absurd h2 (by omega))), fun h' => absurd h' (by omega)⟩
  | d + 1, i, hd, hi => by
    have hb : ∀ j, i < j → j ≤ n → BlockAt w a n c ss j := fun j h1 h2 => (nest_at w a n c rs ss h d j (by omega) h2).1
    have he : ∀ j, i < j → j < n → EndAt w a n c ss j := fun j h1 h2 => (nest_at w a n c rs ss h d j (by omega) (by omega)).2 h2
    have hei : i < n → EndAt w a n c ss i := fun h' => end_at w a n c rs ss h i h' (Lib.hid hb)
    refine ⟨block_at w a n c rs ss h i hi (Lib.hid (fun j h1 h2 => ?_)), hei⟩
    rcases Nat.lt_or_ge i j with hlt | hge
    · exact he j hlt h2
    · obtain rfl : i = j := by omega
      exact hei h2
theorem l3Block_any (a : Option Addr) (n c : Nat) (rs : List SRow) (ss : List Stm) (i : Nat) (w : World) (h : Stmts w a n rs ss) (hi : i ≤ n) :
    Calls Try.prog 64 #[.slice a n c, .int .i64 (i : Int)] w fun e w' => e = .returned (.int .i64 (blockOf ss i)) ∧ w = w' := (nest_at w a n c rs ss h _ i (Nat.le_refl _) hi).1
theorem l3End_any (a : Option Addr) (n c : Nat) (rs : List SRow) (ss : List Stm) (i : Nat) (w : World) (h : Stmts w a n rs ss) (hi : i < n) :
    Calls Try.prog 85 #[.slice a n c, .int .i64 (i : Int)] w fun e w' => e = .returned (.tuple #[.int .i64 (endOf ss i).1, .int .i64 (endOf ss i).2]) ∧ w = w' := (nest_at w a n c rs ss h _ i (Nat.le_refl _) (by omega)).2 hi
end Go.Proofs.Ytdippnnhibgjoaa
