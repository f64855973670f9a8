/- Words for slices of Terms in memory; the contracts of termOk and of the two functions ExpOk (the program's and the model's). -/
import Derived.Test.YtdippnnhibgjoaaTakes
namespace Go.Proofs.Ytdippnnhibgjoaa
open Go.RowKit

def InTm (t : Tm) : Prop := In64 t.1 ∧ In64 t.2

/-- The slice '.slice a n c' reads as the Terms ts. -/
def Terms (w : World) (a : Option Addr) (n : Nat) (ts : List Tm) : Prop :=
  ts.length = n ∧ n ≤ 1048576 ∧ (∀ t ∈ ts, InTm t) ∧
  (0 < n → ∃ b o, a = some ⟨b, o, none⟩ ∧ b < w.heap.size ∧ ∀ i, i < n → w.cell? ⟨b, o + i * 2, none⟩ = some (.int .i64 (tmAt ts i).1) ∧ w.cell? ⟨b, o + i * 2 + 1, none⟩ = some (.int .i64 (tmAt ts i).2))

theorem Terms.at_ {w : World} {a : Option Addr} {n : Nat} {ts : List Tm} {k : Nat} (h : Terms w a n ts) (hk : k < n) :
    ∃ b o x y, a = some ⟨b, o, none⟩ ∧ b < w.heap.size ∧ Hid (tmAt ts k = (x, y)) ∧ In64 x ∧ In64 y ∧ w.cell? ⟨b, o + k * 2, none⟩ = some (.int .i64 x) ∧ w.cell? ⟨b, o + k * 2 + 1, none⟩ = some (.int .i64 y) := by
  obtain ⟨hl, _, hin, hc⟩ := h
  obtain ⟨b, o, rfl, hb, hcell⟩ := hc (by omega)
  have hm := hin _ (tmAt_mem (k := k) (by omega))
  exact ⟨b, o, _, _, rfl, hb, rfl, hm.1, hm.2, (hcell k hk).1, (hcell k hk).2⟩
theorem Terms.below {w w' : World} {a : Option Addr} {n : Nat} {ts : List Tm} {B : Nat} (h : Terms w a n ts) (hB : w.heap.size ≤ B) (hb : Below B w w') : Terms w' a n ts := by
  obtain ⟨hl, hn, hin, hc⟩ := h
  refine ⟨hl, hn, hin, fun hp => ?_⟩
  obtain ⟨b, o, rfl, hbl, hcell⟩ := hc hp
  exact ⟨b, o, rfl, Nat.lt_of_lt_of_le hbl hb.size, fun i hi => ⟨(hb.cell (Nat.lt_of_lt_of_le hbl hB)).trans (hcell i hi).1, (hb.cell (Nat.lt_of_lt_of_le hbl hB)).trans (hcell i hi).2⟩⟩

theorem tOkB_leaf {op n : Int} (h : op = 0 ∨ op = 1 ∨ op = 2) : tOkB (op, n) = (decide (0 ≤ n) && decide (n ≤ 255)) := by
  rcases h with rfl | rfl | rfl <;> (rw [Bool.eq_iff_iff, tOkB_iff]; simp [takesI])
theorem tOkB_op {op n : Int} (h : ¬ (op = 0 ∨ op = 1 ∨ op = 2)) : tOkB (op, n) = (decide (0 ≤ takesI op) && (n == 0)) := by
  rw [Bool.eq_iff_iff, tOkB_iff]
  simp only [Bool.and_eq_true, decide_eq_true_eq, beq_iff_eq]
  constructor
  · rintro ⟨h1, h2, h3, h4⟩
    refine ⟨h1, ?_⟩
    rcases h4 with h4 | h4
    · have : op < 0 := by omega
      have := (takesI_neg op).2 (.inl this)
      omega
    · exact h4
  · rintro ⟨h1, h2⟩
    exact ⟨h1, by omega, by omega, .inr h2⟩

set_option maxHeartbeats 800000 in
theorem termOk_any (op n : Int) (w : World) :
    Calls Try.prog 126 #[.agg #[.int .i64 op, .int .i64 n]] w fun e w' => e = .returned (.bool (tOkB (op, n))) ∧ Below w.heap.size w w' := by
  by_cases hl : op = 0 ∨ op = 1 ∨ op = 2
  · have HE := Lib.hid (tOkB_leaf (n := n) hl)
    by_cases h0 : 0 ≤ n
    · rcases hl with rfl | rfl | rfl
      all_goals
        go_enter Try.func126, Try.ntmps126
        go_wp2
        go_ret
        exact ⟨ret_bool (by rw [HE.out]; simp [h0]), (Below.refl _ _).alloc (Nat.le_refl _) _⟩
    · rcases hl with rfl | rfl | rfl
      all_goals
        go_enter Try.func126, Try.ntmps126
        go_wp2
        go_ret
        exact ⟨ret_bool (by rw [HE.out, decide_eq_false (by omega)]; rfl), (Below.refl _ _).alloc (Nat.le_refl _) _⟩
  · have HE := Lib.hid (tOkB_op (n := n) hl)
    have n0 : (op == 0) = false := by simp; omega
    have n1 : (op == 1) = false := by simp; omega
    have n2 : (op == 2) = false := by simp; omega
    obtain ⟨q, HQ⟩ : ∃ q, Hid (takesI op = q) := ⟨_, rfl⟩
    clear hl
    by_cases h0 : 0 ≤ q
    · go_enter Try.func126, Try.ntmps126
      go_wp2_with fail
      refine (takes_any _ _).mono ?_
      rintro e w1 ⟨rfl, rfl⟩
      rw [HQ.out]
      go_wp2
      go_ret
      exact ⟨ret_bool (by rw [HE.out, HQ.out]; simp [h0]), (Below.refl _ _).alloc (Nat.le_refl _) _⟩
    · go_enter Try.func126, Try.ntmps126
      go_wp2_with fail
      refine (takes_any _ _).mono ?_
      rintro e w1 ⟨rfl, rfl⟩
      rw [HQ.out]
      go_wp2
      go_ret
      exact ⟨ret_bool (by rw [HE.out, HQ.out, decide_eq_false (by omega)]; rfl), (Below.refl _ _).alloc (Nat.le_refl _) _⟩

set_option maxHeartbeats 800000 in
theorem expOk_any (a : Option Addr) (n c : Nat) (ts : List Tm) (w : World) (h : Terms w a n ts) :
    Calls Try.prog 116 #[.slice a n c] w fun e w' => e = .returned (.bool (expB ts)) ∧ Below w.heap.size w w' := by
  have HL := Lib.hid h.1
  have hbd := h.2.1
  by_cases hn : 3000 < n
  · go_enter Try.func116, Try.ntmps116
    go_wp2
    go_ret
    exact ⟨ret_bool (expB_long (by rw [HL.out]; exact hn)).symm, Below.refl _ _⟩
  · go_enter Try.func116, Try.ntmps116
    go_wp2
    go_loopw [3, 12] (fun l i wr => ∃ (k : Nat) (d : Int), k ≤ n ∧ i = .int .i64 k ∧ l = .int .i64 d ∧ 0 ≤ d ∧ d ≤ k ∧ Hid (runD 0 (ts.take k) = some d) ∧ Below w.heap.size w wr) (fun _ i _ => n - (intOf i).toNat)
    case atStart => exact ⟨0, 0, Nat.zero_le _, rfl, rfl, by omega, by omega, rfl, Below.refl _ _⟩
    case round =>
      obtain ⟨k, d, hk, rfl, rfl, hd0, hd1, hr, hbel⟩ := hrel
      by_cases hlt : k < n
      · obtain ⟨b, o, x, y, rfl, hb, hz, hin1, hin2, hc1, hc2⟩ := (h.below (Nat.le_refl _) hbel).at_ hlt
        obtain ⟨q, HQ⟩ : ∃ q, Hid (takesI x = q) := ⟨_, rfl⟩
        have hq := takesI_range x
        rw [HQ.out] at hq
        obtain ⟨hq0, hq1⟩ := hq
        obtain ⟨okq, HOK⟩ : ∃ okq, Hid (tOkB (x, y) = okq) := ⟨_, rfl⟩
        go_wp2_with fail
        refine (takes_any _ _).mono ?_
        rintro e w1 ⟨rfl, rfl⟩
        rw [HQ.out]
        go_wp2_with fail
        refine (termOk_any _ _ _).mono ?_
        rintro e w1 ⟨rfl, hb1⟩
        have ht1 : Below w.heap.size w w1 := (hbel.alloc hbel.size _).trans (hb1.mono (by have := hbel.size; simp; omega))
        rw [HOK.out]
        clear hb1 hbel hc1 hc2
        cases okq with
        | false =>
          go_wp2
          go_ret
          exact ⟨ret_bool (expB_bad (by rw [HL.out]; exact hlt) hr.out (.inl (by rw [hz.out, HOK.out]))).symm, ht1⟩
        | true =>
          by_cases hqd : d < q
          · go_wp2
            go_ret
            exact ⟨ret_bool (expB_bad (by rw [HL.out]; exact hlt) hr.out (.inr (by rw [hz.out, HQ.out]; exact hqd))).symm, ht1⟩
          · have HR := Lib.hid (runD_step (by rw [HL.out]; exact hlt) hr.out (by rw [hz.out, HOK.out]) (by rw [hz.out, HQ.out]; omega))
            have hq2 : 0 ≤ q := by have := ((tOkB_iff _).1 HOK.out).1; rw [HQ.out] at this; exact this
            go_wp2
            go_roundw
            case rel => exact ⟨k + 1, d + (1 - q), by omega, by go_num, rfl, by omega, by omega, by show _ = _; rw [HR.out, hz.out, HQ.out]; congr 1; omega, ht1⟩
            case measure => simp [intOf]; omega
      · obtain rfl : n = k := by omega
        have hr2 : runD 0 ts = some d := by have := hr.out; rwa [List.take_of_length_le (by rw [HL.out]; exact Nat.le_refl _)] at this
        have HF := Lib.hid (expB_end (by rw [HL.out]; omega) hr2)
        clear hr2
        go_wp2
        go_ret
        exact ⟨ret_bool HF.out.symm, hbel⟩

theorem tOkB_false {x y q : Int} (hq : Hid (takesI x = q)) (h : q < 0 ∨ y < 0 ∨ 255 < y ∨ (2 < x ∧ y ≠ 0)) : tOkB (x, y) = false := by
  rw [← Bool.not_eq_true, tOkB_iff]
  rintro ⟨h1, h2, h3, h4⟩
  simp only [hq.out] at h1 h2 h3 h4
  omega
theorem tOkB_true {x y q : Int} (hq : Hid (takesI x = q)) (h0 : 0 ≤ q) (h1 : 0 ≤ y) (h2 : y ≤ 255) (h3 : x ≤ 2 ∨ y = 0) : tOkB (x, y) = true :=
  (tOkB_iff _).2 ⟨by simp only [hq.out]; exact h0, h1, h2, h3⟩

set_option maxHeartbeats 1600000 in
theorem specExpOk_any (a : Option Addr) (n c : Nat) (ts : List Tm) (w : World) (h : Terms w a n ts) :
    Calls Try.prog 121 #[.slice a n c] w fun e w' => e = .returned (.bool (expB ts)) ∧ Below w.heap.size w w' := by
  have HL := Lib.hid h.1
  have hbd := h.2.1
  by_cases hn : 3000 < n
  · go_enter Try.func121, Try.ntmps121
    go_wp2
    go_ret
    exact ⟨ret_bool (expB_long (by rw [HL.out]; exact hn)).symm, Below.refl _ _⟩
  · go_enter Try.func121, Try.ntmps121
    go_wp2
    go_loopw [3, 4] (fun l i wr => ∃ (k : Nat) (d : Int), k ≤ n ∧ i = .int .i64 k ∧ l = .int .i64 d ∧ 0 ≤ d ∧ d ≤ k ∧ Hid (runD 0 (ts.take k) = some d) ∧ Below w.heap.size w wr) (fun _ i _ => n - (intOf i).toNat)
    case atStart => exact ⟨0, 0, Nat.zero_le _, rfl, rfl, by omega, by omega, rfl, Below.refl _ _⟩
    case round =>
      obtain ⟨k, d, hk, rfl, rfl, hd0, hd1, hr, hbel⟩ := hrel
      by_cases hlt : k < n
      · obtain ⟨b, o, x, y, rfl, hb, hz, hin1, hin2, hc1, hc2⟩ := (h.below (Nat.le_refl _) hbel).at_ hlt
        obtain ⟨q, HQ⟩ : ∃ q, Hid (takesI x = q) := ⟨_, rfl⟩
        have hq := takesI_range x
        rw [HQ.out] at hq
        obtain ⟨hq0, hq1⟩ := hq
        go_wp2_with fail
        refine (specTakes_any _ _).mono ?_
        rintro e w1 ⟨rfl, hb1⟩
        have ht1 : Below w.heap.size w w1 := hbel.trans (hb1.mono hbel.size)
        have hd1' : w1.cell? ⟨b, o + k * 2, none⟩ = some (.int .i64 x) := (hb1.cell hb).trans hc1
        have hd2' : w1.cell? ⟨b, o + k * 2 + 1, none⟩ = some (.int .i64 y) := (hb1.cell hb).trans hc2
        rw [HQ.out]
        clear hb1 hbel hc1 hc2
        by_cases hqn : q < 0
        · go_wp2_with fail
          go_ret
          exact ⟨ret_bool (expB_bad (by rw [HL.out]; exact hlt) hr.out (.inl (by rw [hz.out]; exact tOkB_false HQ (.inl hqn)))).symm, ht1⟩
        by_cases hqd : d < q
        · go_wp2_with fail
          go_ret
          exact ⟨ret_bool (expB_bad (by rw [HL.out]; exact hlt) hr.out (.inr (by rw [hz.out]; show d < takesI x; rw [HQ.out]; exact hqd))).symm, ht1⟩
        obtain ⟨inq, HI⟩ : ∃ inq, Hid ((decide (0 ≤ y) && decide (y ≤ 255)) = inq) := ⟨_, rfl⟩
        cases inq with
        | false =>
          have hyy : y < 0 ∨ 255 < y := by have := HI.out; simp at this; omega
          go_wp2_with fail
          refine (in_any _ _ _ _).mono ?_
          rintro e w2 ⟨rfl, rfl⟩
          rw [HI.out]
          go_wp2_with fail
          go_ret
          exact ⟨ret_bool (expB_bad (by rw [HL.out]; exact hlt) hr.out (.inl (by rw [hz.out]; exact tOkB_false HQ (by omega)))).symm, ht1⟩
        | true =>
          have hy0 : 0 ≤ y := by have := HI.out; simp at this; omega
          have hy1 : y ≤ 255 := by have := HI.out; simp at this; omega
          by_cases hx2 : 2 < x
          · by_cases hyz : y = 0
            · subst hyz
              have HR := Lib.hid (runD_step (by rw [HL.out]; exact hlt) hr.out (by rw [hz.out]; exact tOkB_true HQ (by omega) hy0 hy1 (.inr rfl)) (by rw [hz.out]; show takesI x ≤ d; rw [HQ.out]; omega))
              go_wp2_with fail
              refine (in_any _ _ _ _).mono ?_
              rintro e w2 ⟨rfl, rfl⟩
              rw [HI.out]
              go_wp2_with fail
              go_roundw
              case rel => exact ⟨k + 1, d - q + 1, by omega, by go_num, rfl, by omega, by omega, by show _ = _; rw [HR.out, hz.out]; show some (d + 1 - takesI x) = _; rw [HQ.out]; congr 1; omega, ht1⟩
              case measure => simp [intOf]; omega
            · have hne : (y != 0) = true := by simpa using hyz
              go_wp2_with fail
              refine (in_any _ _ _ _).mono ?_
              rintro e w2 ⟨rfl, rfl⟩
              rw [HI.out]
              go_wp2_with fail
              go_ret
              exact ⟨ret_bool (expB_bad (by rw [HL.out]; exact hlt) hr.out (.inl (by rw [hz.out]; exact tOkB_false HQ (.inr (.inr (.inr ⟨hx2, hyz⟩)))))).symm, ht1⟩
          · have HR := Lib.hid (runD_step (by rw [HL.out]; exact hlt) hr.out (by rw [hz.out]; exact tOkB_true HQ (by omega) hy0 hy1 (.inl (by omega))) (by rw [hz.out]; show takesI x ≤ d; rw [HQ.out]; omega))
            go_wp2_with fail
            refine (in_any _ _ _ _).mono ?_
            rintro e w2 ⟨rfl, rfl⟩
            rw [HI.out]
            go_wp2_with fail
            go_roundw
            case rel => exact ⟨k + 1, d - q + 1, by omega, by go_num, rfl, by omega, by omega, by show _ = _; rw [HR.out, hz.out]; show some (d + 1 - takesI x) = _; rw [HQ.out]; congr 1; omega, ht1⟩
            case measure => simp [intOf]; omega
      · obtain rfl : n = k := by omega
        have hr2 : runD 0 ts = some d := by have := hr.out; rwa [List.take_of_length_le (by rw [HL.out]; exact Nat.le_refl _)] at this
        have HF := Lib.hid (expB_end (by rw [HL.out]; omega) hr2)
        clear hr2
        go_wp2
        go_ret
        exact ⟨ret_bool HF.out.symm, hbel⟩
end Go.Proofs.Ytdippnnhibgjoaa
