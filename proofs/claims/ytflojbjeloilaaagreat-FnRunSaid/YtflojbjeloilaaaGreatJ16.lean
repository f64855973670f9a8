/- What StartOf asks of inputs and answers: words, and the contract of the program's areInputs. -/
import Derived.Test.YtflojbjeloilaaaGreatJ15
namespace Go.Proofs.YtflojbjeloilaaaGreat
open Go.RowKit

/-- Every value from 0 to its Max, as many as there are. -/
def areB (ins : List Tm) (zs : List Int) : Bool := decide (zs.length = ins.length) && (List.range zs.length).all (fun i => decide (0 ≤ zs.getD i 0) && decide (zs.getD i 0 ≤ (tmAt ins i).1))
def AreTo (ins : List Tm) (zs : List Int) (k : Nat) : Prop := ∀ i, i < k → 0 ≤ zs.getD i 0 ∧ zs.getD i 0 ≤ (tmAt ins i).1
theorem AreTo.zero (ins : List Tm) (zs : List Int) : AreTo ins zs 0 := fun i hi => absurd hi (by omega)
theorem AreTo.succ {ins : List Tm} {zs : List Int} {k : Nat} {z : Int} {t : Tm} (h : AreTo ins zs k) (hz : Hid (z = zs.getD k 0)) (ht : Hid (tmAt ins k = t)) (h0 : 0 ≤ z) (h1 : z ≤ t.1) : AreTo ins zs (k + 1) := by
  intro i hi
  rcases Nat.lt_or_ge i k with hlt | hge
  · exact h i hlt
  · obtain rfl : i = k := by omega
    rw [← hz.out, ht.out]; exact ⟨h0, h1⟩
theorem areB_all {ins : List Tm} {zs : List Int} (hl : zs.length = ins.length) (h : AreTo ins zs zs.length) : areB ins zs = true := by
  rw [areB, decide_eq_true hl, Bool.true_and, List.all_eq_true]
  intro i hi
  rw [List.mem_range] at hi
  have := h i hi
  simp only [Bool.and_eq_true, decide_eq_true_eq]
  exact this
theorem areB_bad {ins : List Tm} {zs : List Int} {k : Nat} {z : Int} {t : Tm} (hk : k < zs.length) (hz : Hid (z = zs.getD k 0)) (ht : Hid (tmAt ins k = t)) (h : ¬ (0 ≤ z ∧ z ≤ t.1)) : areB ins zs = false := by
  rw [← Bool.not_eq_true]
  intro hA
  simp only [areB, Bool.and_eq_true, List.all_eq_true, List.mem_range, decide_eq_true_eq] at hA
  have := hA.2 k hk
  rw [← hz.out, ht.out] at this
  exact h this
theorem areB_len {ins : List Tm} {zs : List Int} (h : zs.length ≠ ins.length) : areB ins zs = false := by rw [areB, decide_eq_false h, Bool.false_and]
theorem areB_ok {ins : List Tm} {zs : List Int} (h : areB ins zs = true) : zs.length = ins.length ∧ AreTo ins zs zs.length := by
  simp only [areB, Bool.and_eq_true, List.all_eq_true, List.mem_range, decide_eq_true_eq] at h
  exact ⟨h.1, h.2⟩
/-- Is there a start? -/
noncomputable def startB (p : Prg) (ls ss : List Int) : Bool := (codeB p == 0) && (areB p.lows ls && areB p.secrets ss)
/-- The start. -/
def startQ (p : Prg) (ls ss : List Int) : Sta := ⟨ls ++ ss ++ List.replicate p.temps.toNat 0, p.arrays.map (fun z => List.replicate z.toNat 0), []⟩
theorem code_parts {p : Prg} (h : codeB p = 0) : inpB p = true ∧ roomB p = true := by
  unfold codeB at h
  split at h
  · exact absurd h (by decide)
  split at h
  · exact absurd h (by decide)
  split at h
  · exact absurd h (by decide)
  rename_i h1 h2 h3
  exact ⟨by simpa using h2, by simpa using h3⟩
theorem are_in {S : Nat} {low : Bool} {ins : List Tm} {zs : List Int} (hi : inputsB S low ins = true) (h : areB ins zs = true) : ∀ z ∈ zs, 0 ≤ z ∧ z < (S : Int) := by
  obtain ⟨hl, ha⟩ := areB_ok h
  intro z hz
  obtain ⟨i, hi', rfl⟩ := List.getElem_of_mem hz
  have h1 := ha i hi'
  rw [List.getD_eq_getElem?_getD, List.getElem?_eq_getElem hi'] at h1
  simp only [Option.getD_some] at h1
  simp only [inputsB, Bool.and_eq_true, List.all_eq_true] at hi
  have h2 := hi.1 _ (tmAt_mem (show i < ins.length by omega))
  simp only [inpOk, Bool.and_eq_true, decide_eq_true_eq] at h2
  omega
/-- The start is a state of the program. -/
theorem start_ok {p : Prg} {ls ss : List Int} (h : startB p ls ss = true) : StaOk p (startQ p ls ss) := by
  simp only [startB, Bool.and_eq_true, beq_iff_eq] at h
  obtain ⟨hc, h1, h2⟩ := h
  obtain ⟨hi, hr⟩ := code_parts hc
  simp only [inpB, Bool.and_eq_true] at hi
  simp only [roomB, Bool.and_eq_true, decide_eq_true_eq, List.all_eq_true] at hr
  have hS : 0 < 2 ^ p.width.toNat := Nat.pow_pos (by omega)
  have zero : ∀ n : Nat, ∀ z ∈ List.replicate n (0 : Int), 0 ≤ z ∧ z < ((2 ^ p.width.toNat : Nat) : Int) := fun n z hz => by
    rw [(List.mem_replicate.1 hz).2]
    exact ⟨by omega, by omega⟩
  have l1 := (areB_ok h1).1
  have l2 := (areB_ok h2).1
  refine ⟨envB_of hc ?_ (by simp [envOf, startQ]) ⟨fun z hz => ?_, fun cs hcs z hz => ?_⟩ (fun i hi' => ?_), fun z hz => by simp [startQ] at hz⟩
  · simp only [envOf, startQ, List.length_append, List.length_replicate]
    omega
  · simp only [envOf, startQ, List.mem_append] at hz
    rcases hz with (hz | hz) | hz
    · exact are_in hi.1.1 h1 z hz
    · exact are_in hi.1.2 h2 z hz
    · exact zero _ z hz
  · simp only [envOf, startQ, List.mem_map] at hcs
    obtain ⟨y, _, rfl⟩ := hcs
    exact zero _ z hz
  · have hi2 : i < p.arrays.length := by simpa [envOf, startQ] using hi'
    have e : intsAt (envOf (startQ p ls ss)).cells i = List.replicate (p.arrays.getD i 0).toNat 0 := by
      simp [envOf, startQ, intsAt, List.getD_eq_getElem?_getD, List.getElem?_eq_getElem hi2]
    rw [e, List.length_replicate]
    have := hr.2 _ (getD_mem hi2)
    omega
set_option maxHeartbeats 800000 in
theorem areInputs_any (a a' : Option Addr) (n c n' c' : Nat) (ins : List Tm) (zs : List Int) (w : World) (h : Terms w a n ins) (h' : Ints w a' n' zs) :
    Calls Tryz.prog 52 #[.slice a n c, .slice a' n' c'] w fun e w' => e = .returned (.bool (areB ins zs)) ∧ w = w' := by
  have HL := Lib.hid h.1
  have HM := Lib.hid h'.1
  have hbd := h.2.1
  have hbe := h'.2.1
  by_cases hnm : n' = n
  case neg =>
    have hne : ((n' : Int) != (n : Int)) = true := by simp; omega
    go_enter Tryz.func52, Tryz.ntmps52
    go_wp2
    go_ret
    exact ⟨ret_bool (areB_len (fun e => hnm (by rw [← HL.out, ← HM.out, e]))).symm, rfl⟩
  subst hnm
  have hne0 : ((n' : Int) != (n' : Int)) = false := by simp
  go_enter Tryz.func52, Tryz.ntmps52
  go_wp2
  go_loop [14] (fun i => ∃ k : Nat, k ≤ n' ∧ i = .int .i64 (k : Int) ∧ Hid (AreTo ins zs k)) (fun i => n' - (intOf i).toNat)
  case atStart => exact ⟨0, Nat.zero_le _, rfl, Lib.hid (AreTo.zero _ _)⟩
  case round =>
    obtain ⟨k, hk, rfl, hg⟩ := hrel
    by_cases hlt : k < n'
    · obtain ⟨b1, o1, x, y, rfl, hb1, hz1, hi1, hi2, hc1, hc2⟩ := h.at_ hlt
      obtain ⟨b2, o2, z, rfl, hb2, hz2, hi3, hc3⟩ := h'.at_ hlt
      clear hc2
      go_wp2_with fail
      refine (isWithin_any z 0 x _).mono ?_
      rintro e w1 ⟨rfl, rfl⟩
      by_cases hin : 0 ≤ z ∧ z ≤ x
      · rw [decide_eq_true hin.1, decide_eq_true hin.2]
        have HG := Lib.hid (hg.out.succ hz2 hz1 hin.1 hin.2)
        clear hin hg
        go_wp2
        go_round
        case rel => exact ⟨k + 1, by omega, by go_num, HG⟩
        case measure => simp [intOf]; omega
      · have HX : Hid ((decide (0 ≤ z) && decide (z ≤ x)) = false) := Lib.hid (by
          rcases Decidable.not_and_iff_or_not.1 hin with h | h
          · rw [decide_eq_false h, Bool.false_and]
          · rw [decide_eq_false h, Bool.and_false])
        have HB := Lib.hid (areB_bad (by rw [HM.out]; exact hlt) hz2 hz1 hin)
        rw [HX.out]
        clear hin HX
        go_wp2
        go_ret
        exact ⟨ret_bool HB.out.symm, rfl⟩
    · obtain rfl : n' = k := by omega
      go_wp2
      go_ret
      exact ⟨ret_bool (areB_all (HM.out.trans HL.out.symm) (by rw [HM.out]; exact hg.out)).symm, rfl⟩
end Go.Proofs.YtflojbjeloilaaaGreat
