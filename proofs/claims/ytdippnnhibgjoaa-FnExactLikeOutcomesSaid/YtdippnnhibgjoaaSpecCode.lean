/- The contract of the model's CodeOf. -/
import Derived.Test.YtdippnnhibgjoaaSpecStepsOf
import Derived.Test.YtdippnnhibgjoaaSpecStmts
namespace Go.Proofs.Ytdippnnhibgjoaa
open Go.RowKit

open Classical in
/-- The steps of a whole body. -/
noncomputable def stepsN (ss : List Stm) : Nat := if h : ∃ s, Steps ss 0 ss.length s then h.choose else 0
theorem stepsN_spec {ss : List Stm} (h : ∃ s, Steps ss 0 ss.length s) : Steps ss 0 ss.length (stepsN ss) := by
  unfold stepsN
  rw [dif_pos h]
  exact h.choose_spec
def inpB (p : Prg) : Bool := (inputsB (2 ^ p.width.toNat) true p.lows && inputsB (2 ^ p.width.toNat) false p.secrets) && decide (bitsTo p.lows p.lows.length + bitsTo p.secrets p.secrets.length ≤ 10)
def stmtsB (p : Prg) : Bool := p.body.all (stmtB (2 ^ p.width.toNat) (p.lows.length + p.secrets.length) p.temps.toNat p.arrays.length)
/-- What CodeOf answers. -/
noncomputable def codeB (p : Prg) : Int :=
  if ¬ (1 ≤ p.width ∧ p.width ≤ 8) then 1
  else if inpB p = false then 2
  else if roomB p = false then 3
  else if stmtsB p = false then 4
  else if blockOf p.body 0 ≠ (p.body.length : Int) then 5
  else if 400 < stepsN p.body then 6 else 0
theorem loops_ok {S I T A : Nat} {ss : List Stm} (h : ss.all (stmtB S I T A) = true) : LoopsOk ss := by
  intro i hi h5
  have := List.all_eq_true.1 h _ (stAt_mem hi)
  unfold opAt at h5
  simp only [stmtB, Bool.and_eq_true] at this
  have hn := this.2
  rw [h5] at hn
  simp only [numOk] at hn
  simp at hn
  exact ⟨(stAt ss i).n.toNat, by omega, by omega⟩
end Go.Proofs.Ytdippnnhibgjoaa
