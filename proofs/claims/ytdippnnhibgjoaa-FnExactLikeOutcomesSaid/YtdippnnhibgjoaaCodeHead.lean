/- What a right program's head is. -/
import Derived.Test.YtdippnnhibgjoaaSpecProgOk
namespace Go.Proofs.Ytdippnnhibgjoaa
open Go.RowKit

theorem code_head {p : Prg} (h : codeB p = 0) : 1 ≤ p.width ∧ p.width ≤ 8 ∧ p.lows.length ≤ 3 ∧ p.secrets.length ≤ 3 ∧ 0 ≤ p.temps ∧ p.temps ≤ 6 ∧ p.arrays.length ≤ 2 ∧ p.body.length ≤ 40 := by
  unfold codeB at h
  split at h
  · exact absurd h (by decide)
  split at h
  · exact absurd h (by decide)
  split at h
  · exact absurd h (by decide)
  rename_i h1 h2 h3
  have hr : roomB p = true := by simpa using h3
  have hi : inpB p = true := by simpa using h2
  have hw : 1 ≤ p.width ∧ p.width ≤ 8 := by simpa using h1
  simp only [roomB, Bool.and_eq_true, decide_eq_true_eq] at hr
  simp only [inpB, inputsB, Bool.and_eq_true, decide_eq_true_eq] at hi
  exact ⟨hw.1, hw.2, hi.1.1.2, hi.1.2.2, hr.1.1.1.1, hr.1.1.1.2, hr.1.1.2, hr.1.2⟩
theorem code_lim {w : World} {r : PRow} {p : Prg} (hp : ProgAt w r p) (h : codeB p = 0) : Lim r p.width.toNat (p.lows.length + p.secrets.length) p.temps.toNat p.arrays.length := by
  obtain ⟨h1, h2, h3, h4, h5, h6, h7, h8⟩ := code_head h
  have e1 := hp.lows.1
  have e2 := hp.secrets.1
  have e3 := hp.arrays.1
  have e4 := hp.width
  have e5 := hp.temps
  exact ⟨by omega, by omega, by omega, by omega, by omega, by omega, by omega, by omega⟩
end Go.Proofs.Ytdippnnhibgjoaa
