/- What a right program's body is, for the law of ends. -/
import Derived.Test.YteigeihbokkpiaaNestBal
import Derived.Test.YteigeihbokkpiaaSpecProgOk
namespace Go.Proofs.Yteigeihbokkpiaa

theorem codeB_nest {p : Prg} (h : codeB p = 0) : p.body.length ≤ 40 ∧ blockOf p.body 0 = (p.body.length : Int) := by
  unfold codeB at h
  split at h
  · exact absurd h (by decide)
  split at h
  · exact absurd h (by decide)
  split at h
  · exact absurd h (by decide)
  split at h
  · exact absurd h (by decide)
  split at h
  · exact absurd h (by decide)
  rename_i h3 h4 h5
  have hr : roomB p = true := by simpa using h3
  simp only [roomB, Bool.and_eq_true, decide_eq_true_eq] at hr
  exact ⟨by omega, by simpa using h5⟩
theorem tilt_small (x : Int) : -1 ≤ tilt x ∧ tilt x ≤ 1 := by unfold tilt; split <;> (try split) <;> omega
theorem bal_small (ss : List Stm) : ∀ k : Nat, -(k : Int) ≤ bal ss k ∧ bal ss k ≤ (k : Int)
  | 0 => ⟨by simp [bal], by simp [bal]⟩
  | k + 1 => by
    have h1 := bal_small ss k
    have h2 := tilt_small (opAt ss k)
    simp only [bal]
    omega
theorem field_body (v0 v1 v2 v3 v4 v5 : Value) (w : World) : Sem.run Try.prog (Instr.field 28 (.agg #[v0, v1, v2, v3, v4, v5]) 5) w = .ok v5 w := by kernel_rfl
end Go.Proofs.Yteigeihbokkpiaa
