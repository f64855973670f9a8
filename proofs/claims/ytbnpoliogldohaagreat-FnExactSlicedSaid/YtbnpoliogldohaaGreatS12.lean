/- The contract of the model's l5Value: an expression's value and its first trap. -/
import Derived.Test.YtbnpoliogldohaaGreatS9
import Derived.Test.YtbnpoliogldohaaGreatS11
import Derived.Deep.DeepCutAuto
import Derived.Deep.CutBlock
namespace Go.Proofs.YtbnpoliogldohaaGreat
open Go.RowKit

def zl (st : List Nat) : List Int := st.map Int.ofNat
theorem stk_lt {W : Nat} (hW : 1 ≤ W) {V : List Int} {C : List (List Int)} (he : InEnv (2 ^ W) V C) {ts : List Tm} (ht : ∀ t ∈ ts, t.1 = 0 → t.2 < ((2 ^ W : Nat) : Int)) : ∀ k, k ≤ ts.length → ∀ x ∈ stkV (2 ^ W) V C (ts.take k), x < 2 ^ W := by
  intro k
  induction k with
  | zero => intro _ x hx; simp [stkV] at hx
  | succ k ih =>
    intro hk
    rw [stkV_succ _ _ _ _ _ (by omega)]
    exact stepV_lt hW he (ht _ (tmAt_mem (by omega))) (ih (by omega))
/-- What a right expression, over an environment, allows. -/
structure Reck (S : Nat) (v : Envr) (ts : List Tm) : Prop where
  run : runD 0 ts = some 1
  long : ts.length ≤ 3000
  named : ∀ t ∈ ts, nameOk S v.vars.length v.cells.length t = true
  env : InEnv S v.vars v.cells
end Go.Proofs.YtbnpoliogldohaaGreat
