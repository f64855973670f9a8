/- How long the parts of an expression are together. -/
import Derived.Test.YtjfdmdemgnponaaSpecParts
import Derived.Test.YtjfdmdemgnponaaMarkSS
namespace Go.Proofs.Ytjfdmdemgnponaa
open Go.RowKit

theorem sumL_map (kids : List Tr) : ∀ k, k ≤ kids.length → sumL (kids.map Tr.flat) k = (Tr.flats (kids.take k)).length := by
  intro k
  induction k with
  | zero => intro _; rfl
  | succ k ih =>
    intro h
    have e : tsAt (kids.map Tr.flat) k = (kids.getD k default).flat := by
      simp [tsAt, List.getD_eq_getElem?_getD, List.getElem?_eq_getElem (show k < kids.length by omega)]
    rw [sumL, ih (by omega), flats_take_succ kids k (by omega), List.length_append, e]
theorem partsL_sum (ts : List Tm) (n : Nat) (hn : (partsL ts).length = n) : sumL (partsL ts) n ≤ 3000 := by
  subst hn
  cases hok : expB ts with
  | false => rw [partsL_no hok]; simp [sumL]
  | true =>
    obtain ⟨op, nn, kids, hstk, hts, hop, hkl, hkok⟩ := tree_of ((expB_iff ts).1 hok).2
    rw [partsL_yes hok hstk]
    rw [List.length_map, sumL_map kids _ (Nat.le_refl _), List.take_length]
    have e := congrArg List.length hts
    rw [List.length_append, List.length_singleton] at e
    have := ((expB_iff ts).1 hok).1
    omega
end Go.Proofs.Ytjfdmdemgnponaa
