/- A well nested part takes some steps; the contract of the model's l3Steps. -/
import Derived.Test.YtdippnnhibgjoaaStepsMath
import Derived.Test.YtdippnnhibgjoaaSpecEnd
namespace Go.Proofs.Ytdippnnhibgjoaa
open Go.RowKit

/-- The loops' numbers are from 0 to 4. -/
def LoopsOk (ss : List Stm) : Prop := ∀ i, i < ss.length → opAt ss i = 5 → ∃ k : Nat, k ≤ 4 ∧ (stAt ss i).n = (k : Int)
theorem isAt_op {ss : List Stm} {z op : Int} (h : isAt ss z op = true) : opAt ss z.toNat = op := by
  simp only [isAt, Bool.and_eq_true, beq_iff_eq] at h
  exact h.2
/-- A body that ends at j takes some steps up to there. -/
theorem part_steps {ss : List Stm} (hL : LoopsOk ss) : ∀ (d i j : Nat), ss.length - i ≤ d → i ≤ ss.length → blockOf ss i = (j : Int) → ∃ s, Steps ss i j s
  | 0, i, j, hd, hi, hb => by
    rw [block_past (by omega)] at hb
    obtain rfl : i = j := by omega
    exact ⟨0, .nil i⟩
  | d + 1, i, j, hd, hi, hb => by
    by_cases hlt : i < ss.length
    case neg =>
      rw [block_past (by omega)] at hb
      obtain rfl : i = j := by omega
      exact ⟨0, .nil i⟩
    by_cases hs : opAt ss i = 3 ∨ opAt ss i = 9 ∨ opAt ss i = 4
    · rw [block_stop hlt hs] at hb
      obtain rfl : i = j := by omega
      exact ⟨0, .nil i⟩
    by_cases ho : opAt ss i = 2 ∨ opAt ss i = 5 ∨ opAt ss i = 8
    case neg =>
      rw [block_next hlt hs ho] at hb
      obtain ⟨s, h⟩ := part_steps hL d (i + 1) j (by omega) (by omega) hb
      exact ⟨_, .plain hlt (fun h => ho (.inl h)) (fun h => ho (.inr (.inl h))) (fun h => ho (.inr (.inr h))) h⟩
    have hin := end_in ss hlt
    by_cases he : (endOf ss i).2 < 0
    · rw [block_bad hlt ho he] at hb
      omega
    rw [block_over hlt ho (by omega)] at hb
    obtain ⟨M, hM⟩ : ∃ M, blockOf ss (i + 1) = M := ⟨_, rfl⟩
    have heq := end_eq hlt hM
    obtain ⟨⟨p1, p2⟩, hP⟩ : ∃ P, endOf ss i = P := ⟨_, rfl⟩
    rw [hP] at hin he hb heq
    simp only [] at he hb
    have hin2 : (i : Int) < p2 ∧ p2 < ss.length ∧ (p1 = -1 ∨ ((i : Int) < p1 ∧ p1 < p2)) := by
      rcases hin with q | q
      · injection q with q1 q2; omega
      · exact q
    obtain ⟨e, rfl⟩ : ∃ e : Nat, p2 = (e : Int) := ⟨p2.toNat, by omega⟩
    rw [Int.toNat_natCast] at hb
    obtain ⟨t, ht⟩ := part_steps hL d (e + 1) j (by omega) (by omega) hb
    have one : p1 = -1 → M = (e : Int) → ∃ s, Steps ss (i + 1) e s := fun _ h => part_steps hL d (i + 1) e (by omega) (by omega) (hM.trans h)
    have neg : ¬ ((e : Int) = -1) := by omega
    have two : ∀ m : Nat, M = (m : Int) → (i : Int) < m → m < ss.length → blockOf ss (M.toNat + 1) = (e : Int) → (∃ s, Steps ss (i + 1) m s) ∧ ∃ s, Steps ss (m + 1) e s := fun m h1 h2 h3 h4 => by
      rw [h1, Int.toNat_natCast] at h4
      exact ⟨part_steps hL d (i + 1) m (by omega) (by omega) (hM.trans h1), part_steps hL d (m + 1) e (by omega) (by omega) h4⟩
    rcases ho with ho | ho | ho
    · rw [ho, if_neg (by decide), if_pos rfl] at heq
      split at heq
      · injection heq with e1 e2
        obtain ⟨s, h⟩ := one e1 e2.symm
        exact ⟨_, .one hlt ho (by rw [hP, e1]) h ht⟩
      · split at heq
        · split at heq
          · injection heq with e1 e2
            rename_i hm _
            have hr := isAt_range hm
            have hb' := block_in ss (i := i + 1) (by omega)
            rw [hM] at hb'
            obtain ⟨m, rfl⟩ : ∃ m : Nat, M = (m : Int) := ⟨M.toNat, by omega⟩
            obtain ⟨⟨s, h⟩, s', h'⟩ := two m rfl (by rcases hb' with q | q <;> omega) (by omega) e2.symm
            exact ⟨_, .two hlt ho (by rw [hP, e1]) h h' ht⟩
          · injection heq with e1 e2; exact absurd e2 neg
        · injection heq with e1 e2; exact absurd e2 neg
    · rw [ho, if_pos rfl] at heq
      split at heq
      · injection heq with e1 e2
        obtain ⟨s, h⟩ := one e1 e2.symm
        obtain ⟨k, hk4, hk⟩ := hL i hlt ho
        exact ⟨_, .loop hlt ho (by rw [hP, e1]) hk hk4 h ht⟩
      · injection heq with e1 e2; exact absurd e2 neg
    · rw [ho, if_neg (by decide), if_neg (by decide), if_pos rfl] at heq
      split at heq
      · split at heq
        · injection heq with e1 e2
          rename_i hm _
          have hr := isAt_range hm
          have hb' := block_in ss (i := i + 1) (by omega)
          rw [hM] at hb'
          obtain ⟨m, rfl⟩ : ∃ m : Nat, M = (m : Int) := ⟨M.toNat, by omega⟩
          obtain ⟨⟨s, h⟩, s', h'⟩ := two m rfl (by rcases hb' with q | q <;> omega) (by omega) e2.symm
          exact ⟨_, .attempt hlt ho (by rw [hP, e1]) h h' ht⟩
        · injection heq with e1 e2; exact absurd e2 neg
      · injection heq with e1 e2; exact absurd e2 neg
end Go.Proofs.Ytdippnnhibgjoaa
