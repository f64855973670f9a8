/- Joined texts of this proof (DrawTerm, Caps), in build order. -/
import Derived.Test.YtbnpoliogldohaaGreatS31
import Derived.Test.YtbnpoliogldohaaGreatS3
import Derived.Test.YtbnpoliogldohaaGreatS1
import Derived.Deep.DeepCutAuto
import Derived.Test.YtbnpoliogldohaaGreatS19
/- The contracts of the model's draws of expressions. What is drawn is not told, only how long it is at most. -/
namespace Go.Proofs.YtbnpoliogldohaaGreat
open Go.RowKit

/-- How long an expression of that depth is at most. -/
def longest : Nat → Nat
  | 0 => 1
  | d + 1 => 3 * longest d + 1
theorem ownT_empty (w : World) (B : Nat) (hB : B ≤ w.heap.size) : OwnT (w.alloc (.cells #[] 138)) B (some ⟨w.heap.size, 0, none⟩) 0 0 [] := ⟨own_emptyT w B hB, by omega, fun t ht => by simp at ht⟩

end Go.Proofs.YtbnpoliogldohaaGreat
/- No slice of a program is longer than its room; a statement of a program: its cells, what they read as. -/
namespace Go.Proofs.YtbnpoliogldohaaGreat
open Go.RowKit

/-- No slice of the program is longer than its room. -/
structure Caps (r : PRow) : Prop where
  body : r.body.2.1 ≤ r.body.2.2
  ats : ∀ i, i < r.rows.length → (srAt r.rows i).at_.2.1 ≤ (srAt r.rows i).at_.2.2
  exps : ∀ i, i < r.rows.length → (srAt r.rows i).exp.2.1 ≤ (srAt r.rows i).exp.2.2
theorem OwnProg.caps {w : World} {B : Nat} {r : PRow} {p : Prg} (h : OwnProg w B r p) : Caps r := by
  have hl : r.rows.length = r.body.2.1 := h.body.reads.1
  refine ⟨h.cap, fun i hi => ?_, fun i hi => ?_⟩
  · exact own_cap (h.body.2.2.2.1 i (by omega)).2.2.2.2.1.1
  · exact own_cap (h.body.2.2.2.1 i (by omega)).2.2.2.2.2.1
/-- A statement of a program: its cells, what they read as. -/
theorem stmt_row {w : World} {r : PRow} {p : Prg} {k : Nat} (h : ProgAt w r p) (hc : Caps r) (hk : k < p.body.length) :
    ∃ b o x y ba m1 d1 bb m2 d2 ts us, r.body.1 = some ⟨b, o, none⟩ ∧ b < w.heap.size ∧ Hid (stAt p.body k = ⟨x, y, ts, us⟩) ∧ w.cell? ⟨b, o + k * 4, none⟩ = some (.int .i64 x) ∧ w.cell? ⟨b, o + k * 4 + 1, none⟩ = some (.int .i64 y) ∧ w.cell? ⟨b, o + k * 4 + 2, none⟩ = some (.slice ba m1 d1) ∧ w.cell? ⟨b, o + k * 4 + 3, none⟩ = some (.slice bb m2 d2) ∧ m1 ≤ d1 ∧ m2 ≤ d2 ∧ Terms w ba m1 ts ∧ Terms w bb m2 us := by
  obtain ⟨h1, h2, h3, h4, h5⟩ := h.body
  obtain ⟨b, o, e, hb, hcell⟩ := h4 (by omega)
  obtain ⟨s1, s2, s3, s4, s5, s6⟩ := h5 k (by omega)
  obtain ⟨k1, k2, k3, k4⟩ := hcell k (by omega)
  rw [s1] at k1
  rw [s2] at k2
  exact ⟨b, o, _, _, _, _, _, _, _, _, _, _, e, hb, rfl, k1, k2, k3, k4, hc.ats k (by omega), hc.exps k (by omega), s5, s6⟩
end Go.Proofs.YtbnpoliogldohaaGreat
