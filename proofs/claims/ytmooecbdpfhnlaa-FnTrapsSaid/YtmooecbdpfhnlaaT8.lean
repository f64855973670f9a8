/- Joined texts of this proof (ProgArgs, ProgSize), in build order. -/
import Derived.Test.YtmooecbdpfhnlaaT6
import Derived.Test.YtmooecbdpfhnlaaT7
import Derived.Deep.Fields
/- What a law's arguments are, as the statement's own reading gives them: a slice of Stmts, a program; what the laws' own measures (szTermS, szInputS, szInt64S, szStmt, szStmtS, szProg) answer for them. -/
namespace Go.Proofs.Ytmooecbdpfhnlaa
open Go.RowKit Go.ChangeShapes Go.WideShapes

section
variable {H : Type} {enc : TypeId × Value → H} {w : World} {base : Nat} {spare : Nat → Bool} {held : Bool}
/-- An argument that is a slice of numbers: of no more than 2^20, it reads as such. -/
def ArgInts (w : World) (a : Option Addr) (len : Nat) : Prop := len ≤ maxLen ∧ (len ≤ 1048576 → ∃ zs, Ints w a len zs)
instance : Inhabited SRow := ⟨noRow⟩
/-- The cells of a slice of Stmts; each of its slices reads where it is not too long. -/
def RowsAt (w : World) (a : Option Addr) (n : Nat) (rs : List SRow) : Prop :=
  rs.length = n ∧
  (0 < n → ∃ b o, a = some ⟨b, o, none⟩ ∧ b < w.heap.size ∧ ∀ i, i < n → w.cell? ⟨b, o + i * 4, none⟩ = some (.int .i64 (srAt rs i).op) ∧ w.cell? ⟨b, o + i * 4 + 1, none⟩ = some (.int .i64 (srAt rs i).n) ∧ w.cell? ⟨b, o + i * 4 + 2, none⟩ = some (slV (srAt rs i).at_) ∧ w.cell? ⟨b, o + i * 4 + 3, none⟩ = some (slV (srAt rs i).exp)) ∧
  ∀ i, i < n → In64 (srAt rs i).op ∧ In64 (srAt rs i).n ∧ ArgTerms w (srAt rs i).at_.1 (srAt rs i).at_.2.1 ∧ ArgTerms w (srAt rs i).exp.1 (srAt rs i).exp.2.1
/-- An argument that is a slice of Stmts. -/
def ArgStmts (w : World) (a : Option Addr) (len : Nat) : Prop := len ≤ maxLen ∧ (len ≤ 1048576 → ∃ rs, RowsAt w a len rs)
end
end Go.Proofs.Ytmooecbdpfhnlaa
/- What the laws' own measures answer: szTermS, szInputS, szInt64S, szStmt, szStmtS, szProg. -/
namespace Go.Proofs.Ytmooecbdpfhnlaa
open Go.RowKit

/-- What is left of 'left' when n is taken: -1 where it does not last. -/
def szI (n left : Nat) : Int := if n ≤ left then ((left - n : Nat) : Int) else -1
/-- What the first k rows' slices take. -/
def sumTo (rs : List SRow) : Nat → Nat
  | 0 => 0
  | k + 1 => sumTo rs k + ((srAt rs k).at_.2.1 + (srAt rs k).exp.2.1)
theorem sumTo_mono (rs : List SRow) {j k : Nat} (h : j ≤ k) : sumTo rs j ≤ sumTo rs k := by
  induction k with
  | zero => obtain rfl : j = 0 := by omega
            exact Nat.le_refl _
  | succ k ih =>
    rcases Nat.lt_or_ge j (k + 1) with hlt | hge
    · exact Nat.le_trans (ih (by omega)) (Nat.le_add_right _ _)
    · obtain rfl : j = k + 1 := by omega
      exact Nat.le_refl _
theorem sumTo_at (rs : List SRow) {i n : Nat} (h : i < n) : (srAt rs i).at_.2.1 ≤ sumTo rs n ∧ (srAt rs i).exp.2.1 ≤ sumTo rs n := by
  have := sumTo_mono rs (show i + 1 ≤ n by omega)
  simp only [sumTo] at this
  omega
theorem RowsAt.below {w w' : World} {a : Option Addr} {n : Nat} {rs : List SRow} (h : RowsAt w a n rs) (hb : Below w.heap.size w w') : RowsAt w' a n rs := by
  obtain ⟨h1, h4, h5⟩ := h
  refine ⟨h1, fun hp => ?_, fun i hi => ?_⟩
  · obtain ⟨b, o, rfl, hbl, hc⟩ := h4 hp
    exact ⟨b, o, rfl, Nat.lt_of_lt_of_le hbl hb.size, fun i hi => ⟨(hb.cell hbl).trans (hc i hi).1, (hb.cell hbl).trans (hc i hi).2.1, (hb.cell hbl).trans (hc i hi).2.2.1, (hb.cell hbl).trans (hc i hi).2.2.2⟩⟩
  · obtain ⟨q1, q2, ⟨q3, q4⟩, q5, q6⟩ := h5 i hi
    exact ⟨q1, q2, ⟨q3, fun hn => by obtain ⟨ts, ht⟩ := q4 hn; exact ⟨ts, ht.below (Nat.le_refl _) hb⟩⟩, q5, fun hn => by obtain ⟨ts, ht⟩ := q6 hn; exact ⟨ts, ht.below (Nat.le_refl _) hb⟩⟩
theorem RowsAt.at_ {w : World} {a : Option Addr} {n : Nat} {rs : List SRow} (h : RowsAt w a n rs) {k : Nat} (hk : k < n) :
    ∃ b o x y a1 n1 c1 a2 n2 c2, a = some ⟨b, o, none⟩ ∧ b < w.heap.size ∧ Hid (srAt rs k = ⟨x, y, (a1, n1, c1), (a2, n2, c2)⟩) ∧ w.cell? ⟨b, o + k * 4, none⟩ = some (.int .i64 x) ∧ w.cell? ⟨b, o + k * 4 + 1, none⟩ = some (.int .i64 y) ∧ w.cell? ⟨b, o + k * 4 + 2, none⟩ = some (.slice a1 n1 c1) ∧ w.cell? ⟨b, o + k * 4 + 3, none⟩ = some (.slice a2 n2 c2) ∧ n1 ≤ maxLen ∧ n2 ≤ maxLen := by
  obtain ⟨h1, h4, h5⟩ := h
  obtain ⟨b, o, rfl, hb, hc⟩ := h4 (by omega)
  obtain ⟨_, _, s3, s4⟩ := h5 k hk
  obtain ⟨k1, k2, k3, k4⟩ := hc k hk
  exact ⟨b, o, _, _, _, _, _, _, _, _, rfl, hb, rfl, k1, k2, k3, k4, s3.1, s4.1⟩
/-- Rows that are not too long read as statements. -/
theorem RowsAt.reads {w : World} {a : Option Addr} {n : Nat} {rs : List SRow} (h : RowsAt w a n rs) (hs : n + sumTo rs n ≤ 1048576) : ∃ ss, Stmts w a n rs ss := by
  obtain ⟨h1, h4, h5⟩ := h
  have each : ∀ i, i < n → ∃ s : Stm, StmOf w (srAt rs i) s := by
    intro i hi
    obtain ⟨q1, q2, q3, q4⟩ := h5 i hi
    have := sumTo_at rs hi
    obtain ⟨ts, ht⟩ := q3.2 (by omega)
    obtain ⟨us, hu⟩ := q4.2 (by omega)
    exact ⟨⟨_, _, ts, us⟩, rfl, rfl, q1, q2, ht, hu⟩
  obtain ⟨q, hq⟩ := Go.Deep.choose_lt each
  refine ⟨(List.range n).map q, h1, by simp, by omega, h4, fun i hi => ?_⟩
  rw [show stAt ((List.range n).map q) i = q i by simp [stAt, List.getD_eq_getElem?_getD, hi]]
  exact hq i hi

end Go.Proofs.Ytmooecbdpfhnlaa
