/- A law's argument that is an environment: what it is, as the statement's own reading gives it; what szEnv answers for it. -/
import Derived.Test.YtdippnnhibgjoaaEnvCopies
import Derived.Deep.RegionHeld3
namespace Go.Proofs.Ytdippnnhibgjoaa
open Go.RowKit Go.ChangeShapes Go.WideShapes

def RowsIA (w : World) (a : Option Addr) (n : Nat) (rs : List Sl) : Prop :=
  rs.length = n ∧ (0 < n → ∃ b o, a = some ⟨b, o, none⟩ ∧ b < w.heap.size ∧ ∀ i, i < n → w.cell? ⟨b, o + i, none⟩ = some (slV (slAt rs i))) ∧ ∀ i, i < n → ArgInts w (slAt rs i).1 (slAt rs i).2.1
/-- An argument that is a slice of slices of numbers. -/
def ArgIS (w : World) (a : Option Addr) (len : Nat) : Prop := len ≤ maxLen ∧ (len ≤ 1048576 → ∃ rs, RowsIA w a len rs)
theorem RowsIA.below {w w' : World} {a : Option Addr} {n : Nat} {rs : List Sl} (h : RowsIA w a n rs) (hb : Below w.heap.size w w') : RowsIA w' a n rs := by
  obtain ⟨h1, h2, h3⟩ := h
  refine ⟨h1, fun hp => ?_, fun i hi => (h3 i hi).below hb⟩
  obtain ⟨b, o, rfl, hbl, hc⟩ := h2 hp
  exact ⟨b, o, rfl, Nat.lt_of_lt_of_le hbl hb.size, fun i hi => (hb.cell hbl).trans (hc i hi)⟩
theorem ArgIS.below {w w' : World} {a : Option Addr} {n : Nat} (h : ArgIS w a n) (hb : Below w.heap.size w w') : ArgIS w' a n :=
  ⟨h.1, fun hn => by obtain ⟨rs, hr⟩ := h.2 hn; exact ⟨rs, hr.below hb⟩⟩
structure ArgEnv (w : World) (r : ERow) : Prop where
  vars : ArgInts w r.vars.1 r.vars.2.1
  cells : ArgIS w r.cells.1 r.cells.2.1
theorem ArgEnv.below {w w' : World} {r : ERow} (h : ArgEnv w r) (hb : Below w.heap.size w w') : ArgEnv w' r := ⟨h.vars.below hb, h.cells.below hb⟩
def sumI (rs : List Sl) : Nat → Nat
  | 0 => 0
  | k + 1 => sumI rs k + (slAt rs k).2.1
theorem sumI_mono (rs : List Sl) {j k : Nat} (h : j ≤ k) : sumI rs j ≤ sumI rs k := by
  induction k with
  | zero => obtain rfl : j = 0 := by omega
            exact Nat.le_refl _
  | succ k ih =>
    rcases Nat.lt_or_ge j (k + 1) with hlt | hge
    · exact Nat.le_trans (ih (by omega)) (by simp only [sumI]; omega)
    · obtain rfl : j = k + 1 := by omega
      exact Nat.le_refl _
theorem sumI_each (rs : List Sl) {i n : Nat} (h : i < n) : (slAt rs i).2.1 ≤ sumI rs n := by
  have := sumI_mono rs (show i + 1 ≤ n by omega)
  simp only [sumI] at this
  omega
theorem RowsIA.reads {w : World} {a : Option Addr} {n : Nat} {rs : List Sl} (h : RowsIA w a n rs) (hn : n + sumI rs n ≤ 1048576) : ∃ css, IntsSS w a n rs css := by
  obtain ⟨h1, h2, h3⟩ := h
  have each : ∀ i, i < n → ∃ zs, Ints w (slAt rs i).1 (slAt rs i).2.1 zs := fun i hi => (h3 i hi).2 (by have := sumI_each rs hi; omega)
  obtain ⟨q, hq⟩ := Go.Deep.choose_lt each
  exact ⟨(List.range n).map q, h1, by simp, by omega, h2, fun i hi => by
    rw [show intsAt ((List.range n).map q) i = q i by simp [intsAt, List.getD_eq_getElem?_getD, hi]]
    exact hq i hi⟩

end Go.Proofs.Ytdippnnhibgjoaa
