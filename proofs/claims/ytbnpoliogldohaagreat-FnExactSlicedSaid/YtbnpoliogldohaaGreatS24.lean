/- Plain mathematics of rising lists: sorted, then without what stands twice; a number put in at its place. No Go text here. -/
import Derived.Test.YtbnpoliogldohaaGreatS1
import Derived.Lib.SlicesCompact
namespace Go.Proofs.YtbnpoliogldohaaGreat
open Go.RowKit Go.Lib

def sortI (zs : List Int) : List Int := zs.mergeSort (fun x y => decide (x ≤ y))
theorem sortI_len (zs : List Int) : (sortI zs).length = zs.length := by simp [sortI]
theorem mem_sortI {x : Int} {zs : List Int} : x ∈ sortI zs ↔ x ∈ zs := by simp [sortI]
theorem sortI_sorted (zs : List Int) : (sortI zs).Pairwise (· ≤ ·) := by
  have h := List.pairwise_mergeSort (le := fun x y : Int => decide (x ≤ y)) (fun a b c h1 h2 => by simp at h1 h2 ⊢; omega) (fun a b => by simp; omega) zs
  exact h.imp (fun h => by simpa using h)
theorem compact_rise (d : Array Int) (hs : ∀ i j, i < j → j < d.size → d[i]! ≤ d[j]!) : ∀ m, m ≤ d.size → Rise (compactUpTo d m) ∧ (∀ x, x ∈ compactUpTo d m ↔ ∃ j, j < m ∧ d[j]! = x) := by
  intro m
  induction m with
  | zero => intro _; exact ⟨by simp [compactUpTo, Rise], fun x => by simp [compactUpTo]⟩
  | succ m ih =>
    intro hm
    obtain ⟨h1, h2⟩ := ih (by omega)
    rw [compactUpTo_succ]
    have hle : ∀ x ∈ compactUpTo d m, 0 < m ∧ x ≤ d[m - 1]! := by
      intro x hx
      obtain ⟨j, hj, rfl⟩ := (h2 x).1 hx
      refine ⟨by omega, ?_⟩
      rcases Nat.lt_or_ge j (m - 1) with h' | h'
      · exact hs j (m - 1) h' (by omega)
      · have : j = m - 1 := by omega
        subst this; exact Int.le_refl _
    by_cases hk : keeps d m = true
    · rw [if_pos hk]
      have hk' : m = 0 ∨ d[m]! ≠ d[m - 1]! := by simpa [keeps] using hk
      refine ⟨List.pairwise_append.2 ⟨h1, List.pairwise_singleton _ _, fun x hx y hy => ?_⟩, fun x => ?_⟩
      · rw [List.mem_singleton] at hy
        subst hy
        obtain ⟨hm0, hxm⟩ := hle x hx
        have := hs (m - 1) m (by omega) (by omega)
        omega
      · rw [List.mem_append, List.mem_singleton, h2]
        constructor
        · rintro (⟨j, hj, e⟩ | e)
          · exact ⟨j, by omega, e⟩
          · exact ⟨m, by omega, e.symm⟩
        · rintro ⟨j, hj, e⟩
          rcases Nat.lt_or_ge j m with h' | h'
          · exact .inl ⟨j, h', e⟩
          · have : j = m := by omega
            subst this; exact .inr e.symm
    · rw [if_neg hk, List.append_nil]
      have hk' : ¬ (m = 0 ∨ d[m]! ≠ d[m - 1]!) := by simpa [keeps] using hk
      refine ⟨h1, fun x => ?_⟩
      rw [h2]
      constructor
      · rintro ⟨j, hj, e⟩; exact ⟨j, by omega, e⟩
      · rintro ⟨j, hj, e⟩
        rcases Nat.lt_or_ge j m with h' | h'
        · exact ⟨j, h', e⟩
        · have : j = m := by omega
          subst this
          exact ⟨j - 1, by omega, by rw [← e]; omega⟩
/-- The numbers of a list, each once, rising. -/
def riseL (zs : List Int) : List Int := compactUpTo (sortI zs).toArray zs.length
theorem riseL_is (zs : List Int) : Rise (riseL zs) ∧ ∀ x, x ∈ riseL zs ↔ x ∈ zs := by
  have hl := sortI_len zs
  have hp := sortI_sorted zs
  have hg : ∀ i, i < zs.length → (sortI zs).toArray[i]! = (sortI zs)[i]! := fun i hi => by simp
  obtain ⟨h1, h2⟩ := compact_rise (sortI zs).toArray (fun i j hij hj => by
    have hj' : j < (sortI zs).length := by simpa using hj
    have := List.pairwise_iff_getElem.1 hp i j (by omega) hj' hij
    simpa [getElem!_pos, hj', show i < (sortI zs).length by omega] using this) zs.length (by simp [hl])
  refine ⟨h1, fun x => ?_⟩
  unfold riseL
  rw [h2, ← mem_sortI]
  constructor
  · rintro ⟨j, hj, rfl⟩
    rw [hg j hj, getElem!_pos (sortI zs) j (by omega)]
    exact List.getElem_mem _
  · intro hx
    obtain ⟨j, hj, rfl⟩ := List.getElem_of_mem hx
    exact ⟨j, by omega, by rw [hg j (by omega), getElem!_pos (sortI zs) j hj]⟩
theorem riseL_congr {a b : List Int} (h : ∀ x, x ∈ a ↔ x ∈ b) : riseL a = riseL b :=
  rise_ext (riseL_is a).1 (riseL_is b).1 (fun x => by rw [(riseL_is a).2, (riseL_is b).2]; exact h x)
theorem riseL_eq {a l : List Int} (h1 : Rise l) (h2 : ∀ x, x ∈ l ↔ x ∈ a) : l = riseL a :=
  rise_ext h1 (riseL_is a).1 (fun x => by rw [(riseL_is a).2]; exact h2 x)

/-- With one number more, at its place (the list rises, and does not have it). -/
def putI (z : Int) : List Int → List Int
  | [] => [z]
  | x :: r => if z < x then z :: x :: r else x :: putI z r
theorem mem_putI {z y : Int} {l : List Int} : y ∈ putI z l ↔ y = z ∨ y ∈ l := by
  induction l with
  | nil => simp [putI]
  | cons x r ih =>
    simp only [putI]
    split
    · simp
    · simp only [List.mem_cons, ih]
      constructor
      · rintro (h | h | h) <;> simp [h]
      · rintro (h | h | h) <;> simp [h]
theorem putI_rise {z : Int} {l : List Int} (h : Rise l) (hz : z ∉ l) : Rise (putI z l) := by
  induction l with
  | nil => simp [putI, Rise]
  | cons x r ih =>
    have h' := List.pairwise_cons.1 h
    simp only [List.mem_cons, not_or] at hz
    simp only [putI]
    split
    · next hlt =>
      refine List.pairwise_cons.2 ⟨fun y hy => ?_, h⟩
      rcases List.mem_cons.1 hy with rfl | hy
      · exact hlt
      · have := h'.1 y hy; omega
    · next hge =>
      refine List.pairwise_cons.2 ⟨fun y hy => ?_, ih h'.2 hz.2⟩
      rcases mem_putI.1 hy with rfl | hy
      · omega
      · exact h'.1 y hy
/-- What the model's l2With makes. -/
def withI (l : List Int) (z : Int) : List Int := if z ∈ l then l else putI z l
theorem withI_is {l : List Int} (z : Int) (h : Rise l) : Rise (withI l z) ∧ ∀ y, y ∈ withI l z ↔ y = z ∨ y ∈ l := by
  unfold withI
  by_cases hz : z ∈ l
  · rw [if_pos hz]
    exact ⟨h, fun y => ⟨.inr, fun h' => h'.elim (fun e => by rw [e]; exact hz) id⟩⟩
  · rw [if_neg hz]
    exact ⟨putI_rise h hz, fun y => mem_putI⟩
end Go.Proofs.YtbnpoliogldohaaGreat
