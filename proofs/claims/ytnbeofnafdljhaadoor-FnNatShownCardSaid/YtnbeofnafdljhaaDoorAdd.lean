/- The contracts of the functions that add great numbers. -/
import Derived.Test.YtnbeofnafdljhaaDoorCarry
namespace Go.Proofs.YtnbeofnafdljhaaDoor
open Go.RowKit

/-- A list of limbs, noughts behind it, N in all. -/
def PadTo (d : List Int) (N : Nat) : List Int := d ++ List.replicate (N - d.length) 0
theorem padTo_nil (N : Nat) : PadTo [] N = List.replicate N 0 := by simp [PadTo]
theorem padTo_full {d : List Int} {N : Nat} (h : d.length = N) : PadTo d N = d := by simp [PadTo, h]
theorem padTo_set {d : List Int} {N k : Nat} (z : Int) (h : d.length = k) (hk : k < N) : (PadTo d N).set k z = PadTo (d ++ [z]) N := by
  subst h
  unfold PadTo
  rw [List.set_append_right _ _ (Nat.le_refl _), Nat.sub_self, List.append_assoc]
  congr 1
  rw [show N - d.length = (N - (d ++ [z]).length) + 1 by simp; omega, List.replicate_succ]
  simp
theorem made_zeros {w : World} {B g n cap : Nat} (h : w.ownsRow B 2 1 (.slice (some ⟨g, 0, none⟩) n cap) n (madeCells #[Value.int IntKind.i64 0] n).toList) :
    w.ownsRow B 2 1 (.slice (some ⟨g, 0, none⟩) n cap) n ((PadTo [] n).map (Value.int .i64)) := by
  have e : (madeCells #[Value.int IntKind.i64 0] n).toList = (PadTo [] n).map (Value.int .i64) := by
    rw [toList_madeCells_one, padTo_nil]; simp
  rw [← e]; exact h

theorem wpList_makeInts {ops : Array Oper} {rest : List Oper} {o : Oper} {ac : Act} {Q : Exit → Act → World → Prop} (w : World) (hg : o.guard = none) (l c : Operand) (t : TypeId) (hop : o.op = Op.makeSlice t l c) (ht : Tryd.prog.underlying t = some (.slice 2))
    (L : Int) (n : Nat) (hl : ac.eval l = .int .i64 L) (hc : ac.eval c = .int .i64 L) (hL : L = (n : Int)) (hn : n ≤ 1048576)
    (hK : ∀ w', w'.ownsRow w.heap.size 2 1 (.slice (some ⟨w.heap.size, 0, none⟩) n n) n ((PadTo [] n).map (Value.int .i64)) → Below w.heap.size w w' → wpList Tryd.prog ops Q rest (ac.put o.dst (.slice (some ⟨w.heap.size, 0, none⟩) n n)) w') :
    wpList Tryd.prog ops Q (o :: rest) ac w := by
  obtain ⟨i0, hi, hz0, hz1, hz2⟩ := info_parts info_i64
  refine wpList_make_full w hg l c t hop w.heap.size 2 i0 (.int .i64 0) 1 ht hi hz0 hz1 .i64 .i64 L L n hl hc hL hL (by rw [hz2]; omega) (by unfold maxLen; omega) (Nat.le_refl _) ?_
  intro w' h1 h2
  refine hK w' (made_zeros ?_) ((Below.refl _ _).grown h2 (Nat.le_refl _) (fun k hk => by cases hk))
  rw [Nat.mul_one] at h1
  exact h1

theorem carry_zero {d : List Int} {k T : Nat} {c : Int} (h : val d + 10000 ^ k * c.toNat = T) (hT : T < 10000 ^ k) (hc : 0 ≤ c) : c = 0 := by
  rcases Int.lt_or_eq_of_le hc with h' | h'
  · have : 10000 ^ k * 1 ≤ 10000 ^ k * c.toNat := Nat.mul_le_mul_left _ (by omega)
    omega
  · exact h'.symm

end Go.Proofs.YtnbeofnafdljhaaDoor
