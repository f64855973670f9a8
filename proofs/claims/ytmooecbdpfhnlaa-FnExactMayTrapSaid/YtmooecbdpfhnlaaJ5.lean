/- What a law's arguments are, as the statement's own reading gives them: a slice of Terms. -/
import Derived.Test.YtmooecbdpfhnlaaJ2
import Derived.Deep.SlicePairs
import Derived.ChangeArms
namespace Go.Proofs.Ytmooecbdpfhnlaa
open Go.RowKit Go.ChangeShapes Go.WideShapes

/-- An argument that is a slice of Terms: of no more than 2^20, it reads as such. -/
def ArgTerms (w : World) (a : Option Addr) (len : Nat) : Prop := len ≤ maxLen ∧ (len ≤ 1048576 → ∃ ts, Terms w a len ts)

theorem argTerms_of {H : Type} {enc : TypeId × Value → H} {w : World} {base : Nat} {spare : Nat → Bool} {held : Bool} {a : Option Addr} {len cap : Nat} {d : DataW H} {p : List MemPlace}
    (h : DataW.Trod enc Try.prog w base spare held 62 (.slice a len cap) d p) : ArgTerms w a len := by
  refine ⟨?_, fun hlen => ?_⟩
  · obtain ⟨fuel, hf⟩ := h
    rcases Go.Deep.open_slice_pairs Try.underlying62 Try.underlying114 (by kernel_rfl) rfl rfl (by kernel_rfl) (by kernel_rfl) hf with ⟨hcs, _⟩ | ⟨x, l, c, m, n, V0, V1, D0, D1, P0, P1, hcs, _, hl, hm, _⟩
    · simp [Value.cells] at hcs
      omega
    · simp [Value.cells] at hcs
      omega
  obtain ⟨fuel, hf⟩ := h
  rcases Go.Deep.open_slice_pairs Try.underlying62 Try.underlying114 (by kernel_rfl) rfl rfl (by kernel_rfl) (by kernel_rfl) hf with ⟨hcs, _⟩ | ⟨x, l, c, m, n, V0, V1, D0, D1, P0, P1, hcs, _, hl, hm, hmm, _, hcell⟩
  · simp [Value.cells] at hcs
    obtain ⟨rfl, rfl, rfl⟩ := hcs
    exact ⟨[], rfl, by omega, fun t ht => by simp at ht, fun h0 => absurd h0 (by omega)⟩
  · simp [Value.cells] at hcs
    obtain ⟨rfl, rfl, rfl⟩ := hcs
    have hlm : len ≤ m := by rw [hmm]; split <;> omega
    have each : ∀ i, i < len → ∃ t : Tm, InTm t ∧ w.cell? (x.add (i * 2)) = some (.int .i64 t.1) ∧ w.cell? (x.add (i * 2 + 1)) = some (.int .i64 t.2) := by
      intro i hi
      obtain ⟨h0, h1, h2, h3⟩ := hcell i (by omega)
      obtain ⟨n0, e0, _, w0⟩ := DataW.trod_int Try.underlying2 h2
      obtain ⟨n1, e1, _, w1⟩ := DataW.trod_int Try.underlying2 h3
      have b0 := bounds_i64 w0
      have b1 := bounds_i64 w1
      injection e0 with e0
      injection e1 with e1
      exact ⟨(n0, n1), ⟨⟨b0.1, by have := b0.2; omega⟩, ⟨b1.1, by have := b1.2; omega⟩⟩, by rw [h0, e0], by rw [h1, e1]⟩
    obtain ⟨q, hq⟩ := Go.Deep.choose_lt each
    have hat : ∀ i, i < len → tmAt ((List.range len).map q) i = q i := fun i hi => by simp [tmAt, List.getD_eq_getElem?_getD, hi]
    refine ⟨(List.range len).map q, by simp, hlen, fun t ht => ?_, fun hp => ?_⟩
    · obtain ⟨i, hi, rfl⟩ := List.mem_map.1 ht
      exact (hq i (List.mem_range.1 hi)).1
    · obtain ⟨b, off, spot⟩ := x
      have hspot : spot = none := by simpa [Addr.add] using World.cell?_spot (hq 0 hp).2.1
      subst hspot
      refine ⟨b, off, rfl, World.block_lt_of_cell? w ⟨b, off + 0 * 2, none⟩ (by have := (hq 0 hp).2.1; rwa [Go.WideShapes.add_plain] at this), fun i hi => ?_⟩
      rw [hat i hi]
      have h1 := (hq i hi).2.1
      have h2 := (hq i hi).2.2
      rw [Go.WideShapes.add_plain] at h1 h2
      exact ⟨h1, by rw [Nat.add_assoc]; exact h2⟩
end Go.Proofs.Ytmooecbdpfhnlaa
