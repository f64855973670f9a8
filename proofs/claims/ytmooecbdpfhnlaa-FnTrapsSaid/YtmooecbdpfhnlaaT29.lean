/- The contracts of the model's ValueIn and PlainIn. -/
import Derived.Test.YtmooecbdpfhnlaaT28
namespace Go.Proofs.Ytmooecbdpfhnlaa
open Go.RowKit

/-- May it be reckoned? -/
noncomputable def reckB (p : Prg) (v : Envr) (ts : List Tm) : Bool := envB p v && namesB (2 ^ p.width.toNat) (p.lows.length + p.secrets.length + p.temps.toNat) p.arrays.length ts
noncomputable def plainB (p : Prg) (v : Envr) (ts : List Tm) : Nat := if reckB p v ts = true then (stkV (2 ^ p.width.toNat) v.vars v.cells ts).getD 0 0 else 0
noncomputable def trapB (p : Prg) (v : Envr) (ts : List Tm) : Int := if reckB p v ts = true then trapV (2 ^ p.width.toNat) v.vars v.cells ts ts.length else 0
noncomputable def valueB (p : Prg) (v : Envr) (ts : List Tm) : Nat := if trapB p v ts = 0 then plainB p v ts else 0

theorem valB_ok {S : Nat} {m : Int} {zs : List Int} (h : valB S m zs = true) : (zs.length : Int) = m ∧ ∀ z ∈ zs, 0 ≤ z ∧ z < (S : Int) := by
  simp only [valB, valsB, Bool.and_eq_true, decide_eq_true_eq, List.all_eq_true] at h
  exact ⟨h.1, fun z hz => h.2 z hz⟩
theorem envB_ok {p : Prg} {v : Envr} (h : envB p v = true) : codeB p = 0 ∧ (v.vars.length : Int) = (p.lows.length : Int) + (p.secrets.length : Int) + p.temps ∧ v.cells.length = p.arrays.length ∧ InEnv (2 ^ p.width.toNat) v.vars v.cells ∧ ∀ i, i < v.cells.length → ((intsAt v.cells i).length : Int) = p.arrays.getD i 0 := by
  simp only [envB, Bool.and_eq_true, decide_eq_true_eq, beq_iff_eq] at h
  obtain ⟨⟨h1, h2⟩, h3, h4⟩ := h
  obtain ⟨h5, h6⟩ := valB_ok h2
  simp only [cellsB, List.all_eq_true, List.mem_range] at h4
  refine ⟨h1, h5, h3, ⟨h6, fun cs hcs z hz => ?_⟩, fun i hi => (valB_ok (h4 i hi)).1⟩
  obtain ⟨i, hi, rfl⟩ := List.getElem_of_mem hcs
  have := (valB_ok (h4 i hi)).2
  unfold intsAt at this
  rw [List.getD_eq_getElem?_getD, List.getElem?_eq_getElem hi] at this
  exact this z hz
theorem names_ok {S V A : Nat} {ts : List Tm} (h : namesB S V A ts = true) : ts.length ≤ 3000 ∧ runD 0 ts = some 1 ∧ ∀ t ∈ ts, nameOk S V A t = true := by
  simp only [namesB, Bool.and_eq_true, List.all_eq_true] at h
  have := (expB_iff ts).1 h.1
  exact ⟨this.1, this.2, h.2⟩
theorem env_vars {p : Prg} {v : Envr} (h : envB p v = true) : v.vars.length = p.lows.length + p.secrets.length + p.temps.toNat := by
  obtain ⟨h1, h2, _⟩ := envB_ok h
  have := (code_head h1).2.2.2.2.1
  omega

theorem reck_of {p : Prg} {v : Envr} {ts : List Tm} (h1 : envB p v = true) (h2 : namesB (2 ^ p.width.toNat) (p.lows.length + p.secrets.length + p.temps.toNat) p.arrays.length ts = true) : Reck (2 ^ p.width.toNat) v ts := by
  obtain ⟨_, _, e3, e4, _⟩ := envB_ok h1
  obtain ⟨n1, n2, n3⟩ := names_ok h2
  exact ⟨n2, n1, fun t ht => by rw [env_vars h1, e3]; exact n3 t ht, e4⟩
end Go.Proofs.Ytmooecbdpfhnlaa
