/- The contract of the model's l5Value: an expression's value and its first trap. -/
import Derived.Test.YtmooecbdpfhnlaaT27
import Derived.Test.YtmooecbdpfhnlaaT18
import Derived.Deep.DeepCutAuto
import Derived.Deep.CutBlock
namespace Go.Proofs.Ytmooecbdpfhnlaa
open Go.RowKit

def zl (st : List Nat) : List Int := st.map Int.ofNat
theorem zl_len (st : List Nat) : (zl st).length = st.length := by simp [zl]
theorem zl_getD (st : List Nat) (i : Nat) : (zl st).getD i 0 = ((st.getD i 0 : Nat) : Int) := by
  unfold zl
  rw [List.getD_eq_getElem?_getD, List.getD_eq_getElem?_getD, List.getElem?_map]
  cases st[i]? <;> rfl
theorem nats_at {w : World} {a : Option Addr} {n : Nat} {st : List Nat} (h : Ints w a n (zl st)) {k : Nat} (hk : k < n) : ∃ b o, ∃ z : Nat, a = some ⟨b, o, none⟩ ∧ b < w.heap.size ∧ Hid (st.getD k 0 = z) ∧ w.cell? ⟨b, o + k, none⟩ = some (.int .i64 (z : Int)) := by
  obtain ⟨b, o, z, e, hb, hz, _, hc⟩ := h.at_ hk
  exact ⟨b, o, st.getD k 0, e, hb, rfl, by rw [hc, hz.out, zl_getD]⟩
theorem stk_lt {W : Nat} (hW : 1 ≤ W) {V : List Int} {C : List (List Int)} (he : InEnv (2 ^ W) V C) {ts : List Tm} (ht : ∀ t ∈ ts, t.1 = 0 → t.2 < ((2 ^ W : Nat) : Int)) : ∀ k, k ≤ ts.length → ∀ x ∈ stkV (2 ^ W) V C (ts.take k), x < 2 ^ W := by
  intro k
  induction k with
  | zero => intro _ x hx; simp [stkV] at hx
  | succ k ih =>
    intro hk
    rw [stkV_succ _ _ _ _ _ (by omega)]
    exact stepV_lt hW he (ht _ (tmAt_mem (by omega))) (ih (by omega))
theorem ints_drop {w : World} {g o m q : Nat} {zs : List Int} (h : Ints w (some ⟨g, o, none⟩) (m + q) zs) : Ints w (some ⟨g, o + m, none⟩) q (zs.drop m) := by
  obtain ⟨hl, hn, hin, hc⟩ := h
  refine ⟨by rw [List.length_drop]; omega, by omega, fun z hz => hin z (List.mem_of_mem_drop hz), fun hp => ?_⟩
  obtain ⟨b, o', e, hb, hcell⟩ := hc (by omega)
  injection e with e
  injection e with e1 e2
  subst e1 e2
  refine ⟨g, o + m, rfl, hb, fun i hi => ?_⟩
  rw [Nat.add_assoc, hcell (m + i) (by omega)]
  simp [List.getD_eq_getElem?_getD, List.getElem?_drop]
theorem in64_nat {x : Nat} (h : x < 256) : In64 (x : Int) := ⟨by omega, by omega⟩

/-- What a right expression, over an environment, allows. -/
structure Reck (S : Nat) (v : Envr) (ts : List Tm) : Prop where
  run : runD 0 ts = some 1
  long : ts.length ≤ 3000
  named : ∀ t ∈ ts, nameOk S v.vars.length v.cells.length t = true
  env : InEnv S v.vars v.cells
end Go.Proofs.Ytmooecbdpfhnlaa
