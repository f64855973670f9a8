/- Maps that a call makes: their keys and elements as lists; a look-up, a new entry. -/
import Derived.Test.YtbnpoliogldohaaGreatS1
import Derived.Maps.Own
import Derived.RangeFuncRecord
import Derived.Lib.Bytes
import Derived.Laws.StructEq
namespace Go.Proofs.YtbnpoliogldohaaGreat
open Go.RowKit
open Go.ChangeMaps (setBlock heap_setBlock_same heap_setBlock_other)

/-- Block b is a map of these keys and elements, in the order in which they came. -/
def MapW (w : World) (b : Nat) (ks vs : List Value) : Prop := ∃ es clock, w.heap[b]? = some (.map es clock) ∧ es.toList.map (fun e => e.key) = ks ∧ es.toList.map (fun e => e.val) = vs
theorem MapW.lt {w : World} {b : Nat} {ks vs : List Value} (h : MapW w b ks vs) : b < w.heap.size := by
  obtain ⟨es, c, hb, _⟩ := h
  exact (Array.getElem?_eq_some_iff.1 hb).1
theorem MapW.kept {w w' : World} {b : Nat} {ks vs : List Value} {row : Option Nat} (h : MapW w b ks vs) (hg : w.grownBy w' row) (hne : row ≠ some b) : MapW w' b ks vs := by
  have hlt := h.lt
  obtain ⟨es, c, hb, h1, h2⟩ := h
  exact ⟨es, c, (hg.block b hlt (fun e => hne e.symm)).trans hb, h1, h2⟩
theorem MapW.below {w w' : World} {b B : Nat} {ks vs : List Value} (h : MapW w b ks vs) (hb : Below B w w') (hlt : b < B) : MapW w' b ks vs := by
  obtain ⟨es, c, he, h1, h2⟩ := h
  exact ⟨es, c, (hb.block b hlt).trans he, h1, h2⟩
/-- How keys are told apart: at once, or by '=='. -/
structure KeyLaw' {κ : Type} [DecidableEq κ] (kt : TypeId) (kv : κ → Value) : Prop where
  check : ∀ (em : Bool) (x : κ) (w : World), (Instr.checkKey em 10000 kt (kv x)).run Tryz.prog w = .ok () w
  same : (∃ d, Tryz.prog.underlying kt = some d ∧ ∀ a b, Instr.sameNow d (kv a) (kv b) = some (decide (a = b))) ∨
    (∃ d, Tryz.prog.underlying kt = some d ∧ (∀ a b, Instr.sameNow d (kv a) (kv b) = none) ∧ ∀ (a b : κ) (w : World), (Op.equal kt (kv a) (kv b)).run Tryz.prog w = .ok (decide (a = b)) w)
section
variable {κ : Type} [DecidableEq κ] {kt : TypeId} {kv : κ → Value}
/-- What is found. -/
def Found (x : κ) (es : List MapEntry) (ks : List κ) (r : Option (Nat × Value)) : Prop :=
  (r = none ∧ x ∉ ks) ∨ ∃ j e, r = some (j, e.val) ∧ es[j]? = some e ∧ ks[j]? = some x
theorem findNow_of {d : TypeDesc} (hs : ∀ a b, Instr.sameNow d (kv a) (kv b) = some (decide (a = b))) (x : κ) : ∀ (es : List MapEntry) (ks : List κ) (i : Nat), es.map (fun e => e.key) = ks.map kv →
    ∃ r : Option (Nat × Value), Instr.findNow d (kv x) es i = some (r.map fun p => (p.1 + i, p.2)) ∧ Found x es ks r
  | [], ks, i, h => by
    have : ks = [] := by simpa using h.symm
    subst this
    exact ⟨none, rfl, .inl ⟨rfl, by simp⟩⟩
  | e :: es, [], i, h => by simp at h
  | e :: es, k :: ks, i, h => by
    simp only [List.map_cons, List.cons.injEq] at h
    obtain ⟨h1, h2⟩ := h
    rw [Instr.findNow, h1, hs]
    by_cases hx : x = k
    · subst hx
      rw [decide_eq_true rfl]
      exact ⟨some (0, e.val), by simp, .inr ⟨0, e, rfl, rfl, rfl⟩⟩
    · rw [decide_eq_false hx]
      obtain ⟨r, hr, hf⟩ := findNow_of hs x es ks (i + 1) h2
      refine ⟨r.map fun p => (p.1 + 1, p.2), ?_, ?_⟩
      · simp only []
        rw [hr]
        cases r <;> simp; omega
      · rcases hf with ⟨rfl, hn⟩ | ⟨j, e', rfl, a1, a2⟩
        · exact .inl ⟨rfl, by simp [hx, hn]⟩
        · exact .inr ⟨j + 1, e', rfl, by simpa using a1, by simpa using a2⟩
theorem findAsking_of (heq : ∀ (a b : κ) (w : World), (Op.equal kt (kv a) (kv b)).run Tryz.prog w = .ok (decide (a = b)) w) (x : κ) (w : World) : ∀ (es : List MapEntry) (ks : List κ) (i : Nat), es.map (fun e => e.key) = ks.map kv →
    ∃ r : Option (Nat × Value), (Instr.findAsking kt (kv x) es i).run Tryz.prog w = .ok (r.map fun p => (p.1 + i, p.2)) w ∧ Found x es ks r
  | [], ks, i, h => by
    have : ks = [] := by simpa using h.symm
    subst this
    exact ⟨none, by simp [Instr.findAsking], .inl ⟨rfl, by simp⟩⟩
  | e :: es, [], i, h => by simp at h
  | e :: es, k :: ks, i, h => by
    simp only [List.map_cons, List.cons.injEq] at h
    obtain ⟨h1, h2⟩ := h
    rw [Instr.findAsking, h1]
    simp only [Sem.run_bind, heq, Result.andThen_ok]
    by_cases hx : x = k
    · subst hx
      rw [decide_eq_true rfl]
      exact ⟨some (0, e.val), by simp, .inr ⟨0, e, rfl, rfl, rfl⟩⟩
    · rw [decide_eq_false hx]
      obtain ⟨r, hr, hf⟩ := findAsking_of heq x w es ks (i + 1) h2
      refine ⟨r.map fun p => (p.1 + 1, p.2), ?_, ?_⟩
      · simp only [Bool.false_eq_true, if_false]
        rw [hr]
        cases r <;> simp; omega
      · rcases hf with ⟨rfl, hn⟩ | ⟨j, e', rfl, a1, a2⟩
        · exact .inl ⟨rfl, by simp [hx, hn]⟩
        · exact .inr ⟨j + 1, e', rfl, by simpa using a1, by simpa using a2⟩
theorem KeyLaw'.find (K : KeyLaw' kt kv) (x : κ) (w : World) (es : List MapEntry) (ks : List κ) (h : es.map (fun e => e.key) = ks.map kv) :
    ∃ r : Option (Nat × Value), (Instr.findKey kt (kv x) es).run Tryz.prog w = .ok r w ∧ Found x es ks r := by
  have e0 : ∀ r : Option (Nat × Value), (r.map fun p => (p.1 + 0, p.2)) = r := fun r => by cases r <;> rfl
  rcases K.same with ⟨d, hd, hs⟩ | ⟨d, hd, hs, heq⟩
  · obtain ⟨r, hr, hf⟩ := findNow_of hs x es ks 0 h
    rw [e0] at hr
    refine ⟨r, ?_, hf⟩
    rw [Instr.findKey]
    simp [run_underlying hd, hr, Result.andThen]
  · cases es with
    | nil =>
      have : ks = [] := by simpa using h.symm
      subst this
      refine ⟨none, ?_, .inl ⟨rfl, by simp⟩⟩
      rw [Instr.findKey]
      simp [run_underlying hd, Instr.findNow, Result.andThen]
    | cons e es =>
      obtain ⟨r, hr, hf⟩ := findAsking_of heq x w (e :: es) ks 0 h
      rw [e0] at hr
      refine ⟨r, ?_, hf⟩
      have hn : Instr.findNow d (kv x) (e :: es) 0 = none := by
        cases ks with
        | nil => simp at h
        | cons k ks =>
          simp only [List.map_cons, List.cons.injEq] at h
          rw [Instr.findNow, h.1, hs]
      rw [Instr.findKey]
      simp [run_underlying hd, hn, hr, Result.andThen]
/-- 'm[k]'. -/
theorem MapW.lookup {w : World} {b : Nat} {ks : List κ} {vs : List Value} {t e : TypeId} (h : MapW w b (ks.map kv) vs) (K : KeyLaw' kt kv) (ht : Tryz.prog.underlying t = some (.map kt e)) (z : Value) (hz : (zeroValue e).run Tryz.prog w = .ok z w) (x : κ) :
    ∃ v, (Instr.lookup t (.map (some b)) (kv x) false).run Tryz.prog w = .ok v w ∧ ((x ∉ ks ∧ v = z) ∨ ∃ j : Nat, ks[j]? = some x ∧ vs[j]? = some v) := by
  obtain ⟨es, c, hb, h1, h2⟩ := h
  obtain ⟨r, hr, hf⟩ := K.find x w es.toList ks h1
  rcases hf with ⟨rfl, hn⟩ | ⟨j, e', rfl, a1, a2⟩
  · refine ⟨z, ?_, .inl ⟨hn, rfl⟩⟩
    simp [Instr.lookup, run_underlying ht, MapKept.run_getObj_map hb, K.check, hr, hz, Result.andThen]
  · refine ⟨e'.val, ?_, .inr ⟨j, a2, ?_⟩⟩
    · simp [Instr.lookup, run_underlying ht, MapKept.run_getObj_map hb, K.check, hr, Result.andThen]
    · rw [← h2, List.getElem?_map, a1]; rfl
end
/-- An outcome's key. -/
abbrev OKey := ByteArray × Int × Int
def okV (k : OKey) : Value := .agg #[.string k.1, .int .i64 k.2.1, .int .i64 k.2.2]
end Go.Proofs.YtbnpoliogldohaaGreat
