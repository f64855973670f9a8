/- Joined texts of this proof (RunAns, NumMath, EachMath), in build order. -/
import Derived.Test.YtbnpoliogldohaaGreatS37
import Derived.Test.YtbnpoliogldohaaGreatS35
/- What RunOf and AfterOf tell. -/
namespace Go.Proofs.YtbnpoliogldohaaGreat
open Go.RowKit

theorem startB_ok {p : Prg} {ls ss : List Int} (h : startB p ls ss = true) : codeB p = 0 := by
  have h' : (codeB p == 0 && (areB p.lows ls && areB p.secrets ss)) = true := h
  simp only [Bool.and_eq_true, beq_iff_eq] at h'
  exact h'.1
theorem run_exists {p : Prg} {ls ss : List Int} (h : startB p ls ss = true) : ∃ x : Sta × Rz, ∃ s, s ≤ 400 ∧ Runs (2 ^ p.width.toNat) p.body .seq 0 p.body.length s (startQ p ls ss) x.1 x.2 := by
  obtain ⟨_, s, hs, hst⟩ := code_good (startB_ok h)
  obtain ⟨q', r, hr⟩ := runs_total hst (startQ p ls ss)
  exact ⟨(q', r), s, hs, hr⟩
/-- Where the run ends, and how. -/
noncomputable def runX (p : Prg) (ls ss : List Int) : Sta × Rz := if h : startB p ls ss = true then Classical.choose (run_exists h) else (⟨[], [], []⟩, (0, 0))
noncomputable def outR (p : Prg) (ls ss : List Int) : List Int := (runX p ls ss).1.outs
noncomputable def endR (p : Prg) (ls ss : List Int) : Rz := (runX p ls ss).2
noncomputable def afterR (p : Prg) (ls ss : List Int) : Sta := ⟨(runX p ls ss).1.vars, (runX p ls ss).1.cells, []⟩
/-- An outcome and whether there is one. -/
def AnsOc (w : World) (b : Bool) (zs : List Int) (rr : Rz) (e : Ending) (w' : World) : Prop :=
  Below w.heap.size w w' ∧ ∃ os : Sl, e = .returned (.tuple #[.agg #[slV os, .int .i64 rr.1, .int .i64 rr.2], .bool b]) ∧ Own w' w.heap.size os.1 os.2.1 os.2.2 zs
theorem EnvMem.drop {w : World} {B : Nat} {er : ERow} {os : Sl} {q : Sta} (h : EnvMem w B er os q) : EnvMem w B er (none, 0, 0) ⟨q.vars, q.cells, []⟩ :=
  ⟨h.vars, h.cells, own_nil _ _, fun g _ e => by simp [slV, Value.ownBlock] at e, h.cv, fun i g hi _ e => by simp [slV, Value.ownBlock] at e, h.cc⟩
theorem EnvMem.base {w : World} {B B' : Nat} {er : ERow} {os : Sl} {q : Sta} (h : EnvMem w B er os q) (hB : B' ≤ B) : EnvMem w B' er os q := by
  refine ⟨h.vars.base hB, ⟨⟨h.cells.1.1, ?_⟩, h.cells.2.1, h.cells.2.2.1, fun i hi => (h.cells.2.2.2 i hi).base hB⟩, h.outs.base hB, h.vo, h.cv, h.co, h.cc⟩
  rcases h.cells.1.2 with hn | ⟨g, cap, cur, hv, hb, rest⟩
  · exact .inl hn
  · exact .inr ⟨g, cap, cur, hv, Nat.le_trans hB hb, rest⟩
/-- Two boxes of a call: the argument's, the answer's. -/
structure TwoB (w wi : World) (t0 : TypeId) (c0 : List Value) (t1 : TypeId) (c1 : List Value) : Prop where
  arg : Blk wi w.heap.size t0 c0
  res : Blk wi (w.heap.size + 1) t1 c1
  bel : Below w.heap.size w wi
theorem TwoB.below {w wi wj : World} {t0 t1 : TypeId} {c0 c1 : List Value} (h : TwoB w wi t0 c0 t1 c1) (hb : Below wi.heap.size wi wj) : TwoB w wj t0 c0 t1 c1 :=
  ⟨h.arg.below hb h.arg.lt, h.res.below hb h.res.lt, h.bel.trans (hb.mono h.bel.size)⟩
theorem TwoB.lt {w wi : World} {t0 t1 : TypeId} {c0 c1 : List Value} (h : TwoB w wi t0 c0 t1 c1) : w.heap.size + 1 < wi.heap.size := h.res.lt
end Go.Proofs.YtbnpoliogldohaaGreat
/- The number of an input, its bits: plain mathematics. -/
namespace Go.Proofs.YtbnpoliogldohaaGreat
open Go.RowKit

/-- What NumberOf tells. -/
noncomputable def numB (p : Prg) (ls ss : List Int) : Int := if startB p ls ss = true then numFrom (maxesP p) (ls ++ ss) (maxesP p).length else -1
end Go.Proofs.YtbnpoliogldohaaGreat
/- All inputs in their order: an input's values by its number, and how one goes on to the next: plain mathematics. -/
namespace Go.Proofs.YtbnpoliogldohaaGreat
open Go.RowKit

/-- The values of an input's number. -/
def digs : List Int → Int → List Int
  | [], _ => []
  | m :: ms, n => n % (m + 1) :: digs ms (n / (m + 1))
/-- The next values, and whether there are any. -/
def nextD : List Int → List Int → List Int × Bool
  | m :: ms, z :: zs => if z < m then ((z + 1) :: zs, true) else (0 :: (nextD ms zs).1, (nextD ms zs).2)
  | _, zs => (zs, false)
def prodL : List Int → Int
  | [] => 1
  | m :: ms => (m + 1) * prodL ms
end Go.Proofs.YtbnpoliogldohaaGreat
