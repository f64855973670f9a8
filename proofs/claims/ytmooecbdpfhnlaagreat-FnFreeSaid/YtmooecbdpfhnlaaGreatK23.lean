/- Joined texts of this proof (EnvMark, StartAns, SpecAll, StepRun, RunAns), in build order. -/
import Derived.Test.YtmooecbdpfhnlaaGreatK17
import Derived.Test.YtmooecbdpfhnlaaGreatK19
import Derived.Test.YtmooecbdpfhnlaaGreatK22
import Derived.Test.YtmooecbdpfhnlaaGreatK10
/- The laws' own marks on environments (markInt64SS, heldInt64SS, markEnv, heldEnv). -/
namespace Go.Proofs.YtmooecbdpfhnlaaGreat
open Go.RowKit

/-- How many numbers the first i have. -/
def sumC (css : List (List Int)) : Nat → Nat
  | 0 => 0
  | i + 1 => sumC css i + (intsAt css i).length
/-- The first i marked. -/
def MarkIS (css : List (List Int)) (k i : Nat) : List (List Int) := (List.range css.length).map (fun j => if j < i then marks ((k + sumC css j : Nat) : Int) (intsAt css j).length else intsAt css j)
/-- Each row in a block of its own. -/
def RowsOne (n : Nat) (rs : List Sl) : Prop := ∀ i j g, i < n → j < n → (slV (slAt rs i)).ownBlock = some g → (slV (slAt rs j)).ownBlock = some g → i = j
/-- Only the rows' own blocks have turned. -/
structure RowsOnly (n : Nat) (rs : List Sl) (w w' : World) : Prop where
  os : w'.os = w.os
  tape : w'.tape = w.tape
  output : w'.output = w.output
  size : w.heap.size ≤ w'.heap.size
  block : ∀ k, k < w.heap.size → (∀ i, i < n → (slV (slAt rs i)).ownBlock ≠ some k) → w'.heap[k]? = w.heap[k]?
section
variable {w w' w'' : World} {n c B m : Nat} {a : Option Addr} {rs : List Sl} {css css' : List (List Int)} {zs : List Int} {row : Option Nat}
theorem RowsOnly.refl (n : Nat) (rs : List Sl) (w : World) : RowsOnly n rs w w := ⟨rfl, rfl, rfl, Nat.le_refl _, fun _ _ _ => rfl⟩
theorem RowsOnly.grown (h : RowsOnly n rs w w') {i : Nat} (hi : i < n) (hg : w'.grownBy w'' (slV (slAt rs i)).ownBlock) : RowsOnly n rs w w'' :=
  ⟨hg.os.trans h.os, hg.tape.trans h.tape, hg.output.trans h.output, Nat.le_trans h.size hg.size, fun k hk hr => (hg.block k (Nat.lt_of_lt_of_le hk h.size) (fun e => hr i hi e.symm)).trans (h.block k hk hr)⟩
theorem RowsOnly.own (h : RowsOnly n rs w w') (ho : Own w B a m c zs) (hr : ∀ i g, i < n → (slV (slAt rs i)).ownBlock = some g → (Value.slice a m c).ownBlock ≠ some g) : Own w' B a m c zs := by
  refine ⟨⟨ho.1.1, ?_⟩, ho.2⟩
  rcases ho.1.2 with hn | ⟨g, cap, cur, hv, hb, hg, rest⟩
  · exact .inl hn
  · exact .inr ⟨g, cap, cur, hv, hb, (h.block g (Array.getElem?_eq_some_iff.1 hg).1 (fun i hi e => hr i g hi e (by rw [hv]; rfl))).trans hg, rest⟩
theorem RowsOnly.below (h : RowsOnly n rs w w') (hr : ∀ i g, i < n → (slV (slAt rs i)).ownBlock = some g → B ≤ g) (hB : B ≤ w.heap.size) : Below B w w' :=
  ⟨h.os, h.tape, h.output, h.size, fun k hk => h.block k (by omega) (fun i hi e => by have := hr i k hi e; omega)⟩
theorem RowsOnly.span {lo hi : Nat} (h : RowsOnly n rs w w') (hr : ∀ i g, i < n → (slV (slAt rs i)).ownBlock = some g → lo ≤ g ∧ g < hi) : Span lo hi w w' :=
  ⟨h.os, h.tape, h.output, h.size, fun k hk hk' => h.block k hk (fun i hi e => by have := hr i k hi e; omega)⟩
end
/-- Where the own blocks of an environment lie. -/
structure EnvIn (lo hi : Nat) (er : ERow) : Prop where
  vars : SlIn lo hi er.vars
  rows : ∀ i g, i < er.cells.2.1 → (slV (slAt er.rows i)).ownBlock = some g → lo ≤ g ∧ g < hi
/-- An environment, marked. -/
def markQ (q : Sta) (k : Nat) : Sta := ⟨marks (k : Int) q.vars.length, MarkIS q.cells (k + q.vars.length) q.cells.length, q.outs⟩
def sizeQ (q : Sta) : Nat := q.vars.length + sumC q.cells q.cells.length
end Go.Proofs.YtmooecbdpfhnlaaGreat
/- The answers of StartOf, the program's and the model's, as a law asks for them. -/
namespace Go.Proofs.YtmooecbdpfhnlaaGreat
open Go.RowKit

/-- An environment and whether there is one. -/
def AnsEnv (w : World) (b : Bool) (q : Sta) (e : Ending) (w' : World) : Prop :=
  Below w.heap.size w w' ∧ ∃ er : ERow, e = .returned (.tuple #[envV er, .bool b]) ∧ EnvMem w' w.heap.size er (none, 0, 0) q
theorem envMem_none (w : World) (B : Nat) : EnvMem w B ⟨(none, 0, 0), (none, 0, 0), []⟩ (none, 0, 0) ⟨[], [], []⟩ :=
  ⟨own_nil _ _, ⟨World.ownsRow_nil _ _ _ _, Nat.zero_le _, rfl, fun i hi => absurd hi (by simp only []; omega)⟩, own_nil _ _, fun g _ e => by simp [slV, Value.ownBlock] at e, fun i g hi => absurd hi (by simp only []; omega), fun i g hi => absurd hi (by simp only []; omega), fun i j g hi => absurd hi (by simp only []; omega)⟩
/-- What StartOf tells. -/
noncomputable def startR (p : Prg) (ls ss : List Int) : Sta := if startB p ls ss = true then startQ p ls ss else ⟨[], [], []⟩
theorem implStartOf_ans (r : PRow) (p : Prg) (a a' : Option Addr) (n c n' c' : Nat) (ls ss : List Int) (w : World) (h : ProgAt w r p) (hcap : r.body.2.1 ≤ r.body.2.2) (h1 : Ints w a n ls) (h2 : Ints w a' n' ss) :
    Calls Tryz.prog 56 #[progV r, .slice a n c, .slice a' n' c'] w (AnsEnv w (startB p ls ss) (startR p ls ss)) := by
  by_cases h0 : startB p ls ss = true
  · rw [startR, if_pos h0, h0]
    exact (implStartOf_yes r p a a' n c n' c' ls ss w h hcap h1 h2 h0).mono (fun e w' ⟨er, he, hm, hb⟩ => ⟨hb, er, he, hm⟩)
  · have h0' : startB p ls ss = false := by simpa using h0
    rw [startR, if_neg h0, h0']
    exact (implStartOf_no r p a a' n c n' c' ls ss w h hcap h1 h2 h0').mono (fun e w' ⟨he, hb⟩ => ⟨hb, ⟨(none, 0, 0), (none, 0, 0), []⟩, he, envMem_none _ _⟩)
end Go.Proofs.YtmooecbdpfhnlaaGreat
/- The contracts of the model's l8All, l8Right. -/
namespace Go.Proofs.YtmooecbdpfhnlaaGreat
open Go.RowKit

/-- Those that fit, in order. -/
def pickTo (f : Nat → Bool) (os : List Oc) : Nat → List Oc
  | 0 => []
  | k + 1 => if f k then pickTo f os k ++ [oAt os k] else pickTo f os k
end Go.Proofs.YtmooecbdpfhnlaaGreat
/- A step of a region that draws, by its run; 'append(xs, ys...)' and 'append(xs, make(..)...)' at numbers, at such a step. -/
namespace Go.Proofs.YtmooecbdpfhnlaaGreat
open Go.RowKit

end Go.Proofs.YtmooecbdpfhnlaaGreat
/- What RunOf and AfterOf tell. -/
namespace Go.Proofs.YtmooecbdpfhnlaaGreat
open Go.RowKit

theorem startB_ok {p : Prg} {ls ss : List Int} (h : startB p ls ss = true) : codeB p = 0 := by
  have h' : (codeB p == 0 && (areB p.lows ls && areB p.secrets ss)) = true := h
  simp only [Bool.and_eq_true, beq_iff_eq] at h'
  exact h'.1
theorem run_exists {p : Prg} {ls ss : List Int} (h : startB p ls ss = true) : ∃ x : Sta × Rz, ∃ s, s ≤ 400 ∧ Runs (2 ^ p.width.toNat) p.body .seq 0 p.body.length s (startQ p ls ss) x.1 x.2 := by
  obtain ⟨_, s, hs, hst⟩ := code_good (startB_ok h)
  obtain ⟨q', r, hr⟩ := runs_total hst (startQ p ls ss)
  exact ⟨(q', r), s, hs, hr⟩
/-- Where the run ends, and how. -/
noncomputable def runX (p : Prg) (ls ss : List Int) : Sta × Rz := if h : startB p ls ss = true then Classical.choose (run_exists h) else (⟨[], [], []⟩, (0, 0))
theorem runX_spec {p : Prg} {ls ss : List Int} (h : startB p ls ss = true) : ∃ s, s ≤ 400 ∧ Runs (2 ^ p.width.toNat) p.body .seq 0 p.body.length s (startQ p ls ss) (runX p ls ss).1 (runX p ls ss).2 := by
  rw [runX, dif_pos h]; exact Classical.choose_spec (run_exists h)
theorem runX_no {p : Prg} {ls ss : List Int} (h : startB p ls ss = false) : runX p ls ss = (⟨[], [], []⟩, (0, 0)) := by rw [runX, dif_neg (by rw [h]; decide)]
noncomputable def outR (p : Prg) (ls ss : List Int) : List Int := (runX p ls ss).1.outs
noncomputable def endR (p : Prg) (ls ss : List Int) : Rz := (runX p ls ss).2
noncomputable def afterR (p : Prg) (ls ss : List Int) : Sta := ⟨(runX p ls ss).1.vars, (runX p ls ss).1.cells, []⟩
theorem runX_ok {p : Prg} {ls ss : List Int} (h : startB p ls ss = true) : StaOk p (runX p ls ss).1 := by
  obtain ⟨s, _, hr⟩ := runX_spec h
  exact hr.ok (code_good (startB_ok h)).1 (start_ok h)
theorem outR_len (p : Prg) (ls ss : List Int) : (outR p ls ss).length ≤ 400 := by
  unfold outR
  by_cases h : startB p ls ss = true
  · obtain ⟨s, hs, hr⟩ := runX_spec h
    have := hr.outs
    simp only [roundS, startQ, List.length_nil] at this
    omega
  · rw [runX_no (by simpa using h)]; simp
/-- An outcome and whether there is one. -/
def AnsOc (w : World) (b : Bool) (zs : List Int) (rr : Rz) (e : Ending) (w' : World) : Prop :=
  Below w.heap.size w w' ∧ ∃ os : Sl, e = .returned (.tuple #[.agg #[slV os, .int .i64 rr.1, .int .i64 rr.2], .bool b]) ∧ Own w' w.heap.size os.1 os.2.1 os.2.2 zs
theorem EnvMem.drop {w : World} {B : Nat} {er : ERow} {os : Sl} {q : Sta} (h : EnvMem w B er os q) : EnvMem w B er (none, 0, 0) ⟨q.vars, q.cells, []⟩ :=
  ⟨h.vars, h.cells, own_nil _ _, fun g _ e => by simp [slV, Value.ownBlock] at e, h.cv, fun i g hi _ e => by simp [slV, Value.ownBlock] at e, h.cc⟩
theorem EnvMem.base {w : World} {B B' : Nat} {er : ERow} {os : Sl} {q : Sta} (h : EnvMem w B er os q) (hB : B' ≤ B) : EnvMem w B' er os q := by
  refine ⟨h.vars.base hB, ⟨⟨h.cells.1.1, ?_⟩, h.cells.2.1, h.cells.2.2.1, fun i hi => (h.cells.2.2.2 i hi).base hB⟩, h.outs.base hB, h.vo, h.cv, h.co, h.cc⟩
  rcases h.cells.1.2 with hn | ⟨g, cap, cur, hv, hb, rest⟩
  · exact .inl hn
  · exact .inr ⟨g, cap, cur, hv, Nat.le_trans hB hb, rest⟩
/-- Two boxes of a call: the argument's, the answer's. -/
structure TwoB (w wi : World) (t0 : TypeId) (c0 : List Value) (t1 : TypeId) (c1 : List Value) : Prop where
  arg : Blk wi w.heap.size t0 c0
  res : Blk wi (w.heap.size + 1) t1 c1
  bel : Below w.heap.size w wi
theorem TwoB.below {w wi wj : World} {t0 t1 : TypeId} {c0 c1 : List Value} (h : TwoB w wi t0 c0 t1 c1) (hb : Below wi.heap.size wi wj) : TwoB w wj t0 c0 t1 c1 :=
  ⟨h.arg.below hb h.arg.lt, h.res.below hb h.res.lt, h.bel.trans (hb.mono h.bel.size)⟩
theorem twob_new (w : World) (t0 : TypeId) (c0 : List Value) (t1 : TypeId) (c1 : List Value) : TwoB w ((w.alloc (.cells c0.toArray t0)).alloc (.cells c1.toArray t1)) t0 c0 t1 c1 :=
  ⟨(Blk.new w _ _).alloc _, by simpa using Blk.new (w.alloc (.cells c0.toArray t0)) t1 c1, ((Below.refl _ _).alloc (Nat.le_refl _) _).alloc (by simp) _⟩
theorem TwoB.lt {w wi : World} {t0 t1 : TypeId} {c0 c1 : List Value} (h : TwoB w wi t0 c0 t1 c1) : w.heap.size + 1 < wi.heap.size := h.res.lt
/-- Three cells, two cells of the answer's box are written. -/
theorem below_set3 {w w' : World} (h : Below w.heap.size w w') (x y z : Value) : Below w.heap.size w (((w'.setCell ⟨w.heap.size + 1, 0, none⟩ x).setCell ⟨w.heap.size + 1, 1, none⟩ y).setCell ⟨w.heap.size + 1, 2, none⟩ z) :=
  below_set (below_set (below_set h (by omega) _) (by omega) _) (by omega) _
end Go.Proofs.YtmooecbdpfhnlaaGreat
