/- Joined texts of this proof (StartBox, ImplStart, AppZeros, SpecStart, EnvMark, StartAns), in build order. -/
import Derived.Test.YtbnpoliogldohaaGreatS34
import Derived.Test.YtbnpoliogldohaaGreatS36
import Derived.Deep.OwnRows
import Derived.Deep.RegionLaw
import Derived.Test.YtbnpoliogldohaaGreatS19
import Derived.Test.YtbnpoliogldohaaGreatS10
import Derived.Test.YtbnpoliogldohaaGreatS14
/- The boxes of a call of StartOf, and what grows in them: one variable more, one array more. -/
namespace Go.Proofs.YtbnpoliogldohaaGreat
open Go.RowKit

section
variable {w w2 w3 w' : World} {B : Nat} {er : ERow} {os : Sl} {q : Sta}
/-- One row of cells more. -/
theorem EnvMem.row {cs' r : Sl} {zs : List Int} (h0 : EnvMem w B er os q) (hb : Below w.heap.size w w2) (hB : B ≤ w.heap.size) (hr : Own w2 w.heap.size r.1 r.2.1 r.2.2 zs)
    (ho : w3.ownsRow B 25 1 (.slice cs'.1 cs'.2.1 cs'.2.2) cs'.2.1 ((er.rows ++ [r]).map slV)) (hcs : cs'.2.1 = er.cells.2.1 + 1) (hn : er.cells.2.1 < 1048576) (hg : w2.grownBy w3 (slV er.cells).ownBlock) :
    EnvMem w3 B ⟨er.vars, cs', er.rows ++ [r]⟩ os ⟨q.vars, q.cells ++ [zs], q.outs⟩ := by
  have h := h0.below hb
  have hlr := h.cells.len
  have hlq : q.cells.length = er.cells.2.1 := h.cells.2.2.1
  have al : ∀ i, i < er.cells.2.1 → slAt (er.rows ++ [r]) i = slAt er.rows i := fun i hi => getD_left _ _ _ _ (by omega)
  have ar : slAt (er.rows ++ [r]) er.cells.2.1 = r := getD_last _ _ _ _ (by omega)
  have lt : ∀ i, i < cs'.2.1 → i < er.cells.2.1 ∨ i = er.cells.2.1 := fun i hi => by omega
  have new : ∀ g, (slV r).ownBlock = some g → w.heap.size ≤ g := fun g e => (hr.block g e).1
  refine ⟨h.vars.keep hg (fun g e => own_kinds h.vars.1 h.cells.1 (by decide) e), ⟨ho, by simp only []; omega, by simp only [List.length_append, List.length_singleton]; omega, fun i hi => ?_⟩, h.outs.keep hg (fun g e => own_kinds h.outs.1 h.cells.1 (by decide) e), h.vo, fun i g hi e => ?_, fun i g hi e => ?_, fun i j g hi hj e e' => ?_⟩
  · rcases lt i hi with hlt | rfl
    · simp only []
      rw [al i hlt, show intsAt (q.cells ++ [zs]) i = intsAt q.cells i from getD_left _ _ _ _ (by omega)]
      exact (h.cells.2.2.2 i hlt).keep hg (fun g e => own_kinds (h.cells.2.2.2 i hlt).1 h.cells.1 (by decide) e)
    · simp only []
      rw [ar, show intsAt (q.cells ++ [zs]) er.cells.2.1 = zs from getD_last _ _ _ _ (by omega)]
      exact (hr.base hB).keep hg (fun g e => own_kinds (hr.base hB).1 h.cells.1 (by decide) e)
  · simp only [] at e ⊢
    rcases lt i hi with hlt | rfl
    · rw [al i hlt] at e; exact h.cv i g hlt e
    · rw [ar] at e
      intro e'
      have := new g e
      have := (h0.vars.block g e').2
      omega
  · simp only [] at e
    rcases lt i hi with hlt | rfl
    · rw [al i hlt] at e; exact h.co i g hlt e
    · rw [ar] at e
      intro e'
      have := new g e
      have := (h0.outs.block g e').2
      omega
  · simp only [] at e e'
    rcases lt i hi with hlt | rfl <;> rcases lt j hj with hlj | rfl
    · rw [al i hlt] at e; rw [al j hlj] at e'; exact h.cc i j g hlt hlj e e'
    · rw [al i hlt] at e; rw [ar] at e'
      have := new g e'
      have := ((h0.cells.2.2.2 i hlt).block g e).2
      omega
    · rw [al j hlj] at e'; rw [ar] at e
      have := new g e
      have := ((h0.cells.2.2.2 j hlj).block g e').2
      omega
    · rfl
/-- One variable more (no cells yet, nothing put out). -/
theorem EnvMem.pushV {vs' : Sl} {zs : List Int} (h : EnvMem w B er (none, 0, 0) q) (h0 : er.cells.2.1 = 0) (ho : Own w' B vs'.1 vs'.2.1 vs'.2.2 zs) (hg : w.grownBy w' (slV er.vars).ownBlock) : EnvMem w' B ⟨vs', er.cells, er.rows⟩ (none, 0, 0) ⟨zs, q.cells, q.outs⟩ := by
  refine ⟨ho, h.cells.keep hg (fun g e => own_kinds h.cells.1 h.vars.1 (by decide) e) (fun i g hi => absurd hi (by omega)), h.outs.keep hg (fun g e => by simp [Value.ownBlock] at e), fun g _ e => by simp [slV, Value.ownBlock] at e, fun i g hi => absurd hi (by simp only []; omega), fun i g hi => absurd hi (by simp only []; omega), h.cc⟩
end
/-- A call of StartOf under way: the program, the answer's box, the environment's box. -/
structure QB (w wi : World) (b : Nat) (pc : List Value) (er : ERow) (q : Sta) : Prop where
  arg : Blk wi w.heap.size 28 pc
  res : Blk wi (w.heap.size + 1) 95 [.slice none 0 0, .slice none 0 0]
  out : Blk wi b 95 [slV er.vars, slV er.cells]
  mem : EnvMem wi w.heap.size er (none, 0, 0) q
  bel : Below w.heap.size w wi
  kb : w.heap.size + 2 ≤ b
section
variable {w wi wj wk : World} {b : Nat} {pc : List Value} {er : ERow} {q : Sta}
theorem QB.below (h : QB w wi b pc er q) (hb : Below wi.heap.size wi wj) : QB w wj b pc er q :=
  ⟨h.arg.below hb h.arg.lt, h.res.below hb h.res.lt, h.out.below hb h.out.lt, h.mem.below hb, h.bel.trans (hb.mono h.bel.size), h.kb⟩
theorem QB.alloc (h : QB w wi b pc er q) (o : Obj) : QB w (wi.alloc o) b pc er q := h.below ((Below.refl _ _).alloc (Nat.le_refl _) o)
theorem blk_keep {b : Nat} {t : TypeId} {xs : List Value} {row : Option Nat} (h : Blk wi b t xs) (hg : wi.grownBy wj row) (hr : row ≠ some b) : Blk wj b t xs := (hg.block b h.lt (fun e => hr e.symm)).trans h
theorem blk_row {b B n m : Nat} {t e : TypeId} {xs vs : List Value} {v : Value} (h : Blk wi b t xs) (ho : wi.ownsRow B e n v m vs) (hne : t ≠ e) (hg : wi.grownBy wj v.ownBlock) : Blk wj b t xs := blk_keep h hg (fun e' => blk_apart h ho hne b e' rfl)
/-- A variable is put behind the others. -/
theorem QB.var {a1 : Option Addr} {c1 : Nat} {zs : List Int} {m : Nat} (h : QB w wi b pc er q) (h0 : er.cells.2.1 = 0) (ho : Own wj w.heap.size a1 m c1 zs) (hg : wi.grownBy wj (slV er.vars).ownBlock) :
    QB w (wj.setCell ⟨b, 0, none⟩ (.slice a1 m c1)) b pc ⟨(a1, m, c1), er.cells, er.rows⟩ ⟨zs, q.cells, q.outs⟩ := by
  have kb := h.kb
  have o1 := blk_row h.out h.mem.vars.1 (by decide) hg
  have g1 := grown_set wj b 0 (.slice a1 m c1)
  refine ⟨(blk_row h.arg h.mem.vars.1 (by decide) hg).other (by omega) _, (blk_row h.res h.mem.vars.1 (by decide) hg).other (by omega) _, o1.set (j := 0) _, (h.mem.pushV h0 ho hg).set o1 (by decide) (by decide) _, ?_, kb⟩
  exact below_set (h.bel.grown hg h.bel.size (fun g e => (h.mem.vars.block g e).1)) (by omega) _
/-- An array is put behind the others. -/
theorem QB.row {a1 : Option Addr} {c1 : Nat} {zs : List Int} {r : Sl} (h : QB w wi b pc er q) (hb : Below wi.heap.size wi wj) (hr : Own wj wi.heap.size r.1 r.2.1 r.2.2 zs)
    (ho : wk.ownsRow w.heap.size 25 1 (.slice a1 (er.cells.2.1 + 1) c1) (er.cells.2.1 + 1) ((er.rows ++ [r]).map slV)) (hn : er.cells.2.1 < 1048576) (hg : wj.grownBy wk (slV er.cells).ownBlock) :
    QB w (wk.setCell ⟨b, 1, none⟩ (.slice a1 (er.cells.2.1 + 1) c1)) b pc ⟨er.vars, (a1, er.cells.2.1 + 1, c1), er.rows ++ [r]⟩ ⟨q.vars, q.cells ++ [zs], q.outs⟩ := by
  have kb := h.kb
  have h2 := h.below hb
  have o1 := blk_row h2.out h2.mem.cells.1 (by decide) hg
  refine ⟨(blk_row h2.arg h2.mem.cells.1 (by decide) hg).other (by omega) _, (blk_row h2.res h2.mem.cells.1 (by decide) hg).other (by omega) _, o1.set (j := 1) _, (h.mem.row hb h.bel.size hr (cs' := (a1, er.cells.2.1 + 1, c1)) ho rfl hn hg).set o1 (by decide) (by decide) _, ?_, kb⟩
  exact below_set (h2.bel.grown hg h2.bel.size (fun g e => (h2.mem.cells.1.lt g e).1)) (by omega) _
end
/-- What StartOf leaves. -/
def Started (w : World) (p : Prg) (ls ss : List Int) (e : Ending) (w' : World) : Prop :=
  Below w.heap.size w w' ∧ ((startB p ls ss = true ∧ ∃ er : ERow, e = .returned (.tuple #[envV er, .bool true]) ∧ EnvMem w' w.heap.size er (none, 0, 0) (startQ p ls ss)) ∨ (startB p ls ss = false ∧ e = .returned (.tuple #[.agg #[.slice none 0 0, .slice none 0 0], .bool false])))
/-- The first k arrays, all nought. -/
def zeroTo (p : Prg) (k : Nat) : List (List Int) := (p.arrays.take k).map (fun z => List.replicate z.toNat 0)
end Go.Proofs.YtbnpoliogldohaaGreat
/- The contract of the program's StartOf. -/
namespace Go.Proofs.YtbnpoliogldohaaGreat
open Go.RowKit

/-- A call of StartOf that has no start yet: the program, the answer's box. -/
structure NB (w wi : World) (pc : List Value) : Prop where
  arg : Blk wi w.heap.size 28 pc
  res : Blk wi (w.heap.size + 1) 95 [.slice none 0 0, .slice none 0 0]
  bel : Below w.heap.size w wi
theorem NB.below {w wi wj : World} {pc : List Value} (h : NB w wi pc) (hb : Below wi.heap.size wi wj) : NB w wj pc :=
  ⟨h.arg.below hb h.arg.lt, h.res.below hb h.res.lt, h.bel.trans (hb.mono h.bel.size)⟩
theorem NB.zero {w wi : World} {pc : List Value} (h : NB w wi pc) : Below w.heap.size w ((wi.setCell ⟨w.heap.size + 1, 0, none⟩ (.slice none 0 0)).setCell ⟨w.heap.size + 1, 1, none⟩ (.slice none 0 0)) :=
  below_set (below_set h.bel (by omega) _) (by omega) _
end Go.Proofs.YtbnpoliogldohaaGreat
/- 'append(xs, make([]int64, n)...)' onto a row of the call's own. -/
namespace Go.Proofs.YtbnpoliogldohaaGreat
open Go.RowKit

end Go.Proofs.YtbnpoliogldohaaGreat
/- The contract of the model's StartOf. -/
namespace Go.Proofs.YtbnpoliogldohaaGreat
open Go.RowKit

theorem QB.no {w wi : World} {b : Nat} {pc : List Value} {er : ERow} {q : Sta} (h : QB w wi b pc er q) : NB w wi pc := ⟨h.arg, h.res, h.bel⟩
/-- The box of the answer. -/
def PC (wd : Int) (s1 s2 : Sl) (tp : Int) (s3 s4 : Sl) : List Value := [.int .i64 wd, slV s1, slV s2, .int .i64 tp, slV s3, slV s4]
end Go.Proofs.YtbnpoliogldohaaGreat
/- The laws' own marks on environments (markInt64SS, heldInt64SS, markEnv, heldEnv). -/
namespace Go.Proofs.YtbnpoliogldohaaGreat
open Go.RowKit

/-- How many numbers the first i have. -/
def sumC (css : List (List Int)) : Nat → Nat
  | 0 => 0
  | i + 1 => sumC css i + (intsAt css i).length
/-- The first i marked. -/
def MarkIS (css : List (List Int)) (k i : Nat) : List (List Int) := (List.range css.length).map (fun j => if j < i then marks ((k + sumC css j : Nat) : Int) (intsAt css j).length else intsAt css j)
/-- Each row in a block of its own. -/
def RowsOne (n : Nat) (rs : List Sl) : Prop := ∀ i j g, i < n → j < n → (slV (slAt rs i)).ownBlock = some g → (slV (slAt rs j)).ownBlock = some g → i = j
/-- Only the rows' own blocks have turned. -/
structure RowsOnly (n : Nat) (rs : List Sl) (w w' : World) : Prop where
  os : w'.os = w.os
  tape : w'.tape = w.tape
  output : w'.output = w.output
  size : w.heap.size ≤ w'.heap.size
  block : ∀ k, k < w.heap.size → (∀ i, i < n → (slV (slAt rs i)).ownBlock ≠ some k) → w'.heap[k]? = w.heap[k]?
section
variable {w w' w'' : World} {n c B m : Nat} {a : Option Addr} {rs : List Sl} {css css' : List (List Int)} {zs : List Int} {row : Option Nat}
theorem RowsOnly.refl (n : Nat) (rs : List Sl) (w : World) : RowsOnly n rs w w := ⟨rfl, rfl, rfl, Nat.le_refl _, fun _ _ _ => rfl⟩
theorem RowsOnly.grown (h : RowsOnly n rs w w') {i : Nat} (hi : i < n) (hg : w'.grownBy w'' (slV (slAt rs i)).ownBlock) : RowsOnly n rs w w'' :=
  ⟨hg.os.trans h.os, hg.tape.trans h.tape, hg.output.trans h.output, Nat.le_trans h.size hg.size, fun k hk hr => (hg.block k (Nat.lt_of_lt_of_le hk h.size) (fun e => hr i hi e.symm)).trans (h.block k hk hr)⟩
theorem RowsOnly.own (h : RowsOnly n rs w w') (ho : Own w B a m c zs) (hr : ∀ i g, i < n → (slV (slAt rs i)).ownBlock = some g → (Value.slice a m c).ownBlock ≠ some g) : Own w' B a m c zs := by
  refine ⟨⟨ho.1.1, ?_⟩, ho.2⟩
  rcases ho.1.2 with hn | ⟨g, cap, cur, hv, hb, hg, rest⟩
  · exact .inl hn
  · exact .inr ⟨g, cap, cur, hv, hb, (h.block g (Array.getElem?_eq_some_iff.1 hg).1 (fun i hi e => hr i g hi e (by rw [hv]; rfl))).trans hg, rest⟩
theorem RowsOnly.below (h : RowsOnly n rs w w') (hr : ∀ i g, i < n → (slV (slAt rs i)).ownBlock = some g → B ≤ g) (hB : B ≤ w.heap.size) : Below B w w' :=
  ⟨h.os, h.tape, h.output, h.size, fun k hk => h.block k (by omega) (fun i hi e => by have := hr i k hi e; omega)⟩
theorem RowsOnly.span {lo hi : Nat} (h : RowsOnly n rs w w') (hr : ∀ i g, i < n → (slV (slAt rs i)).ownBlock = some g → lo ≤ g ∧ g < hi) : Span lo hi w w' :=
  ⟨h.os, h.tape, h.output, h.size, fun k hk hk' => h.block k hk (fun i hi e => by have := hr i k hi e; omega)⟩
end
/-- Where the own blocks of an environment lie. -/
structure EnvIn (lo hi : Nat) (er : ERow) : Prop where
  vars : SlIn lo hi er.vars
  rows : ∀ i g, i < er.cells.2.1 → (slV (slAt er.rows i)).ownBlock = some g → lo ≤ g ∧ g < hi
theorem EnvMem.inside {w : World} {B : Nat} {er : ERow} {os : Sl} {q : Sta} (h : EnvMem w B er os q) : EnvIn B w.heap.size er :=
  ⟨fun g hg => h.vars.block g hg, fun i g hi hg => (h.cells.2.2.2 i hi).block g hg⟩
/-- An environment, marked. -/
def markQ (q : Sta) (k : Nat) : Sta := ⟨marks (k : Int) q.vars.length, MarkIS q.cells (k + q.vars.length) q.cells.length, q.outs⟩
def sizeQ (q : Sta) : Nat := q.vars.length + sumC q.cells q.cells.length
end Go.Proofs.YtbnpoliogldohaaGreat
/- The answers of StartOf, the program's and the model's, as a law asks for them. -/
namespace Go.Proofs.YtbnpoliogldohaaGreat
open Go.RowKit

/-- An environment and whether there is one. -/
def AnsEnv (w : World) (b : Bool) (q : Sta) (e : Ending) (w' : World) : Prop :=
  Below w.heap.size w w' ∧ ∃ er : ERow, e = .returned (.tuple #[envV er, .bool b]) ∧ EnvMem w' w.heap.size er (none, 0, 0) q
/-- What StartOf tells. -/
noncomputable def startR (p : Prg) (ls ss : List Int) : Sta := if startB p ls ss = true then startQ p ls ss else ⟨[], [], []⟩
end Go.Proofs.YtbnpoliogldohaaGreat
