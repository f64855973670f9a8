/- Joined texts of this proof (Span, EnvMark, StartAns, RunAns, NumMath, EachMath), in build order. -/
import Derived.Test.YtflojbjeloilaaaJ6
import Derived.Test.YtflojbjeloilaaaJ15
import Derived.Test.YtflojbjeloilaaaJ19
import Derived.Test.YtflojbjeloilaaaJ21
import Derived.Test.YtflojbjeloilaaaJ17
/- Only blocks from lo up to hi turn: what lies elsewhere stays as it lay. -/
namespace Go.Proofs.Ytflojbjeloilaaa
open Go.RowKit

structure Span (lo hi : Nat) (w w' : World) : Prop where
  os : w'.os = w.os
  tape : w'.tape = w.tape
  output : w'.output = w.output
  size : w.heap.size ≤ w'.heap.size
  block : ∀ k, k < w.heap.size → (k < lo ∨ hi ≤ k) → w'.heap[k]? = w.heap[k]?
section
variable {lo hi lo' hi' B n c m size : Nat} {w w' w'' : World} {row : Option Nat} {v : Value} {t : TypeId} {xs : List Value} {a : Option Addr} {ts : List Tm} {zs : List Int}
theorem Span.refl (lo hi : Nat) (w : World) : Span lo hi w w := ⟨rfl, rfl, rfl, Nat.le_refl _, fun _ _ _ => rfl⟩
theorem Span.trans (h : Span lo hi w w') (k : Span lo hi w' w'') : Span lo hi w w'' :=
  ⟨k.os.trans h.os, k.tape.trans h.tape, k.output.trans h.output, Nat.le_trans h.size k.size, fun i hi h' => (k.block i (Nat.lt_of_lt_of_le hi h.size) h').trans (h.block i hi h')⟩
theorem Span.wide (h : Span lo hi w w') (h1 : lo' ≤ lo) (h2 : hi ≤ hi') : Span lo' hi' w w' :=
  ⟨h.os, h.tape, h.output, h.size, fun k hk h' => h.block k hk (by omega)⟩
theorem Span.of_grown (h : w.grownBy w' row) (hr : ∀ g, row = some g → lo ≤ g ∧ g < hi) : Span lo hi w w' :=
  ⟨h.os, h.tape, h.output, h.size, fun k hk h' => h.block k hk (fun e => by have := hr k e.symm; omega)⟩
theorem Span.of_below (h : Below w.heap.size w w') : Span lo hi w w' := ⟨h.os, h.tape, h.output, h.size, fun k hk _ => h.block k hk⟩
theorem Span.set (w : World) {b j : Nat} (v : Value) (h1 : lo ≤ b) (h2 : b < hi) : Span lo hi w (w.setCell ⟨b, j, none⟩ v) :=
  Span.of_grown (grown_set w b j v) (fun g e => by injection e with e; omega)
theorem Span.below (h : Span lo hi w w') (hl : lo ≤ w.heap.size) : Below lo w w' := ⟨h.os, h.tape, h.output, h.size, fun k hk => h.block k (by omega) (.inl hk)⟩
theorem ownsRow_span (h : w.ownsRow B t size v n xs) (hs : Span lo hi w w') (hv : ∀ g, v.ownBlock = some g → g < lo ∨ hi ≤ g) : w'.ownsRow B t size v n xs := by
  refine ⟨h.1, ?_⟩
  rcases h.2 with hn | ⟨g, cap, cur, hv', hb, hg, rest⟩
  · exact .inl hn
  · exact .inr ⟨g, cap, cur, hv', hb, (hs.block g (Array.getElem?_eq_some_iff.1 hg).1 (hv g (by rw [hv']; rfl))).trans hg, rest⟩
theorem Own.span (h : Own w B a n c zs) (hs : Span lo hi w w') (hB : hi ≤ B) : Own w' B a n c zs := ⟨ownsRow_span h.1 hs (fun g hg => .inr (Nat.le_trans hB (h.block g hg).1)), h.2⟩
theorem EnvMem.span {er : ERow} {os : Sl} {q : Sta} (h : EnvMem w B er os q) (hs : Span lo hi w w') (hB : hi ≤ B) : EnvMem w' B er os q :=
  ⟨h.vars.span hs hB, ⟨ownsRow_span h.cells.1 hs (fun g hg => .inr (Nat.le_trans hB (h.cells.1.lt g hg).1)), h.cells.2.1, h.cells.2.2.1, fun i hi => (h.cells.2.2.2 i hi).span hs hB⟩, h.outs.span hs hB, h.vo, h.cv, h.co, h.cc⟩
theorem blk_stay {b : Nat} (h : Blk w b t xs) (hg : w.grownBy w' row) (hr : row ≠ some b) : Blk w' b t xs := (hg.block b h.lt (fun e => hr e.symm)).trans h
theorem Blk.span {b : Nat} (h : Blk w b t xs) (hs : Span lo hi w w') (hv : b < lo ∨ hi ≤ b) : Blk w' b t xs := (hs.block b h.lt hv).trans h
end
/-- Where the own blocks of a slice, of a program's slices lie. -/
def SlIn (lo hi : Nat) (s : Sl) : Prop := ∀ g, (slV s).ownBlock = some g → lo ≤ g ∧ g < hi
structure ProgIn (lo hi : Nat) (r : PRow) : Prop where
  lows : SlIn lo hi r.lows
  secrets : SlIn lo hi r.secrets
  arrays : SlIn lo hi r.arrays
  body : SlIn lo hi r.body
  rows : ∀ g ∈ blks r.rows, lo ≤ g ∧ g < hi
theorem OwnProg.inside {w : World} {B : Nat} {r : PRow} {p : Prg} (h : OwnProg w B r p) : ProgIn B w.heap.size r := by
  refine ⟨fun g hg => h.lows.block g hg, fun g hg => h.secrets.block g hg, fun g hg => h.arrays.block g hg, fun g hg => h.body.block g hg, fun g hg => ?_⟩
  obtain ⟨i, hi, hg⟩ := blks_mem hg
  exact (h.body.2.2.2.1 i (by have := h.body.len; omega)).blk hg
theorem ProgIn.wide {lo hi lo' hi' : Nat} {r : PRow} (h : ProgIn lo hi r) (h1 : lo' ≤ lo) (h2 : hi ≤ hi') : ProgIn lo' hi' r :=
  ⟨fun g hg => by have := h.lows g hg; omega, fun g hg => by have := h.secrets g hg; omega, fun g hg => by have := h.arrays g hg; omega, fun g hg => by have := h.body g hg; omega, fun g hg => by have := h.rows g hg; omega⟩
/-- No two of a body's slices lie in one block. -/
theorem blks_apart {rs : List SRow} (h : (blks rs).Nodup) {i j : Nat} (hi : i < rs.length) (hj : j < rs.length) (hne : i ≠ j) {g : Nat} (h1 : g ∈ blksOf (srAt rs i)) : g ∉ blksOf (srAt rs j) := by
  intro h2
  have hp := (List.pairwise_flatMap.1 h).2
  have ei : srAt rs i = rs[i] := by simp [srAt, List.getD_eq_getElem?_getD, hi]
  have ej : srAt rs j = rs[j] := by simp [srAt, List.getD_eq_getElem?_getD, hj]
  rw [ei] at h1
  rw [ej] at h2
  rcases Nat.lt_or_ge i j with hlt | hge
  · exact (List.pairwise_iff_getElem.1 hp i j hi hj hlt g h1 g h2) rfl
  · exact (List.pairwise_iff_getElem.1 hp j i hj hi (by omega) g h2 g h1) rfl
theorem blks_self {rs : List SRow} (h : (blks rs).Nodup) {i : Nat} (hi : i < rs.length) {g : Nat} (h1 : (slV (srAt rs i).at_).ownBlock = some g) : (slV (srAt rs i).exp).ownBlock ≠ some g := by
  intro h2
  have ei : srAt rs i = rs[i] := by simp [srAt, List.getD_eq_getElem?_getD, hi]
  have hm := (List.pairwise_flatMap.1 h).1 rs[i] (List.getElem_mem hi)
  rw [← ei, blksOf, h1, h2] at hm
  simp at hm
theorem list_set_same {α : Type} {l : List α} {i : Nat} {v : α} (h : l[i]? = some v) : l.set i v = l := by
  apply List.ext_getElem? 
  intro j
  rw [List.getElem?_set]
  split
  · rename_i e
    subst e
    obtain ⟨hlt, _⟩ := List.getElem?_eq_some_iff.1 h
    rw [if_pos hlt, h]
  · rfl
end Go.Proofs.Ytflojbjeloilaaa
/- The laws' own marks on environments (markInt64SS, heldInt64SS, markEnv, heldEnv). -/
namespace Go.Proofs.Ytflojbjeloilaaa
open Go.RowKit

/-- How many numbers the first i have. -/
def sumC (css : List (List Int)) : Nat → Nat
  | 0 => 0
  | i + 1 => sumC css i + (intsAt css i).length
theorem sumC_mono (css : List (List Int)) (i j : Nat) (h : i ≤ j) : sumC css i ≤ sumC css j := by
  induction j with
  | zero => obtain rfl : i = 0 := by omega
            exact Nat.le_refl _
  | succ j ih =>
    rcases Nat.lt_or_ge i (j + 1) with h' | h'
    · have := ih (by omega); simp only [sumC]; omega
    · obtain rfl : i = j + 1 := by omega
      exact Nat.le_refl _
/-- The first i marked. -/
def MarkIS (css : List (List Int)) (k i : Nat) : List (List Int) := (List.range css.length).map (fun j => if j < i then marks ((k + sumC css j : Nat) : Int) (intsAt css j).length else intsAt css j)
theorem markIS_len (css : List (List Int)) (k i : Nat) : (MarkIS css k i).length = css.length := by simp [MarkIS]
theorem markIS_at (css : List (List Int)) (k i j : Nat) (h : j < css.length) : intsAt (MarkIS css k i) j = if j < i then marks ((k + sumC css j : Nat) : Int) (intsAt css j).length else intsAt css j := by
  simp [MarkIS, intsAt, List.getD_eq_getElem?_getD, h]
theorem markIS_zero (css : List (List Int)) (k : Nat) : MarkIS css k 0 = css := by
  apply List.ext_getElem (by rw [markIS_len])
  intro j h1 h2
  have := markIS_at css k 0 j h2
  simpa [intsAt, List.getD_eq_getElem?_getD, h1, h2] using this
/-- Each row in a block of its own. -/
def RowsOne (n : Nat) (rs : List Sl) : Prop := ∀ i j g, i < n → j < n → (slV (slAt rs i)).ownBlock = some g → (slV (slAt rs j)).ownBlock = some g → i = j
/-- Only the rows' own blocks have turned. -/
structure RowsOnly (n : Nat) (rs : List Sl) (w w' : World) : Prop where
  os : w'.os = w.os
  tape : w'.tape = w.tape
  output : w'.output = w.output
  size : w.heap.size ≤ w'.heap.size
  block : ∀ k, k < w.heap.size → (∀ i, i < n → (slV (slAt rs i)).ownBlock ≠ some k) → w'.heap[k]? = w.heap[k]?
section
variable {w w' w'' : World} {n c B m : Nat} {a : Option Addr} {rs : List Sl} {css css' : List (List Int)} {zs : List Int} {row : Option Nat}
theorem RowsOnly.refl (n : Nat) (rs : List Sl) (w : World) : RowsOnly n rs w w := ⟨rfl, rfl, rfl, Nat.le_refl _, fun _ _ _ => rfl⟩
theorem RowsOnly.grown (h : RowsOnly n rs w w') {i : Nat} (hi : i < n) (hg : w'.grownBy w'' (slV (slAt rs i)).ownBlock) : RowsOnly n rs w w'' :=
  ⟨hg.os.trans h.os, hg.tape.trans h.tape, hg.output.trans h.output, Nat.le_trans h.size hg.size, fun k hk hr => (hg.block k (Nat.lt_of_lt_of_le hk h.size) (fun e => hr i hi e.symm)).trans (h.block k hk hr)⟩
theorem RowsOnly.own (h : RowsOnly n rs w w') (ho : Own w B a m c zs) (hr : ∀ i g, i < n → (slV (slAt rs i)).ownBlock = some g → (Value.slice a m c).ownBlock ≠ some g) : Own w' B a m c zs := by
  refine ⟨⟨ho.1.1, ?_⟩, ho.2⟩
  rcases ho.1.2 with hn | ⟨g, cap, cur, hv, hb, hg, rest⟩
  · exact .inl hn
  · exact .inr ⟨g, cap, cur, hv, hb, (h.block g (Array.getElem?_eq_some_iff.1 hg).1 (fun i hi e => hr i g hi e (by rw [hv]; rfl))).trans hg, rest⟩
theorem RowsOnly.below (h : RowsOnly n rs w w') (hr : ∀ i g, i < n → (slV (slAt rs i)).ownBlock = some g → B ≤ g) (hB : B ≤ w.heap.size) : Below B w w' :=
  ⟨h.os, h.tape, h.output, h.size, fun k hk => h.block k (by omega) (fun i hi e => by have := hr i k hi e; omega)⟩
theorem RowsOnly.span {lo hi : Nat} (h : RowsOnly n rs w w') (hr : ∀ i g, i < n → (slV (slAt rs i)).ownBlock = some g → lo ≤ g ∧ g < hi) : Span lo hi w w' :=
  ⟨h.os, h.tape, h.output, h.size, fun k hk hk' => h.block k hk (fun i hi e => by have := hr i k hi e; omega)⟩
theorem ownIS_put (h : OwnIS w B a n c rs css) (cc : RowsOne n rs) {i : Nat} (hi : i < n) (ho : Own w' B (slAt rs i).1 (slAt rs i).2.1 (slAt rs i).2.2 (intsAt css' i))
    (hg : w.grownBy w' (slV (slAt rs i)).ownBlock) (hl : css'.length = n) (he : ∀ j, j < n → j ≠ i → intsAt css' j = intsAt css j) : OwnIS w' B a n c rs css' := by
  obtain ⟨h1, h2, h3, h4⟩ := h
  refine ⟨?_, h2, hl, fun j hj => ?_⟩
  · refine h1.kept hg ?_
    cases hv : (Value.slice a n c).ownBlock with
    | none => exact .inl rfl
    | some g => exact .inr (fun e => own_kinds h1 (h4 i hi).1 (by decide) hv e.symm)
  · by_cases hji : j = i
    · subst hji; exact ho
    · rw [he j hj hji]
      exact (h4 j hj).keep hg (fun g hgg e => hji (cc j i g hj hi hgg e))
end
/-- Where the own blocks of an environment lie. -/
structure EnvIn (lo hi : Nat) (er : ERow) : Prop where
  vars : SlIn lo hi er.vars
  rows : ∀ i g, i < er.cells.2.1 → (slV (slAt er.rows i)).ownBlock = some g → lo ≤ g ∧ g < hi
theorem EnvMem.inside {w : World} {B : Nat} {er : ERow} {os : Sl} {q : Sta} (h : EnvMem w B er os q) : EnvIn B w.heap.size er :=
  ⟨fun g hg => h.vars.block g hg, fun i g hi hg => (h.cells.2.2.2 i hi).block g hg⟩
/-- An environment, marked. -/
def markQ (q : Sta) (k : Nat) : Sta := ⟨marks (k : Int) q.vars.length, MarkIS q.cells (k + q.vars.length) q.cells.length, q.outs⟩
def sizeQ (q : Sta) : Nat := q.vars.length + sumC q.cells q.cells.length
end Go.Proofs.Ytflojbjeloilaaa
/- The answers of StartOf, the program's and the model's, as a law asks for them. -/
namespace Go.Proofs.Ytflojbjeloilaaa
open Go.RowKit

/-- An environment and whether there is one. -/
def AnsEnv (w : World) (b : Bool) (q : Sta) (e : Ending) (w' : World) : Prop :=
  Below w.heap.size w w' ∧ ∃ er : ERow, e = .returned (.tuple #[envV er, .bool b]) ∧ EnvMem w' w.heap.size er (none, 0, 0) q
theorem envMem_none (w : World) (B : Nat) : EnvMem w B ⟨(none, 0, 0), (none, 0, 0), []⟩ (none, 0, 0) ⟨[], [], []⟩ :=
  ⟨own_nil _ _, ⟨World.ownsRow_nil _ _ _ _, Nat.zero_le _, rfl, fun i hi => absurd hi (by simp only []; omega)⟩, own_nil _ _, fun g _ e => by simp [slV, Value.ownBlock] at e, fun i g hi => absurd hi (by simp only []; omega), fun i g hi => absurd hi (by simp only []; omega), fun i j g hi => absurd hi (by simp only []; omega)⟩
/-- What StartOf tells. -/
noncomputable def startR (p : Prg) (ls ss : List Int) : Sta := if startB p ls ss = true then startQ p ls ss else ⟨[], [], []⟩
theorem sumC_le {css : List (List Int)} {m : Nat} (h : ∀ i, i < css.length → (intsAt css i).length ≤ m) : ∀ k, k ≤ css.length → sumC css k ≤ k * m
  | 0, _ => by simp [sumC]
  | k + 1, hk => by
    have := sumC_le h k (by omega)
    have := h k (by omega)
    rw [sumC, Nat.add_mul]
    omega
theorem sta_size {p : Prg} {q : Sta} (h : StaOk p q) : sizeQ q ≤ 3000 := by
  obtain ⟨e1, e2, e3, e4, e5⟩ := envB_ok h.env
  have hd := code_head e1
  have hr := (code_parts e1).2
  simp only [roomB, Bool.and_eq_true, decide_eq_true_eq, List.all_eq_true] at hr
  simp only [envOf] at e2 e3 e5
  have hs := sumC_le (css := q.cells) (m := 6) (fun i hi => by
    have h1 := e5 i hi
    have h2 := hr.2 _ (getD_mem (show i < p.arrays.length by omega))
    omega) q.cells.length (Nat.le_refl _)
  unfold sizeQ
  omega
theorem startR_size (p : Prg) (ls ss : List Int) : sizeQ (startR p ls ss) ≤ 3000 := by
  unfold startR
  by_cases h : startB p ls ss = true
  · rw [if_pos h]; exact sta_size (start_ok h)
  · rw [if_neg h]; simp [sizeQ, sumC]
theorem specStartOf_ans (r : PRow) (p : Prg) (a a' : Option Addr) (n c n' c' : Nat) (ls ss : List Int) (w : World) (h : ProgAt w r p) (h1 : Ints w a n ls) (h2 : Ints w a' n' ss) :
    Calls Try.prog 79 #[progV r, .slice a n c, .slice a' n' c'] w (AnsEnv w (startB p ls ss) (startR p ls ss)) :=
  (specStartOf_any r p a a' n c n' c' ls ss w h h1 h2).mono (fun e w' hh => by
    obtain ⟨hb, ⟨h0, er, he, hm⟩ | ⟨h0, he⟩⟩ := hh
    · rw [startR, if_pos h0, h0]; exact ⟨hb, er, he, hm⟩
    · rw [startR, if_neg (by rw [h0]; decide), h0]; exact ⟨hb, ⟨(none, 0, 0), (none, 0, 0), []⟩, he, envMem_none _ _⟩)
theorem implStartOf_ans (r : PRow) (p : Prg) (a a' : Option Addr) (n c n' c' : Nat) (ls ss : List Int) (w : World) (h : ProgAt w r p) (hcap : r.body.2.1 ≤ r.body.2.2) (h1 : Ints w a n ls) (h2 : Ints w a' n' ss) :
    Calls Try.prog 50 #[progV r, .slice a n c, .slice a' n' c'] w (AnsEnv w (startB p ls ss) (startR p ls ss)) := by
  by_cases h0 : startB p ls ss = true
  · rw [startR, if_pos h0, h0]
    exact (implStartOf_yes r p a a' n c n' c' ls ss w h hcap h1 h2 h0).mono (fun e w' ⟨er, he, hm, hb⟩ => ⟨hb, er, he, hm⟩)
  · have h0' : startB p ls ss = false := by simpa using h0
    rw [startR, if_neg h0, h0']
    exact (implStartOf_no r p a a' n c n' c' ls ss w h hcap h1 h2 h0').mono (fun e w' ⟨he, hb⟩ => ⟨hb, ⟨(none, 0, 0), (none, 0, 0), []⟩, he, envMem_none _ _⟩)
end Go.Proofs.Ytflojbjeloilaaa
/- What RunOf and AfterOf tell. -/
namespace Go.Proofs.Ytflojbjeloilaaa
open Go.RowKit

theorem startB_ok {p : Prg} {ls ss : List Int} (h : startB p ls ss = true) : codeB p = 0 := by
  have h' : (codeB p == 0 && (areB p.lows ls && areB p.secrets ss)) = true := h
  simp only [Bool.and_eq_true, beq_iff_eq] at h'
  exact h'.1
theorem run_exists {p : Prg} {ls ss : List Int} (h : startB p ls ss = true) : ∃ x : Sta × Rz, ∃ s, s ≤ 400 ∧ Runs (2 ^ p.width.toNat) p.body .seq 0 p.body.length s (startQ p ls ss) x.1 x.2 := by
  obtain ⟨_, s, hs, hst⟩ := code_good (startB_ok h)
  obtain ⟨q', r, hr⟩ := runs_total hst (startQ p ls ss)
  exact ⟨(q', r), s, hs, hr⟩
/-- Where the run ends, and how. -/
noncomputable def runX (p : Prg) (ls ss : List Int) : Sta × Rz := if h : startB p ls ss = true then Classical.choose (run_exists h) else (⟨[], [], []⟩, (0, 0))
theorem runX_spec {p : Prg} {ls ss : List Int} (h : startB p ls ss = true) : ∃ s, s ≤ 400 ∧ Runs (2 ^ p.width.toNat) p.body .seq 0 p.body.length s (startQ p ls ss) (runX p ls ss).1 (runX p ls ss).2 := by
  rw [runX, dif_pos h]; exact Classical.choose_spec (run_exists h)
theorem runX_no {p : Prg} {ls ss : List Int} (h : startB p ls ss = false) : runX p ls ss = (⟨[], [], []⟩, (0, 0)) := by rw [runX, dif_neg (by rw [h]; decide)]
noncomputable def outR (p : Prg) (ls ss : List Int) : List Int := (runX p ls ss).1.outs
noncomputable def endR (p : Prg) (ls ss : List Int) : Rz := (runX p ls ss).2
noncomputable def afterR (p : Prg) (ls ss : List Int) : Sta := ⟨(runX p ls ss).1.vars, (runX p ls ss).1.cells, []⟩
theorem runX_ok {p : Prg} {ls ss : List Int} (h : startB p ls ss = true) : StaOk p (runX p ls ss).1 := by
  obtain ⟨s, _, hr⟩ := runX_spec h
  exact hr.ok (code_good (startB_ok h)).1 (start_ok h)
theorem outR_len (p : Prg) (ls ss : List Int) : (outR p ls ss).length ≤ 400 := by
  unfold outR
  by_cases h : startB p ls ss = true
  · obtain ⟨s, hs, hr⟩ := runX_spec h
    have := hr.outs
    simp only [roundS, startQ, List.length_nil] at this
    omega
  · rw [runX_no (by simpa using h)]; simp
theorem afterR_size (p : Prg) (ls ss : List Int) : sizeQ (afterR p ls ss) ≤ 3000 := by
  unfold afterR
  by_cases h : startB p ls ss = true
  · have := sta_size (runX_ok h)
    exact this
  · rw [runX_no (by simpa using h)]; simp [sizeQ, sumC]
/-- An outcome and whether there is one. -/
def AnsOc (w : World) (b : Bool) (zs : List Int) (rr : Rz) (e : Ending) (w' : World) : Prop :=
  Below w.heap.size w w' ∧ ∃ os : Sl, e = .returned (.tuple #[.agg #[slV os, .int .i64 rr.1, .int .i64 rr.2], .bool b]) ∧ Own w' w.heap.size os.1 os.2.1 os.2.2 zs
theorem EnvMem.drop {w : World} {B : Nat} {er : ERow} {os : Sl} {q : Sta} (h : EnvMem w B er os q) : EnvMem w B er (none, 0, 0) ⟨q.vars, q.cells, []⟩ :=
  ⟨h.vars, h.cells, own_nil _ _, fun g _ e => by simp [slV, Value.ownBlock] at e, h.cv, fun i g hi _ e => by simp [slV, Value.ownBlock] at e, h.cc⟩
theorem EnvMem.base {w : World} {B B' : Nat} {er : ERow} {os : Sl} {q : Sta} (h : EnvMem w B er os q) (hB : B' ≤ B) : EnvMem w B' er os q := by
  refine ⟨h.vars.base hB, ⟨⟨h.cells.1.1, ?_⟩, h.cells.2.1, h.cells.2.2.1, fun i hi => (h.cells.2.2.2 i hi).base hB⟩, h.outs.base hB, h.vo, h.cv, h.co, h.cc⟩
  rcases h.cells.1.2 with hn | ⟨g, cap, cur, hv, hb, rest⟩
  · exact .inl hn
  · exact .inr ⟨g, cap, cur, hv, Nat.le_trans hB hb, rest⟩
/-- Two boxes of a call: the argument's, the answer's. -/
structure TwoB (w wi : World) (t0 : TypeId) (c0 : List Value) (t1 : TypeId) (c1 : List Value) : Prop where
  arg : Blk wi w.heap.size t0 c0
  res : Blk wi (w.heap.size + 1) t1 c1
  bel : Below w.heap.size w wi
theorem TwoB.below {w wi wj : World} {t0 t1 : TypeId} {c0 c1 : List Value} (h : TwoB w wi t0 c0 t1 c1) (hb : Below wi.heap.size wi wj) : TwoB w wj t0 c0 t1 c1 :=
  ⟨h.arg.below hb h.arg.lt, h.res.below hb h.res.lt, h.bel.trans (hb.mono h.bel.size)⟩
theorem twob_new (w : World) (t0 : TypeId) (c0 : List Value) (t1 : TypeId) (c1 : List Value) : TwoB w ((w.alloc (.cells c0.toArray t0)).alloc (.cells c1.toArray t1)) t0 c0 t1 c1 :=
  ⟨(Blk.new w _ _).alloc _, by simpa using Blk.new (w.alloc (.cells c0.toArray t0)) t1 c1, ((Below.refl _ _).alloc (Nat.le_refl _) _).alloc (by simp) _⟩
theorem TwoB.lt {w wi : World} {t0 t1 : TypeId} {c0 c1 : List Value} (h : TwoB w wi t0 c0 t1 c1) : w.heap.size + 1 < wi.heap.size := h.res.lt
/-- Three cells, two cells of the answer's box are written. -/
theorem below_set3 {w w' : World} (h : Below w.heap.size w w') (x y z : Value) : Below w.heap.size w (((w'.setCell ⟨w.heap.size + 1, 0, none⟩ x).setCell ⟨w.heap.size + 1, 1, none⟩ y).setCell ⟨w.heap.size + 1, 2, none⟩ z) :=
  below_set (below_set (below_set h (by omega) _) (by omega) _) (by omega) _
theorem below_set2 {w w' : World} (h : Below w.heap.size w w') (x y : Value) : Below w.heap.size w ((w'.setCell ⟨w.heap.size + 1, 0, none⟩ x).setCell ⟨w.heap.size + 1, 1, none⟩ y) :=
  below_set (below_set h (by omega) _) (by omega) _
end Go.Proofs.Ytflojbjeloilaaa
/- The number of an input, its bits: plain mathematics. -/
namespace Go.Proofs.Ytflojbjeloilaaa
open Go.RowKit

theorem getD_app_left {zs ys : List Int} {i : Nat} (h : i < zs.length) : (zs ++ ys).getD i 0 = zs.getD i 0 := by
  simp [List.getD_eq_getElem?_getD, List.getElem?_append_left h]
theorem getD_app_right {zs ys : List Int} (i : Nat) : (zs ++ ys).getD (zs.length + i) 0 = ys.getD i 0 := by
  simp only [List.getD_eq_getElem?_getD]
  rw [List.getElem?_append_right (by omega), show zs.length + i - zs.length = i by omega]
theorem maxesP_len (p : Prg) : (maxesP p).length = p.lows.length + p.secrets.length := by rw [maxesP, maxesL_len, List.length_append]
/-- A start's values: each from 0 to its Max. -/
theorem start_in {p : Prg} {ls ss : List Int} (h : startB p ls ss = true) : (ls ++ ss).length = (maxesP p).length ∧ ∀ i, i < (maxesP p).length → 0 ≤ (ls ++ ss).getD i 0 ∧ (ls ++ ss).getD i 0 ≤ (maxesP p).getD i 0 := by
  have h' : (codeB p == 0 && (areB p.lows ls && areB p.secrets ss)) = true := h
  simp only [Bool.and_eq_true, beq_iff_eq] at h'
  obtain ⟨_, h1, h2⟩ := h'
  obtain ⟨l1, a1⟩ := areB_ok h1
  obtain ⟨l2, a2⟩ := areB_ok h2
  refine ⟨by rw [maxesP_len, List.length_append]; omega, fun i hi => ?_⟩
  rw [maxesP_len] at hi
  rw [maxesP, maxesL_getD (by rw [List.length_append]; exact hi)]
  rcases Nat.lt_or_ge i p.lows.length with hlt | hge
  · rw [tmAt_app_left hlt, getD_app_left (by omega)]
    exact a1 i (by omega)
  · obtain ⟨j, rfl⟩ : ∃ j, i = p.lows.length + j := ⟨i - p.lows.length, by omega⟩
    rw [tmAt_app_right, ← l1, getD_app_right]
    exact a2 j (by omega)
/-- What NumberOf tells. -/
noncomputable def numB (p : Prg) (ls ss : List Int) : Int := if startB p ls ss = true then numFrom (maxesP p) (ls ++ ss) (maxesP p).length else -1
theorem numFrom_step {ms zs : List Int} {j k : Nat} {m z : Int} (h : j + 1 + k = ms.length) (hm : Hid (m = ms.getD j 0)) (hz : Hid (z = zs.getD j 0)) : numFrom ms zs (k + 1) = numFrom ms zs k * (m + 1) + z := by
  rw [numFrom, show ms.length - 1 - k = j by omega, hm.out, hz.out]
theorem numFrom_small {ms zs : List Int} (h : MaxOk ms) (hz : ∀ i, i < ms.length → 0 ≤ zs.getD i 0 ∧ zs.getD i 0 ≤ ms.getD i 0) {k : Nat} (hk : k ≤ ms.length) : 0 ≤ numFrom ms zs k ∧ numFrom ms zs k < 281474976710656 := by
  obtain ⟨h1, h2⟩ := numFrom_in h hz k hk
  have h6 := h.1
  have hp : 256 ^ k ≤ 256 ^ 6 := Nat.pow_le_pow_right (by omega) (by omega)
  have hq : ((256 ^ k : Nat) : Int) ≤ ((256 ^ 6 : Nat) : Int) := Int.ofNat_le.2 hp
  have he : ((256 ^ 6 : Nat) : Int) = 281474976710656 := by decide
  exact ⟨h1, by omega⟩
end Go.Proofs.Ytflojbjeloilaaa
/- All inputs in their order: an input's values by its number, and how one goes on to the next: plain mathematics. -/
namespace Go.Proofs.Ytflojbjeloilaaa
open Go.RowKit

/-- The values of an input's number. -/
def digs : List Int → Int → List Int
  | [], _ => []
  | m :: ms, n => n % (m + 1) :: digs ms (n / (m + 1))
/-- The next values, and whether there are any. -/
def nextD : List Int → List Int → List Int × Bool
  | m :: ms, z :: zs => if z < m then ((z + 1) :: zs, true) else (0 :: (nextD ms zs).1, (nextD ms zs).2)
  | _, zs => (zs, false)
def prodL : List Int → Int
  | [] => 1
  | m :: ms => (m + 1) * prodL ms
theorem digs_len : ∀ (ms : List Int) (n : Int), (digs ms n).length = ms.length
  | [], _ => rfl
  | m :: ms, n => by simp [digs, digs_len ms]
theorem nextD_len : ∀ (ms zs : List Int), (nextD ms zs).1.length = zs.length
  | [], _ => rfl
  | _ :: _, [] => rfl
  | m :: ms, z :: zs => by
    unfold nextD
    split
    · rfl
    · simp [nextD_len ms zs]
theorem prodL_pos : ∀ {ms : List Int}, (∀ m ∈ ms, 0 ≤ m) → 1 ≤ prodL ms
  | [], _ => by simp [prodL]
  | m :: ms, h => by
    have h1 := prodL_pos (ms := ms) (fun x hx => h x (List.mem_cons_of_mem _ hx))
    have h2 := h m (List.mem_cons_self)
    have : 1 * 1 ≤ (m + 1) * prodL ms := Int.mul_le_mul (by omega) h1 (by omega) (by omega)
    rw [prodL]; omega
theorem prodL_le : ∀ {ms : List Int}, (∀ m ∈ ms, 0 ≤ m ∧ m ≤ 255) → prodL ms ≤ ((256 ^ ms.length : Nat) : Int)
  | [], _ => by simp [prodL]
  | m :: ms, h => by
    have h1 := prodL_le (ms := ms) (fun x hx => h x (List.mem_cons_of_mem _ hx))
    have h2 := h m (List.mem_cons_self)
    have h3 := prodL_pos (ms := ms) (fun x hx => (h x (List.mem_cons_of_mem _ hx)).1)
    have : (m + 1) * prodL ms ≤ 256 * ((256 ^ ms.length : Nat) : Int) := Int.mul_le_mul (by omega) h1 (by omega) (by omega)
    rw [prodL, List.length_cons, Nat.pow_succ, Int.natCast_mul]
    omega
theorem prodL_small {ms : List Int} (h : ∀ m ∈ ms, 0 ≤ m ∧ m ≤ 255) (hl : ms.length ≤ 6) : prodL ms ≤ 281474976710656 := by
  have h1 := prodL_le h
  have hp : 256 ^ ms.length ≤ 256 ^ 6 := Nat.pow_le_pow_right (by omega) hl
  have hq : ((256 ^ ms.length : Nat) : Int) ≤ ((256 ^ 6 : Nat) : Int) := Int.ofNat_le.2 hp
  have he : ((256 ^ 6 : Nat) : Int) = 281474976710656 := by decide
  omega
theorem countTo_cons (m : Int) (ms : List Int) : ∀ k, countTo (m :: ms) (k + 1) = (m + 1) * countTo ms k
  | 0 => by simp [countTo]
  | k + 1 => by
    rw [countTo, countTo_cons m ms k, countTo]
    simp only [List.getD_cons_succ]
    rw [Int.mul_assoc]
theorem countTo_prod : ∀ ms : List Int, countTo ms ms.length = prodL ms
  | [] => rfl
  | m :: ms => by rw [List.length_cons, countTo_cons, countTo_prod ms, prodL]
theorem digs_zero : ∀ {ms : List Int}, (∀ m ∈ ms, 0 ≤ m) → digs ms 0 = List.replicate ms.length 0
  | [], _ => rfl
  | m :: ms, h => by
    rw [digs, Int.zero_emod, Int.zero_ediv, digs_zero (fun x hx => h x (List.mem_cons_of_mem _ hx))]; rfl
theorem digs_in : ∀ {ms : List Int} (n : Int), (∀ m ∈ ms, 0 ≤ m ∧ m ≤ 255) → ∀ z ∈ digs ms n, 0 ≤ z ∧ z ≤ 255
  | [], _, _, z, hz => by simp [digs] at hz
  | m :: ms, n, h, z, hz => by
    rw [digs, List.mem_cons] at hz
    have hm := h m (List.mem_cons_self)
    rcases hz with rfl | hz
    · have h1 := Int.emod_nonneg n (show m + 1 ≠ 0 by omega)
      have h2 := Int.emod_lt_of_pos n (show 0 < m + 1 by omega)
      omega
    · exact digs_in _ (fun x hx => h x (List.mem_cons_of_mem _ hx)) z hz
theorem nextD_digs : ∀ {ms : List Int}, (∀ m ∈ ms, 0 ≤ m) → ∀ {n : Int}, 0 ≤ n → n < prodL ms → (nextD ms (digs ms n)).2 = decide (n + 1 < prodL ms) ∧ (n + 1 < prodL ms → (nextD ms (digs ms n)).1 = digs ms (n + 1))
  | [], _, n, h0, h1 => by
    have : n = 0 := by simp [prodL] at h1; omega
    subst this
    exact ⟨rfl, fun h => by simp [prodL] at h⟩
  | m :: ms, h, n, h0, h1 => by
    have hm := h m (List.mem_cons_self)
    have hms := fun x hx => h x (List.mem_cons_of_mem _ hx)
    have hp := prodL_pos hms
    have e0 := Int.emod_add_mul_ediv n (m + 1)
    have z0 := Int.emod_nonneg n (show m + 1 ≠ 0 by omega)
    have z1 := Int.emod_lt_of_pos n (show 0 < m + 1 by omega)
    have q0 := Int.ediv_nonneg h0 (show 0 ≤ m + 1 by omega)
    rw [prodL] at h1 ⊢
    rw [digs, digs]
    generalize hz : n % (m + 1) = z at e0 z0 z1 ⊢
    generalize hq : n / (m + 1) = q at e0 q0 ⊢
    generalize hP : prodL ms = P at h1 hp ⊢
    have hqP : q < P := by
      refine Int.lt_of_not_ge fun hge => ?_
      have : (m + 1) * P ≤ (m + 1) * q := Int.mul_le_mul_of_nonneg_left hge (by omega)
      omega
    rw [nextD]
    by_cases hlt : z < m
    · rw [if_pos hlt]
      have hu := (Int.ediv_emod_unique (a := n + 1) (b := m + 1) (r := z + 1) (q := q) (by omega)).2 ⟨by omega, by omega, by omega⟩
      rw [hu.1, hu.2]
      have hlt2 : n + 1 < (m + 1) * P := by
        have : (m + 1) * (q + 1) ≤ (m + 1) * P := Int.mul_le_mul_of_nonneg_left (by omega) (by omega)
        rw [Int.mul_add, Int.mul_one] at this
        omega
      refine ⟨by simp [hlt2], fun _ => ?_⟩
      have hd : digs ms q = digs ms q := rfl
      simp
    · rw [if_neg hlt]
      have hzm : z = m := by omega
      subst hzm
      have hu := (Int.ediv_emod_unique (a := n + 1) (b := z + 1) (r := 0) (q := q + 1) (by omega)).2 ⟨by rw [Int.mul_add, Int.mul_one]; omega, by omega, by omega⟩
      rw [hu.1, hu.2]
      obtain ⟨i1, i2⟩ := nextD_digs hms q0 (by rw [hP]; exact hqP)
      rw [hP] at i1 i2
      have hiff : n + 1 < (z + 1) * P ↔ q + 1 < P := by
        constructor
        · intro hh
          refine Int.lt_of_not_ge fun hge => ?_
          have : (z + 1) * P ≤ (z + 1) * (q + 1) := Int.mul_le_mul_of_nonneg_left hge (by omega)
          rw [Int.mul_add, Int.mul_one] at this
          omega
        · intro hh
          have : (z + 1) * (q + 1 + 1) ≤ (z + 1) * P := Int.mul_le_mul_of_nonneg_left (by omega) (by omega)
          rw [Int.mul_add, Int.mul_add, Int.mul_one] at this
          omega
      refine ⟨by rw [i1]; exact decide_eq_decide.2 hiff.symm, fun hh => ?_⟩
      rw [i2 (hiff.1 hh)]
/-- The loop's view: the first i are 0 already. -/
theorem nextD_step {ms zs : List Int} {i : Nat} (hi : i < ms.length) (hl : zs.length = ms.length) :
    nextD (ms.drop i) (zs.drop i) = if zs.getD i 0 < ms.getD i 0 then ((zs.getD i 0 + 1) :: zs.drop (i + 1), true) else (0 :: (nextD (ms.drop (i + 1)) (zs.drop (i + 1))).1, (nextD (ms.drop (i + 1)) (zs.drop (i + 1))).2) := by
  have e1 : ms.drop i = ms.getD i 0 :: ms.drop (i + 1) := by
    rw [List.drop_eq_getElem_cons hi]; simp [List.getD_eq_getElem?_getD, List.getElem?_eq_getElem hi]
  have hi' : i < zs.length := by omega
  have e2 : zs.drop i = zs.getD i 0 :: zs.drop (i + 1) := by
    rw [List.drop_eq_getElem_cons hi']; simp [List.getD_eq_getElem?_getD, List.getElem?_eq_getElem hi']
  rw [e1, e2]
  rfl
theorem repl_get {zs : List Int} {i : Nat} : (List.replicate i (0 : Int) ++ zs.drop i).getD i 0 = zs.getD i 0 := by
  simp [List.getD_eq_getElem?_getD, List.getElem?_append_right]
theorem repl_set {zs : List Int} {i : Nat} (hi : i < zs.length) (v : Int) : (List.replicate i (0 : Int) ++ zs.drop i).set i v = List.replicate i 0 ++ (v :: zs.drop (i + 1)) := by
  rw [List.set_append_right _ _ (by simp), List.length_replicate, Nat.sub_self, List.drop_eq_getElem_cons hi]
  rfl
theorem repl_more {zs : List Int} {i : Nat} : List.replicate i (0 : Int) ++ (0 :: zs.drop (i + 1)) = List.replicate (i + 1) 0 ++ zs.drop (i + 1) := by
  rw [List.replicate_succ', List.append_assoc]; rfl
end Go.Proofs.Ytflojbjeloilaaa
