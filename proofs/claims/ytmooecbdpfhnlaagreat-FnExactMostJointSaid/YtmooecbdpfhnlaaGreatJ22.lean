/- Joined texts of this proof (EnvMark, StartAns, RunAns, NumMath, EachMath, ConcatIn), in build order. -/
import Derived.Test.YtmooecbdpfhnlaaGreatJ13
import Derived.Test.YtmooecbdpfhnlaaGreatJ19
import Derived.Test.YtmooecbdpfhnlaaGreatJ21
import Derived.Test.YtmooecbdpfhnlaaGreatJ17
import Derived.Test.YtmooecbdpfhnlaaGreatJ18
import Derived.Test.YtmooecbdpfhnlaaGreatJ7
import Derived.Test.YtmooecbdpfhnlaaGreatJ3
/- The laws' own marks on environments (markInt64SS, heldInt64SS, markEnv, heldEnv). -/
namespace Go.Proofs.YtmooecbdpfhnlaaGreat
open Go.RowKit

/-- How many numbers the first i have. -/
def sumC (css : List (List Int)) : Nat → Nat
  | 0 => 0
  | i + 1 => sumC css i + (intsAt css i).length
/-- The first i marked. -/
def MarkIS (css : List (List Int)) (k i : Nat) : List (List Int) := (List.range css.length).map (fun j => if j < i then marks ((k + sumC css j : Nat) : Int) (intsAt css j).length else intsAt css j)
/-- Each row in a block of its own. -/
def RowsOne (n : Nat) (rs : List Sl) : Prop := ∀ i j g, i < n → j < n → (slV (slAt rs i)).ownBlock = some g → (slV (slAt rs j)).ownBlock = some g → i = j
/-- Only the rows' own blocks have turned. -/
structure RowsOnly (n : Nat) (rs : List Sl) (w w' : World) : Prop where
  os : w'.os = w.os
  tape : w'.tape = w.tape
  output : w'.output = w.output
  size : w.heap.size ≤ w'.heap.size
  block : ∀ k, k < w.heap.size → (∀ i, i < n → (slV (slAt rs i)).ownBlock ≠ some k) → w'.heap[k]? = w.heap[k]?
section
variable {w w' w'' : World} {n c B m : Nat} {a : Option Addr} {rs : List Sl} {css css' : List (List Int)} {zs : List Int} {row : Option Nat}
theorem RowsOnly.refl (n : Nat) (rs : List Sl) (w : World) : RowsOnly n rs w w := ⟨rfl, rfl, rfl, Nat.le_refl _, fun _ _ _ => rfl⟩
theorem RowsOnly.grown (h : RowsOnly n rs w w') {i : Nat} (hi : i < n) (hg : w'.grownBy w'' (slV (slAt rs i)).ownBlock) : RowsOnly n rs w w'' :=
  ⟨hg.os.trans h.os, hg.tape.trans h.tape, hg.output.trans h.output, Nat.le_trans h.size hg.size, fun k hk hr => (hg.block k (Nat.lt_of_lt_of_le hk h.size) (fun e => hr i hi e.symm)).trans (h.block k hk hr)⟩
theorem RowsOnly.own (h : RowsOnly n rs w w') (ho : Own w B a m c zs) (hr : ∀ i g, i < n → (slV (slAt rs i)).ownBlock = some g → (Value.slice a m c).ownBlock ≠ some g) : Own w' B a m c zs := by
  refine ⟨⟨ho.1.1, ?_⟩, ho.2⟩
  rcases ho.1.2 with hn | ⟨g, cap, cur, hv, hb, hg, rest⟩
  · exact .inl hn
  · exact .inr ⟨g, cap, cur, hv, hb, (h.block g (Array.getElem?_eq_some_iff.1 hg).1 (fun i hi e => hr i g hi e (by rw [hv]; rfl))).trans hg, rest⟩
theorem RowsOnly.below (h : RowsOnly n rs w w') (hr : ∀ i g, i < n → (slV (slAt rs i)).ownBlock = some g → B ≤ g) (hB : B ≤ w.heap.size) : Below B w w' :=
  ⟨h.os, h.tape, h.output, h.size, fun k hk => h.block k (by omega) (fun i hi e => by have := hr i k hi e; omega)⟩
theorem RowsOnly.span {lo hi : Nat} (h : RowsOnly n rs w w') (hr : ∀ i g, i < n → (slV (slAt rs i)).ownBlock = some g → lo ≤ g ∧ g < hi) : Span lo hi w w' :=
  ⟨h.os, h.tape, h.output, h.size, fun k hk hk' => h.block k hk (fun i hi e => by have := hr i k hi e; omega)⟩
end
/-- Where the own blocks of an environment lie. -/
structure EnvIn (lo hi : Nat) (er : ERow) : Prop where
  vars : SlIn lo hi er.vars
  rows : ∀ i g, i < er.cells.2.1 → (slV (slAt er.rows i)).ownBlock = some g → lo ≤ g ∧ g < hi
theorem EnvMem.inside {w : World} {B : Nat} {er : ERow} {os : Sl} {q : Sta} (h : EnvMem w B er os q) : EnvIn B w.heap.size er :=
  ⟨fun g hg => h.vars.block g hg, fun i g hi hg => (h.cells.2.2.2 i hi).block g hg⟩
/-- An environment, marked. -/
def markQ (q : Sta) (k : Nat) : Sta := ⟨marks (k : Int) q.vars.length, MarkIS q.cells (k + q.vars.length) q.cells.length, q.outs⟩
def sizeQ (q : Sta) : Nat := q.vars.length + sumC q.cells q.cells.length
end Go.Proofs.YtmooecbdpfhnlaaGreat
/- The answers of StartOf, the program's and the model's, as a law asks for them. -/
namespace Go.Proofs.YtmooecbdpfhnlaaGreat
open Go.RowKit

/-- An environment and whether there is one. -/
def AnsEnv (w : World) (b : Bool) (q : Sta) (e : Ending) (w' : World) : Prop :=
  Below w.heap.size w w' ∧ ∃ er : ERow, e = .returned (.tuple #[envV er, .bool b]) ∧ EnvMem w' w.heap.size er (none, 0, 0) q
theorem envMem_none (w : World) (B : Nat) : EnvMem w B ⟨(none, 0, 0), (none, 0, 0), []⟩ (none, 0, 0) ⟨[], [], []⟩ :=
  ⟨own_nil _ _, ⟨World.ownsRow_nil _ _ _ _, Nat.zero_le _, rfl, fun i hi => absurd hi (by simp only []; omega)⟩, own_nil _ _, fun g _ e => by simp [slV, Value.ownBlock] at e, fun i g hi => absurd hi (by simp only []; omega), fun i g hi => absurd hi (by simp only []; omega), fun i j g hi => absurd hi (by simp only []; omega)⟩
/-- What StartOf tells. -/
noncomputable def startR (p : Prg) (ls ss : List Int) : Sta := if startB p ls ss = true then startQ p ls ss else ⟨[], [], []⟩
theorem specStartOf_ans (r : PRow) (p : Prg) (a a' : Option Addr) (n c n' c' : Nat) (ls ss : List Int) (w : World) (h : ProgAt w r p) (h1 : Ints w a n ls) (h2 : Ints w a' n' ss) :
    Calls Tryz.prog 105 #[progV r, .slice a n c, .slice a' n' c'] w (AnsEnv w (startB p ls ss) (startR p ls ss)) :=
  (specStartOf_any r p a a' n c n' c' ls ss w h h1 h2).mono (fun e w' hh => by
    obtain ⟨hb, ⟨h0, er, he, hm⟩ | ⟨h0, he⟩⟩ := hh
    · rw [startR, if_pos h0, h0]; exact ⟨hb, er, he, hm⟩
    · rw [startR, if_neg (by rw [h0]; decide), h0]; exact ⟨hb, ⟨(none, 0, 0), (none, 0, 0), []⟩, he, envMem_none _ _⟩)
theorem implStartOf_ans (r : PRow) (p : Prg) (a a' : Option Addr) (n c n' c' : Nat) (ls ss : List Int) (w : World) (h : ProgAt w r p) (hcap : r.body.2.1 ≤ r.body.2.2) (h1 : Ints w a n ls) (h2 : Ints w a' n' ss) :
    Calls Tryz.prog 56 #[progV r, .slice a n c, .slice a' n' c'] w (AnsEnv w (startB p ls ss) (startR p ls ss)) := by
  by_cases h0 : startB p ls ss = true
  · rw [startR, if_pos h0, h0]
    exact (implStartOf_yes r p a a' n c n' c' ls ss w h hcap h1 h2 h0).mono (fun e w' ⟨er, he, hm, hb⟩ => ⟨hb, er, he, hm⟩)
  · have h0' : startB p ls ss = false := by simpa using h0
    rw [startR, if_neg h0, h0']
    exact (implStartOf_no r p a a' n c n' c' ls ss w h hcap h1 h2 h0').mono (fun e w' ⟨he, hb⟩ => ⟨hb, ⟨(none, 0, 0), (none, 0, 0), []⟩, he, envMem_none _ _⟩)
end Go.Proofs.YtmooecbdpfhnlaaGreat
/- What RunOf and AfterOf tell. -/
namespace Go.Proofs.YtmooecbdpfhnlaaGreat
open Go.RowKit

theorem startB_ok {p : Prg} {ls ss : List Int} (h : startB p ls ss = true) : codeB p = 0 := by
  have h' : (codeB p == 0 && (areB p.lows ls && areB p.secrets ss)) = true := h
  simp only [Bool.and_eq_true, beq_iff_eq] at h'
  exact h'.1
theorem run_exists {p : Prg} {ls ss : List Int} (h : startB p ls ss = true) : ∃ x : Sta × Rz, ∃ s, s ≤ 400 ∧ Runs (2 ^ p.width.toNat) p.body .seq 0 p.body.length s (startQ p ls ss) x.1 x.2 := by
  obtain ⟨_, s, hs, hst⟩ := code_good (startB_ok h)
  obtain ⟨q', r, hr⟩ := runs_total hst (startQ p ls ss)
  exact ⟨(q', r), s, hs, hr⟩
/-- Where the run ends, and how. -/
noncomputable def runX (p : Prg) (ls ss : List Int) : Sta × Rz := if h : startB p ls ss = true then Classical.choose (run_exists h) else (⟨[], [], []⟩, (0, 0))
theorem runX_spec {p : Prg} {ls ss : List Int} (h : startB p ls ss = true) : ∃ s, s ≤ 400 ∧ Runs (2 ^ p.width.toNat) p.body .seq 0 p.body.length s (startQ p ls ss) (runX p ls ss).1 (runX p ls ss).2 := by
  rw [runX, dif_pos h]; exact Classical.choose_spec (run_exists h)
theorem runX_no {p : Prg} {ls ss : List Int} (h : startB p ls ss = false) : runX p ls ss = (⟨[], [], []⟩, (0, 0)) := by rw [runX, dif_neg (by rw [h]; decide)]
noncomputable def outR (p : Prg) (ls ss : List Int) : List Int := (runX p ls ss).1.outs
noncomputable def endR (p : Prg) (ls ss : List Int) : Rz := (runX p ls ss).2
noncomputable def afterR (p : Prg) (ls ss : List Int) : Sta := ⟨(runX p ls ss).1.vars, (runX p ls ss).1.cells, []⟩
theorem runX_ok {p : Prg} {ls ss : List Int} (h : startB p ls ss = true) : StaOk p (runX p ls ss).1 := by
  obtain ⟨s, _, hr⟩ := runX_spec h
  exact hr.ok (code_good (startB_ok h)).1 (start_ok h)
theorem outR_len (p : Prg) (ls ss : List Int) : (outR p ls ss).length ≤ 400 := by
  unfold outR
  by_cases h : startB p ls ss = true
  · obtain ⟨s, hs, hr⟩ := runX_spec h
    have := hr.outs
    simp only [roundS, startQ, List.length_nil] at this
    omega
  · rw [runX_no (by simpa using h)]; simp
/-- An outcome and whether there is one. -/
def AnsOc (w : World) (b : Bool) (zs : List Int) (rr : Rz) (e : Ending) (w' : World) : Prop :=
  Below w.heap.size w w' ∧ ∃ os : Sl, e = .returned (.tuple #[.agg #[slV os, .int .i64 rr.1, .int .i64 rr.2], .bool b]) ∧ Own w' w.heap.size os.1 os.2.1 os.2.2 zs
theorem EnvMem.drop {w : World} {B : Nat} {er : ERow} {os : Sl} {q : Sta} (h : EnvMem w B er os q) : EnvMem w B er (none, 0, 0) ⟨q.vars, q.cells, []⟩ :=
  ⟨h.vars, h.cells, own_nil _ _, fun g _ e => by simp [slV, Value.ownBlock] at e, h.cv, fun i g hi _ e => by simp [slV, Value.ownBlock] at e, h.cc⟩
theorem EnvMem.base {w : World} {B B' : Nat} {er : ERow} {os : Sl} {q : Sta} (h : EnvMem w B er os q) (hB : B' ≤ B) : EnvMem w B' er os q := by
  refine ⟨h.vars.base hB, ⟨⟨h.cells.1.1, ?_⟩, h.cells.2.1, h.cells.2.2.1, fun i hi => (h.cells.2.2.2 i hi).base hB⟩, h.outs.base hB, h.vo, h.cv, h.co, h.cc⟩
  rcases h.cells.1.2 with hn | ⟨g, cap, cur, hv, hb, rest⟩
  · exact .inl hn
  · exact .inr ⟨g, cap, cur, hv, Nat.le_trans hB hb, rest⟩
/-- Two boxes of a call: the argument's, the answer's. -/
structure TwoB (w wi : World) (t0 : TypeId) (c0 : List Value) (t1 : TypeId) (c1 : List Value) : Prop where
  arg : Blk wi w.heap.size t0 c0
  res : Blk wi (w.heap.size + 1) t1 c1
  bel : Below w.heap.size w wi
theorem TwoB.below {w wi wj : World} {t0 t1 : TypeId} {c0 c1 : List Value} (h : TwoB w wi t0 c0 t1 c1) (hb : Below wi.heap.size wi wj) : TwoB w wj t0 c0 t1 c1 :=
  ⟨h.arg.below hb h.arg.lt, h.res.below hb h.res.lt, h.bel.trans (hb.mono h.bel.size)⟩
theorem twob_new (w : World) (t0 : TypeId) (c0 : List Value) (t1 : TypeId) (c1 : List Value) : TwoB w ((w.alloc (.cells c0.toArray t0)).alloc (.cells c1.toArray t1)) t0 c0 t1 c1 :=
  ⟨(Blk.new w _ _).alloc _, by simpa using Blk.new (w.alloc (.cells c0.toArray t0)) t1 c1, ((Below.refl _ _).alloc (Nat.le_refl _) _).alloc (by simp) _⟩
theorem TwoB.lt {w wi : World} {t0 t1 : TypeId} {c0 c1 : List Value} (h : TwoB w wi t0 c0 t1 c1) : w.heap.size + 1 < wi.heap.size := h.res.lt
/-- Three cells, two cells of the answer's box are written. -/
theorem below_set3 {w w' : World} (h : Below w.heap.size w w') (x y z : Value) : Below w.heap.size w (((w'.setCell ⟨w.heap.size + 1, 0, none⟩ x).setCell ⟨w.heap.size + 1, 1, none⟩ y).setCell ⟨w.heap.size + 1, 2, none⟩ z) :=
  below_set (below_set (below_set h (by omega) _) (by omega) _) (by omega) _
end Go.Proofs.YtmooecbdpfhnlaaGreat
/- The number of an input, its bits: plain mathematics. -/
namespace Go.Proofs.YtmooecbdpfhnlaaGreat
open Go.RowKit

theorem getD_app_left {zs ys : List Int} {i : Nat} (h : i < zs.length) : (zs ++ ys).getD i 0 = zs.getD i 0 := by
  simp [List.getD_eq_getElem?_getD, List.getElem?_append_left h]
theorem getD_app_right {zs ys : List Int} (i : Nat) : (zs ++ ys).getD (zs.length + i) 0 = ys.getD i 0 := by
  simp only [List.getD_eq_getElem?_getD]
  rw [List.getElem?_append_right (by omega), show zs.length + i - zs.length = i by omega]
theorem maxesP_len (p : Prg) : (maxesP p).length = p.lows.length + p.secrets.length := by rw [maxesP, maxesL_len, List.length_append]
/-- A start's values: each from 0 to its Max. -/
theorem start_in {p : Prg} {ls ss : List Int} (h : startB p ls ss = true) : (ls ++ ss).length = (maxesP p).length ∧ ∀ i, i < (maxesP p).length → 0 ≤ (ls ++ ss).getD i 0 ∧ (ls ++ ss).getD i 0 ≤ (maxesP p).getD i 0 := by
  have h' : (codeB p == 0 && (areB p.lows ls && areB p.secrets ss)) = true := h
  simp only [Bool.and_eq_true, beq_iff_eq] at h'
  obtain ⟨_, h1, h2⟩ := h'
  obtain ⟨l1, a1⟩ := areB_ok h1
  obtain ⟨l2, a2⟩ := areB_ok h2
  refine ⟨by rw [maxesP_len, List.length_append]; omega, fun i hi => ?_⟩
  rw [maxesP_len] at hi
  rw [maxesP, maxesL_getD (by rw [List.length_append]; exact hi)]
  rcases Nat.lt_or_ge i p.lows.length with hlt | hge
  · rw [tmAt_app_left hlt, getD_app_left (by omega)]
    exact a1 i (by omega)
  · obtain ⟨j, rfl⟩ : ∃ j, i = p.lows.length + j := ⟨i - p.lows.length, by omega⟩
    rw [tmAt_app_right, ← l1, getD_app_right]
    exact a2 j (by omega)
/-- What NumberOf tells. -/
noncomputable def numB (p : Prg) (ls ss : List Int) : Int := if startB p ls ss = true then numFrom (maxesP p) (ls ++ ss) (maxesP p).length else -1
end Go.Proofs.YtmooecbdpfhnlaaGreat
/- All inputs in their order: an input's values by its number, and how one goes on to the next: plain mathematics. -/
namespace Go.Proofs.YtmooecbdpfhnlaaGreat
open Go.RowKit

/-- The values of an input's number. -/
def digs : List Int → Int → List Int
  | [], _ => []
  | m :: ms, n => n % (m + 1) :: digs ms (n / (m + 1))
/-- The next values, and whether there are any. -/
def nextD : List Int → List Int → List Int × Bool
  | m :: ms, z :: zs => if z < m then ((z + 1) :: zs, true) else (0 :: (nextD ms zs).1, (nextD ms zs).2)
  | _, zs => (zs, false)
def prodL : List Int → Int
  | [] => 1
  | m :: ms => (m + 1) * prodL ms
theorem digs_len : ∀ (ms : List Int) (n : Int), (digs ms n).length = ms.length
  | [], _ => rfl
  | m :: ms, n => by simp [digs, digs_len ms]
theorem prodL_pos : ∀ {ms : List Int}, (∀ m ∈ ms, 0 ≤ m) → 1 ≤ prodL ms
  | [], _ => by simp [prodL]
  | m :: ms, h => by
    have h1 := prodL_pos (ms := ms) (fun x hx => h x (List.mem_cons_of_mem _ hx))
    have h2 := h m (List.mem_cons_self)
    have : 1 * 1 ≤ (m + 1) * prodL ms := Int.mul_le_mul (by omega) h1 (by omega) (by omega)
    rw [prodL]; omega
theorem prodL_le : ∀ {ms : List Int}, (∀ m ∈ ms, 0 ≤ m ∧ m ≤ 255) → prodL ms ≤ ((256 ^ ms.length : Nat) : Int)
  | [], _ => by simp [prodL]
  | m :: ms, h => by
    have h1 := prodL_le (ms := ms) (fun x hx => h x (List.mem_cons_of_mem _ hx))
    have h2 := h m (List.mem_cons_self)
    have h3 := prodL_pos (ms := ms) (fun x hx => (h x (List.mem_cons_of_mem _ hx)).1)
    have : (m + 1) * prodL ms ≤ 256 * ((256 ^ ms.length : Nat) : Int) := Int.mul_le_mul (by omega) h1 (by omega) (by omega)
    rw [prodL, List.length_cons, Nat.pow_succ, Int.natCast_mul]
    omega
theorem prodL_small {ms : List Int} (h : ∀ m ∈ ms, 0 ≤ m ∧ m ≤ 255) (hl : ms.length ≤ 6) : prodL ms ≤ 281474976710656 := by
  have h1 := prodL_le h
  have hp : 256 ^ ms.length ≤ 256 ^ 6 := Nat.pow_le_pow_right (by omega) hl
  have hq : ((256 ^ ms.length : Nat) : Int) ≤ ((256 ^ 6 : Nat) : Int) := Int.ofNat_le.2 hp
  have he : ((256 ^ 6 : Nat) : Int) = 281474976710656 := by decide
  omega
theorem countTo_cons (m : Int) (ms : List Int) : ∀ k, countTo (m :: ms) (k + 1) = (m + 1) * countTo ms k
  | 0 => by simp [countTo]
  | k + 1 => by
    rw [countTo, countTo_cons m ms k, countTo]
    simp only [List.getD_cons_succ]
    rw [Int.mul_assoc]
theorem countTo_prod : ∀ ms : List Int, countTo ms ms.length = prodL ms
  | [] => rfl
  | m :: ms => by rw [List.length_cons, countTo_cons, countTo_prod ms, prodL]
theorem digs_zero : ∀ {ms : List Int}, (∀ m ∈ ms, 0 ≤ m) → digs ms 0 = List.replicate ms.length 0
  | [], _ => rfl
  | m :: ms, h => by
    rw [digs, Int.zero_emod, Int.zero_ediv, digs_zero (fun x hx => h x (List.mem_cons_of_mem _ hx))]; rfl
theorem digs_in : ∀ {ms : List Int} (n : Int), (∀ m ∈ ms, 0 ≤ m ∧ m ≤ 255) → ∀ z ∈ digs ms n, 0 ≤ z ∧ z ≤ 255
  | [], _, _, z, hz => by simp [digs] at hz
  | m :: ms, n, h, z, hz => by
    rw [digs, List.mem_cons] at hz
    have hm := h m (List.mem_cons_self)
    rcases hz with rfl | hz
    · have h1 := Int.emod_nonneg n (show m + 1 ≠ 0 by omega)
      have h2 := Int.emod_lt_of_pos n (show 0 < m + 1 by omega)
      omega
    · exact digs_in _ (fun x hx => h x (List.mem_cons_of_mem _ hx)) z hz
theorem nextD_digs : ∀ {ms : List Int}, (∀ m ∈ ms, 0 ≤ m) → ∀ {n : Int}, 0 ≤ n → n < prodL ms → (nextD ms (digs ms n)).2 = decide (n + 1 < prodL ms) ∧ (n + 1 < prodL ms → (nextD ms (digs ms n)).1 = digs ms (n + 1))
  | [], _, n, h0, h1 => by
    have : n = 0 := by simp [prodL] at h1; omega
    subst this
    exact ⟨rfl, fun h => by simp [prodL] at h⟩
  | m :: ms, h, n, h0, h1 => by
    have hm := h m (List.mem_cons_self)
    have hms := fun x hx => h x (List.mem_cons_of_mem _ hx)
    have hp := prodL_pos hms
    have e0 := Int.emod_add_mul_ediv n (m + 1)
    have z0 := Int.emod_nonneg n (show m + 1 ≠ 0 by omega)
    have z1 := Int.emod_lt_of_pos n (show 0 < m + 1 by omega)
    have q0 := Int.ediv_nonneg h0 (show 0 ≤ m + 1 by omega)
    rw [prodL] at h1 ⊢
    rw [digs, digs]
    generalize hz : n % (m + 1) = z at e0 z0 z1 ⊢
    generalize hq : n / (m + 1) = q at e0 q0 ⊢
    generalize hP : prodL ms = P at h1 hp ⊢
    have hqP : q < P := by
      refine Int.lt_of_not_ge fun hge => ?_
      have : (m + 1) * P ≤ (m + 1) * q := Int.mul_le_mul_of_nonneg_left hge (by omega)
      omega
    rw [nextD]
    by_cases hlt : z < m
    · rw [if_pos hlt]
      have hu := (Int.ediv_emod_unique (a := n + 1) (b := m + 1) (r := z + 1) (q := q) (by omega)).2 ⟨by omega, by omega, by omega⟩
      rw [hu.1, hu.2]
      have hlt2 : n + 1 < (m + 1) * P := by
        have : (m + 1) * (q + 1) ≤ (m + 1) * P := Int.mul_le_mul_of_nonneg_left (by omega) (by omega)
        rw [Int.mul_add, Int.mul_one] at this
        omega
      refine ⟨by simp [hlt2], fun _ => ?_⟩
      have hd : digs ms q = digs ms q := rfl
      simp
    · rw [if_neg hlt]
      have hzm : z = m := by omega
      subst hzm
      have hu := (Int.ediv_emod_unique (a := n + 1) (b := z + 1) (r := 0) (q := q + 1) (by omega)).2 ⟨by rw [Int.mul_add, Int.mul_one]; omega, by omega, by omega⟩
      rw [hu.1, hu.2]
      obtain ⟨i1, i2⟩ := nextD_digs hms q0 (by rw [hP]; exact hqP)
      rw [hP] at i1 i2
      have hiff : n + 1 < (z + 1) * P ↔ q + 1 < P := by
        constructor
        · intro hh
          refine Int.lt_of_not_ge fun hge => ?_
          have : (z + 1) * P ≤ (z + 1) * (q + 1) := Int.mul_le_mul_of_nonneg_left hge (by omega)
          rw [Int.mul_add, Int.mul_one] at this
          omega
        · intro hh
          have : (z + 1) * (q + 1 + 1) ≤ (z + 1) * P := Int.mul_le_mul_of_nonneg_left (by omega) (by omega)
          rw [Int.mul_add, Int.mul_add, Int.mul_one] at this
          omega
      refine ⟨by rw [i1]; exact decide_eq_decide.2 hiff.symm, fun hh => ?_⟩
      rw [i2 (hiff.1 hh)]
/-- The loop's view: the first i are 0 already. -/
theorem nextD_step {ms zs : List Int} {i : Nat} (hi : i < ms.length) (hl : zs.length = ms.length) :
    nextD (ms.drop i) (zs.drop i) = if zs.getD i 0 < ms.getD i 0 then ((zs.getD i 0 + 1) :: zs.drop (i + 1), true) else (0 :: (nextD (ms.drop (i + 1)) (zs.drop (i + 1))).1, (nextD (ms.drop (i + 1)) (zs.drop (i + 1))).2) := by
  have e1 : ms.drop i = ms.getD i 0 :: ms.drop (i + 1) := by
    rw [List.drop_eq_getElem_cons hi]; simp [List.getD_eq_getElem?_getD, List.getElem?_eq_getElem hi]
  have hi' : i < zs.length := by omega
  have e2 : zs.drop i = zs.getD i 0 :: zs.drop (i + 1) := by
    rw [List.drop_eq_getElem_cons hi']; simp [List.getD_eq_getElem?_getD, List.getElem?_eq_getElem hi']
  rw [e1, e2]
  rfl
theorem repl_get {zs : List Int} {i : Nat} : (List.replicate i (0 : Int) ++ zs.drop i).getD i 0 = zs.getD i 0 := by
  simp [List.getD_eq_getElem?_getD, List.getElem?_append_right]
theorem repl_set {zs : List Int} {i : Nat} (hi : i < zs.length) (v : Int) : (List.replicate i (0 : Int) ++ zs.drop i).set i v = List.replicate i 0 ++ (v :: zs.drop (i + 1)) := by
  rw [List.set_append_right _ _ (by simp), List.length_replicate, Nat.sub_self, List.drop_eq_getElem_cons hi]
  rfl
theorem repl_more {zs : List Int} {i : Nat} : List.replicate i (0 : Int) ++ (0 :: zs.drop (i + 1)) = List.replicate (i + 1) 0 ++ zs.drop (i + 1) := by
  rw [List.replicate_succ', List.append_assoc]; rfl
end Go.Proofs.YtmooecbdpfhnlaaGreat
/- The contracts of the library's slices.Grow (onto nothing) and slices.Concat at Inputs, and of the program's inputsOf. -/
namespace Go.Proofs.YtmooecbdpfhnlaaGreat
open Go.RowKit

theorem ownI_nil (w : World) (B : Nat) : OwnI w B none 0 0 [] := ⟨World.ownsRow_nil _ _ _ _, by omega, fun z hz => by simp at hz⟩
theorem run_append_nothingI (w : World) (ty : TypeId) (v : Value) (B n : Nat) (xs : List Value) (hown : w.ownsRow B 41 2 v n xs) (c : Nat) : (Builtin.append_ #[27, 27] ty #[v, .slice none 0 c]).run Tryz.prog w = .ok v w := by
  obtain ⟨i0, hi, hz0, hz1, hz2⟩ := info_parts info_input
  rcases hown.2 with ⟨rfl, rfl⟩ | ⟨g, cap, cur, rfl, _, _, hnc, _⟩
  · simp [Builtin.append_, run_underlying Tryz.underlying27, sizeOf, typeInfo, hi, Builtin.lenOf, Builtin.firstCells]
  · simp [Builtin.append_, run_underlying Tryz.underlying27, sizeOf, typeInfo, hi, Builtin.lenOf, Builtin.firstCells, hnc, storeCells]
set_option maxRecDepth 100000 in
/-- 'append(out, xs...)' of Inputs: out a row of the call's own, xs whatever slice of them. -/
theorem wpList_concatI {ops : Array Oper} {rest : List Oper} {o : Oper} {ac : Act} {Q : Exit → Act → World → Prop} (w : World) (hgd : o.guard = none) (s x : Operand)
    (ho : o.op = .call { callee := .builtin .append, args := #[s, x], argTypes := #[27, 27] })
    (B : Nat) (a : Option Addr) (n c : Nat) (ts : List Tm) (hs : ac.eval s = .slice a n c) (hown : OwnI w B a n c ts)
    (a2 : Option Addr) (m c2 : Nat) (us : List Tm) (hx : ac.eval x = .slice a2 m c2) (hi2 : Terms w a2 m us) (hn : n + m ≤ 1048576) (hB : B ≤ w.heap.size)
    (h : ∀ a1 c1 w', OwnI w' B a1 (n + m) c1 (ts ++ us) → w.grownBy w' (Value.slice a n c).ownBlock → wpList Tryz.prog ops Q rest (ac.put o.dst (.slice a1 (n + m) c1)) w') : wpList Tryz.prog ops Q (o :: rest) ac w := by
  have hin : ∀ y ∈ ts ++ us, InTm y := fun y hy => by
    rcases List.mem_append.1 hy with hy | hy
    · exact hown.2.2 y hy
    · exact hi2.2.2.1 y hy
  cases a2 with
  | none =>
    have hm : m = 0 := by
      rcases Nat.eq_zero_or_pos m with h0 | h0
      · exact h0
      · obtain ⟨b, o', e, _⟩ := hi2.2.2.2 h0
        cases e
    subst hm
    have hys : us = [] := List.eq_nil_of_length_eq_zero hi2.1
    subst hys
    refine wpList_plain hgd fun K hK' => ?_
    have hrun := run_append_nothingI w o.type (.slice a n c) B n _ hown.1 c2
    unfold Oper.wp
    simp [execOp, ho, resolve, invoke, builtin, hs, hx, hrun, Result.andThen]
    exact hK' _ _ (by simpa using h a c w (by simpa using hown) (World.grownBy.refl _ _))
  | some ad =>
    obtain ⟨i0, hi, hz0, hz1, hz2⟩ := info_parts info_input
    have hl := hi2.1
    refine wpList_append_own w hgd s x 27 ho B 41 i0 (.agg #[.int .i64 0, .int .i64 0]) 2 16 Tryz.underlying27 hi hz0 hz1 hz2 rfl (by omega) (.slice a n c) n (flatV ts) hs hown.1
      ad m c2 (flatV us) hx (by rw [flatV_len, hl]) ?_ (flatV_one us) ?_ ?_ hB ?_
    · intro j u hj
      have hjl : j < (flatV us).length := (List.getElem?_eq_some_iff.1 hj).1
      rw [flatV_len] at hjl
      obtain ⟨b, off, e, _, hc⟩ := hi2.2.2.2 (by omega)
      injection e with e
      subst e
      exact terms_news hi2 j u hj
    · unfold maxLen; omega
    · omega
    · intro v' w' h1 h2 _
      have hf : ∃ a1 c1, v' = .slice a1 (n + m) c1 := by
        rcases h1.2 with ⟨e, h0⟩ | ⟨g', cap, cur, e, _⟩
        · exact ⟨none, 0, by rw [e, h0]⟩
        · exact ⟨_, _, e⟩
      obtain ⟨a1, c1, rfl⟩ := hf
      exact h a1 c1 w' ⟨by rw [flatV_append]; exact h1, hn, hin⟩ h2
/-- Of Inputs: an append into the call's own row keeps what is below. -/
theorem below_pushI {w v w' : World} {B : Nat} {a : Option Addr} {n c : Nat} {ts : List Tm} (hb : Below B w v) (hown : OwnI v B a n c ts) (hB : B ≤ v.heap.size) (hg : v.grownBy w' (Value.slice a n c).ownBlock) : Below B w w' :=
  hb.grown hg hB (fun k hk => (hown.block k hk).1)
set_option maxHeartbeats 800000 in
theorem grow_nilI (n : Nat) (w : World) (hn : n ≤ 1048576) :
    Calls Tryz.prog 172 #[.slice none 0 0, .int .i64 (n : Int)] w fun e w' => ∃ a c, e = .returned (.slice a 0 c) ∧ OwnI w' w.heap.size a 0 c [] ∧ Below w.heap.size w w' := by
  obtain ⟨i0, hi, hz0, hz1, hz2⟩ := info_parts info_input
  by_cases h0 : n = 0
  · subst h0
    clear hi hz0 hz1 hz2
    go_enter Tryz.func172, Tryz.ntmps172
    go_wp2
    go_ret
    exact ⟨_, _, rfl, ownI_nil _ _, Below.refl _ _⟩
  · have hpos : decide ((n : Int) > 0) = true := by simp; omega
    have hneg : decide ((n : Int) < 0) = false := by simp
    have HRUN : Hid (∀ ty, (Builtin.append_ #[27, 3] ty #[.slice none 0 0, .int .i64 (n : Int)]).run Tryz.prog w = .ok (.slice (some ⟨w.heap.size, 0, none⟩) n (grownCap w n 0 41)) (w.drew.alloc (.cells (Builtin.zeroCells (Value.agg #[.int .i64 0, .int .i64 0]).cells n ++ Builtin.zeroCells (Value.agg #[.int .i64 0, .int .i64 0]).cells (grownCap w n 0 41 - n)) 41))) := Lib.hid (fun ty => Go.Lib.run_append_nil_zeros w _ _ ty 41 i0 (.agg #[.int .i64 0, .int .i64 0]) .i64 .i64 Tryz.underlying27 under_int hi hz0 n (by omega) (by rw [hz1]; omega) (by omega) (by rw [hz2]; omega))
    have hge := grownCap_ge w n 0 41
    have hle := grownCap_le_maxLen w n 0 41 (by unfold maxLen; omega)
    have HSZ : Hid ((Builtin.zeroCells (Value.agg #[.int .i64 0, .int .i64 0]).cells n ++ Builtin.zeroCells (Value.agg #[.int .i64 0, .int .i64 0]).cells (grownCap w n 0 41 - n)).size = grownCap w n 0 41 * 2) := Lib.hid (by simp [Builtin.zeroCells, Value.cells]; omega)
    obtain ⟨cs, HCS⟩ : ∃ cs : Array Value, Hid (Builtin.zeroCells (Value.agg #[.int .i64 0, .int .i64 0]).cells n ++ Builtin.zeroCells (Value.agg #[.int .i64 0, .int .i64 0]).cells (grownCap w n 0 41 - n) = cs) := ⟨_, rfl⟩
    obtain ⟨cap, HCAP⟩ : ∃ cap, Hid (grownCap w n 0 41 = cap) := ⟨_, rfl⟩
    rw [HCS.out] at HRUN HSZ
    rw [HCAP.out] at HRUN HSZ hge hle
    clear hi hz0 hz1 hz2 HCS HCAP
    go_enter Tryz.func172, Tryz.ntmps172
    go_wp2_with (at_builtin; refine Go.Lib.wpList_append_run _ rfl _ _ 27 3 rfl (.slice none 0 0) (.int .i64 (n : Int)) rfl rfl _ _ (HRUN.out _) ?_)
    go_ret
    have hb : Below w.heap.size w (w.drew.alloc (.cells cs 41)) := (show Below w.heap.size w w.drew from ⟨rfl, rfl, rfl, Nat.le_refl _, fun _ _ => rfl⟩).alloc (Nat.le_refl _) _
    refine ⟨_, _, rfl, ⟨⟨rfl, .inr ⟨w.heap.size, cap, cs, rfl, Nat.le_refl _, ?_, by omega, hle, by rw [HSZ.out], by simp [flatV]⟩⟩, by omega, fun z hz => by simp at hz⟩, hb⟩
    exact World.alloc_heap_new w.drew _
/-- The first k, one behind the other. -/
def flatT (tss : List (List Tm)) : Nat → List Tm
  | 0 => []
  | k + 1 => flatT tss k ++ tsAt tss k
theorem flatT_mono (tss : List (List Tm)) {i j : Nat} (h : i ≤ j) : (flatT tss i).length ≤ (flatT tss j).length := by
  induction j with
  | zero => obtain rfl : i = 0 := by omega
            exact Nat.le_refl _
  | succ j ih =>
    rcases Nat.lt_or_ge i (j + 1) with h' | h'
    · have := ih (by omega); simp only [flatT, List.length_append]; omega
    · obtain rfl : i = j + 1 := by omega
      exact Nat.le_refl _
set_option maxRecDepth 20000 in
set_option maxHeartbeats 1600000 in
theorem concatI_any (a : Option Addr) (n c : Nat) (rs : List Sl) (tss : List (List Tm)) (w : World) (h : TermsSS w a n rs tss) (hlen : (flatT tss n).length ≤ 1000000) (hn : n ≤ 1000) :
    Calls Tryz.prog 141 #[.slice a n c] w (MadeI w (flatT tss n)) := by
  go_enter Tryz.func141, Tryz.ntmps141
  go_wp2
  go_loop [3, 11] (fun q i => ∃ k : Nat, k ≤ n ∧ i = .int .i64 (k : Int) ∧ q = .int .i64 (((flatT tss k).length : Nat) : Int)) (fun _ i => n - (intOf i).toNat)
  case atStart => exact ⟨0, Nat.zero_le _, rfl, rfl⟩
  case round =>
    obtain ⟨k, hk, rfl, rfl⟩ := hrel
    by_cases hlt : k < n
    · obtain ⟨b, o, a1, n1, c1, rfl, hb, hsl, hc, hI⟩ := h.at_ hlt
      have hm := flatT_mono tss (show k + 1 ≤ n by omega)
      have he : (flatT tss (k + 1)).length = (flatT tss k).length + n1 := by rw [flatT, List.length_append, hI.1]
      obtain ⟨L, HL⟩ : ∃ L : Nat, Hid ((flatT tss k).length = L) := ⟨_, rfl⟩
      rw [HL.out] at he ⊢
      have hb2 : L + n1 ≤ 1000000 := by omega
      have hneg : decide ((L : Int) + (n1 : Int) < 0) = false := by simp; omega
      have HE := Lib.hid he
      clear hm he hI
      go_wp2
      go_round
      case rel => exact ⟨k + 1, by omega, by go_num, by rw [HE.out]; go_num⟩
      case measure => simp [intOf]; omega
    · obtain rfl : n = k := by omega
      obtain ⟨L, HL⟩ : ∃ L : Nat, Hid ((flatT tss n).length = L) := ⟨_, rfl⟩
      rw [HL.out] at hlen ⊢
      go_wp2_with fail
      refine (grow_nilI L _ (by omega)).mono ?_
      rintro e w1 ⟨ga, gc, rfl, hown, hb1⟩
      go_wp2
      go_loopw [6, 27] (fun s i wr => ∃ (k m d : Nat) (sa : Option Addr), k ≤ n ∧ i = .int .i64 (k : Int) ∧ s = .slice sa m d ∧ OwnI wr w.heap.size sa m d (flatT tss k) ∧ Below w.heap.size w wr) (fun _ i _ => n - (intOf i).toNat)
      case atStart => exact ⟨0, 0, gc, ga, Nat.zero_le _, rfl, rfl, hown, hb1⟩
      case round =>
        clear hown hb1
        obtain ⟨k, m, d, sa, hk2, rfl, rfl, hown, hbel⟩ := hrel
        by_cases hlt : k < n
        · obtain ⟨b, o, a1, n1, c1, rfl, hb, hsl, hc, hI⟩ := (h.below hbel).at_ hlt
          have hm := flatT_mono tss (show k + 1 ≤ n by omega)
          have he : (flatT tss (k + 1)).length = (flatT tss k).length + n1 := by rw [flatT, List.length_append, hI.1]
          have hml := hown.len
          have hsum : m + n1 ≤ 1048576 := by have := HL.out; omega
          have hB := hbel.size
          have HI := Lib.hid hI
          have HO := Lib.hid hown
          clear hm he hml
          go_wp2_with (at_builtin; refine wpList_concatI _ rfl _ _ rfl w.heap.size _ _ _ (flatT tss k) rfl HO.out _ _ _ (tsAt tss k) rfl HI.out hsum hB ?_)
          intro a8 c8 w8 hown8 hg8
          have hb8 := below_pushI hbel HO.out hB hg8
          have HO8 : Hid (OwnI w8 w.heap.size a8 (m + n1) c8 (flatT tss (k + 1))) := Lib.hid hown8
          clear hown8 hg8 hown HO HI hI hbel hB
          go_wp2
          go_roundw
          case rel => exact ⟨k + 1, m + n1, c8, a8, by omega, by go_num, rfl, HO8.out, hb8⟩
          case measure => simp [intOf]; omega
        · obtain rfl : n = k := by omega
          go_wp2
          go_ret
          exact ⟨_, _, _, rfl, hown, hbel⟩
theorem termsSS_two {w : World} {b : Nat} {t : TypeId} {x y : Sl} {ts us : List Tm} (hB : Blk w b t [slV x, slV y]) (h1 : Terms w x.1 x.2.1 ts) (h2 : Terms w y.1 y.2.1 us) : TermsSS w (some ⟨b, 0, none⟩) 2 [x, y] [ts, us] := by
  refine ⟨rfl, rfl, fun _ => ⟨b, 0, rfl, hB.lt, fun i hi => ?_⟩, fun i hi => ?_⟩
  · match i, hi with
    | 0, _ => exact hB.cell (j := 0) rfl
    | 1, _ => exact hB.cell (j := 1) rfl
  · match i, hi with
    | 0, _ => exact h1
    | 1, _ => exact h2
theorem flatT_two (ts us : List Tm) : flatT [ts, us] 2 = ts ++ us := rfl
set_option maxHeartbeats 800000 in
theorem inputsOf_any (r : PRow) (p : Prg) (w : World) (h : ProgAt w r p) (hl : p.lows.length + p.secrets.length ≤ 1000) :
    Calls Tryz.prog 102 #[progV r] w (MadeI w (p.lows ++ p.secrets)) := by
  obtain ⟨wd, ⟨a1, n1, c1⟩, ⟨a2, n2, c2⟩, tp, ⟨a3, n3, c3⟩, ⟨a4, n4, c4⟩, rows⟩ := r
  show Calls Tryz.prog 102 #[.agg #[.int .i64 wd, .slice a1 n1 c1, .slice a2 n2 c2, .int .i64 tp, .slice a3 n3 c3, .slice a4 n4 c4]] w _
  have h1 := Lib.hid h.lows
  have h2 := Lib.hid h.secrets
  simp only [] at h1 h2
  have HL : Hid ((flatT [p.lows, p.secrets] 2).length ≤ 1000000) := Lib.hid (by rw [flatT_two, List.length_append]; omega)
  clear h hl
  obtain ⟨wa, HW⟩ : ∃ wa, Hid (wa = (w.alloc (.cells #[.int .i64 wd, .slice a1 n1 c1, .slice a2 n2 c2, .int .i64 tp, .slice a3 n3 c3, .slice a4 n4 c4] 31)).alloc (.cells #[.slice a1 n1 c1, .slice a2 n2 c2] 27)) := ⟨_, rfl⟩
  have HB : Below w.heap.size w wa := by rw [HW.out]; exact ((Below.refl _ _).alloc (Nat.le_refl _) _).alloc (by simp) _
  have X : Blk wa (w.heap.size + 1) 27 [slV (a1, n1, c1), slV (a2, n2, c2)] := by
    rw [HW.out]
    simpa [slV] using Blk.new (w.alloc (.cells #[.int .i64 wd, .slice a1 n1 c1, .slice a2 n2 c2, .int .i64 tp, .slice a3 n3 c3, .slice a4 n4 c4] 31)) 27 [slV (a1, n1, c1), slV (a2, n2, c2)]
  have HT := Lib.hid (termsSS_two X (h1.out.below (Nat.le_refl _) HB) (h2.out.below (Nat.le_refl _) HB))
  clear X h1 h2
  go_enter Tryz.func102, Tryz.ntmps102
  go_wp2_with fail
  rw [← HW.out]
  refine (concatI_any _ 2 _ _ _ _ HT.out HL.out (by omega)).mono ?_
  rintro e w1 ⟨sa, sn, sc, rfl, ho, hb1⟩
  rw [flatT_two] at ho
  have HB1 := HB.trans (hb1.mono HB.size)
  have HO := Lib.hid (ho.base HB.size)
  clear ho hb1 HT HL HW
  go_wp2
  go_ret
  exact ⟨_, _, _, rfl, HO.out, HB1⟩
end Go.Proofs.YtmooecbdpfhnlaaGreat
