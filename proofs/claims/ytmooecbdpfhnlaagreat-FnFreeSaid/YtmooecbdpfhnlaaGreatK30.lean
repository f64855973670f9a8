/- Joined texts of this proof (AtMath, SpecTable, EachTurn), in build order. -/
import Derived.Test.YtmooecbdpfhnlaaGreatK29
import Derived.Test.YtmooecbdpfhnlaaGreatK23
import Derived.Test.YtmooecbdpfhnlaaGreatK28
import Derived.Test.YtmooecbdpfhnlaaGreatK26
/- The number of an input leads back to it: plain mathematics. -/
namespace Go.Proofs.YtmooecbdpfhnlaaGreat
open Go.RowKit

theorem numFrom_cons (m z : Int) (ms zs : List Int) : ∀ k, k ≤ ms.length → numFrom (m :: ms) (z :: zs) k = numFrom ms zs k
  | 0, _ => rfl
  | k + 1, h => by
    rw [numFrom, numFrom, numFrom_cons m z ms zs k (by omega), List.length_cons, show ms.length + 1 - 1 - k = (ms.length - 1 - k) + 1 by omega, List.getD_cons_succ, List.getD_cons_succ]
theorem numFrom_digs : ∀ {ms : List Int}, (∀ m ∈ ms, 0 ≤ m) → ∀ {n : Int}, 0 ≤ n → n < prodL ms → numFrom ms (digs ms n) ms.length = n
  | [], _, n, h0, h1 => by
    simp only [prodL] at h1
    simp only [numFrom, List.length_nil]
    omega
  | m :: ms, h, n, h0, h1 => by
    have hm := h m (List.mem_cons_self)
    have hms := fun x hx => h x (List.mem_cons_of_mem _ hx)
    have e0 := Int.emod_add_mul_ediv n (m + 1)
    have q0 := Int.ediv_nonneg h0 (show 0 ≤ m + 1 by omega)
    have z0 := Int.emod_nonneg n (show m + 1 ≠ 0 by omega)
    rw [prodL] at h1
    have hqP : n / (m + 1) < prodL ms := by
      refine Int.lt_of_not_ge fun hge => ?_
      have : (m + 1) * prodL ms ≤ (m + 1) * (n / (m + 1)) := Int.mul_le_mul_of_nonneg_left hge (by omega)
      omega
    have ih := numFrom_digs hms q0 hqP
    rw [digs, List.length_cons, numFrom, numFrom_cons m _ ms _ _ (Nat.le_refl _), ih, List.length_cons, show ms.length + 1 - 1 - ms.length = 0 by omega]
    simp only [List.getD_cons_zero]
    rw [Int.mul_comm]
    omega
theorem at_app {p : Prg} {N : Int} (h : atOk p N = true) : atL p N ++ atS p N = digs (maxesP p) N := by
  rw [atL, atS, if_pos h, if_pos h, List.take_append_drop]
theorem digs_le : ∀ {ms : List Int}, (∀ m ∈ ms, 0 ≤ m) → ∀ (n : Int) (i : Nat), i < ms.length → 0 ≤ (digs ms n).getD i 0 ∧ (digs ms n).getD i 0 ≤ ms.getD i 0
  | [], _, _, i, hi => absurd hi (by simp)
  | m :: ms, h, n, 0, _ => by
    have hm := h m (List.mem_cons_self)
    have h1 := Int.emod_nonneg n (show m + 1 ≠ 0 by omega)
    have h2 := Int.emod_lt_of_pos n (show 0 < m + 1 by omega)
    rw [digs, List.getD_cons_zero, List.getD_cons_zero]
    omega
  | m :: ms, h, n, i + 1, hi => by
    rw [digs, List.getD_cons_succ, List.getD_cons_succ]
    exact digs_le (fun x hx => h x (List.mem_cons_of_mem _ hx)) _ i (by simpa using hi)
/-- There is a start at each input. -/
theorem at_start {p : Prg} {N : Int} (h : atOk p N = true) : startB p (atL p N) (atS p N) = true := by
  have hz : codeB p = 0 := by simp [atOk] at h; exact h.1
  have hw := wide_of_max hz
  have hle := digs_le (fun m hm => (hw m hm).1) N
  have hlen : (maxesP p).length = p.lows.length + p.secrets.length := maxesP_len p
  have hdl := digs_len (maxesP p) N
  have e1 : (codeB p == 0) = true := by simpa using hz
  rw [startB, e1, Bool.true_and]
  have hL : atL p N = (digs (maxesP p) N).take p.lows.length := by rw [atL, if_pos h]
  have hS : atS p N = (digs (maxesP p) N).drop p.lows.length := by rw [atS, if_pos h]
  have l1 : (atL p N).length = p.lows.length := by rw [hL, List.length_take]; omega
  have l2 : (atS p N).length = p.secrets.length := by rw [hS, List.length_drop]; omega
  have a1 : areB p.lows (atL p N) = true := areB_all l1 (fun i hi => by
    have hi' : i < p.lows.length := by omega
    have := hle i (by omega)
    rw [maxesP, maxesL_getD (by rw [List.length_append]; omega), tmAt_app_left hi'] at this
    rw [hL]
    simpa [List.getD_eq_getElem?_getD, List.getElem?_take, hi', maxesP] using this)
  have a2 : areB p.secrets (atS p N) = true := areB_all l2 (fun i hi => by
    have hi' : i < p.secrets.length := by omega
    have := hle (p.lows.length + i) (by omega)
    rw [maxesP, maxesL_getD (by rw [List.length_append]; omega), tmAt_app_right] at this
    rw [hS]
    simpa [List.getD_eq_getElem?_getD, List.getElem?_drop, maxesP] using this)
  rw [a1, a2]; rfl
end Go.Proofs.YtmooecbdpfhnlaaGreat
/- The contract of the model's l8Table: all inputs and their outcomes, by number. -/
namespace Go.Proofs.YtmooecbdpfhnlaaGreat
open Go.RowKit

/-- The outcome of the input of a number. -/
noncomputable def ocAt (p : Prg) (i : Nat) : Oc := (outR p (atL p (i : Int)) (atS p (i : Int)), endR p (atL p (i : Int)) (atS p (i : Int)))
noncomputable def tabIn (p : Prg) (k : Nat) : List (List Int) := (List.range k).map (fun i : Nat => digs (maxesP p) (i : Int))
noncomputable def tabOut (p : Prg) (k : Nat) : List Oc := (List.range k).map (ocAt p)
section
variable {w w' : World} {B E : Nat} {a : Option Addr} {n c : Nat} {rs : List OcR} {os : List Oc} {row : Option Nat}
theorem OwnO.keep (h : OwnO w B E a n c rs os) (hg : w.grownBy w' row) (ho : ∀ g, (Value.slice a n c).ownBlock = some g → row ≠ some g) (hv : ∀ i g, i < n → (slV (rAt rs i).vals).ownBlock = some g → row ≠ some g) : OwnO w' B E a n c rs os := by
  refine ⟨h.1.kept hg ?_, h.2.1, h.2.2.1, fun i hi => ⟨(h.2.2.2 i hi).1, (h.2.2.2 i hi).2.1, (h.2.2.2 i hi).2.2.1, (h.2.2.2 i hi).2.2.2.1, (h.2.2.2 i hi).2.2.2.2.keep hg (hv i · hi)⟩⟩
  cases he : (Value.slice a n c).ownBlock with
  | none => exact .inl rfl
  | some g => exact .inr fun e => ho g he e.symm
/-- A row of another kind turns. -/
theorem OwnO.kinds {B' e size m : Nat} {v : Value} {xs : List Value} (h : OwnO w B E a n c rs os) (hr : w.ownsRow B' e size v m xs) (h1 : 43 ≠ e) (h2 : 2 ≠ e) (hg : w.grownBy w' v.ownBlock) : OwnO w' B E a n c rs os :=
  h.keep hg (fun _ e => own_kinds h.1 hr h1 e) (fun i _ hi e => own_kinds (h.2.2.2 i hi).2.2.2.2.1 hr h2 e)
theorem OwnIS.kinds {B' e size m : Nat} {v : Value} {xs : List Value} {rs : List Sl} {css : List (List Int)} (h : OwnIS w B a n c rs css) (hr : w.ownsRow B' e size v m xs) (h1 : 28 ≠ e) (h2 : 2 ≠ e) (hg : w.grownBy w' v.ownBlock) : OwnIS w' B a n c rs css :=
  h.keep hg (fun _ e => own_kinds h.1 hr h1 e) (fun i _ hi e => own_kinds (h.2.2.2 i hi).1 hr h2 e)
theorem OwnIS.base {B' : Nat} {rs : List Sl} {css : List (List Int)} (h : OwnIS w B a n c rs css) (hB : B' ≤ B) : OwnIS w B' a n c rs css := by
  refine ⟨⟨h.1.1, ?_⟩, h.2.1, h.2.2.1, fun i hi => (h.2.2.2 i hi).base hB⟩
  rcases h.1.2 with hn | ⟨g, cap, cur, e, hb, r⟩
  · exact .inl hn
  · exact .inr ⟨g, cap, cur, e, by omega, r⟩
theorem OwnIS.snoc {r : Sl} {zs : List Int} {a1 : Option Addr} {c1 : Nat} {rs : List Sl} {css : List (List Int)} (h : OwnIS w B a n c rs css) (hr : Own w B r.1 r.2.1 r.2.2 zs) (hn : n < 1048576) (h1 : w'.ownsRow B 28 1 (.slice a1 (n + 1) c1) (n + 1) ((rs ++ [r]).map slV)) (hg : w.grownBy w' (Value.slice a n c).ownBlock) : OwnIS w' B a1 (n + 1) c1 (rs ++ [r]) (css ++ [zs]) := by
  have hlr := h.len
  have hls := h.2.2.1
  refine ⟨h1, by omega, by simp [hls], fun i hi => ?_⟩
  rcases Nat.lt_or_ge i n with hlt | hge
  · rw [show slAt (rs ++ [r]) i = slAt rs i from getD_left _ _ _ _ (by omega), show intsAt (css ++ [zs]) i = intsAt css i from getD_left _ _ _ _ (by omega)]
    exact (h.2.2.2 i hlt).keep hg (fun g e => own_kinds (h.2.2.2 i hlt).1 h.1 (by decide) e)
  · obtain rfl : i = n := by omega
    rw [show slAt (rs ++ [r]) i = r from getD_last _ _ _ _ (by omega), show intsAt (css ++ [zs]) i = zs from getD_last _ _ _ _ (by omega)]
    exact hr.keep hg (fun g e => own_kinds hr.1 h.1 (by decide) e)
end
theorem OwnIS.alloc {w : World} {B : Nat} {a : Option Addr} {n c : Nat} {rs : List Sl} {css : List (List Int)} (h : OwnIS w B a n c rs css) (o : Obj) : OwnIS (w.alloc o) B a n c rs css := h.below ((Below.refl _ _).alloc (Nat.le_refl _) o)
/-- What l8Table leaves: C inputs, C outcomes. -/
def Tabled (w : World) (p : Prg) (C : Nat) (e : Ending) (w' : World) : Prop :=
  Below w.heap.size w w' ∧ ∃ (ia oa : Option Addr) (ic oc : Nat) (irs : List Sl) (ors : List OcR), e = .returned (.tuple #[.slice ia C ic, .slice oa C oc]) ∧ OwnIS w' w.heap.size ia C ic irs (tabIn p C) ∧ OwnO w' w.heap.size w.heap.size oa C oc ors (tabOut p C)
def SmallR (r : Rz) : Prop := (0 ≤ r.1 ∧ r.1 ≤ 2) ∧ (0 ≤ r.2 ∧ r.2 ≤ 9)
theorem small_trap {S : Nat} {q : Sta} {ts : List Tm} (h : trS S q ts ≠ 0) : SmallR (2, trS S q ts) := by
  rcases trS_of h with e | e <;> rw [e] <;> exact ⟨⟨by decide, by decide⟩, ⟨by decide, by decide⟩⟩
theorem small_zero : SmallR (0, 0) := ⟨⟨by decide, by decide⟩, ⟨by decide, by decide⟩⟩
theorem Basic.small {p : Prg} {S : Nat} {s : Stm} {q q' : Sta} {r : Rz} (h : Basic S s q q' r) (hg : goodS p s) : SmallR r := by
  cases h with
  | setT _ h | putA _ h | putE _ _ h | outT _ h => exact small_trap h
  | putC => exact ⟨⟨by decide, by decide⟩, ⟨by decide, by decide⟩⟩
  | throw h =>
    have := goodS_num hg
    rw [h] at this
    simp [numOk] at this
    exact ⟨⟨(by omega : (0 : Int) ≤ 1), (by omega : (1 : Int) ≤ 2)⟩, this⟩
  | _ => exact small_zero
theorem Runs.small {p : Prg} {S : Nat} {ss : List Stm} {m : Mode} {i j s : Nat} {q q' : Sta} {r : Rz} (h : Runs S ss m i j s q q' r) (hg : ∀ i, i < ss.length → goodS p (stAt ss i)) : SmallR r := by
  induction h with
  | plain hi _ _ _ h => exact h.small (hg _ hi)
  | ifT _ _ _ _ h => exact small_trap h
  | nil | zero | if0 => exact small_zero
  | _ => assumption
theorem rz_small (p : Prg) (ls ss : List Int) : SmallR (endR p ls ss) := by
  unfold endR
  by_cases h : startB p ls ss = true
  · obtain ⟨s, _, hr⟩ := runX_spec h
    exact hr.small (code_good (startB_ok h)).1
  · rw [runX_no (by simpa using h)]; exact small_zero
end Go.Proofs.YtmooecbdpfhnlaaGreat
/- The law of a range over a function whose iterator writes cells of its own, where the rounds may turn what is no cells (maps): of the loop's own blocks alone it is asked that they stay. -/
namespace Go.Proofs.YtmooecbdpfhnlaaGreat
open Go.RowKit

/-- How a round's body may be left. -/
def ownPostT {α : Type} (b m : Nat) (I : Nat → List α → World → Prop) (Ix : Code → Nat → List α → World → Prop) (xs : List α) (W : World) : Exit → Act → World → Prop
  | .normal, _, W' => W.heap.size ≤ W'.heap.size ∧ Stay b m W W' ∧ I m xs W'
  | .ret, _, W' => (W.heap.size ≤ W'.heap.size ∧ Stay b (b + 2) W W') ∧ Ix .ret m xs W'
  | .exit id, _, W' => (W.heap.size ≤ W'.heap.size ∧ Stay b (b + 2) W W') ∧ Ix (.exit id) m xs W'
  | .goto t, _, W' => (W.heap.size ≤ W'.heap.size ∧ Stay b (b + 2) W W') ∧ Ix (.goto t) m xs W'
  | .panic _, _, _ => False
  | .outgrown, _, _ => False

section
variable {n : Nat} {P : Program} {w : World}
theorem wpIn_rangeFunc_turns {α : Type} {g : Operand} {ps : Array Tmp} {assign body : Code} {Q : Exit → Act → World → Prop} {a : Act}
    {gf : Nat} {lb : Array Value} (hg : a.eval g = .func (.func gf) #[] lb) (eg : ∀ args w, (callFunc gf args).run P w = .ok (.enter gf args) w)
    {encs : α → Array Value} {Info : Nat → Nat → α → World → Prop} {S Sp : List α → Prop} {w0 : World} (hseq : SeqOwns P (n - 1) gf lb encs Info S Sp w0) (hb0 : Below w0.heap.size w0 w) (hps : ∀ x, (encs x).size = ps.size)
    (hInfo : ∀ lo hi x A B, Info lo hi x A → Stay lo hi A B → A.heap.size ≤ B.heap.size → Info lo hi x B)
    (I : Nat → List α → World → Prop) (Ix : Code → Nat → List α → World → Prop) (Ax : Nat → α → Act → World → Prop)
    (hI : ∀ m s A B, I m s A → Span w.heap.size m A B → I m s B) (hIx : ∀ c m s A B, Ix c m s A → Span w.heap.size m A B → Ix c m s B) (hAx : ∀ m x a' A B, Ax m x a' A → Span w.heap.size m A B → Ax m x a' B)
    (h0 : ∀ W', Below w.heap.size w W' → I W'.heap.size [] W')
    (hassign : ∀ (l m : Nat) (pre : List α) (x : α) (W : World) (K : Act → World → Prop), I m pre W → Info (w.heap.size + 2) m x W →
      (∀ a' W', W.heap.size ≤ W'.heap.size → Stay w.heap.size m W W' → I m pre W' → Ax m x a' W' → K a' W') →
      assign.wpIn (Fence.wide.inRound l) (n - 1 - 1) P (Exit.then K (fun _ _ _ => False)) { tmps := (ps.zip (encs x)).foldl (fun t (p, v) => t.setIfInBounds p v) a.tmps, defers := [] } W)
    (hbody : ∀ (l m : Nat) (pre : List α) (x : α) (a' : Act) (W : World), w.heap.size ≤ l → (∃ r, W.heap[l]? = some (.loop r)) → I m pre W → Info (w.heap.size + 2) m x W → Ax m x a' W →
      body.wpIn (Fence.wide.inRound l) (n - 1 - 1) P (ownPostT w.heap.size m I Ix (pre ++ [x]) W) a' W)
    (hdone : ∀ (D m : Nat) (xs : List α) (W : World), w.heap.size ≤ D → S xs → I m xs W → W.heap[D]? = some (.deferred (some [])) → Q .normal { a with defers := { target := .collected D, args := #[] } :: a.defers } W)
    (hstop : ∀ (D m : Nat) (c : Code) (pre : List α) (W : World), w.heap.size ≤ D → Sp pre → Ix c m pre W → W.heap[D]? = some (.deferred (some [])) → c.wpIn Fence.wide n P Q { a with defers := { target := .collected D, args := #[] } :: a.defers } W) :
    (Code.rangeFunc g ps assign body).wpIn Fence.wide n P Q a w := by
  refine wpIn_rangeFunc ?_
  intro fn hfn
  obtain ⟨R, hR⟩ : ∃ R : LoopState → Option Code → Loop, R = fun st pe => { state := st, pending := pe, fn, tmps := a.tmps, params := ps, assign, body, defers := w.heap.size } := ⟨_, rfl⟩
  obtain ⟨V, hV⟩ : ∃ V, (w.alloc (.deferred (some []))).alloc (.loop (R .ready none)) = V := ⟨_, rfl⟩
  have hVs : V.heap.size = w.heap.size + 2 := by rw [← hV]; simp
  have hVw : Below w.heap.size w V := by rw [← hV]; exact ((Below.refl _ w).alloc (Nat.le_refl _) _).alloc (by simp) _
  have hVl : V.heap[w.heap.size + 1]? = some (.loop (R .ready none)) := by
    rw [← hV]; have := World.alloc_heap_new (w.alloc (.deferred (some []))) (.loop (R .ready none)); rwa [World.size_alloc] at this
  have hVd : V.heap[w.heap.size]? = some (.deferred (some [])) := by
    rw [← hV]; exact (Below.heap_alloc _ _ _ (by simp)).trans (World.alloc_heap_new w _)
  refine ⟨w.heap.size + 1, [{ target := .collected w.heap.size, args := #[] }], V, { target := .fn (.func gf) lb, args := #[.func (.yield (w.heap.size + 1)) #[] #[]] }, V, gf,
    #[.func (.yield (w.heap.size + 1)) #[] #[]] ++ lb, V, ?_, ?_, ?_, ?_, fun e => by simp [Fence.wide] at e, ?_⟩
  · rw [← hV, hR]; exact run_enterLoop_outer _ _ _ _ _
  · simp only [resolve, hg]
    simp [go_sem]
  · intro f' _; trivial
  · simp [invoke, go_sem, eg]
  refine (hseq (w.heap.size + 1)
    (fun m pre W => I m pre W ∧ w.heap.size + 2 ≤ m ∧ W.heap[w.heap.size + 1]? = some (.loop (R .ready none)) ∧ W.heap[w.heap.size]? = some (.deferred (some [])))
    (fun m pre W => ∃ c, Ix c m pre W ∧ w.heap.size + 2 ≤ m ∧ W.heap[w.heap.size + 1]? = some (.loop (R .done (some c))) ∧ W.heap[w.heap.size]? = some (.deferred (some [])))
    V (hb0.trans (hVw.mono hb0.size)) ?_ ?_ ?_ ?_).mono ?_
  · rintro m s A B ⟨h1, h2, h3, h4⟩ hs
    rw [hVs] at hs
    exact ⟨hI m s A B h1 (hs.wide (by omega) (Nat.le_refl _)), h2, (hs.block _ (Array.getElem?_eq_some_iff.1 h3).1 (.inl (by omega))).trans h3, (hs.block _ (Array.getElem?_eq_some_iff.1 h4).1 (.inl (by omega))).trans h4⟩
  · rintro m s A B ⟨c, h1, h2, h3, h4⟩ hs
    rw [hVs] at hs
    exact ⟨c, hIx c m s A B h1 (hs.wide (by omega) (Nat.le_refl _)), h2, (hs.block _ (Array.getElem?_eq_some_iff.1 h3).1 (.inl (by omega))).trans h3, (hs.block _ (Array.getElem?_eq_some_iff.1 h4).1 (.inl (by omega))).trans h4⟩
  · intro W' hb
    have hsz := hb.size
    exact ⟨h0 W' (hVw.trans (hb.mono hVw.size)), by omega, (hb.block _ (by omega)).trans hVl, (hb.block _ (by omega)).trans hVd⟩
  · -- a round
    rintro m pre x W ⟨hi, hm, hl, hd⟩ hx
    rw [hVs] at hx ⊢
    have hy := run_yield (P := P) (args := encs x) hl (by rw [hR]; exact hps x)
    rw [hR] at hy
    refine ⟨fn, _, assign, body, hy, roundIn_of_wpIn hfn (hassign _ m pre x W _ hi hx ?_)⟩
    intro a' U hk hst hiU haU
    have hlU := (hst (w.heap.size + 1) (by omega) (by omega)).trans hl
    have hdU := (hst w.heap.size (by omega) (by omega)).trans hd
    have hst' : Stay (w.heap.size + 2) m W U := fun i h1 h2 => hst i (by omega) h2
    have hltU : w.heap.size + 1 < U.heap.size := (Array.getElem?_eq_some_iff.1 hlU).1
    have hxU := hInfo _ _ _ _ _ hx hst' hk
    refine ⟨_, run_beginRound hlU (by rw [hR]), ?_⟩
    obtain ⟨T, hT⟩ : ∃ T, U.putObj (w.heap.size + 1) (.loop { R .ready none with state := .busy }) = T := ⟨_, rfl⟩
    have hlT : T.heap[w.heap.size + 1]? = some (.loop { R .ready none with state := .busy }) := by rw [← hT]; exact World.putObj_heap_same hltU
    have hdT : T.heap[w.heap.size]? = some (.deferred (some [])) := by rw [← hT]; exact (World.putObj_heap_other (by omega)).trans hdU
    have hsT : Span w.heap.size m U T := by rw [← hT]; exact Span.put _ _ (by omega) (by omega)
    have hyT : Stay (w.heap.size + 2) m U T := by rw [← hT]; exact Stay.put _ _ (by omega)
    rw [hT]
    refine wpIn_mono (hbody _ m pre x a' T (by omega) ⟨_, hlT⟩ (hI _ _ _ _ hiU hsT) (hInfo _ _ _ _ _ hxU hyT hsT.size) (hAx _ _ _ _ _ haU hsT)) ?_
    have fin : ∀ (jump : Option Code) (Z : World), (T.heap.size ≤ Z.heap.size ∧ Stay w.heap.size (w.heap.size + 2) T Z) →
        ∃ Z', (Instr.endRound (w.heap.size + 1) jump).run P Z = .ok (.bool jump.isNone) Z' ∧ Span w.heap.size m Z Z' ∧ Stay (w.heap.size + 2) m Z Z' ∧
          Z'.heap[w.heap.size + 1]? = some (.loop (R (if jump.isNone then .ready else .done) jump)) ∧ Z'.heap[w.heap.size]? = some (.deferred (some [])) := fun jump Z hz => by
      have hlZ := (hz.2 (w.heap.size + 1) (by omega) (by omega)).trans hlT
      have hdZ := (hz.2 w.heap.size (by omega) (by omega)).trans hdT
      have he := run_endRound (P := P) jump hlZ
      refine ⟨_, he, Span.put _ _ (by omega) (by omega), Stay.put _ _ (by omega), ?_, (World.putObj_heap_other (by omega)).trans hdZ⟩
      rw [World.putObj_heap_same (Array.getElem?_eq_some_iff.1 hlZ).1, hR]
    rintro e a3 Z hp
    cases e with
    | normal =>
      obtain ⟨hz, hy3, hi3⟩ := hp
      have hy3' : Stay (w.heap.size + 2) m T Z := fun i h1 h2 => hy3 i (by omega) h2
      obtain ⟨Z', hr, hs, hy4, hl4, hd4⟩ := fin none Z ⟨hz, fun i h1 h2 => hy3 i h1 (by omega)⟩
      exact ⟨_, _, hr, .inl ⟨rfl, ⟨hI _ _ _ _ hi3 hs, hm, hl4, hd4⟩, hst'.trans (hyT.trans (hy3'.trans hy4)), Nat.le_trans hk (Nat.le_trans hsT.size (Nat.le_trans hz hs.size))⟩⟩
    | ret =>
      obtain ⟨hz, hi3⟩ := hp
      obtain ⟨Z', hr, hs, _, hl4, hd4⟩ := fin (some .ret) Z hz
      exact ⟨_, _, hr, .inr ⟨rfl, .ret, hIx _ _ _ _ _ hi3 hs, hm, hl4, hd4⟩⟩
    | exit id =>
      obtain ⟨hz, hi3⟩ := hp
      obtain ⟨Z', hr, hs, _, hl4, hd4⟩ := fin (some (.exit id)) Z hz
      exact ⟨_, _, hr, .inr ⟨rfl, .exit id, hIx _ _ _ _ _ hi3 hs, hm, hl4, hd4⟩⟩
    | goto t =>
      obtain ⟨hz, hi3⟩ := hp
      obtain ⟨Z', hr, hs, _, hl4, hd4⟩ := fin (some (.goto t)) Z hz
      exact ⟨_, _, hr, .inr ⟨rfl, .goto t, hIx _ _ _ _ _ hi3 hs, hm, hl4, hd4⟩⟩
    | panic ch => exact hp.elim
    | outgrown => exact hp.elim
  · -- behind the iterator
    rintro e Z ⟨⟨v, rfl⟩, (⟨m, xs, hS, hi, hm, hl, hd⟩ | ⟨m, pre, hSp, c, hi, hm, hl, hd⟩)⟩
    · exact ⟨none, _, by have := run_endLoop (P := P) hl (by rw [hR]; simp); rw [hR] at this; exact this, hdone _ m xs _ (Nat.le_refl _) hS (hI _ _ _ _ hi (Span.put _ _ (by omega) (by omega))) ((World.putObj_heap_other (by omega)).trans hd)⟩
    · exact ⟨some c, _, by have := run_endLoop (P := P) hl (by rw [hR]; simp); rw [hR] at this; exact this, hstop _ m c pre _ (Nat.le_refl _) hSp (hIx _ _ _ _ _ hi (Span.put _ _ (by omega) (by omega))) ((World.putObj_heap_other (by omega)).trans hd)⟩
end
end Go.Proofs.YtmooecbdpfhnlaaGreat
