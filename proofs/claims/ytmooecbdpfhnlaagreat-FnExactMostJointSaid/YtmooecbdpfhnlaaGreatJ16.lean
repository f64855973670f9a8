/- Joined texts of this proof (EachLaw, EachTurn, ImplSmall, StartMath), in build order. -/
import Derived.Test.YtmooecbdpfhnlaaGreatJ13
import Derived.RangeFuncNested
import Derived.RangeFuncBound
import Derived.RangeFuncCalls
import Derived.RangeFuncLeaves
import Derived.Test.YtmooecbdpfhnlaaGreatJ10
/- A range over a function whose iterator writes cells of its own: what its contract says, and the law. -/
namespace Go.Proofs.YtmooecbdpfhnlaaGreat
open Go.RowKit

/-- The blocks from lo up to hi stay as they lay. -/
def Stay (lo hi : Nat) (W W' : World) : Prop := ∀ k, lo ≤ k → k < hi → W'.heap[k]? = W.heap[k]?
theorem Stay.refl (lo hi : Nat) (W : World) : Stay lo hi W W := fun _ _ _ => rfl
theorem Stay.trans {lo hi : Nat} {A B C : World} (h : Stay lo hi A B) (k : Stay lo hi B C) : Stay lo hi A C := fun i h1 h2 => (k i h1 h2).trans (h i h1 h2)
theorem Stay.put {lo hi l : Nat} (W : World) (o : Obj) (h : l < lo) : Stay lo hi W (W.putObj l o) := fun _ _ _ => World.putObj_heap_other (by omega)
theorem Stay.of_below {lo hi : Nat} {W W' : World} (h : Below hi W W') : Stay lo hi W W' := fun k _ h2 => h.block k h2
theorem Span.put {lo hi l : Nat} (W : World) (o : Obj) (h1 : lo ≤ l) (h2 : l < hi) : Span lo hi W (W.putObj l o) := ⟨rfl, rfl, rfl, by simp, fun _ _ _ => World.putObj_heap_other (by omega)⟩
theorem Span.drew {lo hi : Nat} (W : World) : Span lo hi W W.drew := ⟨rfl, rfl, rfl, Nat.le_refl _, fun _ _ _ => rfl⟩

/-- The contract of an iterator that writes cells of its own: its blocks lie from the heap's size at its call up to m, the heap's size at its first round; a round that goes on leaves them as they lay; whoever calls it minds no turn of theirs. What holds of x at the round's start: Info. -/
def SeqOwns {α : Type} (P : Program) (n g : Nat) (lb : Array Value) (encs : α → Array Value) (Info : Nat → Nat → α → World → Prop) (S Sp : List α → Prop) (w : World) : Prop :=
  ∀ (l : Nat) (J Jx : Nat → List α → World → Prop) (W : World), Below w.heap.size w W →
    (∀ m s A B, J m s A → Span W.heap.size m A B → J m s B) → (∀ m s A B, Jx m s A → Span W.heap.size m A B → Jx m s B) →
    (∀ W', Below W.heap.size W W' → J W'.heap.size [] W') →
    (∀ m pre x W1, J m pre W1 → Info W.heap.size m x W1 → YieldAt Fence.wide (n - 1) P l (encs x) W1 fun e W' =>
      (e = .returned (.bool true) ∧ J m (pre ++ [x]) W' ∧ Stay W.heap.size m W1 W' ∧ W1.heap.size ≤ W'.heap.size) ∨ (e = .returned (.bool false) ∧ Jx m (pre ++ [x]) W')) →
    CallsIn Fence.wide n P g (#[.func (.yield l) #[] #[]] ++ lb) W fun e W' => (∃ v, e = .returned v) ∧ ((∃ m xs, S xs ∧ J m xs W') ∨ (∃ m pre, Sp pre ∧ Jx m pre W'))

/-- How a round's body may be left. -/
def ownPostM {α : Type} (b m : Nat) (I : Nat → List α → World → Prop) (Ix : Code → Nat → List α → World → Prop) (xs : List α) (W : World) : Exit → Act → World → Prop
  | .normal, _, W' => KeepsFrom b W W' ∧ Stay (b + 2) m W W' ∧ I m xs W'
  | .ret, _, W' => KeepsFrom b W W' ∧ Ix .ret m xs W'
  | .exit id, _, W' => KeepsFrom b W W' ∧ Ix (.exit id) m xs W'
  | .goto t, _, W' => KeepsFrom b W W' ∧ Ix (.goto t) m xs W'
  | .panic _, _, _ => False
  | .outgrown, _, _ => False

section
variable {n : Nat} {P : Program} {w : World}
end
end Go.Proofs.YtmooecbdpfhnlaaGreat
/- The law of a range over a function whose iterator writes cells of its own, where the rounds may turn what is no cells (maps): of the loop's own blocks alone it is asked that they stay. -/
namespace Go.Proofs.YtmooecbdpfhnlaaGreat
open Go.RowKit

/-- How a round's body may be left. -/
def ownPostT {α : Type} (b m : Nat) (I : Nat → List α → World → Prop) (Ix : Code → Nat → List α → World → Prop) (xs : List α) (W : World) : Exit → Act → World → Prop
  | .normal, _, W' => W.heap.size ≤ W'.heap.size ∧ Stay b m W W' ∧ I m xs W'
  | .ret, _, W' => (W.heap.size ≤ W'.heap.size ∧ Stay b (b + 2) W W') ∧ Ix .ret m xs W'
  | .exit id, _, W' => (W.heap.size ≤ W'.heap.size ∧ Stay b (b + 2) W W') ∧ Ix (.exit id) m xs W'
  | .goto t, _, W' => (W.heap.size ≤ W'.heap.size ∧ Stay b (b + 2) W W') ∧ Ix (.goto t) m xs W'
  | .panic _, _, _ => False
  | .outgrown, _, _ => False

section
variable {n : Nat} {P : Program} {w : World}
theorem wpIn_rangeFunc_turns {α : Type} {g : Operand} {ps : Array Tmp} {assign body : Code} {Q : Exit → Act → World → Prop} {a : Act}
    {gf : Nat} {lb : Array Value} (hg : a.eval g = .func (.func gf) #[] lb) (eg : ∀ args w, (callFunc gf args).run P w = .ok (.enter gf args) w)
    {encs : α → Array Value} {Info : Nat → Nat → α → World → Prop} {S Sp : List α → Prop} {w0 : World} (hseq : SeqOwns P (n - 1) gf lb encs Info S Sp w0) (hb0 : Below w0.heap.size w0 w) (hps : ∀ x, (encs x).size = ps.size)
    (hInfo : ∀ lo hi x A B, Info lo hi x A → Stay lo hi A B → A.heap.size ≤ B.heap.size → Info lo hi x B)
    (I : Nat → List α → World → Prop) (Ix : Code → Nat → List α → World → Prop) (Ax : Nat → α → Act → World → Prop)
    (hI : ∀ m s A B, I m s A → Span w.heap.size m A B → I m s B) (hIx : ∀ c m s A B, Ix c m s A → Span w.heap.size m A B → Ix c m s B) (hAx : ∀ m x a' A B, Ax m x a' A → Span w.heap.size m A B → Ax m x a' B)
    (h0 : ∀ W', Below w.heap.size w W' → I W'.heap.size [] W')
    (hassign : ∀ (l m : Nat) (pre : List α) (x : α) (W : World) (K : Act → World → Prop), I m pre W → Info (w.heap.size + 2) m x W →
      (∀ a' W', W.heap.size ≤ W'.heap.size → Stay w.heap.size m W W' → I m pre W' → Ax m x a' W' → K a' W') →
      assign.wpIn (Fence.wide.inRound l) (n - 1 - 1) P (Exit.then K (fun _ _ _ => False)) { tmps := (ps.zip (encs x)).foldl (fun t (p, v) => t.setIfInBounds p v) a.tmps, defers := [] } W)
    (hbody : ∀ (l m : Nat) (pre : List α) (x : α) (a' : Act) (W : World), w.heap.size ≤ l → (∃ r, W.heap[l]? = some (.loop r)) → I m pre W → Info (w.heap.size + 2) m x W → Ax m x a' W →
      body.wpIn (Fence.wide.inRound l) (n - 1 - 1) P (ownPostT w.heap.size m I Ix (pre ++ [x]) W) a' W)
    (hdone : ∀ (D m : Nat) (xs : List α) (W : World), w.heap.size ≤ D → S xs → I m xs W → W.heap[D]? = some (.deferred (some [])) → Q .normal { a with defers := { target := .collected D, args := #[] } :: a.defers } W)
    (hstop : ∀ (D m : Nat) (c : Code) (pre : List α) (W : World), w.heap.size ≤ D → Sp pre → Ix c m pre W → W.heap[D]? = some (.deferred (some [])) → c.wpIn Fence.wide n P Q { a with defers := { target := .collected D, args := #[] } :: a.defers } W) :
    (Code.rangeFunc g ps assign body).wpIn Fence.wide n P Q a w := by
  refine wpIn_rangeFunc ?_
  intro fn hfn
  obtain ⟨R, hR⟩ : ∃ R : LoopState → Option Code → Loop, R = fun st pe => { state := st, pending := pe, fn, tmps := a.tmps, params := ps, assign, body, defers := w.heap.size } := ⟨_, rfl⟩
  obtain ⟨V, hV⟩ : ∃ V, (w.alloc (.deferred (some []))).alloc (.loop (R .ready none)) = V := ⟨_, rfl⟩
  have hVs : V.heap.size = w.heap.size + 2 := by rw [← hV]; simp
  have hVw : Below w.heap.size w V := by rw [← hV]; exact ((Below.refl _ w).alloc (Nat.le_refl _) _).alloc (by simp) _
  have hVl : V.heap[w.heap.size + 1]? = some (.loop (R .ready none)) := by
    rw [← hV]; have := World.alloc_heap_new (w.alloc (.deferred (some []))) (.loop (R .ready none)); rwa [World.size_alloc] at this
  have hVd : V.heap[w.heap.size]? = some (.deferred (some [])) := by
    rw [← hV]; exact (Below.heap_alloc _ _ _ (by simp)).trans (World.alloc_heap_new w _)
  refine ⟨w.heap.size + 1, [{ target := .collected w.heap.size, args := #[] }], V, { target := .fn (.func gf) lb, args := #[.func (.yield (w.heap.size + 1)) #[] #[]] }, V, gf,
    #[.func (.yield (w.heap.size + 1)) #[] #[]] ++ lb, V, ?_, ?_, ?_, ?_, fun e => by simp [Fence.wide] at e, ?_⟩
  · rw [← hV, hR]; exact run_enterLoop_outer _ _ _ _ _
  · simp only [resolve, hg]
    simp [go_sem]
  · intro f' _; trivial
  · simp [invoke, go_sem, eg]
  refine (hseq (w.heap.size + 1)
    (fun m pre W => I m pre W ∧ w.heap.size + 2 ≤ m ∧ W.heap[w.heap.size + 1]? = some (.loop (R .ready none)) ∧ W.heap[w.heap.size]? = some (.deferred (some [])))
    (fun m pre W => ∃ c, Ix c m pre W ∧ w.heap.size + 2 ≤ m ∧ W.heap[w.heap.size + 1]? = some (.loop (R .done (some c))) ∧ W.heap[w.heap.size]? = some (.deferred (some [])))
    V (hb0.trans (hVw.mono hb0.size)) ?_ ?_ ?_ ?_).mono ?_
  · rintro m s A B ⟨h1, h2, h3, h4⟩ hs
    rw [hVs] at hs
    exact ⟨hI m s A B h1 (hs.wide (by omega) (Nat.le_refl _)), h2, (hs.block _ (Array.getElem?_eq_some_iff.1 h3).1 (.inl (by omega))).trans h3, (hs.block _ (Array.getElem?_eq_some_iff.1 h4).1 (.inl (by omega))).trans h4⟩
  · rintro m s A B ⟨c, h1, h2, h3, h4⟩ hs
    rw [hVs] at hs
    exact ⟨c, hIx c m s A B h1 (hs.wide (by omega) (Nat.le_refl _)), h2, (hs.block _ (Array.getElem?_eq_some_iff.1 h3).1 (.inl (by omega))).trans h3, (hs.block _ (Array.getElem?_eq_some_iff.1 h4).1 (.inl (by omega))).trans h4⟩
  · intro W' hb
    have hsz := hb.size
    exact ⟨h0 W' (hVw.trans (hb.mono hVw.size)), by omega, (hb.block _ (by omega)).trans hVl, (hb.block _ (by omega)).trans hVd⟩
  · -- a round
    rintro m pre x W ⟨hi, hm, hl, hd⟩ hx
    rw [hVs] at hx ⊢
    have hy := run_yield (P := P) (args := encs x) hl (by rw [hR]; exact hps x)
    rw [hR] at hy
    refine ⟨fn, _, assign, body, hy, roundIn_of_wpIn hfn (hassign _ m pre x W _ hi hx ?_)⟩
    intro a' U hk hst hiU haU
    have hlU := (hst (w.heap.size + 1) (by omega) (by omega)).trans hl
    have hdU := (hst w.heap.size (by omega) (by omega)).trans hd
    have hst' : Stay (w.heap.size + 2) m W U := fun i h1 h2 => hst i (by omega) h2
    have hltU : w.heap.size + 1 < U.heap.size := (Array.getElem?_eq_some_iff.1 hlU).1
    have hxU := hInfo _ _ _ _ _ hx hst' hk
    refine ⟨_, run_beginRound hlU (by rw [hR]), ?_⟩
    obtain ⟨T, hT⟩ : ∃ T, U.putObj (w.heap.size + 1) (.loop { R .ready none with state := .busy }) = T := ⟨_, rfl⟩
    have hlT : T.heap[w.heap.size + 1]? = some (.loop { R .ready none with state := .busy }) := by rw [← hT]; exact World.putObj_heap_same hltU
    have hdT : T.heap[w.heap.size]? = some (.deferred (some [])) := by rw [← hT]; exact (World.putObj_heap_other (by omega)).trans hdU
    have hsT : Span w.heap.size m U T := by rw [← hT]; exact Span.put _ _ (by omega) (by omega)
    have hyT : Stay (w.heap.size + 2) m U T := by rw [← hT]; exact Stay.put _ _ (by omega)
    rw [hT]
    refine wpIn_mono (hbody _ m pre x a' T (by omega) ⟨_, hlT⟩ (hI _ _ _ _ hiU hsT) (hInfo _ _ _ _ _ hxU hyT hsT.size) (hAx _ _ _ _ _ haU hsT)) ?_
    have fin : ∀ (jump : Option Code) (Z : World), (T.heap.size ≤ Z.heap.size ∧ Stay w.heap.size (w.heap.size + 2) T Z) →
        ∃ Z', (Instr.endRound (w.heap.size + 1) jump).run P Z = .ok (.bool jump.isNone) Z' ∧ Span w.heap.size m Z Z' ∧ Stay (w.heap.size + 2) m Z Z' ∧
          Z'.heap[w.heap.size + 1]? = some (.loop (R (if jump.isNone then .ready else .done) jump)) ∧ Z'.heap[w.heap.size]? = some (.deferred (some [])) := fun jump Z hz => by
      have hlZ := (hz.2 (w.heap.size + 1) (by omega) (by omega)).trans hlT
      have hdZ := (hz.2 w.heap.size (by omega) (by omega)).trans hdT
      have he := run_endRound (P := P) jump hlZ
      refine ⟨_, he, Span.put _ _ (by omega) (by omega), Stay.put _ _ (by omega), ?_, (World.putObj_heap_other (by omega)).trans hdZ⟩
      rw [World.putObj_heap_same (Array.getElem?_eq_some_iff.1 hlZ).1, hR]
    rintro e a3 Z hp
    cases e with
    | normal =>
      obtain ⟨hz, hy3, hi3⟩ := hp
      have hy3' : Stay (w.heap.size + 2) m T Z := fun i h1 h2 => hy3 i (by omega) h2
      obtain ⟨Z', hr, hs, hy4, hl4, hd4⟩ := fin none Z ⟨hz, fun i h1 h2 => hy3 i h1 (by omega)⟩
      exact ⟨_, _, hr, .inl ⟨rfl, ⟨hI _ _ _ _ hi3 hs, hm, hl4, hd4⟩, hst'.trans (hyT.trans (hy3'.trans hy4)), Nat.le_trans hk (Nat.le_trans hsT.size (Nat.le_trans hz hs.size))⟩⟩
    | ret =>
      obtain ⟨hz, hi3⟩ := hp
      obtain ⟨Z', hr, hs, _, hl4, hd4⟩ := fin (some .ret) Z hz
      exact ⟨_, _, hr, .inr ⟨rfl, .ret, hIx _ _ _ _ _ hi3 hs, hm, hl4, hd4⟩⟩
    | exit id =>
      obtain ⟨hz, hi3⟩ := hp
      obtain ⟨Z', hr, hs, _, hl4, hd4⟩ := fin (some (.exit id)) Z hz
      exact ⟨_, _, hr, .inr ⟨rfl, .exit id, hIx _ _ _ _ _ hi3 hs, hm, hl4, hd4⟩⟩
    | goto t =>
      obtain ⟨hz, hi3⟩ := hp
      obtain ⟨Z', hr, hs, _, hl4, hd4⟩ := fin (some (.goto t)) Z hz
      exact ⟨_, _, hr, .inr ⟨rfl, .goto t, hIx _ _ _ _ _ hi3 hs, hm, hl4, hd4⟩⟩
    | panic ch => exact hp.elim
    | outgrown => exact hp.elim
  · -- behind the iterator
    rintro e Z ⟨⟨v, rfl⟩, (⟨m, xs, hS, hi, hm, hl, hd⟩ | ⟨m, pre, hSp, c, hi, hm, hl, hd⟩)⟩
    · exact ⟨none, _, by have := run_endLoop (P := P) hl (by rw [hR]; simp); rw [hR] at this; exact this, hdone _ m xs _ (Nat.le_refl _) hS (hI _ _ _ _ hi (Span.put _ _ (by omega) (by omega))) ((World.putObj_heap_other (by omega)).trans hd)⟩
    · exact ⟨some c, _, by have := run_endLoop (P := P) hl (by rw [hR]; simp); rw [hR] at this; exact this, hstop _ m c pre _ (Nat.le_refl _) hSp (hIx _ _ _ _ _ hi (Span.put _ _ (by omega) (by omega))) ((World.putObj_heap_other (by omega)).trans hd)⟩
end
end Go.Proofs.YtmooecbdpfhnlaaGreat
/- The contracts of the program's small helpers of chapter 3. -/
namespace Go.Proofs.YtmooecbdpfhnlaaGreat
open Go.RowKit

def opensB (x : Int) : Bool := (x == 2 || x == 5) || x == 8
def secondB (x : Int) : Bool := x == 3 || x == 9
def takesB (op sec s : Int) : Bool := decide (sec < 0) && ((op == 2 && s == 3) || (op == 8 && s == 9))
def mayEndB (op sec : Int) : Bool := op != 8 || decide (0 ≤ sec)
/-- The program's head as a value. -/
def headV (wd tp : Int) (a1 a2 a3 a4 : Option Addr) (n1 n2 n3 n4 c1 c2 c3 c4 : Nat) : Value := .agg #[.int .i64 wd, .slice a1 n1 c1, .slice a2 n2 c2, .int .i64 tp, .slice a3 n3 c3, .slice a4 n4 c4]

theorem isWithin_any (x lo hi : Int) (w : World) :
    Calls Tryz.prog 70 #[.int .i64 x, .int .i64 lo, .int .i64 hi] w fun e w' => e = .returned (.bool (decide (lo ≤ x) && decide (x ≤ hi))) ∧ w = w' := by
  by_cases h1 : lo ≤ x
  · by_cases h2 : x ≤ hi
    · go_enter Tryz.func70, Tryz.ntmps70
      go_wp2
      go_ret
      exact ⟨ret_bool (by simp [h1, h2]), rfl⟩
    · go_enter Tryz.func70, Tryz.ntmps70
      go_wp2
      go_ret
      exact ⟨ret_bool (by rw [decide_eq_false (p := x ≤ hi) (by omega)]), rfl⟩
  · go_enter Tryz.func70, Tryz.ntmps70
    go_wp2
    go_ret
    exact ⟨ret_bool (by rw [decide_eq_false (p := lo ≤ x) (by omega), Bool.false_and]), rfl⟩
theorem isWithin_lat {w : World} (x lo hi : Int) {v : Bool} (hv : (decide (lo ≤ x) && decide (x ≤ hi)) = v) (p : Lat w) :
    Calls Tryz.prog 70 #[.int .i64 x, .int .i64 lo, .int .i64 hi] p.wd fun e w' => e = .returned (.bool v) ∧ Below p.wd.heap.size p.wd w' :=
  (isWithin_any x lo hi p.wd).mono fun _ _ ⟨he, hw⟩ => ⟨by rw [he, hv], by rw [← hw]; exact Below.refl _ _⟩
theorem opensBlock_any (x : Int) (w : World) : Calls Tryz.prog 180 #[.int .i64 x] w fun e w' => e = .returned (.bool (opensB x)) ∧ w = w' := by
  obtain ⟨R, HR⟩ : ∃ R, Hid (opensB x = R) := ⟨_, rfl⟩
  rw [HR.out]
  by_cases h : x = 2 ∨ x = 5 ∨ x = 8
  · have hR : R = true := by rw [← HR.out]; rcases h with rfl | rfl | rfl <;> rfl
    subst hR
    rcases h with rfl | rfl | rfl
    all_goals
      go_enter Tryz.func180, Tryz.ntmps180
      go_wp2
      go_ret
      exact ⟨rfl, rfl⟩
  · have k2 : (x == 2) = false := by simp; omega
    have k5 : (x == 5) = false := by simp; omega
    have k8 : (x == 8) = false := by simp; omega
    have hR : R = false := by rw [← HR.out]; simp [opensB, k2, k5, k8]
    subst hR
    go_enter Tryz.func180, Tryz.ntmps180
    go_wp2
    go_ret
    exact ⟨rfl, rfl⟩
theorem startsSecond_any (x : Int) (w : World) : Calls Tryz.prog 179 #[.int .i64 x] w fun e w' => e = .returned (.bool (secondB x)) ∧ w = w' := by
  obtain ⟨R, HR⟩ : ∃ R, Hid (secondB x = R) := ⟨_, rfl⟩
  rw [HR.out]
  by_cases h : x = 3 ∨ x = 9
  · have hR : R = true := by rw [← HR.out]; rcases h with rfl | rfl <;> rfl
    subst hR
    rcases h with rfl | rfl
    all_goals
      go_enter Tryz.func179, Tryz.ntmps179
      go_wp2
      go_ret
      exact ⟨rfl, rfl⟩
  · have k3 : (x == 3) = false := by simp; omega
    have k9 : (x == 9) = false := by simp; omega
    have hR : R = false := by rw [← HR.out]; simp [secondB, k3, k9]
    subst hR
    go_enter Tryz.func179, Tryz.ntmps179
    go_wp2
    go_ret
    exact ⟨rfl, rfl⟩
theorem takesLabel_any (x s y : Int) (w : World) : Calls Tryz.prog 200 #[.agg #[.int .i64 x, .int .i64 s], .int .i64 y] w fun e w' => e = .returned (.bool (takesB x s y)) ∧ Below w.heap.size w w' := by
  obtain ⟨R, HR⟩ : ∃ R, Hid (takesB x s y = R) := ⟨_, rfl⟩
  rw [HR.out]
  by_cases hs : 0 ≤ s
  · have hR : R = false := by rw [← HR.out, takesB, decide_eq_false (by omega)]; rfl
    subst hR
    go_enter Tryz.func200, Tryz.ntmps200
    go_wp2
    go_ret
    exact ⟨rfl, (Below.refl _ _).alloc (Nat.le_refl _) _⟩
  have hR : R = ((x == 2 && y == 3) || (x == 8 && y == 9)) := by rw [← HR.out, takesB, decide_eq_true (by omega)]; rfl
  have HR := Lib.hid hR
  clear hR
  by_cases h2 : x = 2
  · subst h2
    by_cases h3 : y = 3
    · subst h3
      have hR : R = true := HR.out
      subst hR
      go_enter Tryz.func200, Tryz.ntmps200
      go_wp2
      go_ret
      exact ⟨rfl, (Below.refl _ _).alloc (Nat.le_refl _) _⟩
    · have k3 : (y == 3) = false := by simpa using h3
      have hR : R = false := by rw [HR.out, k3]; rfl
      subst hR
      go_enter Tryz.func200, Tryz.ntmps200
      go_wp2
      go_ret
      exact ⟨rfl, (Below.refl _ _).alloc (Nat.le_refl _) _⟩
  have k2 : (x == 2) = false := by simpa using h2
  by_cases h8 : x = 8
  · subst h8
    by_cases h9 : y = 9
    · subst h9
      have hR : R = true := HR.out
      subst hR
      go_enter Tryz.func200, Tryz.ntmps200
      go_wp2
      go_ret
      exact ⟨rfl, (Below.refl _ _).alloc (Nat.le_refl _) _⟩
    · have k9 : (y == 9) = false := by simpa using h9
      have hR : R = false := by rw [HR.out, k9]; rfl
      subst hR
      go_enter Tryz.func200, Tryz.ntmps200
      go_wp2
      go_ret
      exact ⟨rfl, (Below.refl _ _).alloc (Nat.le_refl _) _⟩
  have k8 : (x == 8) = false := by simpa using h8
  have hR : R = false := by rw [HR.out, k2, k8]; rfl
  subst hR
  go_enter Tryz.func200, Tryz.ntmps200
  go_wp2
  go_ret
  exact ⟨rfl, (Below.refl _ _).alloc (Nat.le_refl _) _⟩
theorem mayEnd_any (x s : Int) (w : World) : Calls Tryz.prog 201 #[.agg #[.int .i64 x, .int .i64 s]] w fun e w' => e = .returned (.bool (mayEndB x s)) ∧ Below w.heap.size w w' := by
  obtain ⟨R, HR⟩ : ∃ R, Hid (mayEndB x s = R) := ⟨_, rfl⟩
  rw [HR.out]
  by_cases h8 : x = 8
  · subst h8
    by_cases hs : 0 ≤ s
    · have hR : R = true := by rw [← HR.out, mayEndB, decide_eq_true hs]; rfl
      subst hR
      go_enter Tryz.func201, Tryz.ntmps201
      go_wp2
      go_ret
      exact ⟨rfl, (Below.refl _ _).alloc (Nat.le_refl _) _⟩
    · have hR : R = false := by rw [← HR.out, mayEndB, decide_eq_false hs]; rfl
      subst hR
      go_enter Tryz.func201, Tryz.ntmps201
      go_wp2
      go_ret
      exact ⟨rfl, (Below.refl _ _).alloc (Nat.le_refl _) _⟩
  have k8 : (x != 8) = true := by simpa using h8
  have hR : R = true := by rw [← HR.out, mayEndB, k8]; rfl
  subst hR
  go_enter Tryz.func201, Tryz.ntmps201
  go_wp2
  go_ret
  exact ⟨rfl, (Below.refl _ _).alloc (Nat.le_refl _) _⟩
set_option maxHeartbeats 800000 in
theorem greatestValue_any (r : PRow) (W : Nat) (w : World) (hW : r.width = (W : Int)) (h8 : W ≤ 8) :
    Calls Tryz.prog 183 #[progV r] w fun e w' => e = .returned (.int .i64 (((2 ^ W : Nat) : Int) - 1)) ∧ Below w.heap.size w w' := by
  obtain ⟨wd, ⟨a1, n1, c1⟩, ⟨a2, n2, c2⟩, tp, ⟨a3, n3, c3⟩, ⟨a4, n4, c4⟩, rows⟩ := r
  simp only [] at hW
  subst hW
  show Calls Tryz.prog 183 #[.agg #[.int .i64 (W : Int), .slice a1 n1 c1, .slice a2 n2 c2, .int .i64 tp, .slice a3 n3 c3, .slice a4 n4 c4]] w _
  have hc : W = 0 ∨ W = 1 ∨ W = 2 ∨ W = 3 ∨ W = 4 ∨ W = 5 ∨ W = 6 ∨ W = 7 ∨ W = 8 := by omega
  rcases hc with rfl | rfl | rfl | rfl | rfl | rfl | rfl | rfl | rfl
  all_goals
    go_enter Tryz.func183, Tryz.ntmps183
    go_wp2
    go_ret
    exact ⟨rfl, (Below.refl _ _).alloc (Nat.le_refl _) _⟩
theorem firstTemp_any (r : PRow) (w : World) (h1 : r.lows.2.1 ≤ 1048576) (h2 : r.secrets.2.1 ≤ 1048576) :
    Calls Tryz.prog 120 #[progV r] w fun e w' => e = .returned (.int .i64 ((r.lows.2.1 : Int) + (r.secrets.2.1 : Int))) ∧ Below w.heap.size w w' := by
  obtain ⟨wd, ⟨a1, n1, c1⟩, ⟨a2, n2, c2⟩, tp, ⟨a3, n3, c3⟩, ⟨a4, n4, c4⟩, rows⟩ := r
  simp only [] at h1 h2
  show Calls Tryz.prog 120 #[.agg #[.int .i64 wd, .slice a1 n1 c1, .slice a2 n2 c2, .int .i64 tp, .slice a3 n3 c3, .slice a4 n4 c4]] w _
  go_enter Tryz.func120, Tryz.ntmps120
  go_wp2
  go_ret
  exact ⟨rfl, (Below.refl _ _).alloc (Nat.le_refl _) _⟩
end Go.Proofs.YtmooecbdpfhnlaaGreat
/- What StartOf asks of inputs and answers: words, and the contract of the program's areInputs. -/
namespace Go.Proofs.YtmooecbdpfhnlaaGreat
open Go.RowKit

/-- Every value from 0 to its Max, as many as there are. -/
def areB (ins : List Tm) (zs : List Int) : Bool := decide (zs.length = ins.length) && (List.range zs.length).all (fun i => decide (0 ≤ zs.getD i 0) && decide (zs.getD i 0 ≤ (tmAt ins i).1))
def AreTo (ins : List Tm) (zs : List Int) (k : Nat) : Prop := ∀ i, i < k → 0 ≤ zs.getD i 0 ∧ zs.getD i 0 ≤ (tmAt ins i).1
theorem AreTo.zero (ins : List Tm) (zs : List Int) : AreTo ins zs 0 := fun i hi => absurd hi (by omega)
theorem AreTo.succ {ins : List Tm} {zs : List Int} {k : Nat} {z : Int} {t : Tm} (h : AreTo ins zs k) (hz : Hid (z = zs.getD k 0)) (ht : Hid (tmAt ins k = t)) (h0 : 0 ≤ z) (h1 : z ≤ t.1) : AreTo ins zs (k + 1) := by
  intro i hi
  rcases Nat.lt_or_ge i k with hlt | hge
  · exact h i hlt
  · obtain rfl : i = k := by omega
    rw [← hz.out, ht.out]; exact ⟨h0, h1⟩
theorem areB_all {ins : List Tm} {zs : List Int} (hl : zs.length = ins.length) (h : AreTo ins zs zs.length) : areB ins zs = true := by
  rw [areB, decide_eq_true hl, Bool.true_and, List.all_eq_true]
  intro i hi
  rw [List.mem_range] at hi
  have := h i hi
  simp only [Bool.and_eq_true, decide_eq_true_eq]
  exact this
theorem areB_bad {ins : List Tm} {zs : List Int} {k : Nat} {z : Int} {t : Tm} (hk : k < zs.length) (hz : Hid (z = zs.getD k 0)) (ht : Hid (tmAt ins k = t)) (h : ¬ (0 ≤ z ∧ z ≤ t.1)) : areB ins zs = false := by
  rw [← Bool.not_eq_true]
  intro hA
  simp only [areB, Bool.and_eq_true, List.all_eq_true, List.mem_range, decide_eq_true_eq] at hA
  have := hA.2 k hk
  rw [← hz.out, ht.out] at this
  exact h this
theorem areB_len {ins : List Tm} {zs : List Int} (h : zs.length ≠ ins.length) : areB ins zs = false := by rw [areB, decide_eq_false h, Bool.false_and]
theorem areB_ok {ins : List Tm} {zs : List Int} (h : areB ins zs = true) : zs.length = ins.length ∧ AreTo ins zs zs.length := by
  simp only [areB, Bool.and_eq_true, List.all_eq_true, List.mem_range, decide_eq_true_eq] at h
  exact ⟨h.1, h.2⟩
/-- Is there a start? -/
noncomputable def startB (p : Prg) (ls ss : List Int) : Bool := (codeB p == 0) && (areB p.lows ls && areB p.secrets ss)
/-- The start. -/
def startQ (p : Prg) (ls ss : List Int) : Sta := ⟨ls ++ ss ++ List.replicate p.temps.toNat 0, p.arrays.map (fun z => List.replicate z.toNat 0), []⟩
theorem code_parts {p : Prg} (h : codeB p = 0) : inpB p = true ∧ roomB p = true := by
  unfold codeB at h
  split at h
  · exact absurd h (by decide)
  split at h
  · exact absurd h (by decide)
  split at h
  · exact absurd h (by decide)
  rename_i h1 h2 h3
  exact ⟨by simpa using h2, by simpa using h3⟩
theorem are_in {S : Nat} {low : Bool} {ins : List Tm} {zs : List Int} (hi : inputsB S low ins = true) (h : areB ins zs = true) : ∀ z ∈ zs, 0 ≤ z ∧ z < (S : Int) := by
  obtain ⟨hl, ha⟩ := areB_ok h
  intro z hz
  obtain ⟨i, hi', rfl⟩ := List.getElem_of_mem hz
  have h1 := ha i hi'
  rw [List.getD_eq_getElem?_getD, List.getElem?_eq_getElem hi'] at h1
  simp only [Option.getD_some] at h1
  simp only [inputsB, Bool.and_eq_true, List.all_eq_true] at hi
  have h2 := hi.1 _ (tmAt_mem (show i < ins.length by omega))
  simp only [inpOk, Bool.and_eq_true, decide_eq_true_eq] at h2
  omega
/-- The start is a state of the program. -/
theorem start_ok {p : Prg} {ls ss : List Int} (h : startB p ls ss = true) : StaOk p (startQ p ls ss) := by
  simp only [startB, Bool.and_eq_true, beq_iff_eq] at h
  obtain ⟨hc, h1, h2⟩ := h
  obtain ⟨hi, hr⟩ := code_parts hc
  simp only [inpB, Bool.and_eq_true] at hi
  simp only [roomB, Bool.and_eq_true, decide_eq_true_eq, List.all_eq_true] at hr
  have hS : 0 < 2 ^ p.width.toNat := Nat.pow_pos (by omega)
  have zero : ∀ n : Nat, ∀ z ∈ List.replicate n (0 : Int), 0 ≤ z ∧ z < ((2 ^ p.width.toNat : Nat) : Int) := fun n z hz => by
    rw [(List.mem_replicate.1 hz).2]
    exact ⟨by omega, by omega⟩
  have l1 := (areB_ok h1).1
  have l2 := (areB_ok h2).1
  refine ⟨envB_of hc ?_ (by simp [envOf, startQ]) ⟨fun z hz => ?_, fun cs hcs z hz => ?_⟩ (fun i hi' => ?_), fun z hz => by simp [startQ] at hz⟩
  · simp only [envOf, startQ, List.length_append, List.length_replicate]
    omega
  · simp only [envOf, startQ, List.mem_append] at hz
    rcases hz with (hz | hz) | hz
    · exact are_in hi.1.1 h1 z hz
    · exact are_in hi.1.2 h2 z hz
    · exact zero _ z hz
  · simp only [envOf, startQ, List.mem_map] at hcs
    obtain ⟨y, _, rfl⟩ := hcs
    exact zero _ z hz
  · have hi2 : i < p.arrays.length := by simpa [envOf, startQ] using hi'
    have e : intsAt (envOf (startQ p ls ss)).cells i = List.replicate (p.arrays.getD i 0).toNat 0 := by
      simp [envOf, startQ, intsAt, List.getD_eq_getElem?_getD, List.getElem?_eq_getElem hi2]
    rw [e, List.length_replicate]
    have := hr.2 _ (getD_mem hi2)
    omega
set_option maxHeartbeats 800000 in
theorem areInputs_any (a a' : Option Addr) (n c n' c' : Nat) (ins : List Tm) (zs : List Int) (w : World) (h : Terms w a n ins) (h' : Ints w a' n' zs) :
    Calls Tryz.prog 96 #[.slice a n c, .slice a' n' c'] w fun e w' => e = .returned (.bool (areB ins zs)) ∧ w = w' := by
  have HL := Lib.hid h.1
  have HM := Lib.hid h'.1
  have hbd := h.2.1
  have hbe := h'.2.1
  by_cases hnm : n' = n
  case neg =>
    have hne : ((n' : Int) != (n : Int)) = true := by simp; omega
    go_enter Tryz.func96, Tryz.ntmps96
    go_wp2
    go_ret
    exact ⟨ret_bool (areB_len (fun e => hnm (by rw [← HL.out, ← HM.out, e]))).symm, rfl⟩
  subst hnm
  have hne0 : ((n' : Int) != (n' : Int)) = false := by simp
  go_enter Tryz.func96, Tryz.ntmps96
  go_wp2
  go_loop [14] (fun i => ∃ k : Nat, k ≤ n' ∧ i = .int .i64 (k : Int) ∧ Hid (AreTo ins zs k)) (fun i => n' - (intOf i).toNat)
  case atStart => exact ⟨0, Nat.zero_le _, rfl, Lib.hid (AreTo.zero _ _)⟩
  case round =>
    obtain ⟨k, hk, rfl, hg⟩ := hrel
    by_cases hlt : k < n'
    · obtain ⟨b1, o1, x, y, rfl, hb1, hz1, hi1, hi2, hc1, hc2⟩ := h.at_ hlt
      obtain ⟨b2, o2, z, rfl, hb2, hz2, hi3, hc3⟩ := h'.at_ hlt
      clear hc2
      go_wp2_with fail
      refine (isWithin_any z 0 x _).mono ?_
      rintro e w1 ⟨rfl, rfl⟩
      by_cases hin : 0 ≤ z ∧ z ≤ x
      · rw [decide_eq_true hin.1, decide_eq_true hin.2]
        have HG := Lib.hid (hg.out.succ hz2 hz1 hin.1 hin.2)
        clear hin hg
        go_wp2
        go_round
        case rel => exact ⟨k + 1, by omega, by go_num, HG⟩
        case measure => simp [intOf]; omega
      · have HX : Hid ((decide (0 ≤ z) && decide (z ≤ x)) = false) := Lib.hid (by
          rcases Decidable.not_and_iff_or_not.1 hin with h | h
          · rw [decide_eq_false h, Bool.false_and]
          · rw [decide_eq_false h, Bool.and_false])
        have HB := Lib.hid (areB_bad (by rw [HM.out]; exact hlt) hz2 hz1 hin)
        rw [HX.out]
        clear hin HX
        go_wp2
        go_ret
        exact ⟨ret_bool HB.out.symm, rfl⟩
    · obtain rfl : n' = k := by omega
      go_wp2
      go_ret
      exact ⟨ret_bool (areB_all (HM.out.trans HL.out.symm) (by rw [HM.out]; exact hg.out)).symm, rfl⟩
end Go.Proofs.YtmooecbdpfhnlaaGreat
