/- Joined texts of this proof (Span, BoolCopies, SpecCount, SpecFits, ImplSmall, StartMath), in build order. -/
import Derived.Test.YtmooecbdpfhnlaaGreatK6
import Derived.Test.YtmooecbdpfhnlaaGreatK16
import Derived.Test.YtmooecbdpfhnlaaGreatK10
import Derived.Test.YtmooecbdpfhnlaaGreatK3
import Derived.Test.YtmooecbdpfhnlaaGreatK9
/- Only blocks from lo up to hi turn: what lies elsewhere stays as it lay. -/
namespace Go.Proofs.YtmooecbdpfhnlaaGreat
open Go.RowKit

structure Span (lo hi : Nat) (w w' : World) : Prop where
  os : w'.os = w.os
  tape : w'.tape = w.tape
  output : w'.output = w.output
  size : w.heap.size ≤ w'.heap.size
  block : ∀ k, k < w.heap.size → (k < lo ∨ hi ≤ k) → w'.heap[k]? = w.heap[k]?
section
variable {lo hi lo' hi' B n c m size : Nat} {w w' w'' : World} {row : Option Nat} {v : Value} {t : TypeId} {xs : List Value} {a : Option Addr} {ts : List Tm} {zs : List Int}
theorem Span.refl (lo hi : Nat) (w : World) : Span lo hi w w := ⟨rfl, rfl, rfl, Nat.le_refl _, fun _ _ _ => rfl⟩
theorem Span.trans (h : Span lo hi w w') (k : Span lo hi w' w'') : Span lo hi w w'' :=
  ⟨k.os.trans h.os, k.tape.trans h.tape, k.output.trans h.output, Nat.le_trans h.size k.size, fun i hi h' => (k.block i (Nat.lt_of_lt_of_le hi h.size) h').trans (h.block i hi h')⟩
theorem Span.wide (h : Span lo hi w w') (h1 : lo' ≤ lo) (h2 : hi ≤ hi') : Span lo' hi' w w' :=
  ⟨h.os, h.tape, h.output, h.size, fun k hk h' => h.block k hk (by omega)⟩
theorem Span.of_grown (h : w.grownBy w' row) (hr : ∀ g, row = some g → lo ≤ g ∧ g < hi) : Span lo hi w w' :=
  ⟨h.os, h.tape, h.output, h.size, fun k hk h' => h.block k hk (fun e => by have := hr k e.symm; omega)⟩
theorem Span.of_below (h : Below w.heap.size w w') : Span lo hi w w' := ⟨h.os, h.tape, h.output, h.size, fun k hk _ => h.block k hk⟩
theorem Span.set (w : World) {b j : Nat} (v : Value) (h1 : lo ≤ b) (h2 : b < hi) : Span lo hi w (w.setCell ⟨b, j, none⟩ v) :=
  Span.of_grown (grown_set w b j v) (fun g e => by injection e with e; omega)
theorem Span.below (h : Span lo hi w w') (hl : lo ≤ w.heap.size) : Below lo w w' := ⟨h.os, h.tape, h.output, h.size, fun k hk => h.block k (by omega) (.inl hk)⟩
theorem ownsRow_span (h : w.ownsRow B t size v n xs) (hs : Span lo hi w w') (hv : ∀ g, v.ownBlock = some g → g < lo ∨ hi ≤ g) : w'.ownsRow B t size v n xs := by
  refine ⟨h.1, ?_⟩
  rcases h.2 with hn | ⟨g, cap, cur, hv', hb, hg, rest⟩
  · exact .inl hn
  · exact .inr ⟨g, cap, cur, hv', hb, (hs.block g (Array.getElem?_eq_some_iff.1 hg).1 (hv g (by rw [hv']; rfl))).trans hg, rest⟩
theorem Own.span (h : Own w B a n c zs) (hs : Span lo hi w w') (hB : hi ≤ B) : Own w' B a n c zs := ⟨ownsRow_span h.1 hs (fun g hg => .inr (Nat.le_trans hB (h.block g hg).1)), h.2⟩
theorem EnvMem.span {er : ERow} {os : Sl} {q : Sta} (h : EnvMem w B er os q) (hs : Span lo hi w w') (hB : hi ≤ B) : EnvMem w' B er os q :=
  ⟨h.vars.span hs hB, ⟨ownsRow_span h.cells.1 hs (fun g hg => .inr (Nat.le_trans hB (h.cells.1.lt g hg).1)), h.cells.2.1, h.cells.2.2.1, fun i hi => (h.cells.2.2.2 i hi).span hs hB⟩, h.outs.span hs hB, h.vo, h.cv, h.co, h.cc⟩
theorem Blk.span {b : Nat} (h : Blk w b t xs) (hs : Span lo hi w w') (hv : b < lo ∨ hi ≤ b) : Blk w' b t xs := (hs.block b h.lt hv).trans h
end
/-- Where the own blocks of a slice, of a program's slices lie. -/
def SlIn (lo hi : Nat) (s : Sl) : Prop := ∀ g, (slV s).ownBlock = some g → lo ≤ g ∧ g < hi
structure ProgIn (lo hi : Nat) (r : PRow) : Prop where
  lows : SlIn lo hi r.lows
  secrets : SlIn lo hi r.secrets
  arrays : SlIn lo hi r.arrays
  body : SlIn lo hi r.body
  rows : ∀ g ∈ blks r.rows, lo ≤ g ∧ g < hi
theorem ProgIn.wide {lo hi lo' hi' : Nat} {r : PRow} (h : ProgIn lo hi r) (h1 : lo' ≤ lo) (h2 : hi ≤ hi') : ProgIn lo' hi' r :=
  ⟨fun g hg => by have := h.lows g hg; omega, fun g hg => by have := h.secrets g hg; omega, fun g hg => by have := h.arrays g hg; omega, fun g hg => by have := h.body g hg; omega, fun g hg => by have := h.rows g hg; omega⟩
/-- No two of a body's slices lie in one block. -/
theorem blks_apart {rs : List SRow} (h : (blks rs).Nodup) {i j : Nat} (hi : i < rs.length) (hj : j < rs.length) (hne : i ≠ j) {g : Nat} (h1 : g ∈ blksOf (srAt rs i)) : g ∉ blksOf (srAt rs j) := by
  intro h2
  have hp := (List.pairwise_flatMap.1 h).2
  have ei : srAt rs i = rs[i] := by simp [srAt, List.getD_eq_getElem?_getD, hi]
  have ej : srAt rs j = rs[j] := by simp [srAt, List.getD_eq_getElem?_getD, hj]
  rw [ei] at h1
  rw [ej] at h2
  rcases Nat.lt_or_ge i j with hlt | hge
  · exact (List.pairwise_iff_getElem.1 hp i j hi hj hlt g h1 g h2) rfl
  · exact (List.pairwise_iff_getElem.1 hp j i hj hi (by omega) g h2 g h1) rfl
theorem blks_self {rs : List SRow} (h : (blks rs).Nodup) {i : Nat} (hi : i < rs.length) {g : Nat} (h1 : (slV (srAt rs i).at_).ownBlock = some g) : (slV (srAt rs i).exp).ownBlock ≠ some g := by
  intro h2
  have ei : srAt rs i = rs[i] := by simp [srAt, List.getD_eq_getElem?_getD, hi]
  have hm := (List.pairwise_flatMap.1 h).1 rs[i] (List.getElem_mem hi)
  rw [← ei, blksOf, h1, h2] at hm
  simp at hm
end Go.Proofs.YtmooecbdpfhnlaaGreat
/- Slices of bools: words; one more put behind; the laws' own helpers on them (eqBoolS, markBoolS, heldBoolS, toBoolS). -/
namespace Go.Proofs.YtmooecbdpfhnlaaGreat
open Go.RowKit

def bAt (bs : List Bool) (i : Nat) : Bool := bs.getD i false
/-- The slice '.slice a n c' reads as the bools bs. -/
def Bools (w : World) (a : Option Addr) (n : Nat) (bs : List Bool) : Prop :=
  bs.length = n ∧ n ≤ 1048576 ∧ (0 < n → ∃ b o, a = some ⟨b, o, none⟩ ∧ b < w.heap.size ∧ ∀ i, i < n → w.cell? ⟨b, o + i, none⟩ = some (.bool (bAt bs i)))
theorem Bools.at_ {w : World} {a : Option Addr} {n : Nat} {bs : List Bool} {k : Nat} (h : Bools w a n bs) (hk : k < n) :
    ∃ b o z, a = some ⟨b, o, none⟩ ∧ b < w.heap.size ∧ Hid (z = bAt bs k) ∧ w.cell? ⟨b, o + k, none⟩ = some (.bool z) := by
  obtain ⟨hl, _, hc⟩ := h
  obtain ⟨b, o, rfl, hb, hcell⟩ := hc (by omega)
  exact ⟨b, o, _, rfl, hb, Lib.hid rfl, hcell k hk⟩
theorem Bools.below {w w' : World} {a : Option Addr} {n : Nat} {bs : List Bool} (h : Bools w a n bs) (hb : Below w.heap.size w w') : Bools w' a n bs := by
  obtain ⟨hl, hn, hc⟩ := h
  refine ⟨hl, hn, fun hp => ?_⟩
  obtain ⟨b, o, rfl, hbl, hcell⟩ := hc hp
  exact ⟨b, o, rfl, Nat.lt_of_lt_of_le hbl hb.size, fun i hi => (hb.cell (by exact hbl)).trans (hcell i hi)⟩
/-- .. of the call's own, from block B on. -/
def OwnB (w : World) (B : Nat) (a : Option Addr) (n c : Nat) (bs : List Bool) : Prop := w.ownsRow B 4 1 (.slice a n c) n (bs.map Value.bool) ∧ n ≤ 1048576
section
variable {w w' : World} {B : Nat} {a : Option Addr} {n c : Nat} {bs : List Bool} {row : Option Nat}
theorem OwnB.len (h : OwnB w B a n c bs) : bs.length = n := by have := h.1.1; simpa using this
theorem OwnB.reads (h : OwnB w B a n c bs) : Bools w a n bs := by
  have hlen := h.len
  obtain ⟨ho, hn⟩ := h
  refine ⟨hlen, hn, fun hp => ?_⟩
  rcases ho.2 with ⟨_, h0⟩ | ⟨g, cap, cur, e, _, hh, _⟩
  · exact absurd hp (by omega)
  · have ea : a = some ⟨g, 0, none⟩ := by injection e
    subst ea
    refine ⟨g, 0, rfl, (ho.lt g rfl).2, fun i hi => ?_⟩
    rw [Nat.zero_add, ho.cellAt i (by omega)]
    simp [bAt, List.getD_eq_getElem?_getD, List.getElem?_eq_getElem (show i < bs.length by omega)]
theorem OwnB.below (h : OwnB w B a n c bs) (hb : Below w.heap.size w w') : OwnB w' B a n c bs :=
  ⟨h.1.kept (row := none) ⟨hb.os, hb.tape, hb.output, hb.size, fun k hk _ => hb.block k hk⟩ (by cases a <;> simp [Value.ownBlock]), h.2⟩
theorem OwnB.base {B' : Nat} (h : OwnB w B a n c bs) (hB : B' ≤ B) : OwnB w B' a n c bs := by
  refine ⟨⟨h.1.1, ?_⟩, h.2⟩
  rcases h.1.2 with hn | ⟨g, cap, cur, e, hb, r⟩
  · exact .inl hn
  · exact .inr ⟨g, cap, cur, e, by omega, r⟩
theorem OwnB.alloc (h : OwnB w B a n c bs) (o : Obj) : OwnB (w.alloc o) B a n c bs := ⟨h.1.alloc o, h.2⟩
theorem OwnB.block (h : OwnB w B a n c bs) : ∀ g, (Value.slice a n c).ownBlock = some g → B ≤ g ∧ g < w.heap.size := h.1.lt
theorem OwnB.span {lo hi : Nat} (h : OwnB w B a n c bs) (hs : Span lo hi w w') (hB : hi ≤ B) : OwnB w' B a n c bs := ⟨ownsRow_span h.1 hs (fun g hg => .inr (Nat.le_trans hB (h.block g hg).1)), h.2⟩
theorem ownB_nil (w : World) (B : Nat) : OwnB w B none 0 0 [] := ⟨World.ownsRow_nil _ _ _ _, by omega⟩
end
/-- What a function that makes a slice of the bools bs leaves. -/
def MadeB (w : World) (bs : List Bool) (e : Ending) (w' : World) : Prop :=
  ∃ a n c, e = .returned (.slice a n c) ∧ OwnB w' w.heap.size a n c bs ∧ Below w.heap.size w w'
theorem info_bool : (Tryz.prog.info? 4).map (fun i => (i.zero, i.size, i.bytes)) = some (some (.bool false), 1, 1) := by kernel_rfl
section
variable {w : World} {B g n cap : Nat} {bs : List Bool}
end
/-- The first k are alike. -/
def EqB (xs ys : List Bool) (k : Nat) : Prop := ∀ i, i < k → bAt xs i = bAt ys i
theorem EqB.zero (xs ys : List Bool) : EqB xs ys 0 := fun i hi => absurd hi (by omega)
theorem EqB.succ {xs ys : List Bool} {k : Nat} {x y : Bool} (h : EqB xs ys k) (hx : Hid (x = bAt xs k)) (hy : Hid (y = bAt ys k)) (e : x = y) : EqB xs ys (k + 1) := by
  intro i hi
  rcases Nat.lt_or_ge i k with hlt | hge
  · exact h i hlt
  · have : i = k := by omega
    subst this; rw [← hx.out, ← hy.out]; exact e
/-- Marks. -/
def mB (k : Nat) : Bool := (k : Int) % 3 == 0
def marksB (k n : Nat) : List Bool := (List.range n).map (fun i : Nat => mB (k + i))
def MarkB (bs : List Bool) (k j : Nat) : List Bool := marksB k j ++ bs.drop j
end Go.Proofs.YtmooecbdpfhnlaaGreat
/- The contracts of the model's l8In, l8Different, l8Fits, l8All. -/
namespace Go.Proofs.YtmooecbdpfhnlaaGreat
open Go.RowKit

/-- The first k are others. -/
def NoneO (os : List Oc) (o : Oc) (k : Nat) : Prop := ∀ i, i < k → oAt os i ≠ o
theorem NoneO.succ {os : List Oc} {o : Oc} {k : Nat} (h : NoneO os o k) (hk : oAt os k ≠ o) : NoneO os o (k + 1) := by
  intro i hi
  rcases Nat.lt_or_ge i k with hlt | hge
  · exact h i hlt
  · obtain rfl : i = k := by omega
    exact hk
/-- What a function that makes a slice of the Outcomes os leaves (their numbers' rows lie from E on). -/
def MadeO (w : World) (E : Nat) (os : List Oc) (e : Ending) (w' : World) : Prop :=
  ∃ a n c rs, e = .returned (.slice a n c) ∧ OwnO w' w.heap.size E a n c rs os ∧ Below w.heap.size w w'
end Go.Proofs.YtmooecbdpfhnlaaGreat
/- The contracts of the model's l8Fits, l8All. -/
namespace Go.Proofs.YtmooecbdpfhnlaaGreat
open Go.RowKit

/-- So far it fits. -/
def FitTo (L : Nat) (fr : List Bool) (a b : List Int) (k : Nat) : Prop := ∀ i, i < k → a.getD i 0 = b.getD i 0 ∨ (L ≤ i ∧ fr.getD (i - L) false = true)
theorem FitTo.succ {L : Nat} {fr : List Bool} {a b : List Int} {k : Nat} (h : FitTo L fr a b k) (hk : a.getD k 0 = b.getD k 0 ∨ (L ≤ k ∧ fr.getD (k - L) false = true)) : FitTo L fr a b (k + 1) := by
  intro i hi
  rcases Nat.lt_or_ge i k with hlt | hge
  · exact h i hlt
  · obtain rfl : i = k := by omega
    exact hk
end Go.Proofs.YtmooecbdpfhnlaaGreat
/- The contracts of the program's small helpers of chapter 3. -/
namespace Go.Proofs.YtmooecbdpfhnlaaGreat
open Go.RowKit

def opensB (x : Int) : Bool := (x == 2 || x == 5) || x == 8
def secondB (x : Int) : Bool := x == 3 || x == 9
def takesB (op sec s : Int) : Bool := decide (sec < 0) && ((op == 2 && s == 3) || (op == 8 && s == 9))
def mayEndB (op sec : Int) : Bool := op != 8 || decide (0 ≤ sec)
/-- The program's head as a value. -/
def headV (wd tp : Int) (a1 a2 a3 a4 : Option Addr) (n1 n2 n3 n4 c1 c2 c3 c4 : Nat) : Value := .agg #[.int .i64 wd, .slice a1 n1 c1, .slice a2 n2 c2, .int .i64 tp, .slice a3 n3 c3, .slice a4 n4 c4]

theorem isWithin_any (x lo hi : Int) (w : World) :
    Calls Tryz.prog 70 #[.int .i64 x, .int .i64 lo, .int .i64 hi] w fun e w' => e = .returned (.bool (decide (lo ≤ x) && decide (x ≤ hi))) ∧ w = w' := by
  by_cases h1 : lo ≤ x
  · by_cases h2 : x ≤ hi
    · go_enter Tryz.func70, Tryz.ntmps70
      go_wp2
      go_ret
      exact ⟨ret_bool (by simp [h1, h2]), rfl⟩
    · go_enter Tryz.func70, Tryz.ntmps70
      go_wp2
      go_ret
      exact ⟨ret_bool (by rw [decide_eq_false (p := x ≤ hi) (by omega)]), rfl⟩
  · go_enter Tryz.func70, Tryz.ntmps70
    go_wp2
    go_ret
    exact ⟨ret_bool (by rw [decide_eq_false (p := lo ≤ x) (by omega), Bool.false_and]), rfl⟩
theorem isWithin_lat {w : World} (x lo hi : Int) {v : Bool} (hv : (decide (lo ≤ x) && decide (x ≤ hi)) = v) (p : Lat w) :
    Calls Tryz.prog 70 #[.int .i64 x, .int .i64 lo, .int .i64 hi] p.wd fun e w' => e = .returned (.bool v) ∧ Below p.wd.heap.size p.wd w' :=
  (isWithin_any x lo hi p.wd).mono fun _ _ ⟨he, hw⟩ => ⟨by rw [he, hv], by rw [← hw]; exact Below.refl _ _⟩
theorem opensBlock_any (x : Int) (w : World) : Calls Tryz.prog 180 #[.int .i64 x] w fun e w' => e = .returned (.bool (opensB x)) ∧ w = w' := by
  obtain ⟨R, HR⟩ : ∃ R, Hid (opensB x = R) := ⟨_, rfl⟩
  rw [HR.out]
  by_cases h : x = 2 ∨ x = 5 ∨ x = 8
  · have hR : R = true := by rw [← HR.out]; rcases h with rfl | rfl | rfl <;> rfl
    subst hR
    rcases h with rfl | rfl | rfl
    all_goals
      go_enter Tryz.func180, Tryz.ntmps180
      go_wp2
      go_ret
      exact ⟨rfl, rfl⟩
  · have k2 : (x == 2) = false := by simp; omega
    have k5 : (x == 5) = false := by simp; omega
    have k8 : (x == 8) = false := by simp; omega
    have hR : R = false := by rw [← HR.out]; simp [opensB, k2, k5, k8]
    subst hR
    go_enter Tryz.func180, Tryz.ntmps180
    go_wp2
    go_ret
    exact ⟨rfl, rfl⟩
theorem startsSecond_any (x : Int) (w : World) : Calls Tryz.prog 179 #[.int .i64 x] w fun e w' => e = .returned (.bool (secondB x)) ∧ w = w' := by
  obtain ⟨R, HR⟩ : ∃ R, Hid (secondB x = R) := ⟨_, rfl⟩
  rw [HR.out]
  by_cases h : x = 3 ∨ x = 9
  · have hR : R = true := by rw [← HR.out]; rcases h with rfl | rfl <;> rfl
    subst hR
    rcases h with rfl | rfl
    all_goals
      go_enter Tryz.func179, Tryz.ntmps179
      go_wp2
      go_ret
      exact ⟨rfl, rfl⟩
  · have k3 : (x == 3) = false := by simp; omega
    have k9 : (x == 9) = false := by simp; omega
    have hR : R = false := by rw [← HR.out]; simp [secondB, k3, k9]
    subst hR
    go_enter Tryz.func179, Tryz.ntmps179
    go_wp2
    go_ret
    exact ⟨rfl, rfl⟩
theorem takesLabel_any (x s y : Int) (w : World) : Calls Tryz.prog 200 #[.agg #[.int .i64 x, .int .i64 s], .int .i64 y] w fun e w' => e = .returned (.bool (takesB x s y)) ∧ Below w.heap.size w w' := by
  obtain ⟨R, HR⟩ : ∃ R, Hid (takesB x s y = R) := ⟨_, rfl⟩
  rw [HR.out]
  by_cases hs : 0 ≤ s
  · have hR : R = false := by rw [← HR.out, takesB, decide_eq_false (by omega)]; rfl
    subst hR
    go_enter Tryz.func200, Tryz.ntmps200
    go_wp2
    go_ret
    exact ⟨rfl, (Below.refl _ _).alloc (Nat.le_refl _) _⟩
  have hR : R = ((x == 2 && y == 3) || (x == 8 && y == 9)) := by rw [← HR.out, takesB, decide_eq_true (by omega)]; rfl
  have HR := Lib.hid hR
  clear hR
  by_cases h2 : x = 2
  · subst h2
    by_cases h3 : y = 3
    · subst h3
      have hR : R = true := HR.out
      subst hR
      go_enter Tryz.func200, Tryz.ntmps200
      go_wp2
      go_ret
      exact ⟨rfl, (Below.refl _ _).alloc (Nat.le_refl _) _⟩
    · have k3 : (y == 3) = false := by simpa using h3
      have hR : R = false := by rw [HR.out, k3]; rfl
      subst hR
      go_enter Tryz.func200, Tryz.ntmps200
      go_wp2
      go_ret
      exact ⟨rfl, (Below.refl _ _).alloc (Nat.le_refl _) _⟩
  have k2 : (x == 2) = false := by simpa using h2
  by_cases h8 : x = 8
  · subst h8
    by_cases h9 : y = 9
    · subst h9
      have hR : R = true := HR.out
      subst hR
      go_enter Tryz.func200, Tryz.ntmps200
      go_wp2
      go_ret
      exact ⟨rfl, (Below.refl _ _).alloc (Nat.le_refl _) _⟩
    · have k9 : (y == 9) = false := by simpa using h9
      have hR : R = false := by rw [HR.out, k9]; rfl
      subst hR
      go_enter Tryz.func200, Tryz.ntmps200
      go_wp2
      go_ret
      exact ⟨rfl, (Below.refl _ _).alloc (Nat.le_refl _) _⟩
  have k8 : (x == 8) = false := by simpa using h8
  have hR : R = false := by rw [HR.out, k2, k8]; rfl
  subst hR
  go_enter Tryz.func200, Tryz.ntmps200
  go_wp2
  go_ret
  exact ⟨rfl, (Below.refl _ _).alloc (Nat.le_refl _) _⟩
theorem mayEnd_any (x s : Int) (w : World) : Calls Tryz.prog 201 #[.agg #[.int .i64 x, .int .i64 s]] w fun e w' => e = .returned (.bool (mayEndB x s)) ∧ Below w.heap.size w w' := by
  obtain ⟨R, HR⟩ : ∃ R, Hid (mayEndB x s = R) := ⟨_, rfl⟩
  rw [HR.out]
  by_cases h8 : x = 8
  · subst h8
    by_cases hs : 0 ≤ s
    · have hR : R = true := by rw [← HR.out, mayEndB, decide_eq_true hs]; rfl
      subst hR
      go_enter Tryz.func201, Tryz.ntmps201
      go_wp2
      go_ret
      exact ⟨rfl, (Below.refl _ _).alloc (Nat.le_refl _) _⟩
    · have hR : R = false := by rw [← HR.out, mayEndB, decide_eq_false hs]; rfl
      subst hR
      go_enter Tryz.func201, Tryz.ntmps201
      go_wp2
      go_ret
      exact ⟨rfl, (Below.refl _ _).alloc (Nat.le_refl _) _⟩
  have k8 : (x != 8) = true := by simpa using h8
  have hR : R = true := by rw [← HR.out, mayEndB, k8]; rfl
  subst hR
  go_enter Tryz.func201, Tryz.ntmps201
  go_wp2
  go_ret
  exact ⟨rfl, (Below.refl _ _).alloc (Nat.le_refl _) _⟩
set_option maxHeartbeats 800000 in
theorem greatestValue_any (r : PRow) (W : Nat) (w : World) (hW : r.width = (W : Int)) (h8 : W ≤ 8) :
    Calls Tryz.prog 183 #[progV r] w fun e w' => e = .returned (.int .i64 (((2 ^ W : Nat) : Int) - 1)) ∧ Below w.heap.size w w' := by
  obtain ⟨wd, ⟨a1, n1, c1⟩, ⟨a2, n2, c2⟩, tp, ⟨a3, n3, c3⟩, ⟨a4, n4, c4⟩, rows⟩ := r
  simp only [] at hW
  subst hW
  show Calls Tryz.prog 183 #[.agg #[.int .i64 (W : Int), .slice a1 n1 c1, .slice a2 n2 c2, .int .i64 tp, .slice a3 n3 c3, .slice a4 n4 c4]] w _
  have hc : W = 0 ∨ W = 1 ∨ W = 2 ∨ W = 3 ∨ W = 4 ∨ W = 5 ∨ W = 6 ∨ W = 7 ∨ W = 8 := by omega
  rcases hc with rfl | rfl | rfl | rfl | rfl | rfl | rfl | rfl | rfl
  all_goals
    go_enter Tryz.func183, Tryz.ntmps183
    go_wp2
    go_ret
    exact ⟨rfl, (Below.refl _ _).alloc (Nat.le_refl _) _⟩
theorem firstTemp_any (r : PRow) (w : World) (h1 : r.lows.2.1 ≤ 1048576) (h2 : r.secrets.2.1 ≤ 1048576) :
    Calls Tryz.prog 120 #[progV r] w fun e w' => e = .returned (.int .i64 ((r.lows.2.1 : Int) + (r.secrets.2.1 : Int))) ∧ Below w.heap.size w w' := by
  obtain ⟨wd, ⟨a1, n1, c1⟩, ⟨a2, n2, c2⟩, tp, ⟨a3, n3, c3⟩, ⟨a4, n4, c4⟩, rows⟩ := r
  simp only [] at h1 h2
  show Calls Tryz.prog 120 #[.agg #[.int .i64 wd, .slice a1 n1 c1, .slice a2 n2 c2, .int .i64 tp, .slice a3 n3 c3, .slice a4 n4 c4]] w _
  go_enter Tryz.func120, Tryz.ntmps120
  go_wp2
  go_ret
  exact ⟨rfl, (Below.refl _ _).alloc (Nat.le_refl _) _⟩
end Go.Proofs.YtmooecbdpfhnlaaGreat
/- What StartOf asks of inputs and answers: words, and the contract of the program's areInputs. -/
namespace Go.Proofs.YtmooecbdpfhnlaaGreat
open Go.RowKit

/-- Every value from 0 to its Max, as many as there are. -/
def areB (ins : List Tm) (zs : List Int) : Bool := decide (zs.length = ins.length) && (List.range zs.length).all (fun i => decide (0 ≤ zs.getD i 0) && decide (zs.getD i 0 ≤ (tmAt ins i).1))
def AreTo (ins : List Tm) (zs : List Int) (k : Nat) : Prop := ∀ i, i < k → 0 ≤ zs.getD i 0 ∧ zs.getD i 0 ≤ (tmAt ins i).1
theorem AreTo.zero (ins : List Tm) (zs : List Int) : AreTo ins zs 0 := fun i hi => absurd hi (by omega)
theorem AreTo.succ {ins : List Tm} {zs : List Int} {k : Nat} {z : Int} {t : Tm} (h : AreTo ins zs k) (hz : Hid (z = zs.getD k 0)) (ht : Hid (tmAt ins k = t)) (h0 : 0 ≤ z) (h1 : z ≤ t.1) : AreTo ins zs (k + 1) := by
  intro i hi
  rcases Nat.lt_or_ge i k with hlt | hge
  · exact h i hlt
  · obtain rfl : i = k := by omega
    rw [← hz.out, ht.out]; exact ⟨h0, h1⟩
theorem areB_all {ins : List Tm} {zs : List Int} (hl : zs.length = ins.length) (h : AreTo ins zs zs.length) : areB ins zs = true := by
  rw [areB, decide_eq_true hl, Bool.true_and, List.all_eq_true]
  intro i hi
  rw [List.mem_range] at hi
  have := h i hi
  simp only [Bool.and_eq_true, decide_eq_true_eq]
  exact this
theorem areB_bad {ins : List Tm} {zs : List Int} {k : Nat} {z : Int} {t : Tm} (hk : k < zs.length) (hz : Hid (z = zs.getD k 0)) (ht : Hid (tmAt ins k = t)) (h : ¬ (0 ≤ z ∧ z ≤ t.1)) : areB ins zs = false := by
  rw [← Bool.not_eq_true]
  intro hA
  simp only [areB, Bool.and_eq_true, List.all_eq_true, List.mem_range, decide_eq_true_eq] at hA
  have := hA.2 k hk
  rw [← hz.out, ht.out] at this
  exact h this
theorem areB_len {ins : List Tm} {zs : List Int} (h : zs.length ≠ ins.length) : areB ins zs = false := by rw [areB, decide_eq_false h, Bool.false_and]
theorem areB_ok {ins : List Tm} {zs : List Int} (h : areB ins zs = true) : zs.length = ins.length ∧ AreTo ins zs zs.length := by
  simp only [areB, Bool.and_eq_true, List.all_eq_true, List.mem_range, decide_eq_true_eq] at h
  exact ⟨h.1, h.2⟩
/-- Is there a start? -/
noncomputable def startB (p : Prg) (ls ss : List Int) : Bool := (codeB p == 0) && (areB p.lows ls && areB p.secrets ss)
/-- The start. -/
def startQ (p : Prg) (ls ss : List Int) : Sta := ⟨ls ++ ss ++ List.replicate p.temps.toNat 0, p.arrays.map (fun z => List.replicate z.toNat 0), []⟩
theorem code_parts {p : Prg} (h : codeB p = 0) : inpB p = true ∧ roomB p = true := by
  unfold codeB at h
  split at h
  · exact absurd h (by decide)
  split at h
  · exact absurd h (by decide)
  split at h
  · exact absurd h (by decide)
  rename_i h1 h2 h3
  exact ⟨by simpa using h2, by simpa using h3⟩
theorem are_in {S : Nat} {low : Bool} {ins : List Tm} {zs : List Int} (hi : inputsB S low ins = true) (h : areB ins zs = true) : ∀ z ∈ zs, 0 ≤ z ∧ z < (S : Int) := by
  obtain ⟨hl, ha⟩ := areB_ok h
  intro z hz
  obtain ⟨i, hi', rfl⟩ := List.getElem_of_mem hz
  have h1 := ha i hi'
  rw [List.getD_eq_getElem?_getD, List.getElem?_eq_getElem hi'] at h1
  simp only [Option.getD_some] at h1
  simp only [inputsB, Bool.and_eq_true, List.all_eq_true] at hi
  have h2 := hi.1 _ (tmAt_mem (show i < ins.length by omega))
  simp only [inpOk, Bool.and_eq_true, decide_eq_true_eq] at h2
  omega
/-- The start is a state of the program. -/
theorem start_ok {p : Prg} {ls ss : List Int} (h : startB p ls ss = true) : StaOk p (startQ p ls ss) := by
  simp only [startB, Bool.and_eq_true, beq_iff_eq] at h
  obtain ⟨hc, h1, h2⟩ := h
  obtain ⟨hi, hr⟩ := code_parts hc
  simp only [inpB, Bool.and_eq_true] at hi
  simp only [roomB, Bool.and_eq_true, decide_eq_true_eq, List.all_eq_true] at hr
  have hS : 0 < 2 ^ p.width.toNat := Nat.pow_pos (by omega)
  have zero : ∀ n : Nat, ∀ z ∈ List.replicate n (0 : Int), 0 ≤ z ∧ z < ((2 ^ p.width.toNat : Nat) : Int) := fun n z hz => by
    rw [(List.mem_replicate.1 hz).2]
    exact ⟨by omega, by omega⟩
  have l1 := (areB_ok h1).1
  have l2 := (areB_ok h2).1
  refine ⟨envB_of hc ?_ (by simp [envOf, startQ]) ⟨fun z hz => ?_, fun cs hcs z hz => ?_⟩ (fun i hi' => ?_), fun z hz => by simp [startQ] at hz⟩
  · simp only [envOf, startQ, List.length_append, List.length_replicate]
    omega
  · simp only [envOf, startQ, List.mem_append] at hz
    rcases hz with (hz | hz) | hz
    · exact are_in hi.1.1 h1 z hz
    · exact are_in hi.1.2 h2 z hz
    · exact zero _ z hz
  · simp only [envOf, startQ, List.mem_map] at hcs
    obtain ⟨y, _, rfl⟩ := hcs
    exact zero _ z hz
  · have hi2 : i < p.arrays.length := by simpa [envOf, startQ] using hi'
    have e : intsAt (envOf (startQ p ls ss)).cells i = List.replicate (p.arrays.getD i 0).toNat 0 := by
      simp [envOf, startQ, intsAt, List.getD_eq_getElem?_getD, List.getElem?_eq_getElem hi2]
    rw [e, List.length_replicate]
    have := hr.2 _ (getD_mem hi2)
    omega
set_option maxHeartbeats 800000 in
theorem areInputs_any (a a' : Option Addr) (n c n' c' : Nat) (ins : List Tm) (zs : List Int) (w : World) (h : Terms w a n ins) (h' : Ints w a' n' zs) :
    Calls Tryz.prog 96 #[.slice a n c, .slice a' n' c'] w fun e w' => e = .returned (.bool (areB ins zs)) ∧ w = w' := by
  have HL := Lib.hid h.1
  have HM := Lib.hid h'.1
  have hbd := h.2.1
  have hbe := h'.2.1
  by_cases hnm : n' = n
  case neg =>
    have hne : ((n' : Int) != (n : Int)) = true := by simp; omega
    go_enter Tryz.func96, Tryz.ntmps96
    go_wp2
    go_ret
    exact ⟨ret_bool (areB_len (fun e => hnm (by rw [← HL.out, ← HM.out, e]))).symm, rfl⟩
  subst hnm
  have hne0 : ((n' : Int) != (n' : Int)) = false := by simp
  go_enter Tryz.func96, Tryz.ntmps96
  go_wp2
  go_loop [14] (fun i => ∃ k : Nat, k ≤ n' ∧ i = .int .i64 (k : Int) ∧ Hid (AreTo ins zs k)) (fun i => n' - (intOf i).toNat)
  case atStart => exact ⟨0, Nat.zero_le _, rfl, Lib.hid (AreTo.zero _ _)⟩
  case round =>
    obtain ⟨k, hk, rfl, hg⟩ := hrel
    by_cases hlt : k < n'
    · obtain ⟨b1, o1, x, y, rfl, hb1, hz1, hi1, hi2, hc1, hc2⟩ := h.at_ hlt
      obtain ⟨b2, o2, z, rfl, hb2, hz2, hi3, hc3⟩ := h'.at_ hlt
      clear hc2
      go_wp2_with fail
      refine (isWithin_any z 0 x _).mono ?_
      rintro e w1 ⟨rfl, rfl⟩
      by_cases hin : 0 ≤ z ∧ z ≤ x
      · rw [decide_eq_true hin.1, decide_eq_true hin.2]
        have HG := Lib.hid (hg.out.succ hz2 hz1 hin.1 hin.2)
        clear hin hg
        go_wp2
        go_round
        case rel => exact ⟨k + 1, by omega, by go_num, HG⟩
        case measure => simp [intOf]; omega
      · have HX : Hid ((decide (0 ≤ z) && decide (z ≤ x)) = false) := Lib.hid (by
          rcases Decidable.not_and_iff_or_not.1 hin with h | h
          · rw [decide_eq_false h, Bool.false_and]
          · rw [decide_eq_false h, Bool.and_false])
        have HB := Lib.hid (areB_bad (by rw [HM.out]; exact hlt) hz2 hz1 hin)
        rw [HX.out]
        clear hin HX
        go_wp2
        go_ret
        exact ⟨ret_bool HB.out.symm, rfl⟩
    · obtain rfl : n' = k := by omega
      go_wp2
      go_ret
      exact ⟨ret_bool (areB_all (HM.out.trans HL.out.symm) (by rw [HM.out]; exact hg.out)).symm, rfl⟩
end Go.Proofs.YtmooecbdpfhnlaaGreat
