/- Joined texts of this proof (J11, J8), in build order. -/
import Derived.Test.YtmooecbdpfhnlaaGreatJ8
import Derived.Test.YtmooecbdpfhnlaaGreatJ7
import Derived.Test.YtmooecbdpfhnlaaGreatJ1
import Derived.Test.YtmooecbdpfhnlaaGreatJ6
/- Joined texts of this proof (CodeHead, SpecVal1, Math, Push), in build order. -/
/- What a right program's head is. -/
namespace Go.Proofs.YtmooecbdpfhnlaaGreat
open Go.RowKit

theorem code_head {p : Prg} (h : codeB p = 0) : 1 ≤ p.width ∧ p.width ≤ 8 ∧ p.lows.length ≤ 3 ∧ p.secrets.length ≤ 3 ∧ 0 ≤ p.temps ∧ p.temps ≤ 6 ∧ p.arrays.length ≤ 2 ∧ p.body.length ≤ 40 := by
  unfold codeB at h
  split at h
  · exact absurd h (by decide)
  split at h
  · exact absurd h (by decide)
  split at h
  · exact absurd h (by decide)
  rename_i h1 h2 h3
  have hr : roomB p = true := by simpa using h3
  have hi : inpB p = true := by simpa using h2
  have hw : 1 ≤ p.width ∧ p.width ≤ 8 := by simpa using h1
  simp only [roomB, Bool.and_eq_true, decide_eq_true_eq] at hr
  simp only [inpB, inputsB, Bool.and_eq_true, decide_eq_true_eq] at hi
  exact ⟨hw.1, hw.2, hi.1.1.2, hi.1.2.2, hr.1.1.1.1, hr.1.1.1.2, hr.1.1.2, hr.1.2⟩
end Go.Proofs.YtmooecbdpfhnlaaGreat
/- Words for environments (two cells: a slice of numbers, a slice of slices of numbers); the contracts of the model's l5Values and EnvOk. -/
namespace Go.Proofs.YtmooecbdpfhnlaaGreat
open Go.RowKit

structure Envr where
  vars : List Int
  cells : List (List Int)
deriving DecidableEq
structure ERow where
  vars : Sl
  cells : Sl
  rows : List Sl
def envV (r : ERow) : Value := .agg #[slV r.vars, slV r.cells]
def intsAt (css : List (List Int)) (i : Nat) : List Int := css.getD i []
/-- The slice '.slice a n c' of slices of numbers reads az css; rs are its slices. -/
def IntsSS (w : World) (a : Option Addr) (n : Nat) (rs : List Sl) (css : List (List Int)) : Prop :=
  rs.length = n ∧ css.length = n ∧ n ≤ 1048576 ∧ (0 < n → ∃ b o, a = some ⟨b, o, none⟩ ∧ b < w.heap.size ∧ ∀ i, i < n → w.cell? ⟨b, o + i, none⟩ = some (slV (slAt rs i))) ∧
  ∀ i, i < n → Ints w (slAt rs i).1 (slAt rs i).2.1 (intsAt css i)
theorem IntsSS.at_ {w : World} {a : Option Addr} {n : Nat} {rs : List Sl} {css : List (List Int)} (h : IntsSS w a n rs css) {k : Nat} (hk : k < n) :
    ∃ b o a1 n1 c1, a = some ⟨b, o, none⟩ ∧ b < w.heap.size ∧ Hid (slAt rs k = (a1, n1, c1)) ∧ w.cell? ⟨b, o + k, none⟩ = some (.slice a1 n1 c1) ∧ Ints w a1 n1 (intsAt css k) := by
  obtain ⟨_, _, _, h3, h4⟩ := h
  obtain ⟨b, o, rfl, hb, hc⟩ := h3 (by omega)
  exact ⟨b, o, _, _, _, rfl, hb, rfl, hc k hk, h4 k hk⟩
theorem IntsSS.below {w w' : World} {a : Option Addr} {n : Nat} {rs : List Sl} {css : List (List Int)} (h : IntsSS w a n rs css) (hb : Below w.heap.size w w') : IntsSS w' a n rs css := by
  obtain ⟨h1, h2, h0, h3, h4⟩ := h
  refine ⟨h1, h2, h0, fun hp => ?_, fun i hi => (h4 i hi).below hb⟩
  obtain ⟨b, o, rfl, hbl, hc⟩ := h3 hp
  exact ⟨b, o, rfl, Nat.lt_of_lt_of_le hbl hb.size, fun i hi => (hb.cell hbl).trans (hc i hi)⟩
structure EnvAt (w : World) (r : ERow) (v : Envr) : Prop where
  vars : Ints w r.vars.1 r.vars.2.1 v.vars
  cells : IntsSS w r.cells.1 r.cells.2.1 r.rows v.cells
theorem EnvAt.below {w w' : World} {r : ERow} {v : Envr} (h : EnvAt w r v) (hb : Below w.heap.size w w') : EnvAt w' r v := ⟨h.vars.below hb, h.cells.below hb⟩

def valB (S : Nat) (m : Int) (zs : List Int) : Bool := decide ((zs.length : Int) = m) && valsB S zs
def cellsB (S : Nat) (az : List Int) (css : List (List Int)) : Bool := (List.range css.length).all (fun i => valB S (az.getD i 0) (intsAt css i))
/-- What EnvOk answers. -/
noncomputable def envB (p : Prg) (v : Envr) : Bool :=
  ((codeB p == 0) && valB (2 ^ p.width.toNat) ((p.lows.length : Int) + (p.secrets.length : Int) + p.temps) v.vars) && (decide (v.cells.length = p.arrays.length) && cellsB (2 ^ p.width.toNat) p.arrays v.cells)

def okZ (S : Nat) (z : Int) : Bool := decide (0 ≤ z) && decide (z < (S : Int))
def AllI (f : Int → Bool) (zs : List Int) (k : Nat) : Prop := ∀ i, i < k → f (zs.getD i 0) = true
theorem AllI.zero (f : Int → Bool) (zs : List Int) : AllI f zs 0 := fun i hi => absurd hi (by omega)
theorem AllI.succ {f : Int → Bool} {zs : List Int} {k : Nat} {z : Int} (h : AllI f zs k) (hz : Hid (z = zs.getD k 0)) (ht : f z = true) : AllI f zs (k + 1) := by
  intro i hi
  rcases Nat.lt_or_ge i k with hlt | hge
  · exact h i hlt
  · have : i = k := by omega
    subst this; rw [← hz.out]; exact ht
def AllC (S : Nat) (az : List Int) (css : List (List Int)) (k : Nat) : Prop := ∀ i, i < k → valB S (az.getD i 0) (intsAt css i) = true
theorem AllC.succ {S : Nat} {az : List Int} {css : List (List Int)} {k : Nat} {z : Int} (h : AllC S az css k) (hz : Hid (z = az.getD k 0)) (ht : valB S z (intsAt css k) = true) : AllC S az css (k + 1) := by
  intro i hi
  rcases Nat.lt_or_ge i k with hlt | hge
  · exact h i hlt
  · have : i = k := by omega
    subst this; rw [← hz.out]; exact ht
structure VBox (w wi : World) (c0 c1 : List Value) : Prop where
  prg : Blk wi w.heap.size 31 c0
  env : Blk wi (w.heap.size + 1) 90 c1
  bel : Below w.heap.size w wi
theorem VBox.below {w wi wj : World} {c0 c1 : List Value} (h : VBox w wi c0 c1) (hb : Below wi.heap.size wi wj) : VBox w wj c0 c1 :=
  ⟨h.prg.below hb h.prg.lt, h.env.below hb h.env.lt, h.bel.trans (hb.mono h.bel.size)⟩
theorem vbox_new (w : World) (c0 c1 : List Value) : VBox w ((w.alloc (.cells c0.toArray 31)).alloc (.cells c1.toArray 90)) c0 c1 :=
  ⟨(Blk.new w _ _).alloc _, by simpa using Blk.new (w.alloc _) 90 c1, ((Below.refl _ _).alloc (Nat.le_refl _) _).alloc (by simp) _⟩
end Go.Proofs.YtmooecbdpfhnlaaGreat
/- Plain mathematics of lists of limbs in base 10000: their value, the one list of a number, sums of limbs. No Go text here. -/
namespace Go.Proofs.YtmooecbdpfhnlaaGreat
open Go.RowKit

/-- The value of a list of limbs, the lowest first. -/
def val : List Int → Nat
  | [] => 0
  | z :: r => z.toNat + 10000 * val r

/-- The limbs of a number (with fuel). -/
def toLF : Nat → Nat → List Int
  | 0, _ => []
  | f + 1, n => if n = 0 then [] else ((n % 10000 : Nat) : Int) :: toLF f (n / 10000)
def toL (n : Nat) : List Int := toLF n n

/-- All limbs are limbs. -/
def Good (l : List Int) : Prop := ∀ z ∈ l, 0 ≤ z ∧ z ≤ 9999
theorem Good.to {l : List Int} (h : Good l) : GoodTo l l.length := fun _ hi => h _ (getD_mem hi)
theorem Good.getD {l : List Int} (h : Good l) (i : Nat) : 0 ≤ l.getD i 0 ∧ l.getD i 0 ≤ 9999 := by
  by_cases hi : i < l.length
  · exact h _ (getD_mem hi)
  · rw [List.getD_eq_getElem?_getD, List.getElem?_eq_none (by omega)]; simp
theorem Good.take {l : List Int} (h : Good l) (k : Nat) : Good (l.take k) := fun z hz => h z (List.mem_of_mem_take hz)
theorem Good.snoc {l : List Int} {z : Int} (h : Good l) (h0 : 0 ≤ z) (h1 : z ≤ 9999) : Good (l ++ [z]) := by
  intro x hx
  rcases List.mem_append.1 hx with h' | h'
  · exact h x h'
  · rw [List.mem_singleton] at h'; subst h'; exact ⟨h0, h1⟩

/-- No nought at the end. -/
def Tight (l : List Int) : Prop := 0 < l.length → l.getD (l.length - 1) 0 ≠ 0
/-! ### The value of what is put together -/
/-- How long a list is without noughts at its end. -/
def trimLen (l : List Int) : Nat → Nat
  | 0 => 0
  | n + 1 => if l.getD n 0 = 0 then trimLen l n else n + 1
end Go.Proofs.YtmooecbdpfhnlaaGreat
/- Laws for the walk over Tryz.prog: 'append' of one number to a row of the call's own; an empty row; a cut row. -/
namespace Go.Proofs.YtmooecbdpfhnlaaGreat
open Go.RowKit

theorem info_i64 : (Tryz.prog.info? 2).map (fun i => (i.zero, i.size, i.bytes)) = some (some (.int .i64 0), 1, 8) := by kernel_rfl

theorem Own.alloc {w : World} {B : Nat} {a : Option Addr} {n c : Nat} {zs : List Int} (h : Own w B a n c zs) (o : Obj) : Own (w.alloc o) B a n c zs := ⟨h.1.alloc o, h.2⟩
theorem own_nil (w : World) (B : Nat) : Own w B none 0 0 [] := ⟨World.ownsRow_nil _ _ _ _, by omega, fun z hz => by simp at hz⟩
theorem own_empty (w : World) (B : Nat) (hB : B ≤ w.heap.size) : Own (w.alloc (.cells #[] 2)) B (some ⟨w.heap.size, 0, none⟩) 0 0 [] :=
  ⟨World.ownsRow_lit w #[] 0 hB (by unfold maxLen; omega) rfl, by omega, fun z hz => by simp at hz⟩
/-- The first k numbers of a row of the call's own are such a row. -/
theorem Own.cut {w : World} {B : Nat} {a : Option Addr} {n c k : Nat} {zs : List Int} (h : Own w B a n c zs) (hk : k ≤ n) : Own w B a k c (zs.take k) := by
  have hl := h.len
  obtain ⟨⟨h1, h2⟩, hn, hin⟩ := h
  refine ⟨⟨by simp; omega, ?_⟩, by omega, fun z hz => hin z (List.mem_of_mem_take hz)⟩
  rcases h2 with ⟨e, h0⟩ | ⟨g, cap, cur, e, hb, hg, hnc, hcm, hcs, ht⟩
  · have : k = 0 := by omega
    subst this
    injection e with e1 e2 e3
    subst e1 e3
    exact .inl ⟨rfl, rfl⟩
  · injection e with e1 e2 e3
    subst e1 e3
    refine .inr ⟨g, c, cur, rfl, hb, hg, by omega, hcm, hcs, ?_⟩
    rw [List.map_take, ← ht, List.take_take, Nat.mul_one, Nat.mul_one, Nat.min_eq_left hk]

theorem wpList_push {ops : Array Oper} {rest : List Oper} {o : Oper} {ac : Act} {Q : Exit → Act → World → Prop} (w : World) (hgd : o.guard = none) (s x : Operand)
    (ho : o.op = .call { callee := .builtin .append, args := #[s, x], argTypes := #[28, 28] })
    (B : Nat) (a : Option Addr) (n c : Nat) (zs : List Int) (hs : ac.eval s = .slice a n c) (hown : Own w B a n c zs)
    (g : Nat) (z : Int) (hx : ac.eval x = .slice (some ⟨g, 0, none⟩) 1 1) (hc : w.cell? ⟨g, 0, none⟩ = some (.int .i64 z)) (hz : In64 z) (hn : n < 1048576) (hB : B ≤ w.heap.size)
    (h : ∀ a1 c1 w', Own w' B a1 (n + 1) c1 (zs ++ [z]) → w.grownBy w' (Value.slice a n c).ownBlock → wpList Tryz.prog ops Q rest (ac.put o.dst (.slice a1 (n + 1) c1)) w') : wpList Tryz.prog ops Q (o :: rest) ac w := by
  obtain ⟨i0, hi, hz0, hz1, hz2⟩ := info_parts info_i64
  refine wpList_append_own w hgd s x 28 ho B 2 i0 (.int .i64 0) 1 8 Tryz.underlying28 hi hz0 hz1 hz2 rfl (by omega) (.slice a n c) n (zs.map (Value.int .i64)) hs hown.1
    ⟨g, 0, none⟩ 1 1 [.int .i64 z] hx rfl ?_ ?_ ?_ ?_ hB ?_
  · intro j u hj
    match j, hj with
    | 0, hj => simp at hj; subst hj; simpa [Addr.add] using hc
  · intro u hu; simp at hu; subst hu; rfl
  · unfold maxLen; omega
  · omega
  · intro v' w' h1 h2 _
    have hf : ∃ a1 c1, v' = .slice a1 (n + 1) c1 := by
      rcases h1.2 with ⟨_, h0⟩ | ⟨g', cap, cur, e, _⟩
      · omega
      · exact ⟨_, _, e⟩
    obtain ⟨a1, c1, rfl⟩ := hf
    refine h a1 c1 w' ⟨by simpa using h1, by omega, fun y hy => ?_⟩ h2
    rcases List.mem_append.1 hy with hy | hy
    · exact hown.2.2 y hy
    · rw [List.mem_singleton] at hy; subst hy; exact hz

/-- Behind such an append: what lies below B is as it was. -/
theorem below_push {w0 w w' : World} {B : Nat} {a : Option Addr} {n c : Nat} {zs : List Int} (hb : Below B w0 w) (hown : Own w B a n c zs) (hB : B ≤ w.heap.size) (hg : w.grownBy w' (Value.slice a n c).ownBlock) : Below B w0 w' :=
  hb.grown hg hB (fun k hk => (hown.block k hk).1)

theorem Own.cap {w : World} {B : Nat} {a : Option Addr} {n c : Nat} {zs : List Int} (h : Own w B a n c zs) : n ≤ c := by
  rcases h.1.2 with ⟨e, h0⟩ | ⟨g, cap, cur, e, hb, hg, hnc, _⟩
  · omega
  · injection e with e1 e2 e3
    omega

theorem run_append_nothing (w : World) (ty : TypeId) (v : Value) (B n : Nat) (xs : List Value) (hown : w.ownsRow B 2 1 v n xs) (c : Nat) : (Builtin.append_ #[28, 28] ty #[v, .slice none 0 c]).run Tryz.prog w = .ok v w := by
  obtain ⟨i0, hi, hz0, hz1, hz2⟩ := info_parts info_i64
  rcases hown.2 with ⟨rfl, rfl⟩ | ⟨g, cap, cur, rfl, _, _, hnc, _⟩
  · simp [Builtin.append_, run_underlying Tryz.underlying28, sizeOf, typeInfo, hi, Builtin.lenOf, Builtin.firstCells]
  · simp [Builtin.append_, run_underlying Tryz.underlying28, sizeOf, typeInfo, hi, Builtin.lenOf, Builtin.firstCells, hnc, storeCells]

set_option maxRecDepth 100000 in
/-- 'append(out, xs...)': out a row of the call's own, xs whatever slice of numbers. -/
theorem wpList_concat {ops : Array Oper} {rest : List Oper} {o : Oper} {ac : Act} {Q : Exit → Act → World → Prop} (w : World) (hgd : o.guard = none) (s x : Operand)
    (ho : o.op = .call { callee := .builtin .append, args := #[s, x], argTypes := #[28, 28] })
    (B : Nat) (a : Option Addr) (n c : Nat) (zs : List Int) (hs : ac.eval s = .slice a n c) (hown : Own w B a n c zs)
    (a2 : Option Addr) (m c2 : Nat) (ys : List Int) (hx : ac.eval x = .slice a2 m c2) (hi2 : Ints w a2 m ys) (hn : n + m ≤ 1048576) (hB : B ≤ w.heap.size)
    (h : ∀ a1 c1 w', Own w' B a1 (n + m) c1 (zs ++ ys) → w.grownBy w' (Value.slice a n c).ownBlock → wpList Tryz.prog ops Q rest (ac.put o.dst (.slice a1 (n + m) c1)) w') : wpList Tryz.prog ops Q (o :: rest) ac w := by
  have hin : ∀ y ∈ zs ++ ys, In64 y := fun y hy => by
    rcases List.mem_append.1 hy with hy | hy
    · exact hown.2.2 y hy
    · exact hi2.2.2.1 y hy
  cases a2 with
  | none =>
    have hm : m = 0 := by
      rcases Nat.eq_zero_or_pos m with h0 | h0
      · exact h0
      · obtain ⟨b, o', e, _⟩ := hi2.2.2.2 h0
        cases e
    subst hm
    have hys : ys = [] := List.eq_nil_of_length_eq_zero hi2.1
    subst hys
    refine wpList_plain hgd fun K hK' => ?_
    have hrun := run_append_nothing w o.type (.slice a n c) B n _ hown.1 c2
    unfold Oper.wp
    simp [execOp, ho, resolve, invoke, builtin, hs, hx, hrun, Result.andThen]
    exact hK' _ _ (by simpa using h a c w (by simpa using hown) (World.grownBy.refl _ _))
  | some ad =>
    obtain ⟨i0, hi, hz0, hz1, hz2⟩ := info_parts info_i64
    have hl := hi2.1
    refine wpList_append_own w hgd s x 28 ho B 2 i0 (.int .i64 0) 1 8 Tryz.underlying28 hi hz0 hz1 hz2 rfl (by omega) (.slice a n c) n (zs.map (Value.int .i64)) hs hown.1
      ad m c2 (ys.map (Value.int .i64)) hx (by simp [hl]) ?_ (ints_oneCell _ _) ?_ ?_ hB ?_
    · intro j u hj
      have hjl : j < ys.length := by have := (List.getElem?_eq_some_iff.1 hj).1; simpa using this
      obtain ⟨b, off, e, _, hc⟩ := hi2.2.2.2 (by omega)
      injection e with e
      subst e
      rw [Go.WideShapes.add_plain, hc j (by omega), ← hj]
      simp [List.getD_eq_getElem?_getD, hjl]
    · unfold maxLen; omega
    · omega
    · intro v' w' h1 h2 _
      have hf : ∃ a1 c1, v' = .slice a1 (n + m) c1 := by
        rcases h1.2 with ⟨e, h0⟩ | ⟨g', cap, cur, e, _⟩
        · exact ⟨none, 0, by rw [e, h0]⟩
        · exact ⟨_, _, e⟩
      obtain ⟨a1, c1, rfl⟩ := hf
      exact h a1 c1 w' ⟨by simpa using h1, hn, hin⟩ h2
end Go.Proofs.YtmooecbdpfhnlaaGreat
/- Plain mathematics: a part of a body, cut out of it, is nested as it was, and takes as many steps. -/
namespace Go.Proofs.YtmooecbdpfhnlaaGreat

/-- The statements from lo up to hi. -/
def seg (ss : List Stm) (lo hi : Nat) : List Stm := (ss.drop lo).take (hi - lo)
theorem seg_len {ss : List Stm} {lo hi : Nat} (h1 : lo ≤ hi) (h2 : hi ≤ ss.length) : (seg ss lo hi).length = hi - lo := by
  unfold seg; rw [List.length_take, List.length_drop]; omega
theorem seg_at {ss : List Stm} {lo hi i : Nat} (h : lo + i < hi) : stAt (seg ss lo hi) i = stAt ss (lo + i) := by
  unfold seg stAt
  rw [List.getD_eq_getElem?_getD, List.getD_eq_getElem?_getD, List.getElem?_take_of_lt (by omega), List.getElem?_drop]
theorem seg_op {ss : List Stm} {lo hi i : Nat} (h : lo + i < hi) : opAt (seg ss lo hi) i = opAt ss (lo + i) := by unfold opAt; rw [seg_at h]
section
variable {ss : List Stm} {lo hi : Nat} (h1 : lo ≤ hi) (h2 : hi ≤ ss.length)
def SegB (ss : List Stm) (lo hi i : Nat) : Prop := ∀ j : Nat, blockOf ss (lo + i) = ((lo + j : Nat) : Int) → lo + j ≤ hi → blockOf (seg ss lo hi) i = (j : Int)
def SegE (ss : List Stm) (lo hi i : Nat) : Prop :=
  (∀ e : Nat, endOf ss (lo + i) = (-1, ((lo + e : Nat) : Int)) → lo + e < hi → endOf (seg ss lo hi) i = (-1, (e : Int))) ∧
  ∀ m e : Nat, endOf ss (lo + i) = (((lo + m : Nat) : Int), ((lo + e : Nat) : Int)) → lo + e < hi → endOf (seg ss lo hi) i = ((m : Int), (e : Int))
include h1 h2 in
theorem segE_of {i : Nat} (hi' : lo + i < hi) (hb : ∀ j, i < j → lo + j ≤ hi → SegB ss lo hi j) : SegE ss lo hi i := by
  have hl := seg_len h1 h2
  have hs : i < (seg ss lo hi).length := by omega
  have hlt : lo + i < ss.length := by omega
  obtain ⟨M, hM⟩ : ∃ M, blockOf ss (lo + i + 1) = M := ⟨_, rfl⟩
  have hin := block_in ss (i := lo + i + 1) (by omega)
  rw [hM] at hin
  have heq := end_eq hlt hM
  have hop := seg_op (ss := ss) hi'
  have at_ : ∀ (k : Nat) (op : Int), lo + k < hi → isAt ss ((lo + k : Nat) : Int) op = isAt (seg ss lo hi) (k : Int) op := fun k op hk => by
    simp only [isAt, Int.toNat_natCast, seg_op hk]
    congr 1
    rw [decide_eq_true (by omega), decide_eq_true (by omega), decide_eq_true (by omega), decide_eq_true (by omega)]
  have one : ∀ e : Nat, M = ((lo + e : Nat) : Int) → lo + e < hi → blockOf (seg ss lo hi) (i + 1) = (e : Int) := fun e he hlt => by
    rcases hin with q | q
    · omega
    · exact hb (i + 1) (by omega) (by omega) e (by rw [← Nat.add_assoc, hM, he]) (by omega)
  have two : ∀ m e : Nat, i < m → lo + m < hi → blockOf ss (lo + m + 1) = ((lo + e : Nat) : Int) → lo + e < hi → blockOf (seg ss lo hi) (m + 1) = (e : Int) := fun m e him hm he hlt =>
    hb (m + 1) (by omega) (by omega) e (by rw [← Nat.add_assoc, he]) (by omega)
  refine ⟨fun e he hlt' => ?_, fun m e he hlt' => ?_⟩
  · rw [he] at heq
    -- the end is M
    have hMe : M = ((lo + e : Nat) : Int) ∧ isAt ss M 4 = true ∧ (opAt ss (lo + i) = 5 ∨ opAt ss (lo + i) = 2) := by
      split at heq
      · rename_i ho
        split at heq
        · rename_i h4; injection heq with q1 q2; exact ⟨q2.symm, h4, .inl ho⟩
        · injection heq with q1 q2; omega
      · split at heq
        · rename_i ho
          split at heq
          · rename_i h4; injection heq with q1 q2; exact ⟨q2.symm, h4, .inr ho⟩
          · split at heq
            · rename_i h3
              have := isAt_range h3
              split at heq
              · injection heq with q1 q2; omega
              · injection heq with q1 q2; omega
            · injection heq with q1 q2; omega
        · split at heq
          · split at heq
            · rename_i h3
              have := isAt_range h3
              split at heq
              · injection heq with q1 q2; omega
              · injection heq with q1 q2; omega
            · injection heq with q1 q2; omega
          · injection heq with q1 q2; omega
    obtain ⟨q1, q2, q3⟩ := hMe
    rw [end_eq hs (one e q1 hlt'), hop]
    rw [q1, at_ e 4 hlt'] at q2
    rcases q3 with q3 | q3
    · rw [if_pos q3, if_pos q2]
    · rw [if_neg (by omega), if_pos q3, if_pos q2]
  · rw [he] at heq
    have hMe : M = ((lo + m : Nat) : Int) ∧ blockOf ss (M.toNat + 1) = ((lo + e : Nat) : Int) ∧ isAt ss (blockOf ss (M.toNat + 1)) 4 = true ∧ ((opAt ss (lo + i) = 2 ∧ isAt ss M 4 = false ∧ isAt ss M 3 = true) ∨ (opAt ss (lo + i) = 8 ∧ isAt ss M 9 = true)) := by
      split at heq
      · split at heq
        · injection heq with q1 q2; omega
        · injection heq with q1 q2; omega
      · split at heq
        · rename_i ho
          split at heq
          · injection heq with q1 q2; omega
          · rename_i h4
            split at heq
            · rename_i h3
              split at heq
              · rename_i h5; injection heq with q1 q2; exact ⟨q1.symm, q2.symm, h5, .inl ⟨ho, by simpa using h4, h3⟩⟩
              · injection heq with q1 q2; omega
            · injection heq with q1 q2; omega
        · split at heq
          · rename_i ho
            split at heq
            · rename_i h3
              split at heq
              · rename_i h5; injection heq with q1 q2; exact ⟨q1.symm, q2.symm, h5, .inr ⟨ho, h3⟩⟩
              · injection heq with q1 q2; omega
            · injection heq with q1 q2; omega
          · injection heq with q1 q2; omega
    obtain ⟨q1, q2, q3, q4⟩ := hMe
    have hmi : i < m := by rcases hin with q | q <;> omega
    have hr := isAt_range q3
    rw [q2] at q3
    rw [q1, Int.toNat_natCast] at q2
    have hin2 := block_in ss (i := lo + m + 1) (by
      rcases q4 with ⟨_, _, h3⟩ | ⟨_, h3⟩
      · have := isAt_range h3; omega
      · have := isAt_range h3; omega)
    rw [q2] at hin2
    have hme : m < e := by rcases hin2 with q | q <;> omega
    have hb1 := one m q1 (by omega)
    have hb2 := two m e hmi (by omega) q2 hlt'
    rw [at_ e 4 hlt'] at q3
    rw [end_eq hs hb1, hop, Int.toNat_natCast, hb2]
    rcases q4 with ⟨ho, h4, h3⟩ | ⟨ho, h9⟩
    · rw [q1, at_ m _ (by omega)] at h4 h3
      rw [if_neg (by omega), if_pos ho, if_neg (by rw [h4]; simp), if_pos h3, if_pos q3]
    · rw [q1, at_ m _ (by omega)] at h9
      rw [if_neg (by omega), if_neg (by omega), if_pos ho, if_pos h9, if_pos q3]
include h1 h2 in
theorem segB_of {i : Nat} (hi' : lo + i ≤ hi) (he : lo + i < hi → SegE ss lo hi i) (hb : ∀ j, i < j → lo + j ≤ hi → SegB ss lo hi j) : SegB ss lo hi i := by
  have hl := seg_len h1 h2
  intro j hj hjh
  have hin := block_in ss (i := lo + i) (by omega)
  rw [hj] at hin
  have hij : i ≤ j := by rcases hin with q | q <;> omega
  rcases Nat.lt_or_ge (lo + i) hi with hlt | hge
  case inr =>
    obtain rfl : i = j := by omega
    rw [block_past (by omega)]
  have hs : i < (seg ss lo hi).length := by omega
  have hl2 : lo + i < ss.length := by omega
  have hop := seg_op (ss := ss) hlt
  by_cases hst : opAt ss (lo + i) = 3 ∨ opAt ss (lo + i) = 9 ∨ opAt ss (lo + i) = 4
  · rw [block_stop hl2 hst] at hj
    obtain rfl : i = j := by omega
    rw [block_stop hs (by rw [hop]; exact hst)]
  by_cases ho : opAt ss (lo + i) = 2 ∨ opAt ss (lo + i) = 5 ∨ opAt ss (lo + i) = 8
  case neg =>
    rw [block_next hl2 hst ho] at hj
    rw [block_next hs (by rw [hop]; exact hst) (by rw [hop]; exact ho)]
    exact hb (i + 1) (by omega) (by omega) j (by rw [← Nat.add_assoc, hj]) hjh
  by_cases hneg : (endOf ss (lo + i)).2 < 0
  · rw [block_bad hl2 ho hneg] at hj; omega
  have hE := end_in ss hl2
  obtain ⟨⟨p1, p2⟩, hP⟩ : ∃ P, endOf ss (lo + i) = P := ⟨_, rfl⟩
  rw [block_over hl2 ho (by omega)] at hj
  rw [hP] at hE hneg hj
  simp only [] at hneg hj
  have hin2 : ((lo + i : Nat) : Int) < p2 ∧ p2 < ss.length ∧ (p1 = -1 ∨ (((lo + i : Nat) : Int) < p1 ∧ p1 < p2)) := by
    rcases hE with q | q
    · injection q with q1 q2; omega
    · exact q
  obtain ⟨e, rfl⟩ : ∃ e : Nat, p2 = ((lo + e : Nat) : Int) := ⟨(p2 - lo).toNat, by omega⟩
  rw [Int.toNat_natCast] at hj
  have hinj := block_in ss (i := lo + e + 1) (by omega)
  rw [hj] at hinj
  have hej : e < j := by rcases hinj with q | q <;> omega
  have hend : (endOf (seg ss lo hi) i).2 = (e : Int) := by
    rcases hin2.2.2 with q | q
    · subst q
      rw [(he hlt).1 e hP (by omega)]
    · obtain ⟨m, rfl⟩ : ∃ m : Nat, p1 = ((lo + m : Nat) : Int) := ⟨(p1 - lo).toNat, by omega⟩
      rw [(he hlt).2 m e hP (by omega)]
  rw [block_over hs (by rw [hop]; exact ho) (by rw [hend]; omega), hend, Int.toNat_natCast]
  exact hb (e + 1) (by omega) (by omega) j (by rw [← Nat.add_assoc, hj]) hjh
include h1 h2 in
theorem seg_all : ∀ (d i : Nat), hi - (lo + i) ≤ d → lo + i ≤ hi → SegB ss lo hi i ∧ (lo + i < hi → SegE ss lo hi i)
  | 0, i, hd, hi' => ⟨segB_of h1 h2 hi' (fun h => absurd h (by omega)) (fun j ha hb => absurd ha (by omega)), fun h => absurd h (by omega)⟩
  | d + 1, i, hd, hi' => by
    have hb : ∀ j, i < j → lo + j ≤ hi → SegB ss lo hi j := fun j ha hb => (seg_all d j (by omega) hb).1
    have he : lo + i < hi → SegE ss lo hi i := fun h => segE_of h1 h2 h hb
    exact ⟨segB_of h1 h2 hi' he hb, he⟩
include h1 h2 in
theorem seg_end {i : Nat} (h : lo + i < hi) : SegE ss lo hi i := (seg_all h1 h2 _ i (Nat.le_refl _) (by omega)).2 h
include h1 h2 in
theorem steps_seg {i j s : Nat} (h : Steps ss i j s) : ∀ i' j', i = lo + i' → j = lo + j' → j ≤ hi → Steps (seg ss lo hi) i' j' s := by
  have hl := seg_len h1 h2
  induction h with
  | nil i =>
    intro i' j' e1 e2 _
    obtain rfl : i' = j' := by omega
    exact .nil _
  | @plain i j s hi' g2 g5 g8 t ih =>
    intro i' j' e1 e2 hj
    subst e1 e2
    have hle := (steps_small t).1
    have hop := seg_op (ss := ss) (lo := lo) (hi := hi) (i := i') (by omega)
    exact .plain (by omega) (by rw [hop]; exact g2) (by rw [hop]; exact g5) (by rw [hop]; exact g8) (ih (i' + 1) j' (by omega) rfl hj)
  | @one i e j s t hi' g2 he p q ih1 ih2 =>
    intro i' j' e1 e2 hj
    subst e1 e2
    have hle := (steps_small p).1
    have hle2 := (steps_small q).1
    obtain ⟨e', rfl⟩ : ∃ e', e = lo + e' := ⟨e - lo, by omega⟩
    have hop := seg_op (ss := ss) (lo := lo) (hi := hi) (i := i') (by omega)
    exact .one (by omega) (by rw [hop]; exact g2) ((seg_end h1 h2 (by omega)).1 e' he (by omega)) (ih1 (i' + 1) e' (by omega) rfl (by omega)) (ih2 (e' + 1) j' (by omega) rfl hj)
  | @two i m e j s s' t hi' g2 he p p' q ih1 ih2 ih3 =>
    intro i' j' e1 e2 hj
    subst e1 e2
    have hle := (steps_small p).1
    have hle2 := (steps_small p').1
    have hle3 := (steps_small q).1
    obtain ⟨m', rfl⟩ : ∃ m', m = lo + m' := ⟨m - lo, by omega⟩
    obtain ⟨e', rfl⟩ : ∃ e', e = lo + e' := ⟨e - lo, by omega⟩
    have hop := seg_op (ss := ss) (lo := lo) (hi := hi) (i := i') (by omega)
    exact .two (by omega) (by rw [hop]; exact g2) ((seg_end h1 h2 (by omega)).2 m' e' he (by omega)) (ih1 (i' + 1) m' (by omega) rfl (by omega)) (ih2 (m' + 1) e' (by omega) rfl (by omega)) (ih3 (e' + 1) j' (by omega) rfl hj)
  | @loop i e j k s t hi' g5 he hk h4 p q ih1 ih2 =>
    intro i' j' e1 e2 hj
    subst e1 e2
    have hle := (steps_small p).1
    have hle2 := (steps_small q).1
    obtain ⟨e', rfl⟩ : ∃ e', e = lo + e' := ⟨e - lo, by omega⟩
    have hop := seg_op (ss := ss) (lo := lo) (hi := hi) (i := i') (by omega)
    have hat := seg_at (ss := ss) (lo := lo) (hi := hi) (i := i') (by omega)
    exact .loop (by omega) (by rw [hop]; exact g5) ((seg_end h1 h2 (by omega)).1 e' he (by omega)) (by rw [hat]; exact hk) h4 (ih1 (i' + 1) e' (by omega) rfl (by omega)) (ih2 (e' + 1) j' (by omega) rfl hj)
  | @attempt i m e j s s' t hi' g8 he p p' q ih1 ih2 ih3 =>
    intro i' j' e1 e2 hj
    subst e1 e2
    have hle := (steps_small p).1
    have hle2 := (steps_small p').1
    have hle3 := (steps_small q).1
    obtain ⟨m', rfl⟩ : ∃ m', m = lo + m' := ⟨m - lo, by omega⟩
    obtain ⟨e', rfl⟩ : ∃ e', e = lo + e' := ⟨e - lo, by omega⟩
    have hop := seg_op (ss := ss) (lo := lo) (hi := hi) (i := i') (by omega)
    exact .attempt (by omega) (by rw [hop]; exact g8) ((seg_end h1 h2 (by omega)).2 m' e' he (by omega)) (ih1 (i' + 1) m' (by omega) rfl (by omega)) (ih2 (m' + 1) e' (by omega) rfl (by omega)) (ih3 (e' + 1) j' (by omega) rfl hj)
end
/-- A part, cut out: as many steps. -/
theorem part_seg {ss : List Stm} {i j s : Nat} (h : Steps ss i j s) (hj : j ≤ ss.length) : Steps (seg ss i j) 0 (j - i) s :=
  steps_seg (steps_small h).1 hj h 0 (j - i) rfl (by have := (steps_small h).1; omega) (Nat.le_refl _)
end Go.Proofs.YtmooecbdpfhnlaaGreat
