/- Joined texts of this proof (Push, Trim, Draw, DrawNat), in build order. -/
import Derived.Test.YtmooecbdpfhnlaaGreatK1
/- Laws for the walk over Tryz.prog: 'append' of one number to a row of the call's own; an empty row; a cut row. -/
namespace Go.Proofs.YtmooecbdpfhnlaaGreat
open Go.RowKit

theorem info_i64 : (Tryz.prog.info? 2).map (fun i => (i.zero, i.size, i.bytes)) = some (some (.int .i64 0), 1, 8) := by kernel_rfl

theorem Own.alloc {w : World} {B : Nat} {a : Option Addr} {n c : Nat} {zs : List Int} (h : Own w B a n c zs) (o : Obj) : Own (w.alloc o) B a n c zs := ⟨h.1.alloc o, h.2⟩
theorem own_nil (w : World) (B : Nat) : Own w B none 0 0 [] := ⟨World.ownsRow_nil _ _ _ _, by omega, fun z hz => by simp at hz⟩
theorem own_empty (w : World) (B : Nat) (hB : B ≤ w.heap.size) : Own (w.alloc (.cells #[] 2)) B (some ⟨w.heap.size, 0, none⟩) 0 0 [] :=
  ⟨World.ownsRow_lit w #[] 0 hB (by unfold maxLen; omega) rfl, by omega, fun z hz => by simp at hz⟩
/-- The first k numbers of a row of the call's own are such a row. -/
theorem Own.cut {w : World} {B : Nat} {a : Option Addr} {n c k : Nat} {zs : List Int} (h : Own w B a n c zs) (hk : k ≤ n) : Own w B a k c (zs.take k) := by
  have hl := h.len
  obtain ⟨⟨h1, h2⟩, hn, hin⟩ := h
  refine ⟨⟨by simp; omega, ?_⟩, by omega, fun z hz => hin z (List.mem_of_mem_take hz)⟩
  rcases h2 with ⟨e, h0⟩ | ⟨g, cap, cur, e, hb, hg, hnc, hcm, hcs, ht⟩
  · have : k = 0 := by omega
    subst this
    injection e with e1 e2 e3
    subst e1 e3
    exact .inl ⟨rfl, rfl⟩
  · injection e with e1 e2 e3
    subst e1 e3
    refine .inr ⟨g, c, cur, rfl, hb, hg, by omega, hcm, hcs, ?_⟩
    rw [List.map_take, ← ht, List.take_take, Nat.mul_one, Nat.mul_one, Nat.min_eq_left hk]

theorem wpList_push {ops : Array Oper} {rest : List Oper} {o : Oper} {ac : Act} {Q : Exit → Act → World → Prop} (w : World) (hgd : o.guard = none) (s x : Operand)
    (ho : o.op = .call { callee := .builtin .append, args := #[s, x], argTypes := #[28, 28] })
    (B : Nat) (a : Option Addr) (n c : Nat) (zs : List Int) (hs : ac.eval s = .slice a n c) (hown : Own w B a n c zs)
    (g : Nat) (z : Int) (hx : ac.eval x = .slice (some ⟨g, 0, none⟩) 1 1) (hc : w.cell? ⟨g, 0, none⟩ = some (.int .i64 z)) (hz : In64 z) (hn : n < 1048576) (hB : B ≤ w.heap.size)
    (h : ∀ a1 c1 w', Own w' B a1 (n + 1) c1 (zs ++ [z]) → w.grownBy w' (Value.slice a n c).ownBlock → wpList Tryz.prog ops Q rest (ac.put o.dst (.slice a1 (n + 1) c1)) w') : wpList Tryz.prog ops Q (o :: rest) ac w := by
  obtain ⟨i0, hi, hz0, hz1, hz2⟩ := info_parts info_i64
  refine wpList_append_own w hgd s x 28 ho B 2 i0 (.int .i64 0) 1 8 Tryz.underlying28 hi hz0 hz1 hz2 rfl (by omega) (.slice a n c) n (zs.map (Value.int .i64)) hs hown.1
    ⟨g, 0, none⟩ 1 1 [.int .i64 z] hx rfl ?_ ?_ ?_ ?_ hB ?_
  · intro j u hj
    match j, hj with
    | 0, hj => simp at hj; subst hj; simpa [Addr.add] using hc
  · intro u hu; simp at hu; subst hu; rfl
  · unfold maxLen; omega
  · omega
  · intro v' w' h1 h2 _
    have hf : ∃ a1 c1, v' = .slice a1 (n + 1) c1 := by
      rcases h1.2 with ⟨_, h0⟩ | ⟨g', cap, cur, e, _⟩
      · omega
      · exact ⟨_, _, e⟩
    obtain ⟨a1, c1, rfl⟩ := hf
    refine h a1 c1 w' ⟨by simpa using h1, by omega, fun y hy => ?_⟩ h2
    rcases List.mem_append.1 hy with hy | hy
    · exact hown.2.2 y hy
    · rw [List.mem_singleton] at hy; subst hy; exact hz

/-- Behind such an append: what lies below B is as it was. -/
theorem below_push {w0 w w' : World} {B : Nat} {a : Option Addr} {n c : Nat} {zs : List Int} (hb : Below B w0 w) (hown : Own w B a n c zs) (hB : B ≤ w.heap.size) (hg : w.grownBy w' (Value.slice a n c).ownBlock) : Below B w0 w' :=
  hb.grown hg hB (fun k hk => (hown.block k hk).1)

theorem Own.cap {w : World} {B : Nat} {a : Option Addr} {n c : Nat} {zs : List Int} (h : Own w B a n c zs) : n ≤ c := by
  rcases h.1.2 with ⟨e, h0⟩ | ⟨g, cap, cur, e, hb, hg, hnc, _⟩
  · omega
  · injection e with e1 e2 e3
    omega

theorem run_append_nothing (w : World) (ty : TypeId) (v : Value) (B n : Nat) (xs : List Value) (hown : w.ownsRow B 2 1 v n xs) (c : Nat) : (Builtin.append_ #[28, 28] ty #[v, .slice none 0 c]).run Tryz.prog w = .ok v w := by
  obtain ⟨i0, hi, hz0, hz1, hz2⟩ := info_parts info_i64
  rcases hown.2 with ⟨rfl, rfl⟩ | ⟨g, cap, cur, rfl, _, _, hnc, _⟩
  · simp [Builtin.append_, run_underlying Tryz.underlying28, sizeOf, typeInfo, hi, Builtin.lenOf, Builtin.firstCells]
  · simp [Builtin.append_, run_underlying Tryz.underlying28, sizeOf, typeInfo, hi, Builtin.lenOf, Builtin.firstCells, hnc, storeCells]

set_option maxRecDepth 100000 in
/-- 'append(out, xs...)': out a row of the call's own, xs whatever slice of numbers. -/
theorem wpList_concat {ops : Array Oper} {rest : List Oper} {o : Oper} {ac : Act} {Q : Exit → Act → World → Prop} (w : World) (hgd : o.guard = none) (s x : Operand)
    (ho : o.op = .call { callee := .builtin .append, args := #[s, x], argTypes := #[28, 28] })
    (B : Nat) (a : Option Addr) (n c : Nat) (zs : List Int) (hs : ac.eval s = .slice a n c) (hown : Own w B a n c zs)
    (a2 : Option Addr) (m c2 : Nat) (ys : List Int) (hx : ac.eval x = .slice a2 m c2) (hi2 : Ints w a2 m ys) (hn : n + m ≤ 1048576) (hB : B ≤ w.heap.size)
    (h : ∀ a1 c1 w', Own w' B a1 (n + m) c1 (zs ++ ys) → w.grownBy w' (Value.slice a n c).ownBlock → wpList Tryz.prog ops Q rest (ac.put o.dst (.slice a1 (n + m) c1)) w') : wpList Tryz.prog ops Q (o :: rest) ac w := by
  have hin : ∀ y ∈ zs ++ ys, In64 y := fun y hy => by
    rcases List.mem_append.1 hy with hy | hy
    · exact hown.2.2 y hy
    · exact hi2.2.2.1 y hy
  cases a2 with
  | none =>
    have hm : m = 0 := by
      rcases Nat.eq_zero_or_pos m with h0 | h0
      · exact h0
      · obtain ⟨b, o', e, _⟩ := hi2.2.2.2 h0
        cases e
    subst hm
    have hys : ys = [] := List.eq_nil_of_length_eq_zero hi2.1
    subst hys
    refine wpList_plain hgd fun K hK' => ?_
    have hrun := run_append_nothing w o.type (.slice a n c) B n _ hown.1 c2
    unfold Oper.wp
    simp [execOp, ho, resolve, invoke, builtin, hs, hx, hrun, Result.andThen]
    exact hK' _ _ (by simpa using h a c w (by simpa using hown) (World.grownBy.refl _ _))
  | some ad =>
    obtain ⟨i0, hi, hz0, hz1, hz2⟩ := info_parts info_i64
    have hl := hi2.1
    refine wpList_append_own w hgd s x 28 ho B 2 i0 (.int .i64 0) 1 8 Tryz.underlying28 hi hz0 hz1 hz2 rfl (by omega) (.slice a n c) n (zs.map (Value.int .i64)) hs hown.1
      ad m c2 (ys.map (Value.int .i64)) hx (by simp [hl]) ?_ (ints_oneCell _ _) ?_ ?_ hB ?_
    · intro j u hj
      have hjl : j < ys.length := by have := (List.getElem?_eq_some_iff.1 hj).1; simpa using this
      obtain ⟨b, off, e, _, hc⟩ := hi2.2.2.2 (by omega)
      injection e with e
      subst e
      rw [Go.WideShapes.add_plain, hc j (by omega), ← hj]
      simp [List.getD_eq_getElem?_getD, hjl]
    · unfold maxLen; omega
    · omega
    · intro v' w' h1 h2 _
      have hf : ∃ a1 c1, v' = .slice a1 (n + m) c1 := by
        rcases h1.2 with ⟨e, h0⟩ | ⟨g', cap, cur, e, _⟩
        · exact ⟨none, 0, by rw [e, h0]⟩
        · exact ⟨_, _, e⟩
      obtain ⟨a1, c1, rfl⟩ := hf
      exact h a1 c1 w' ⟨by simpa using h1, hn, hin⟩ h2
end Go.Proofs.YtmooecbdpfhnlaaGreat
/- The contracts of the two functions that strike noughts at the end. -/
namespace Go.Proofs.YtmooecbdpfhnlaaGreat
open Go.RowKit

end Go.Proofs.YtmooecbdpfhnlaaGreat
/- The contracts of the model's draws: a cursor over bytes; numbers below a bound. What is drawn is not told, only that it is within its bounds. -/
namespace Go.Proofs.YtmooecbdpfhnlaaGreat
open Go.RowKit

theorem in64_wrap (x : Int) : In64 (wrap64 x) := by
  have := bounds_i64 (wrap64_wf x)
  exact ⟨this.1, this.2⟩

/-- The bytes of the code, as the cursor at block p reads them. -/
def CodeAt (w : World) (p : Nat) (a : Option Addr) (n : Nat) : Prop :=
  n ≤ 4096 ∧ (0 < n → ∃ b o, a = some ⟨b, o, none⟩ ∧ b < p ∧ ∀ i, i < n → ∃ z : Int, 0 ≤ z ∧ z ≤ 255 ∧ w.cell? ⟨b, o + i, none⟩ = some (.int .u8 z))
theorem CodeAt.only {w w' : World} {p : Nat} {a : Option Addr} {n : Nat} (h : CodeAt w p a n) (hg : w.grownBy w' (some p)) : CodeAt w' p a n := by
  refine ⟨h.1, fun h0 => ?_⟩
  obtain ⟨b, o, rfl, hb, hc⟩ := h.2 h0
  refine ⟨b, o, rfl, hb, fun i hi => ?_⟩
  obtain ⟨z, h1, h2, h3⟩ := hc i hi
  exact ⟨z, h1, h2, hg.cell h3 (by simp; omega)⟩
theorem only_trans {a b c : World} {p : Nat} (h : a.grownBy b (some p)) (k : b.grownBy c (some p)) : a.grownBy c (some p) :=
  ⟨k.os.trans h.os, k.tape.trans h.tape, k.output.trans h.output, Nat.le_trans h.size k.size, fun i hi hne => (k.block i (Nat.lt_of_lt_of_le hi h.size) hne).trans (h.block i hi hne)⟩
theorem only_draw {a b : World} {p : Nat} (h : a.grownBy b (some p)) (n : Nat) : a.grownBy (b.drewN n) (some p) := ⟨h.os, h.tape, h.output, h.size, h.block⟩
theorem only_put (w : World) (p j : Nat) (u : Value) : w.grownBy (w.setCell ⟨p, j, none⟩ u) (some p) :=
  ⟨rfl, rfl, rfl, by simp, fun k _ hk => heap_setCell_other w ⟨p, j, none⟩ k u (fun e => hk (by simp [e]))⟩

theorem cur_only (w : World) (p k : Nat) (u : Value) : w.grownBy ((w.drewN k).setCell ⟨p, 1, none⟩ u) (some p) := only_trans (only_draw (World.grownBy.refl w (some p)) k) (only_put (w.drewN k) p 1 u)
theorem only_below {w w' : World} (h : Below w.heap.size w w') (row : Option Nat) : w.grownBy w' row := ⟨h.os, h.tape, h.output, h.size, fun i hi _ => h.block i hi⟩
theorem only_more {a b c : World} {p : Nat} {row : Option Nat} (h : a.grownBy b (some p)) (k : b.grownBy c row) (hr : ∀ g, row = some g → a.heap.size ≤ g) : a.grownBy c (some p) :=
  ⟨k.os.trans h.os, k.tape.trans h.tape, k.output.trans h.output, Nat.le_trans h.size k.size, fun i hi hne => (k.block i (Nat.lt_of_lt_of_le hi h.size) (fun e => by have := hr i e.symm; omega)).trans (h.block i hi hne)⟩
theorem only_alloc {a b : World} {p : Nat} (h : a.grownBy b (some p)) (o : Obj) : a.grownBy (b.alloc o) (some p) := only_more h (World.grownBy_alloc b o none) (fun g e => by cases e)

end Go.Proofs.YtmooecbdpfhnlaaGreat
/- The contracts of the model's draws of great numbers. -/
namespace Go.Proofs.YtmooecbdpfhnlaaGreat
open Go.RowKit

/-- The code, as the frame of a law opens it. -/
theorem code_of_row {w : World} {a : Option Addr} {len cap : Nat} {zs : List Int}
    (h : (a = none ∧ len = 0 ∧ cap = 0 ∧ zs = []) ∨
      ∃ x, a = some x ∧ len ≤ cap ∧ cap ≤ maxLen ∧ zs.length = cap ∧ (∀ i, i < zs.length → w.cell? (x.add i) = some (.int .u8 (zs.getD i 0))) ∧ ∀ n ∈ zs, (Lit.int .u8 n).wf = true)
    (hn : len ≤ 4096) : CodeAt w w.heap.size a len := by
  rcases h with ⟨rfl, rfl, rfl, rfl⟩ | ⟨x, rfl, hl, hm, hz, hc, hwf⟩
  · exact ⟨by omega, fun hp => absurd hp (by omega)⟩
  · refine ⟨hn, fun hp => ?_⟩
    obtain ⟨b, off, rfl, hcell⟩ := ints_at hc (by omega)
    refine ⟨b, off, rfl, World.block_lt_of_cell? w ⟨b, off + 0, none⟩ (hcell 0 (by omega)), fun i hi => ?_⟩
    have := bounds_u8 (hwf _ (getD_mem (show i < zs.length by omega)))
    exact ⟨_, this.1, by have := this.2; omega, hcell i (by omega)⟩
theorem CodeAt.below {w w' : World} {a : Option Addr} {n : Nat} (h : CodeAt w w.heap.size a n) (hb : Below w.heap.size w w') : CodeAt w' w.heap.size a n := by
  refine ⟨h.1, fun h0 => ?_⟩
  obtain ⟨b, o, rfl, hbl, hc⟩ := h.2 h0
  refine ⟨b, o, rfl, hbl, fun i hi => ?_⟩
  obtain ⟨z, h1, h2, h3⟩ := hc i hi
  exact ⟨z, h1, h2, (hb.cell (by exact hbl)).trans h3⟩
theorem CodeAt.up {w : World} {a : Option Addr} {n p q : Nat} (h : CodeAt w p a n) (hq : p ≤ q) : CodeAt w q a n := by
  refine ⟨h.1, fun h0 => ?_⟩
  obtain ⟨b, o, rfl, hbl, hc⟩ := h.2 h0
  exact ⟨b, o, rfl, by omega, hc⟩

def lenOf : Value → Nat | .slice _ n _ => n | _ => 0

end Go.Proofs.YtmooecbdpfhnlaaGreat
