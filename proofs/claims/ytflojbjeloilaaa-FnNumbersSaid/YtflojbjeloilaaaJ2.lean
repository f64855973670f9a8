/- Joined texts of this proof (Push, Trim, Draw, DrawNat), in build order. -/
import Derived.Test.YtflojbjeloilaaaJ1
/- Laws for the walk over Try.prog: 'append' of one number to a row of the call's own; an empty row; a cut row. -/
namespace Go.Proofs.Ytflojbjeloilaaa
open Go.RowKit

theorem info_i64 : (Try.prog.info? 2).map (fun i => (i.zero, i.size, i.bytes)) = some (some (.int .i64 0), 1, 8) := by kernel_rfl

theorem Own.alloc {w : World} {B : Nat} {a : Option Addr} {n c : Nat} {zs : List Int} (h : Own w B a n c zs) (o : Obj) : Own (w.alloc o) B a n c zs := ⟨h.1.alloc o, h.2⟩
theorem own_nil (w : World) (B : Nat) : Own w B none 0 0 [] := ⟨World.ownsRow_nil _ _ _ _, by omega, fun z hz => by simp at hz⟩
theorem own_empty (w : World) (B : Nat) (hB : B ≤ w.heap.size) : Own (w.alloc (.cells #[] 2)) B (some ⟨w.heap.size, 0, none⟩) 0 0 [] :=
  ⟨World.ownsRow_lit w #[] 0 hB (by unfold maxLen; omega) rfl, by omega, fun z hz => by simp at hz⟩
theorem own_one (w : World) (B : Nat) (z : Int) (hz : In64 z) (hB : B ≤ w.heap.size) : Own (w.alloc (.cells #[.int .i64 z] 2)) B (some ⟨w.heap.size, 0, none⟩) 1 1 [z] :=
  ⟨World.ownsRow_lit w #[.int .i64 z] 1 hB (by unfold maxLen; omega) rfl, by omega, fun x hx => by rw [List.mem_singleton] at hx; subst hx; exact hz⟩

/-- The first k numbers of a row of the call's own are such a row. -/
theorem Own.cut {w : World} {B : Nat} {a : Option Addr} {n c k : Nat} {zs : List Int} (h : Own w B a n c zs) (hk : k ≤ n) : Own w B a k c (zs.take k) := by
  have hl := h.len
  obtain ⟨⟨h1, h2⟩, hn, hin⟩ := h
  refine ⟨⟨by simp; omega, ?_⟩, by omega, fun z hz => hin z (List.mem_of_mem_take hz)⟩
  rcases h2 with ⟨e, h0⟩ | ⟨g, cap, cur, e, hb, hg, hnc, hcm, hcs, ht⟩
  · have : k = 0 := by omega
    subst this
    injection e with e1 e2 e3
    subst e1 e3
    exact .inl ⟨rfl, rfl⟩
  · injection e with e1 e2 e3
    subst e1 e3
    refine .inr ⟨g, c, cur, rfl, hb, hg, by omega, hcm, hcs, ?_⟩
    rw [List.map_take, ← ht, List.take_take, Nat.mul_one, Nat.mul_one, Nat.min_eq_left hk]

theorem wpList_push {ops : Array Oper} {rest : List Oper} {o : Oper} {ac : Act} {Q : Exit → Act → World → Prop} (w : World) (hgd : o.guard = none) (s x : Operand)
    (ho : o.op = .call { callee := .builtin .append, args := #[s, x], argTypes := #[25, 25] })
    (B : Nat) (a : Option Addr) (n c : Nat) (zs : List Int) (hs : ac.eval s = .slice a n c) (hown : Own w B a n c zs)
    (g : Nat) (z : Int) (hx : ac.eval x = .slice (some ⟨g, 0, none⟩) 1 1) (hc : w.cell? ⟨g, 0, none⟩ = some (.int .i64 z)) (hz : In64 z) (hn : n < 1048576) (hB : B ≤ w.heap.size)
    (h : ∀ a1 c1 w', Own w' B a1 (n + 1) c1 (zs ++ [z]) → w.grownBy w' (Value.slice a n c).ownBlock → wpList Try.prog ops Q rest (ac.put o.dst (.slice a1 (n + 1) c1)) w') : wpList Try.prog ops Q (o :: rest) ac w := by
  obtain ⟨i0, hi, hz0, hz1, hz2⟩ := info_parts info_i64
  refine wpList_append_own w hgd s x 25 ho B 2 i0 (.int .i64 0) 1 8 Try.underlying25 hi hz0 hz1 hz2 rfl (by omega) (.slice a n c) n (zs.map (Value.int .i64)) hs hown.1
    ⟨g, 0, none⟩ 1 1 [.int .i64 z] hx rfl ?_ ?_ ?_ ?_ hB ?_
  · intro j u hj
    match j, hj with
    | 0, hj => simp at hj; subst hj; simpa [Addr.add] using hc
  · intro u hu; simp at hu; subst hu; rfl
  · unfold maxLen; omega
  · omega
  · intro v' w' h1 h2 _
    have hf : ∃ a1 c1, v' = .slice a1 (n + 1) c1 := by
      rcases h1.2 with ⟨_, h0⟩ | ⟨g', cap, cur, e, _⟩
      · omega
      · exact ⟨_, _, e⟩
    obtain ⟨a1, c1, rfl⟩ := hf
    refine h a1 c1 w' ⟨by simpa using h1, by omega, fun y hy => ?_⟩ h2
    rcases List.mem_append.1 hy with hy | hy
    · exact hown.2.2 y hy
    · rw [List.mem_singleton] at hy; subst hy; exact hz

/-- Behind such an append: what lies below B is as it was. -/
theorem below_push {w0 w w' : World} {B : Nat} {a : Option Addr} {n c : Nat} {zs : List Int} (hb : Below B w0 w) (hown : Own w B a n c zs) (hB : B ≤ w.heap.size) (hg : w.grownBy w' (Value.slice a n c).ownBlock) : Below B w0 w' :=
  hb.grown hg hB (fun k hk => (hown.block k hk).1)

theorem Own.cap {w : World} {B : Nat} {a : Option Addr} {n c : Nat} {zs : List Int} (h : Own w B a n c zs) : n ≤ c := by
  rcases h.1.2 with ⟨e, h0⟩ | ⟨g, cap, cur, e, hb, hg, hnc, _⟩
  · omega
  · injection e with e1 e2 e3
    omega

theorem run_append_nothing (w : World) (ty : TypeId) (v : Value) (B n : Nat) (xs : List Value) (hown : w.ownsRow B 2 1 v n xs) (c : Nat) : (Builtin.append_ #[25, 25] ty #[v, .slice none 0 c]).run Try.prog w = .ok v w := by
  obtain ⟨i0, hi, hz0, hz1, hz2⟩ := info_parts info_i64
  rcases hown.2 with ⟨rfl, rfl⟩ | ⟨g, cap, cur, rfl, _, _, hnc, _⟩
  · simp [Builtin.append_, run_underlying Try.underlying25, sizeOf, typeInfo, hi, Builtin.lenOf, Builtin.firstCells]
  · simp [Builtin.append_, run_underlying Try.underlying25, sizeOf, typeInfo, hi, Builtin.lenOf, Builtin.firstCells, hnc, storeCells]

set_option maxRecDepth 100000 in
/-- 'append(out, xs...)': out a row of the call's own, xs whatever slice of numbers. -/
theorem wpList_concat {ops : Array Oper} {rest : List Oper} {o : Oper} {ac : Act} {Q : Exit → Act → World → Prop} (w : World) (hgd : o.guard = none) (s x : Operand)
    (ho : o.op = .call { callee := .builtin .append, args := #[s, x], argTypes := #[25, 25] })
    (B : Nat) (a : Option Addr) (n c : Nat) (zs : List Int) (hs : ac.eval s = .slice a n c) (hown : Own w B a n c zs)
    (a2 : Option Addr) (m c2 : Nat) (ys : List Int) (hx : ac.eval x = .slice a2 m c2) (hi2 : Ints w a2 m ys) (hn : n + m ≤ 1048576) (hB : B ≤ w.heap.size)
    (h : ∀ a1 c1 w', Own w' B a1 (n + m) c1 (zs ++ ys) → w.grownBy w' (Value.slice a n c).ownBlock → wpList Try.prog ops Q rest (ac.put o.dst (.slice a1 (n + m) c1)) w') : wpList Try.prog ops Q (o :: rest) ac w := by
  have hin : ∀ y ∈ zs ++ ys, In64 y := fun y hy => by
    rcases List.mem_append.1 hy with hy | hy
    · exact hown.2.2 y hy
    · exact hi2.2.2.1 y hy
  cases a2 with
  | none =>
    have hm : m = 0 := by
      rcases Nat.eq_zero_or_pos m with h0 | h0
      · exact h0
      · obtain ⟨b, o', e, _⟩ := hi2.2.2.2 h0
        cases e
    subst hm
    have hys : ys = [] := List.eq_nil_of_length_eq_zero hi2.1
    subst hys
    refine wpList_plain hgd fun K hK' => ?_
    have hrun := run_append_nothing w o.type (.slice a n c) B n _ hown.1 c2
    unfold Oper.wp
    simp [execOp, ho, resolve, invoke, builtin, hs, hx, hrun, Result.andThen]
    exact hK' _ _ (by simpa using h a c w (by simpa using hown) (World.grownBy.refl _ _))
  | some ad =>
    obtain ⟨i0, hi, hz0, hz1, hz2⟩ := info_parts info_i64
    have hl := hi2.1
    refine wpList_append_own w hgd s x 25 ho B 2 i0 (.int .i64 0) 1 8 Try.underlying25 hi hz0 hz1 hz2 rfl (by omega) (.slice a n c) n (zs.map (Value.int .i64)) hs hown.1
      ad m c2 (ys.map (Value.int .i64)) hx (by simp [hl]) ?_ (ints_oneCell _ _) ?_ ?_ hB ?_
    · intro j u hj
      have hjl : j < ys.length := by have := (List.getElem?_eq_some_iff.1 hj).1; simpa using this
      obtain ⟨b, off, e, _, hc⟩ := hi2.2.2.2 (by omega)
      injection e with e
      subst e
      rw [Go.WideShapes.add_plain, hc j (by omega), ← hj]
      simp [List.getD_eq_getElem?_getD, hjl]
    · unfold maxLen; omega
    · omega
    · intro v' w' h1 h2 _
      have hf : ∃ a1 c1, v' = .slice a1 (n + m) c1 := by
        rcases h1.2 with ⟨e, h0⟩ | ⟨g', cap, cur, e, _⟩
        · exact ⟨none, 0, by rw [e, h0]⟩
        · exact ⟨_, _, e⟩
      obtain ⟨a1, c1, rfl⟩ := hf
      exact h a1 c1 w' ⟨by simpa using h1, hn, hin⟩ h2
end Go.Proofs.Ytflojbjeloilaaa
/- The contracts of the two functions that strike noughts at the end. -/
namespace Go.Proofs.Ytflojbjeloilaaa
open Go.RowKit

theorem trimLen_zero {l : List Int} {k n : Nat} {z : Int} (h : trimLen l k = trimLen l n) (hp : 0 < k) (hz : Hid (z = l.getD (k - 1) 0)) (h0 : z = 0) : trimLen l (k - 1) = trimLen l n := by
  rw [← h]
  have e : k = k - 1 + 1 := by omega
  have hz' := hz.out
  rw [h0] at hz'
  rw [e, trimLen, if_pos hz'.symm]; simp
theorem trimLen_stop {l : List Int} {k n : Nat} {z : Int} (h : trimLen l k = trimLen l n) (hp : 0 < k) (hz : Hid (z = l.getD (k - 1) 0)) (h0 : z ≠ 0) : trimLen l n = k := by
  rw [← h]
  have e : k = k - 1 + 1 := by omega
  have hz' := hz.out
  rw [e, trimLen, if_neg (by rw [← hz']; exact h0)]
theorem ret_slice {a : Option Addr} {n m c : Nat} (h : n = m) : Ending.returned (.slice a n c) = .returned (.slice a m c) := by rw [h]

theorem ints_cut {w : World} {a : Option Addr} {n : Nat} {zs : List Int} {o : Obj} (k : Nat) (h : Ints w a n zs) (hk : k ≤ n) : Ints (w.alloc o) a k (zs.take k) := by
  obtain ⟨hl, hn, hin, hc⟩ := h
  refine ⟨by rw [List.length_take]; omega, by omega, fun z hz => hin z (List.mem_of_mem_take hz), fun hp => ?_⟩
  obtain ⟨b, off, rfl, hb, hcell⟩ := hc (by omega)
  refine ⟨b, off, rfl, by simp; omega, fun i hi => ?_⟩
  rw [World.cell?_alloc_lt w o ⟨b, off + i, none⟩ hb, hcell i (by omega)]
  simp [List.getD_eq_getElem?_getD, hi]

end Go.Proofs.Ytflojbjeloilaaa
/- The contracts of the model's draws: a cursor over bytes; numbers below a bound. What is drawn is not told, only that it is within its bounds. -/
namespace Go.Proofs.Ytflojbjeloilaaa
open Go.RowKit

theorem and_mask (x : Int) (m : Nat) (hm : m < 2147483648) : 0 ≤ bits .and .i64 x (m : Int) ∧ bits .and .i64 x (m : Int) ≤ m := by
  have h1 : (BitVec.ofInt 64 (m : Int)).toNat = m := by
    rw [BitVec.ofInt_natCast, BitVec.toNat_ofNat]; exact Nat.mod_eq_of_lt (by omega)
  have h2 : ((BitVec.ofInt 64 x) &&& (BitVec.ofInt 64 (m : Int))).toNat ≤ m := by
    rw [BitVec.toNat_and, h1]; exact Nat.and_le_right
  show 0 ≤ IntKind.i64.wrap ((BitVec.ofInt 64 x &&& BitVec.ofInt 64 (m : Int)).toNat : Int) ∧ IntKind.i64.wrap ((BitVec.ofInt 64 x &&& BitVec.ofInt 64 (m : Int)).toNat : Int) ≤ m
  rw [IntWalk.i64_in _ (by omega)]
  omega
theorem and255 (x : Int) : 0 ≤ bits .and .i64 x 255 ∧ bits .and .i64 x 255 ≤ 255 := and_mask x 255 (by omega)
theorem and30 (x : Int) : 0 ≤ bits .and .i64 x 1073741823 ∧ bits .and .i64 x 1073741823 ≤ 1073741823 := and_mask x 1073741823 (by omega)
theorem in64_wrap (x : Int) : In64 (wrap64 x) := by
  have := bounds_i64 (wrap64_wf x)
  exact ⟨this.1, this.2⟩

/-- The bytes of the code, as the cursor at block p reads them. -/
def CodeAt (w : World) (p : Nat) (a : Option Addr) (n : Nat) : Prop :=
  n ≤ 4096 ∧ (0 < n → ∃ b o, a = some ⟨b, o, none⟩ ∧ b < p ∧ ∀ i, i < n → ∃ z : Int, 0 ≤ z ∧ z ≤ 255 ∧ w.cell? ⟨b, o + i, none⟩ = some (.int .u8 z))
/-- A cursor at block p. -/
def Cur (w : World) (p : Nat) : Prop :=
  ∃ a n c, CodeAt w p a n ∧ ∃ (i : Nat) (h : Int), i ≤ n ∧ In64 h ∧ w.heap[p]? = some (.cells #[.slice a n c, .int .i64 (i : Int), .int .i64 h] 96 (0, 0))

theorem CodeAt.only {w w' : World} {p : Nat} {a : Option Addr} {n : Nat} (h : CodeAt w p a n) (hg : w.grownBy w' (some p)) : CodeAt w' p a n := by
  refine ⟨h.1, fun h0 => ?_⟩
  obtain ⟨b, o, rfl, hb, hc⟩ := h.2 h0
  refine ⟨b, o, rfl, hb, fun i hi => ?_⟩
  obtain ⟨z, h1, h2, h3⟩ := hc i hi
  exact ⟨z, h1, h2, hg.cell h3 (by simp; omega)⟩
theorem Cur.lt {w : World} {p : Nat} (h : Cur w p) : p < w.heap.size := by
  obtain ⟨a, n, c, _, i, hh, _, _, hb⟩ := h
  rcases Nat.lt_or_ge p w.heap.size with hl | hl
  · exact hl
  · rw [Array.getElem?_eq_none hl] at hb; cases hb
theorem Cur.below {w w' : World} {p : Nat} (h : Cur w p) (hb : Below w.heap.size w w') : Cur w' p := by
  have hp := h.lt
  obtain ⟨a, n, c, hc, i, hh, h1, h2, h3⟩ := h
  exact ⟨a, n, c, hc.only ⟨hb.os, hb.tape, hb.output, hb.size, fun k hk _ => hb.block k hk⟩, i, hh, h1, h2, (hb.block p hp).trans h3⟩
theorem Cur.drewN {w : World} {p : Nat} (h : Cur w p) (k : Nat) : Cur (w.drewN k) p := h
/-- What is written to a block of the call's own that is no cursor. -/
theorem Cur.other {w w' : World} {p : Nat} {row : Option Nat} (h : Cur w p) (hg : w.grownBy w' row) (hr : ∀ g, row = some g → p < g) : Cur w' p := by
  have hp := h.lt
  obtain ⟨a, n, c, hc, i, hh, h1, h2, h3⟩ := h
  have hne : ∀ k, k ≤ p → some k ≠ row := fun k hk e => by have := hr k e.symm; omega
  refine ⟨a, n, c, ⟨hc.1, fun h0 => ?_⟩, i, hh, h1, h2, (hg.block p hp (hne p (Nat.le_refl _))).trans h3⟩
  obtain ⟨b, o, rfl, hb, hcc⟩ := hc.2 h0
  refine ⟨b, o, rfl, hb, fun j hj => ?_⟩
  obtain ⟨z, e1, e2, e3⟩ := hcc j hj
  exact ⟨z, e1, e2, hg.cell e3 (hne _ (by simp; omega))⟩

/-- A number from lo to hi is answered; the cursor has gone on, all else stands. -/
def DrewNum (w : World) (p : Nat) (lo hi : Int) (e : Ending) (w' : World) : Prop :=
  ∃ x : Int, lo ≤ x ∧ x ≤ hi ∧ e = .returned (.int .i64 x) ∧ Cur w' p ∧ w.grownBy w' (some p)

theorem only_trans {a b c : World} {p : Nat} (h : a.grownBy b (some p)) (k : b.grownBy c (some p)) : a.grownBy c (some p) :=
  ⟨k.os.trans h.os, k.tape.trans h.tape, k.output.trans h.output, Nat.le_trans h.size k.size, fun i hi hne => (k.block i (Nat.lt_of_lt_of_le hi h.size) hne).trans (h.block i hi hne)⟩
theorem only_draw {a b : World} {p : Nat} (h : a.grownBy b (some p)) (n : Nat) : a.grownBy (b.drewN n) (some p) := ⟨h.os, h.tape, h.output, h.size, h.block⟩
theorem only_put (w : World) (p j : Nat) (u : Value) : w.grownBy (w.setCell ⟨p, j, none⟩ u) (some p) :=
  ⟨rfl, rfl, rfl, by simp, fun k _ hk => heap_setCell_other w ⟨p, j, none⟩ k u (fun e => hk (by simp [e]))⟩

theorem cur_only (w : World) (p k : Nat) (u : Value) : w.grownBy ((w.drewN k).setCell ⟨p, 1, none⟩ u) (some p) := only_trans (only_draw (World.grownBy.refl w (some p)) k) (only_put (w.drewN k) p 1 u)
theorem cur_step (w : World) (p k : Nat) (v : Value) (i : Nat) (h : Int) (t : TypeId) (hb : w.heap[p]? = some (.cells #[v, .int .i64 (i : Int), .int .i64 h] t (0, 0))) :
    ((w.drewN k).setCell ⟨p, 1, none⟩ (.int .i64 ((i : Int) + 1))).heap[p]? = some (.cells #[v, .int .i64 ((i + 1 : Nat) : Int), .int .i64 h] t (0, 0)) := by
  rw [heap_setCell_same (w.drewN k) p 1 _ _ _ hb]; rfl

set_option maxHeartbeats 800000 in
theorem l1Byte_any (p : Nat) (w : World) (hcur : Cur w p) : Calls Try.prog 93 #[.pointer (some ⟨p, 0, none⟩)] w (DrewNum w p 0 255) := by
  have hp := hcur.lt
  obtain ⟨a, n, c, hcode, i, h, hi, hin, hblk⟩ := hcur
  have hn := hcode.1
  have c0 : w.cell? ⟨p, 0, none⟩ = some (.slice a n c) := by rw [cell_of_row w p 0 _ _ _ hblk]; rfl
  have c1 : w.cell? ⟨p, 1, none⟩ = some (.int .i64 (i : Int)) := by rw [cell_of_row w p 1 _ _ _ hblk]; rfl
  have c2 : w.cell? ⟨p, 2, none⟩ = some (.int .i64 h) := by rw [cell_of_row w p 2 _ _ _ hblk]; rfl
  have f1 : w.frozen? ⟨p, 1, none⟩ = false := frozen_of_row w p 1 _ _ hblk
  have f2 : w.frozen? ⟨p, 2, none⟩ = false := frozen_of_row w p 2 _ _ hblk
  have HB := Lib.hid hblk
  clear hblk
  go_enter Try.func93, Try.ntmps93
  go_wp2_with fail
  have hin2 : In64 (wrap64 (wrap64 (h * 6364136223846793005) + 1442695040888963407)) := in64_wrap _
  generalize wrap64 (wrap64 (h * 6364136223846793005) + 1442695040888963407) = h2 at hin2 ⊢
  generalize wrap64 (h * 6364136223846793005) = h1
  have hb2 : (w.setCell ⟨p, 2, none⟩ (.int .i64 h2)).heap[p]? = some (.cells #[.slice a n c, .int .i64 (i : Int), .int .i64 h2] 96 (0, 0)) := by
    rw [heap_setCell_same w p 2 _ _ _ HB.out]; rfl
  have hg2 := only_put w p 2 (.int .i64 h2)
  have hcode2 := hcode.only hg2
  clear c0 c1 c2 f1 f2 HB hcode
  generalize w.setCell ⟨p, 2, none⟩ (.int .i64 h2) = w2 at hb2 hg2 hcode2 ⊢
  have c0 : w2.cell? ⟨p, 0, none⟩ = some (.slice a n c) := by rw [cell_of_row w2 p 0 _ _ _ hb2]; rfl
  have c1 : w2.cell? ⟨p, 1, none⟩ = some (.int .i64 (i : Int)) := by rw [cell_of_row w2 p 1 _ _ _ hb2]; rfl
  have c2 : w2.cell? ⟨p, 2, none⟩ = some (.int .i64 h2) := by rw [cell_of_row w2 p 2 _ _ _ hb2]; rfl
  have f1 : w2.frozen? ⟨p, 1, none⟩ = false := frozen_of_row w2 p 1 _ _ hb2
  have HB := Lib.hid hb2
  clear hb2
  go_quiet (fail)
  have hx := and255 (bits .xor .i64 (h2 / 8589934592) (h2 / 35184372088832))
  generalize bits .and .i64 (bits .xor .i64 (h2 / 8589934592) (h2 / 35184372088832)) 255 = x at hx ⊢
  generalize bits .xor .i64 (h2 / 8589934592) (h2 / 35184372088832) = x1
  generalize h2 / 8589934592 = x2
  generalize h2 / 35184372088832 = x3
  obtain ⟨hx0, hx1⟩ := hx
  replace HB : Hid ((w2.drewN nq).heap[p]? = some (.cells #[.slice a n c, .int .i64 (i : Int), .int .i64 h2] 96 (0, 0))) := HB
  replace c0 : (w2.drewN nq).cell? ⟨p, 0, none⟩ = some (.slice a n c) := c0
  replace c1 : (w2.drewN nq).cell? ⟨p, 1, none⟩ = some (.int .i64 (i : Int)) := c1
  replace f1 : (w2.drewN nq).frozen? ⟨p, 1, none⟩ = false := f1
  replace hcode2 : CodeAt (w2.drewN nq) p a n := hcode2
  replace hg2 := only_draw hg2 nq
  clear c2 hin
  generalize w2.drewN nq = w3 at HB c0 c1 f1 hcode2 hg2 ⊢
  by_cases hlt : i < n
  · obtain ⟨b, o, rfl, hb, hcc⟩ := hcode2.2 (by omega)
    obtain ⟨z, hz0, hz1, hcz⟩ := hcc i hlt
    clear hcc
    go_wp2_with fail
    go_quiet (fail)
    go_wp2_with fail
    go_quiet (fail)
    go_wp2_with fail
    go_ret
    exact ⟨_, (and255 _).1, (and255 _).2, rfl, ⟨_, n, c, CodeAt.only (w := w3) hcode2 (cur_only w3 p _ _), i + 1, h2, by omega, hin2, cur_step w3 p _ _ _ _ _ HB.out⟩, only_trans hg2 (cur_only w3 p _ _)⟩
  · go_wp2_with fail
    go_quiet (fail)
    go_wp2_with fail
    go_ret
    exact ⟨x, hx0, hx1, rfl, ⟨a, n, c, hcode2, i, h2, hi, hin2, HB.out⟩, only_draw hg2 _⟩

/-- A yes or no is answered; the cursor has gone on, all else stands. -/
def DrewBool (w : World) (p : Nat) (e : Ending) (w' : World) : Prop := ∃ b : Bool, e = .returned (.bool b) ∧ Cur w' p ∧ w.grownBy w' (some p)

theorem DrewNum.mono {w w' : World} {p : Nat} {lo hi lo' hi' : Int} {e : Ending} (h : DrewNum w p lo hi e w') (h1 : lo' ≤ lo) (h2 : hi ≤ hi') : DrewNum w p lo' hi' e w' := by
  obtain ⟨x, a, b, r⟩ := h
  exact ⟨x, by omega, by omega, r⟩

set_option maxHeartbeats 400000 in
theorem l1Below_any (p : Nat) (w : World) (n : Int) (hcur : Cur w p) (hn : 1 ≤ n) (hn2 : n ≤ 1099511627776) : Calls Try.prog 61 #[.pointer (some ⟨p, 0, none⟩), .int .i64 n] w (DrewNum w p 0 (n - 1)) := by
  by_cases hs : n ≤ 256
  · go_enter Try.func61, Try.ntmps61
    go_wp2_with fail
    refine (l1Byte_any p _ hcur).mono ?_
    rintro e w1 ⟨x, hx0, hx1, rfl, hc1, hg1⟩
    have hm0 := Int.emod_nonneg x (show n ≠ 0 by omega)
    have hm1 := Int.emod_lt_of_pos x (show 0 < n by omega)
    have hne : (n == 0) = false := by simp; omega
    go_wp2_with fail
    go_ret
    exact ⟨x % n, hm0, by omega, rfl, hc1, hg1⟩
  · go_enter Try.func61, Try.ntmps61
    go_wp2_with fail
    refine (l1Byte_any p _ hcur).mono ?_
    rintro e w1 ⟨x, hx0, hx1, rfl, hc1, hg1⟩
    go_wp2_with fail
    refine (l1Byte_any p _ hc1).mono ?_
    rintro e w2 ⟨y, hy0, hy1, rfl, hc2, hg2⟩
    go_wp2_with fail
    refine (l1Byte_any p _ hc2).mono ?_
    rintro e w3 ⟨z, hz0, hz1, rfl, hc3, hg3⟩
    go_wp2_with fail
    refine (l1Byte_any p _ hc3).mono ?_
    rintro e w4 ⟨u, hu0, hu1, rfl, hc4, hg4⟩
    have hm0 := Int.emod_nonneg (x * 16777216 + y * 65536 + z * 256 + u) (show n ≠ 0 by omega)
    have hm1 := Int.emod_lt_of_pos (x * 16777216 + y * 65536 + z * 256 + u) (show 0 < n by omega)
    have hne : (n == 0) = false := by simp; omega
    have hgt := only_trans (only_trans (only_trans hg1 hg2) hg3) hg4
    clear hg1 hg2 hg3 hg4 hc1 hc2 hc3
    go_wp2_with fail
    go_ret
    exact ⟨(x * 16777216 + y * 65536 + z * 256 + u) % n, hm0, by omega, rfl, hc4, hgt⟩

set_option maxHeartbeats 400000 in
theorem l1Once_any (p : Nat) (w : World) (n : Int) (hcur : Cur w p) (hn : 1 ≤ n) (hn2 : n ≤ 1099511627776) : Calls Try.prog 60 #[.pointer (some ⟨p, 0, none⟩), .int .i64 n] w (DrewBool w p) := by
  go_enter Try.func60, Try.ntmps60
  go_wp2_with fail
  refine (l1Below_any p _ n hcur hn hn2).mono ?_
  rintro e w1 ⟨x, hx0, hx1, rfl, hc1, hg1⟩
  go_wp2_with fail
  go_ret
  exact ⟨_, rfl, hc1, hg1⟩

theorem own_lit (w : World) (B : Nat) (zs : List Int) (hz : ∀ z ∈ zs, In64 z) (hn : zs.length ≤ 1048576) (hB : B ≤ w.heap.size) :
    Own (w.alloc (.cells (zs.map (Value.int .i64)).toArray 2)) B (some ⟨w.heap.size, 0, none⟩) zs.length zs.length zs := by
  have := World.ownsRow_lit (base := B) (e := 2) (size := 1) w (zs.map (Value.int .i64)).toArray zs.length hB (by unfold maxLen; omega) (by simp)
  exact ⟨by simpa using this, hn, hz⟩
theorem only_below {w w' : World} (h : Below w.heap.size w w') (row : Option Nat) : w.grownBy w' row := ⟨h.os, h.tape, h.output, h.size, fun i hi _ => h.block i hi⟩
theorem only_more {a b c : World} {p : Nat} {row : Option Nat} (h : a.grownBy b (some p)) (k : b.grownBy c row) (hr : ∀ g, row = some g → a.heap.size ≤ g) : a.grownBy c (some p) :=
  ⟨k.os.trans h.os, k.tape.trans h.tape, k.output.trans h.output, Nat.le_trans h.size k.size, fun i hi hne => (k.block i (Nat.lt_of_lt_of_le hi h.size) (fun e => by have := hr i e.symm; omega)).trans (h.block i hi hne)⟩
theorem Cur.alloc {w : World} {p : Nat} (h : Cur w p) (o : Obj) : Cur (w.alloc o) p := h.below ((Below.refl _ _).alloc (Nat.le_refl _) o)
theorem only_alloc {a b : World} {p : Nat} (h : a.grownBy b (some p)) (o : Obj) : a.grownBy (b.alloc o) (some p) := only_more h (World.grownBy_alloc b o none) (fun g e => by cases e)

/-- A literal of numbers, one of which is drawn. -/
theorem lit_at {w w' : World} {p : Nat} {zs : List Int} {k : Nat} (hz : ∀ z ∈ zs, In64 z) (hn : zs.length ≤ 1048576) (hp : p < w.heap.size)
    (hg : (w.alloc (.cells (zs.map (Value.int .i64)).toArray 2)).grownBy w' (some p)) (hk : k < zs.length) :
    ∃ z, In64 z ∧ Hid (z = zs.getD k 0) ∧ w'.cell? ⟨w.heap.size, k, none⟩ = some (.int .i64 z) := by
  have h1 := (own_lit w w.heap.size zs hz hn (Nat.le_refl _)).other hg (fun g e => by cases e; exact hp)
  obtain ⟨b, o, z, e, _, hz, hin, hc⟩ := h1.ints.at_ hk
  injection e with e
  injection e with e1 e2
  subst e1 e2
  rw [Nat.zero_add] at hc
  exact ⟨z, hin, hz, hc⟩

theorem in64_small {z : Int} (h1 : -9223372036854775808 ≤ z) (h2 : z ≤ 9223372036854775807) : In64 z := ⟨h1, h2⟩

set_option maxHeartbeats 400000 in
theorem l1Odd_any (p : Nat) (w : World) (hcur : Cur w p) : Calls Try.prog 94 #[.pointer (some ⟨p, 0, none⟩)] w (DrewNum w p (-9223372036854775808) 9223372036854775807) := by
  have hp := hcur.lt
  go_enter Try.func94, Try.ntmps94
  go_wp2_with fail
  refine (l1Below_any p _ 10 (hcur.alloc _) (by omega) (by omega)).mono ?_
  rintro e w1 ⟨x, hx0, hx1, rfl, hc1, hg1⟩
  obtain ⟨k, rfl⟩ := Int.eq_ofNat_of_zero_le hx0
  obtain ⟨z, hz, _, hcell⟩ := lit_at (zs := [-1, 0, 1, 2147483648, -2147483648, 1099511627776, 4611686018427387904, -4611686018427387904, 9223372036854775807, -9223372036854775808]) (k := k)
    (by intro z hz; simp at hz; unfold In64; omega) (by simp) hp hg1 (by simp; omega)
  have hgt := only_trans (only_alloc (World.grownBy.refl w (some p)) _) hg1
  clear hg1
  go_wp2_with fail
  go_ret
  exact ⟨z, hz.1, hz.2, rfl, hc1, hgt⟩
end Go.Proofs.Ytflojbjeloilaaa
/- The contracts of the model's draws of great numbers. -/
namespace Go.Proofs.Ytflojbjeloilaaa
open Go.RowKit

/-- The code, as the frame of a law opens it. -/
theorem code_of_row {w : World} {a : Option Addr} {len cap : Nat} {zs : List Int}
    (h : (a = none ∧ len = 0 ∧ cap = 0 ∧ zs = []) ∨
      ∃ x, a = some x ∧ len ≤ cap ∧ cap ≤ maxLen ∧ zs.length = cap ∧ (∀ i, i < zs.length → w.cell? (x.add i) = some (.int .u8 (zs.getD i 0))) ∧ ∀ n ∈ zs, (Lit.int .u8 n).wf = true)
    (hn : len ≤ 4096) : CodeAt w w.heap.size a len := by
  rcases h with ⟨rfl, rfl, rfl, rfl⟩ | ⟨x, rfl, hl, hm, hz, hc, hwf⟩
  · exact ⟨by omega, fun hp => absurd hp (by omega)⟩
  · refine ⟨hn, fun hp => ?_⟩
    obtain ⟨b, off, rfl, hcell⟩ := ints_at hc (by omega)
    refine ⟨b, off, rfl, World.block_lt_of_cell? w ⟨b, off + 0, none⟩ (hcell 0 (by omega)), fun i hi => ?_⟩
    have := bounds_u8 (hwf _ (getD_mem (show i < zs.length by omega)))
    exact ⟨_, this.1, by have := this.2; omega, hcell i (by omega)⟩
theorem CodeAt.below {w w' : World} {a : Option Addr} {n : Nat} (h : CodeAt w w.heap.size a n) (hb : Below w.heap.size w w') : CodeAt w' w.heap.size a n := by
  refine ⟨h.1, fun h0 => ?_⟩
  obtain ⟨b, o, rfl, hbl, hc⟩ := h.2 h0
  refine ⟨b, o, rfl, hbl, fun i hi => ?_⟩
  obtain ⟨z, h1, h2, h3⟩ := hc i hi
  exact ⟨z, h1, h2, (hb.cell (by exact hbl)).trans h3⟩
theorem CodeAt.up {w : World} {a : Option Addr} {n p q : Nat} (h : CodeAt w p a n) (hq : p ≤ q) : CodeAt w q a n := by
  refine ⟨h.1, fun h0 => ?_⟩
  obtain ⟨b, o, rfl, hbl, hc⟩ := h.2 h0
  exact ⟨b, o, rfl, by omega, hc⟩

/-- A new cursor. -/
def NewCur (w : World) (e : Ending) (w' : World) : Prop := ∃ p, e = .returned (.pointer (some ⟨p, 0, none⟩)) ∧ w.heap.size ≤ p ∧ Cur w' p ∧ Below w.heap.size w w'

set_option maxHeartbeats 400000 in
theorem l1New_any (a : Option Addr) (n c : Nat) (w : World) (h : CodeAt w w.heap.size a n) : Calls Try.prog 29 #[.slice a n c] w (NewCur w) := by
  have hn := h.1
  go_enter Try.func29, Try.ntmps29
  go_wp2_with fail
  go_loop [3, 4] (fun q i => ∃ (k : Nat) (x : Int), k ≤ n ∧ i = .int .i64 k ∧ q = .int .i64 x ∧ 0 ≤ x ∧ x ≤ 1073741823) (fun _ i => n - (intOf i).toNat)
  case atStart => exact ⟨0, 141421 + (n : Int), by omega, rfl, rfl, by omega, by omega⟩
  case round =>
    obtain ⟨k, x, hk, rfl, rfl, hx0, hx1⟩ := hrel
    by_cases hlt : k < n
    · obtain ⟨b, o, rfl, hb, hcc⟩ := h.2 (by omega)
      obtain ⟨z, hz0, hz1, hcz⟩ := hcc k hlt
      clear hcc
      go_wp2_with fail
      go_round
      case rel => exact ⟨k + 1, _, by omega, by go_num, rfl, (and30 _).1, (and30 _).2⟩
      case measure => simp [intOf]; omega
    · go_wp2_with fail
      go_ret
      refine ⟨_, rfl, Nat.le_refl _, ⟨a, n, c, ?_, 0, x, Nat.zero_le _, ⟨by omega, by omega⟩, heap_alloc_new w _⟩, (Below.refl _ _).alloc (Nat.le_refl _) _⟩
      exact h.below ((Below.refl _ _).alloc (Nat.le_refl _) _)

/-- A list of numbers was drawn: of at most m numbers that fit; the cursor has gone on, all else stands. -/
def DrewInts (w : World) (p m : Nat) (e : Ending) (w' : World) : Prop :=
  ∃ a n c zs, e = .returned (.slice a n c) ∧ n ≤ m ∧ Own w' w.heap.size a n c zs ∧ Cur w' p ∧ w.grownBy w' (some p)

theorem only_own {a b c : World} {p : Nat} {v : Option Addr} {n k : Nat} {zs : List Int} (h : a.grownBy b (some p)) (ho : Own b a.heap.size v n k zs) (hg : b.grownBy c (Value.slice v n k).ownBlock) : a.grownBy c (some p) :=
  only_more h hg (fun g e => (ho.block g e).1)
theorem cur_own {a b c : World} {p : Nat} {v : Option Addr} {n k : Nat} {zs : List Int} (h : Cur b p) (hp : p < a.heap.size) (ho : Own b a.heap.size v n k zs) (hg : b.grownBy c (Value.slice v n k).ownBlock) : Cur c p :=
  h.other hg (fun g e => Nat.lt_of_lt_of_le hp (ho.block g e).1)
theorem own_cur {a b c : World} {p : Nat} {v : Option Addr} {n k : Nat} {zs : List Int} (ho : Own b a.heap.size v n k zs) (hp : p < a.heap.size) (hg : b.grownBy c (some p)) : Own c a.heap.size v n k zs :=
  ho.other hg (fun g e => by cases e; exact hp)

def lenOf : Value → Nat | .slice _ n _ => n | _ => 0

end Go.Proofs.Ytflojbjeloilaaa
