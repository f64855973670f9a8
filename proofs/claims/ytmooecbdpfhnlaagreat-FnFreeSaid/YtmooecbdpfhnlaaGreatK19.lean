/- The boxes of a call of StartOf, and what grows in them: one variable more, one array more. -/
import Derived.Test.YtmooecbdpfhnlaaGreatK17
import Derived.Test.YtmooecbdpfhnlaaGreatK18
import Derived.Deep.OwnRows
import Derived.Deep.RegionLaw
namespace Go.Proofs.YtmooecbdpfhnlaaGreat
open Go.RowKit

theorem make_row (n : Nat) (h : n ≤ 1048576) (w : World) : (Instr.makeSlice 28 (.int .i64 (n : Int)) (.int .i64 (n : Int))).run Tryz.prog w = .ok (.slice (some ⟨w.heap.size, 0, none⟩) n n) (w.alloc (.cells (madeCells #[.int .i64 0] n) 2)) :=
  run_make_row' 28 2 (.int .i64 0) 8 Tryz.underlying28 info_i64 rfl .i64 .i64 n (by omega) (by omega) w
/-- The new row. -/
theorem own_made (w : World) (n : Nat) (h : n ≤ 1048576) : Own (w.alloc (.cells (madeCells #[.int .i64 0] n) 2)) w.heap.size (some ⟨w.heap.size, 0, none⟩) n n (List.replicate n 0) := by
  have e : (madeCells #[Value.int IntKind.i64 0] n).toList = (List.replicate n (0 : Int)).map (Value.int .i64) := by
    rw [toList_madeCells_one]; simp
  have hs : (madeCells #[Value.int IntKind.i64 0] n).size = n := by rw [← Array.length_toList, e]; simp
  refine ⟨⟨by simp, .inr ⟨w.heap.size, n, madeCells #[.int .i64 0] n, rfl, Nat.le_refl _, World.alloc_heap_new w _, Nat.le_refl _, by unfold maxLen; omega, by rw [hs, Nat.mul_one], ?_⟩⟩, h, fun z hz => ?_⟩
  · rw [e, List.take_of_length_le (by simp)]
  · rw [(List.mem_replicate.1 hz).2]; exact ⟨by omega, by omega⟩
section
variable {w w2 w3 w' : World} {B : Nat} {er : ERow} {os : Sl} {q : Sta}
/-- One row of cells more. -/
theorem EnvMem.row {cs' r : Sl} {zs : List Int} (h0 : EnvMem w B er os q) (hb : Below w.heap.size w w2) (hB : B ≤ w.heap.size) (hr : Own w2 w.heap.size r.1 r.2.1 r.2.2 zs)
    (ho : w3.ownsRow B 28 1 (.slice cs'.1 cs'.2.1 cs'.2.2) cs'.2.1 ((er.rows ++ [r]).map slV)) (hcs : cs'.2.1 = er.cells.2.1 + 1) (hn : er.cells.2.1 < 1048576) (hg : w2.grownBy w3 (slV er.cells).ownBlock) :
    EnvMem w3 B ⟨er.vars, cs', er.rows ++ [r]⟩ os ⟨q.vars, q.cells ++ [zs], q.outs⟩ := by
  have h := h0.below hb
  have hlr := h.cells.len
  have hlq : q.cells.length = er.cells.2.1 := h.cells.2.2.1
  have al : ∀ i, i < er.cells.2.1 → slAt (er.rows ++ [r]) i = slAt er.rows i := fun i hi => getD_left _ _ _ _ (by omega)
  have ar : slAt (er.rows ++ [r]) er.cells.2.1 = r := getD_last _ _ _ _ (by omega)
  have lt : ∀ i, i < cs'.2.1 → i < er.cells.2.1 ∨ i = er.cells.2.1 := fun i hi => by omega
  have new : ∀ g, (slV r).ownBlock = some g → w.heap.size ≤ g := fun g e => (hr.block g e).1
  refine ⟨h.vars.keep hg (fun g e => own_kinds h.vars.1 h.cells.1 (by decide) e), ⟨ho, by simp only []; omega, by simp only [List.length_append, List.length_singleton]; omega, fun i hi => ?_⟩, h.outs.keep hg (fun g e => own_kinds h.outs.1 h.cells.1 (by decide) e), h.vo, fun i g hi e => ?_, fun i g hi e => ?_, fun i j g hi hj e e' => ?_⟩
  · rcases lt i hi with hlt | rfl
    · simp only []
      rw [al i hlt, show intsAt (q.cells ++ [zs]) i = intsAt q.cells i from getD_left _ _ _ _ (by omega)]
      exact (h.cells.2.2.2 i hlt).keep hg (fun g e => own_kinds (h.cells.2.2.2 i hlt).1 h.cells.1 (by decide) e)
    · simp only []
      rw [ar, show intsAt (q.cells ++ [zs]) er.cells.2.1 = zs from getD_last _ _ _ _ (by omega)]
      exact (hr.base hB).keep hg (fun g e => own_kinds (hr.base hB).1 h.cells.1 (by decide) e)
  · simp only [] at e ⊢
    rcases lt i hi with hlt | rfl
    · rw [al i hlt] at e; exact h.cv i g hlt e
    · rw [ar] at e
      intro e'
      have := new g e
      have := (h0.vars.block g e').2
      omega
  · simp only [] at e
    rcases lt i hi with hlt | rfl
    · rw [al i hlt] at e; exact h.co i g hlt e
    · rw [ar] at e
      intro e'
      have := new g e
      have := (h0.outs.block g e').2
      omega
  · simp only [] at e e'
    rcases lt i hi with hlt | rfl <;> rcases lt j hj with hlj | rfl
    · rw [al i hlt] at e; rw [al j hlj] at e'; exact h.cc i j g hlt hlj e e'
    · rw [al i hlt] at e; rw [ar] at e'
      have := new g e'
      have := ((h0.cells.2.2.2 i hlt).block g e).2
      omega
    · rw [al j hlj] at e'; rw [ar] at e
      have := new g e
      have := ((h0.cells.2.2.2 j hlj).block g e').2
      omega
    · rfl
/-- One variable more (no cells yet, nothing put out). -/
theorem EnvMem.pushV {vs' : Sl} {zs : List Int} (h : EnvMem w B er (none, 0, 0) q) (h0 : er.cells.2.1 = 0) (ho : Own w' B vs'.1 vs'.2.1 vs'.2.2 zs) (hg : w.grownBy w' (slV er.vars).ownBlock) : EnvMem w' B ⟨vs', er.cells, er.rows⟩ (none, 0, 0) ⟨zs, q.cells, q.outs⟩ := by
  refine ⟨ho, h.cells.keep hg (fun g e => own_kinds h.cells.1 h.vars.1 (by decide) e) (fun i g hi => absurd hi (by omega)), h.outs.keep hg (fun g e => by simp [Value.ownBlock] at e), fun g _ e => by simp [slV, Value.ownBlock] at e, fun i g hi => absurd hi (by simp only []; omega), fun i g hi => absurd hi (by simp only []; omega), h.cc⟩
end
/-- A call of StartOf under way: the program, the answer's box, the environment's box. -/
structure QB (w wi : World) (b : Nat) (pc : List Value) (er : ERow) (q : Sta) : Prop where
  arg : Blk wi w.heap.size 31 pc
  res : Blk wi (w.heap.size + 1) 90 [.slice none 0 0, .slice none 0 0]
  out : Blk wi b 90 [slV er.vars, slV er.cells]
  mem : EnvMem wi w.heap.size er (none, 0, 0) q
  bel : Below w.heap.size w wi
  kb : w.heap.size + 2 ≤ b
section
variable {w wi wj wk : World} {b : Nat} {pc : List Value} {er : ERow} {q : Sta}
theorem QB.below (h : QB w wi b pc er q) (hb : Below wi.heap.size wi wj) : QB w wj b pc er q :=
  ⟨h.arg.below hb h.arg.lt, h.res.below hb h.res.lt, h.out.below hb h.out.lt, h.mem.below hb, h.bel.trans (hb.mono h.bel.size), h.kb⟩
theorem QB.alloc (h : QB w wi b pc er q) (o : Obj) : QB w (wi.alloc o) b pc er q := h.below ((Below.refl _ _).alloc (Nat.le_refl _) o)
theorem blk_keep {b : Nat} {t : TypeId} {xs : List Value} {row : Option Nat} (h : Blk wi b t xs) (hg : wi.grownBy wj row) (hr : row ≠ some b) : Blk wj b t xs := (hg.block b h.lt (fun e => hr e.symm)).trans h
theorem blk_row {b B n m : Nat} {t e : TypeId} {xs vs : List Value} {v : Value} (h : Blk wi b t xs) (ho : wi.ownsRow B e n v m vs) (hne : t ≠ e) (hg : wi.grownBy wj v.ownBlock) : Blk wj b t xs := blk_keep h hg (fun e' => blk_apart h ho hne b e' rfl)
/-- A variable is put behind the others. -/
theorem QB.var {a1 : Option Addr} {c1 : Nat} {zs : List Int} {m : Nat} (h : QB w wi b pc er q) (h0 : er.cells.2.1 = 0) (ho : Own wj w.heap.size a1 m c1 zs) (hg : wi.grownBy wj (slV er.vars).ownBlock) :
    QB w (wj.setCell ⟨b, 0, none⟩ (.slice a1 m c1)) b pc ⟨(a1, m, c1), er.cells, er.rows⟩ ⟨zs, q.cells, q.outs⟩ := by
  have kb := h.kb
  have o1 := blk_row h.out h.mem.vars.1 (by decide) hg
  have g1 := grown_set wj b 0 (.slice a1 m c1)
  refine ⟨(blk_row h.arg h.mem.vars.1 (by decide) hg).other (by omega) _, (blk_row h.res h.mem.vars.1 (by decide) hg).other (by omega) _, o1.set (j := 0) _, (h.mem.pushV h0 ho hg).set o1 (by decide) (by decide) _, ?_, kb⟩
  exact below_set (h.bel.grown hg h.bel.size (fun g e => (h.mem.vars.block g e).1)) (by omega) _
/-- An array is put behind the others. -/
theorem QB.row {a1 : Option Addr} {c1 : Nat} {zs : List Int} {r : Sl} (h : QB w wi b pc er q) (hb : Below wi.heap.size wi wj) (hr : Own wj wi.heap.size r.1 r.2.1 r.2.2 zs)
    (ho : wk.ownsRow w.heap.size 28 1 (.slice a1 (er.cells.2.1 + 1) c1) (er.cells.2.1 + 1) ((er.rows ++ [r]).map slV)) (hn : er.cells.2.1 < 1048576) (hg : wj.grownBy wk (slV er.cells).ownBlock) :
    QB w (wk.setCell ⟨b, 1, none⟩ (.slice a1 (er.cells.2.1 + 1) c1)) b pc ⟨er.vars, (a1, er.cells.2.1 + 1, c1), er.rows ++ [r]⟩ ⟨q.vars, q.cells ++ [zs], q.outs⟩ := by
  have kb := h.kb
  have h2 := h.below hb
  have o1 := blk_row h2.out h2.mem.cells.1 (by decide) hg
  refine ⟨(blk_row h2.arg h2.mem.cells.1 (by decide) hg).other (by omega) _, (blk_row h2.res h2.mem.cells.1 (by decide) hg).other (by omega) _, o1.set (j := 1) _, (h.mem.row hb h.bel.size hr (cs' := (a1, er.cells.2.1 + 1, c1)) ho rfl hn hg).set o1 (by decide) (by decide) _, ?_, kb⟩
  exact below_set (h2.bel.grown hg h2.bel.size (fun g e => (h2.mem.cells.1.lt g e).1)) (by omega) _
end
/-- 'append(rows, r)' in a region that draws its order. -/
theorem step_pushR {ops : Array Oper} {o : Oper} {ac : Act} {K : Act → World → Prop} {Q : Exit → Act → World → Prop} {E : Prop} (w : World) (hgd : o.guard = none) (s x : Operand)
    (ho : o.op = .call { callee := .builtin .append, args := #[s, x], argTypes := #[88, 88] })
    (B : Nat) (a : Option Addr) (n c : Nat) (rs : List Sl) (hs : ac.eval s = .slice a n c) (hown : w.ownsRow B 28 1 (.slice a n c) n (rs.map slV))
    (g : Nat) (r : Sl) (hx : ac.eval x = .slice (some ⟨g, 0, none⟩) 1 1) (hc1 : w.cell? ⟨g, 0, none⟩ = some (slV r)) (hn : n < 1048576) (hB : B ≤ w.heap.size)
    (h : ∀ a1 c1 w', w'.ownsRow B 28 1 (.slice a1 (n + 1) c1) (n + 1) ((rs ++ [r]).map slV) → GrowsTo w (.slice a n c) w' (.slice a1 (n + 1) c1) → K (ac.put o.dst (.slice a1 (n + 1) c1)) w') :
    if Region.wanted o (yielded ops ac.tmps) = true then Oper.wp Tryz.prog o ac w K Q else E := by
  refine step_pushG w hgd s x 88 28 (.slice none 0 0) 1 24 ho Tryz.underlying88 info_ints rfl (by omega) B a n c (rs.map slV) hs hown ⟨g, 0, none⟩ 1 1 [slV r] hx rfl ?_ ?_ (by omega) ?_ ?_ hB ?_
  · intro j u hj
    match j, hj with
    | 0, hj => simp at hj; subst hj; simpa [Addr.add] using hc1
  · intro u hu; simp at hu; subst hu; rfl
  · unfold maxLen; omega
  · omega
  · intro a1 c1 w' r1 r2
    exact h _ c1 w' (by rw [List.map_append]; exact r1) r2
/-- What StartOf leaves. -/
def Started (w : World) (p : Prg) (ls ss : List Int) (e : Ending) (w' : World) : Prop :=
  Below w.heap.size w w' ∧ ((startB p ls ss = true ∧ ∃ er : ERow, e = .returned (.tuple #[envV er, .bool true]) ∧ EnvMem w' w.heap.size er (none, 0, 0) (startQ p ls ss)) ∨ (startB p ls ss = false ∧ e = .returned (.tuple #[.agg #[.slice none 0 0, .slice none 0 0], .bool false])))
/-- Three rows, as slices.Concat takes them. -/
theorem intsSS_three {w : World} {b : Nat} {t : TypeId} {x y z : Sl} {ls ss zs : List Int} (hB : Blk w b t [slV x, slV y, slV z]) (h1 : Ints w x.1 x.2.1 ls) (h2 : Ints w y.1 y.2.1 ss) (h3 : Ints w z.1 z.2.1 zs) : IntsSS w (some ⟨b, 0, none⟩) 3 [x, y, z] [ls, ss, zs] := by
  refine ⟨rfl, rfl, by omega, fun _ => ⟨b, 0, rfl, hB.lt, fun i hi => ?_⟩, fun i hi => ?_⟩
  · match i, hi with
    | 0, _ => exact hB.cell (j := 0) rfl
    | 1, _ => exact hB.cell (j := 1) rfl
    | 2, _ => exact hB.cell (j := 2) rfl
  · match i, hi with
    | 0, _ => exact h1
    | 1, _ => exact h2
    | 2, _ => exact h3
theorem flatTo_three (ls ss zs : List Int) : flatTo [ls, ss, zs] 3 = ls ++ ss ++ zs := rfl
/-- The first k arrays, all nought. -/
def zeroTo (p : Prg) (k : Nat) : List (List Int) := (p.arrays.take k).map (fun z => List.replicate z.toNat 0)
theorem zeroTo_succ {p : Prg} {k : Nat} {z : Int} (hk : k < p.arrays.length) (hz : Hid (z = p.arrays.getD k 0)) : zeroTo p (k + 1) = zeroTo p k ++ [List.replicate z.toNat 0] := by
  have e : p.arrays[k] = z := by have := hz.out; rw [List.getD_eq_getElem?_getD, List.getElem?_eq_getElem hk] at this; simpa using this.symm
  simp [zeroTo, List.take_add_one, List.getElem?_eq_getElem hk, e]
theorem zeroTo_all {p : Prg} {k : Nat} (hk : p.arrays.length = k) : zeroTo p k = p.arrays.map (fun z => List.replicate z.toNat 0) := by rw [zeroTo, List.take_of_length_le (by omega)]
end Go.Proofs.YtmooecbdpfhnlaaGreat
