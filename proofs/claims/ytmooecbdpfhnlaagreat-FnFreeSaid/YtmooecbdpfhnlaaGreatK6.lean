/- Joined texts of this proof (StmtCopies, StmtEq, ProgCopies, ProgEq), in build order. -/
import Derived.Test.YtmooecbdpfhnlaaGreatK4
import Derived.Test.YtmooecbdpfhnlaaGreatK5
import Derived.RangeFuncRecord
import Derived.Test.YtmooecbdpfhnlaaGreatK1
/- The contracts of the laws' own helpers on Stmts and slices of Stmts. -/
namespace Go.Proofs.YtmooecbdpfhnlaaGreat
open Go.RowKit

/-- A statement of a program: its two numbers, its two slices of Terms. -/
structure Stm where
  op : Int
  n : Int
  at_ : List Tm
  exp : List Tm
deriving DecidableEq
instance : Inhabited Stm := ⟨⟨0, 0, [], []⟩⟩
/-- Its four cells. -/
structure SRow where
  op : Int
  n : Int
  at_ : Sl
  exp : Sl
def srowV (r : SRow) : List Value := [.int .i64 r.op, .int .i64 r.n, slV r.at_, slV r.exp]
def flatS (rs : List SRow) : List Value := rs.flatMap srowV
def noRow : SRow := ⟨0, 0, (none, 0, 0), (none, 0, 0)⟩
def srAt (rs : List SRow) (i : Nat) : SRow := rs.getD i noRow
def stAt (ss : List Stm) (i : Nat) : Stm := ss.getD i default

theorem flatS_len (rs : List SRow) : (flatS rs).length = rs.length * 4 := by
  induction rs with
  | nil => rfl
  | cons t r ih => simp only [flatS, List.flatMap_cons, List.length_append] at ih ⊢; simp only [srowV, List.length_cons, List.length_nil] at ih ⊢; omega
theorem flatS_append (a b : List SRow) : flatS (a ++ b) = flatS a ++ flatS b := by simp [flatS]
theorem flatS_at : ∀ (rs : List SRow) (k j : Nat), k < rs.length → j < 4 → (flatS rs)[k * 4 + j]? = (srowV (srAt rs k))[j]?
  | [], k, _, h, _ => absurd h (by simp)
  | t :: r, 0, j, _, hj => by
    show (srowV t ++ flatS r)[0 * 4 + j]? = (srowV t)[j]?
    rw [List.getElem?_append_left (by simp [srowV]; omega), Nat.zero_mul, Nat.zero_add]
  | t :: r, k + 1, j, h, hj => by
    have ih := flatS_at r k j (by simpa using h) hj
    show (srowV t ++ flatS r)[(k + 1) * 4 + j]? = (srowV (srAt r k))[j]?
    rw [List.getElem?_append_right (by simp [srowV]; omega), ← ih]
    congr 1
    simp [srowV]; omega
/-- The cells r read as the statement s. -/
def StmOf (w : World) (r : SRow) (s : Stm) : Prop := r.op = s.op ∧ r.n = s.n ∧ In64 s.op ∧ In64 s.n ∧ Terms w r.at_.1 r.at_.2.1 s.at_ ∧ Terms w r.exp.1 r.exp.2.1 s.exp
/-- The slice '.slice a n c' of Stmts reads as ss; rs are its cells. -/
def Stmts (w : World) (a : Option Addr) (n : Nat) (rs : List SRow) (ss : List Stm) : Prop :=
  rs.length = n ∧ ss.length = n ∧ n ≤ 1048576 ∧
  (0 < n → ∃ b o, a = some ⟨b, o, none⟩ ∧ b < w.heap.size ∧ ∀ i, i < n → w.cell? ⟨b, o + i * 4, none⟩ = some (.int .i64 (srAt rs i).op) ∧ w.cell? ⟨b, o + i * 4 + 1, none⟩ = some (.int .i64 (srAt rs i).n) ∧ w.cell? ⟨b, o + i * 4 + 2, none⟩ = some (slV (srAt rs i).at_) ∧ w.cell? ⟨b, o + i * 4 + 3, none⟩ = some (slV (srAt rs i).exp)) ∧
  ∀ i, i < n → StmOf w (srAt rs i) (stAt ss i)
theorem StmOf.below {w w' : World} {r : SRow} {s : Stm} (h : StmOf w r s) (hb : Below w.heap.size w w') : StmOf w' r s :=
  ⟨h.1, h.2.1, h.2.2.1, h.2.2.2.1, h.2.2.2.2.1.below (Nat.le_refl _) hb, h.2.2.2.2.2.below (Nat.le_refl _) hb⟩
theorem Stmts.below {w w' : World} {a : Option Addr} {n : Nat} {rs : List SRow} {ss : List Stm} (h : Stmts w a n rs ss) (hb : Below w.heap.size w w') : Stmts w' a n rs ss := by
  obtain ⟨h1, h2, h3, h4, h5⟩ := h
  refine ⟨h1, h2, h3, fun hp => ?_, fun i hi => (h5 i hi).below hb⟩
  obtain ⟨b, o, rfl, hbl, hc⟩ := h4 hp
  exact ⟨b, o, rfl, Nat.lt_of_lt_of_le hbl hb.size, fun i hi => ⟨(hb.cell hbl).trans (hc i hi).1, (hb.cell hbl).trans (hc i hi).2.1, (hb.cell hbl).trans (hc i hi).2.2.1, (hb.cell hbl).trans (hc i hi).2.2.2⟩⟩
theorem Stmts.at_ {w : World} {a : Option Addr} {n : Nat} {rs : List SRow} {ss : List Stm} (h : Stmts w a n rs ss) {k : Nat} (hk : k < n) :
    ∃ b o x y a1 n1 c1 a2 n2 c2 ts us, a = some ⟨b, o, none⟩ ∧ b < w.heap.size ∧ Hid (stAt ss k = ⟨x, y, ts, us⟩) ∧ In64 x ∧ In64 y ∧ w.cell? ⟨b, o + k * 4, none⟩ = some (.int .i64 x) ∧ w.cell? ⟨b, o + k * 4 + 1, none⟩ = some (.int .i64 y) ∧ w.cell? ⟨b, o + k * 4 + 2, none⟩ = some (.slice a1 n1 c1) ∧ w.cell? ⟨b, o + k * 4 + 3, none⟩ = some (.slice a2 n2 c2) ∧ Terms w a1 n1 ts ∧ Terms w a2 n2 us := by
  obtain ⟨h1, h2, h3, h4, h5⟩ := h
  obtain ⟨b, o, rfl, hb, hc⟩ := h4 (by omega)
  obtain ⟨s1, s2, s3, s4, s5, s6⟩ := h5 k hk
  obtain ⟨k1, k2, k3, k4⟩ := hc k hk
  rw [s1] at k1
  rw [s2] at k2
  exact ⟨b, o, _, _, _, _, _, _, _, _, _, _, rfl, hb, rfl, s3, s4, k1, k2, k3, k4, s5, s6⟩

/-- .. of the call's own, from block B on; no two of its slices in one block. -/
def OwnStm (w : World) (B : Nat) (r : SRow) (s : Stm) : Prop := r.op = s.op ∧ r.n = s.n ∧ In64 s.op ∧ In64 s.n ∧ OwnT w B r.at_.1 r.at_.2.1 r.at_.2.2 s.at_ ∧ OwnT w B r.exp.1 r.exp.2.1 r.exp.2.2 s.exp
def blksOf (r : SRow) : List Nat := (slV r.at_).ownBlock.toList ++ (slV r.exp).ownBlock.toList
def blks (rs : List SRow) : List Nat := rs.flatMap blksOf
def OwnStmts (w : World) (B : Nat) (a : Option Addr) (n c : Nat) (rs : List SRow) (ss : List Stm) : Prop :=
  w.ownsRow B 82 4 (.slice a n c) n (flatS rs) ∧ n ≤ 1048576 ∧ ss.length = n ∧ (∀ i, i < n → OwnStm w B (srAt rs i) (stAt ss i)) ∧ (blks rs).Nodup
section
variable {w w' : World} {B : Nat} {r : SRow} {s : Stm} {a : Option Addr} {n c : Nat} {rs : List SRow} {ss : List Stm}
theorem OwnStm.below (h : OwnStm w B r s) (hb : Below w.heap.size w w') : OwnStm w' B r s := ⟨h.1, h.2.1, h.2.2.1, h.2.2.2.1, h.2.2.2.2.1.below hb, h.2.2.2.2.2.below hb⟩
theorem OwnStm.base {B' : Nat} (h : OwnStm w B r s) (hB : B' ≤ B) : OwnStm w B' r s := ⟨h.1, h.2.1, h.2.2.1, h.2.2.2.1, h.2.2.2.2.1.base hB, h.2.2.2.2.2.base hB⟩
theorem OwnStm.reads (h : OwnStm w B r s) : StmOf w r s := ⟨h.1, h.2.1, h.2.2.1, h.2.2.2.1, h.2.2.2.2.1.terms, h.2.2.2.2.2.terms⟩
theorem OwnStm.blk (h : OwnStm w B r s) {g : Nat} (hg : g ∈ blksOf r) : B ≤ g ∧ g < w.heap.size := by
  rcases List.mem_append.1 hg with hg | hg
  · exact h.2.2.2.2.1.block g (by simpa [slV] using hg)
  · exact h.2.2.2.2.2.block g (by simpa [slV] using hg)
theorem OwnStmts.len (h : OwnStmts w B a n c rs ss) : rs.length = n := by have := h.1.1; rw [flatS_len] at this; omega
theorem OwnStmts.below (h : OwnStmts w B a n c rs ss) (hb : Below w.heap.size w w') : OwnStmts w' B a n c rs ss :=
  ⟨h.1.kept (row := none) ⟨hb.os, hb.tape, hb.output, hb.size, fun k hk _ => hb.block k hk⟩ (by cases a <;> simp [Value.ownBlock]), h.2.1, h.2.2.1, fun i hi => (h.2.2.2.1 i hi).below hb, h.2.2.2.2⟩
theorem OwnStmts.base {B' : Nat} (h : OwnStmts w B a n c rs ss) (hB : B' ≤ B) : OwnStmts w B' a n c rs ss := by
  refine ⟨⟨h.1.1, ?_⟩, h.2.1, h.2.2.1, fun i hi => (h.2.2.2.1 i hi).base hB, h.2.2.2.2⟩
  rcases h.1.2 with hn | ⟨g, cap, cur, e, hb, r⟩
  · exact .inl hn
  · exact .inr ⟨g, cap, cur, e, by omega, r⟩
theorem OwnStmts.reads (h : OwnStmts w B a n c rs ss) : Stmts w a n rs ss := by
  have hlen := h.len
  obtain ⟨ho, hn, hs, hi, _⟩ := h
  refine ⟨hlen, hs, hn, fun hp => ?_, fun i h' => (hi i h').reads⟩
  rcases ho.2 with ⟨_, h0⟩ | ⟨g, cap, cur, e, _, hh, _⟩
  · exact absurd hp (by omega)
  · have ea : a = some ⟨g, 0, none⟩ := by injection e
    subst ea
    refine ⟨g, 0, rfl, (ho.lt g rfl).2, fun i h' => ?_⟩
    have e0 := flatS_at rs i 0 (by omega) (by omega)
    have e1 := flatS_at rs i 1 (by omega) (by omega)
    have e2 := flatS_at rs i 2 (by omega) (by omega)
    have e3 := flatS_at rs i 3 (by omega) (by omega)
    rw [Nat.zero_add, ho.cellAt (i * 4) (by omega), ho.cellAt (i * 4 + 1) (by omega), ho.cellAt (i * 4 + 2) (by omega), ho.cellAt (i * 4 + 3) (by omega)]
    exact ⟨e0, e1, e2, e3⟩
theorem OwnStmts.block (h : OwnStmts w B a n c rs ss) : ∀ g, (Value.slice a n c).ownBlock = some g → B ≤ g ∧ g < w.heap.size := h.1.lt
end
theorem blks_mem {rs : List SRow} {g : Nat} (h : g ∈ blks rs) : ∃ i, i < rs.length ∧ g ∈ blksOf (srAt rs i) := by
  obtain ⟨r, hr, hg⟩ := List.mem_flatMap.1 h
  obtain ⟨i, hi, rfl⟩ := List.getElem_of_mem hr
  exact ⟨i, hi, by simpa [srAt, List.getD_eq_getElem?_getD, hi] using hg⟩
/-- What a function that makes a slice of the Stmts ss leaves. -/
def MadeStmts (w : World) (ss : List Stm) (e : Ending) (w' : World) : Prop :=
  ∃ a n c rs, e = .returned (.slice a n c) ∧ OwnStmts w' w.heap.size a n c rs ss ∧ Below w.heap.size w w'
theorem info_stmt : (Tryz.prog.info? 82).map (fun i => (i.zero, i.size, i.bytes)) = some (some (.agg #[.int .i64 0, .int .i64 0, .slice none 0 0, .slice none 0 0]), 4, 64) := by kernel_rfl

/-- The block b holds the cells xs of type t, none of them frozen. -/
def Blk (w : World) (b : Nat) (t : TypeId) (xs : List Value) : Prop := w.heap[b]? = some (.cells xs.toArray t (0, 0))
theorem Blk.lt {w : World} {b : Nat} {t : TypeId} {xs : List Value} (h : Blk w b t xs) : b < w.heap.size := (Array.getElem?_eq_some_iff.1 h).1
theorem Blk.cell {w : World} {b : Nat} {t : TypeId} {xs : List Value} (h : Blk w b t xs) {j : Nat} {v : Value} (hj : xs[j]? = some v) : w.cell? ⟨b, j, none⟩ = some v := by simp [World.cell?, show w.heap[b]? = _ from h, hj]
theorem Blk.frozen {w : World} {b : Nat} {t : TypeId} {xs : List Value} (h : Blk w b t xs) (j : Nat) : w.frozen? ⟨b, j, none⟩ = false := by simp [World.frozen?, show w.heap[b]? = _ from h]
theorem Blk.new (w : World) (t : TypeId) (xs : List Value) : Blk (w.alloc (.cells xs.toArray t)) w.heap.size t xs := World.alloc_heap_new w _
theorem Blk.below {w w' : World} {b B : Nat} {t : TypeId} {xs : List Value} (h : Blk w b t xs) (hb : Below B w w') (hlt : b < B) : Blk w' b t xs := (hb.block b hlt).trans h
theorem Blk.alloc {w : World} {b : Nat} {t : TypeId} {xs : List Value} (h : Blk w b t xs) (o : Obj) : Blk (w.alloc o) b t xs := h.below ((Below.refl _ _).alloc (Nat.le_refl _) o) h.lt
theorem Blk.other {w : World} {b b' j : Nat} {t : TypeId} {xs : List Value} (h : Blk w b t xs) (hne : b ≠ b') (v : Value) : Blk (w.setCell ⟨b', j, none⟩ v) b t xs := (Below.heap_setCell _ _ _ b hne).trans h
theorem Blk.set {w : World} {b j : Nat} {t : TypeId} {xs : List Value} (h : Blk w b t xs) (v : Value) : Blk (w.setCell ⟨b, j, none⟩ v) b t (xs.set j v) := by
  obtain ⟨hlt, hk⟩ := Array.getElem?_eq_some_iff.1 h
  show (w.heap.modify b _)[b]? = _
  rw [Array.getElem?_eq_getElem (by rw [Array.size_modify]; exact hlt), Array.getElem_modify_self, hk]
  simp
theorem grown_set (w : World) (b j : Nat) (v : Value) : w.grownBy (w.setCell ⟨b, j, none⟩ v) (some b) :=
  ⟨rfl, rfl, rfl, by simp, fun k _ hk => Below.heap_setCell _ _ _ k (fun e => hk (by rw [e]))⟩
theorem below_set {B : Nat} {w w' : World} (h : Below B w w') {b j : Nat} (hb : B ≤ b) (v : Value) : Below B w (w'.setCell ⟨b, j, none⟩ v) := h.setCell hb v
/-- Cells written into an elder block. -/
theorem OwnT.set {w : World} {B : Nat} {a : Option Addr} {n c : Nat} {ts : List Tm} (h : OwnT w B a n c ts) {b j : Nat} (hb : b < B) (v : Value) : OwnT (w.setCell ⟨b, j, none⟩ v) B a n c ts :=
  h.apart (grown_set _ _ _ _) (fun g hg e => by have := (h.block g hg).1; injection e with e; omega)
/-- Rows, and empty ones behind. -/
def CopyS (qs : List SRow) (n : Nat) : List SRow := qs ++ List.replicate (n - qs.length) noRow
theorem OwnStm.set {w : World} {B : Nat} {r : SRow} {s : Stm} (h : OwnStm w B r s) {b j : Nat} (hb : b < B) (v : Value) : OwnStm (w.setCell ⟨b, j, none⟩ v) B r s :=
  ⟨h.1, h.2.1, h.2.2.1, h.2.2.2.1, h.2.2.2.2.1.set hb v, h.2.2.2.2.2.set hb v⟩
/-- The rows qs hold the first statements, of the call's own, no two slices in one block. -/
def RowsTo (w : World) (B : Nat) (qs : List SRow) (ss : List Stm) : Prop := (∀ i, i < qs.length → OwnStm w B (srAt qs i) (stAt ss i)) ∧ (blks qs).Nodup
theorem RowsTo.below {w w' : World} {B : Nat} {qs : List SRow} {ss : List Stm} (h : RowsTo w B qs ss) (hb : Below w.heap.size w w') : RowsTo w' B qs ss := ⟨fun i hi => (h.1 i hi).below hb, h.2⟩
theorem RowsTo.set {w : World} {B : Nat} {qs : List SRow} {ss : List Stm} (h : RowsTo w B qs ss) {b j : Nat} (hb : b < B) (v : Value) : RowsTo (w.setCell ⟨b, j, none⟩ v) B qs ss := ⟨fun i hi => (h.1 i hi).set hb v, h.2⟩
theorem RowsTo.succ {w w' : World} {B : Nat} {qs : List SRow} {ss : List Stm} {r : SRow} {s : Stm} (h : RowsTo w B qs ss) (hb : Below w.heap.size w w') (hr : OwnStm w' w.heap.size r s) (hs : Hid (stAt ss qs.length = s)) (hap : ∀ g, (slV r.at_).ownBlock = some g → (slV r.exp).ownBlock ≠ some g) (hB : B ≤ w.heap.size) : RowsTo w' B (qs ++ [r]) ss := by
  refine ⟨fun i hi => ?_, ?_⟩
  · rcases Nat.lt_or_ge i qs.length with hlt | hge
    · rw [show srAt (qs ++ [r]) i = srAt qs i from getD_left _ _ _ _ hlt]
      exact (h.1 i hlt).below hb
    · have e : i = qs.length := by simp at hi; omega
      subst e
      rw [show srAt (qs ++ [r]) qs.length = r from getD_last _ _ _ _ rfl, hs.out]
      exact hr.base hB
  · have e : blks (qs ++ [r]) = blks qs ++ blksOf r := by simp [blks]
    rw [e]
    refine List.nodup_append.2 ⟨h.2, ?_, fun x hx y hy => ?_⟩
    · refine List.nodup_append.2 ⟨?_, ?_, fun x hx y hy => ?_⟩
      · cases (slV r.at_).ownBlock <;> simp
      · cases (slV r.exp).ownBlock <;> simp
      · have h1 : (slV r.at_).ownBlock = some x := by simpa using hx
        have h2 : (slV r.exp).ownBlock = some y := by simpa using hy
        rintro rfl
        exact hap x h1 h2
    · obtain ⟨i, hi, hg⟩ := blks_mem hx
      have := ((h.1 i hi).blk hg).2
      have := (hr.blk hy).1
      omega

end Go.Proofs.YtmooecbdpfhnlaaGreat
/- The contracts of the laws' own comparisons of Stmts and of slices of Stmts. -/
namespace Go.Proofs.YtmooecbdpfhnlaaGreat
open Go.RowKit

/-- The first k are alike. -/
def EqSt (xs ys : List Stm) (k : Nat) : Prop := ∀ i, i < k → stAt xs i = stAt ys i
theorem EqSt.zero (xs ys : List Stm) : EqSt xs ys 0 := fun i hi => absurd hi (by omega)
theorem EqSt.succ {xs ys : List Stm} {k : Nat} {t u : Stm} (h : EqSt xs ys k) (hx : Hid (stAt xs k = t)) (hy : Hid (stAt ys k = u)) (e : t = u) : EqSt xs ys (k + 1) := by
  intro i hi
  rcases Nat.lt_or_ge i k with hlt | hge
  · exact h i hlt
  · have : i = k := by omega
    subst this; rw [hx.out, hy.out]; exact e
end Go.Proofs.YtmooecbdpfhnlaaGreat
/- Words for programs (six cells: a number, two slices of Inputs, a number, a slice of numbers, a slice of Stmts); the contract of the laws' own copy of one (toProg). -/
namespace Go.Proofs.YtmooecbdpfhnlaaGreat
open Go.RowKit

structure Prg where
  width : Int
  lows : List Tm
  secrets : List Tm
  temps : Int
  arrays : List Int
  body : List Stm
deriving DecidableEq
/-- Its six cells, and the cells of its statements. -/
structure PRow where
  width : Int
  lows : Sl
  secrets : Sl
  temps : Int
  arrays : Sl
  body : Sl
  rows : List SRow
def progV (r : PRow) : Value := .agg #[.int .i64 r.width, slV r.lows, slV r.secrets, .int .i64 r.temps, slV r.arrays, slV r.body]

/-- The cells r read as the program p. -/
structure ProgAt (w : World) (r : PRow) (p : Prg) : Prop where
  width : r.width = p.width
  temps : r.temps = p.temps
  inW : In64 p.width
  inT : In64 p.temps
  lows : Terms w r.lows.1 r.lows.2.1 p.lows
  secrets : Terms w r.secrets.1 r.secrets.2.1 p.secrets
  arrays : Ints w r.arrays.1 r.arrays.2.1 p.arrays
  body : Stmts w r.body.1 r.body.2.1 r.rows p.body
theorem ProgAt.below {w w' : World} {r : PRow} {p : Prg} (h : ProgAt w r p) (hb : Below w.heap.size w w') : ProgAt w' r p :=
  ⟨h.width, h.temps, h.inW, h.inT, h.lows.below (Nat.le_refl _) hb, h.secrets.below (Nat.le_refl _) hb, h.arrays.below hb, h.body.below hb⟩
/-- .. of the call's own, from block B on. -/
structure OwnProg (w : World) (B : Nat) (r : PRow) (p : Prg) : Prop where
  width : r.width = p.width
  temps : r.temps = p.temps
  inW : In64 p.width
  inT : In64 p.temps
  lows : OwnI w B r.lows.1 r.lows.2.1 r.lows.2.2 p.lows
  secrets : OwnI w B r.secrets.1 r.secrets.2.1 r.secrets.2.2 p.secrets
  arrays : Own w B r.arrays.1 r.arrays.2.1 r.arrays.2.2 p.arrays
  body : OwnStmts w B r.body.1 r.body.2.1 r.body.2.2 r.rows p.body
  apart : ∀ g, (slV r.lows).ownBlock = some g → (slV r.secrets).ownBlock ≠ some g
theorem OwnProg.reads {w : World} {B : Nat} {r : PRow} {p : Prg} (h : OwnProg w B r p) : ProgAt w r p :=
  ⟨h.width, h.temps, h.inW, h.inT, h.lows.terms, h.secrets.terms, h.arrays.ints, h.body.reads⟩
theorem OwnProg.below {w w' : World} {B : Nat} {r : PRow} {p : Prg} (h : OwnProg w B r p) (hb : Below w.heap.size w w') : OwnProg w' B r p :=
  ⟨h.width, h.temps, h.inW, h.inT, h.lows.below hb, h.secrets.below hb, h.arrays.below hb, h.body.below hb, h.apart⟩
theorem OwnProg.base {w : World} {B B' : Nat} {r : PRow} {p : Prg} (h : OwnProg w B r p) (hB : B' ≤ B) : OwnProg w B' r p :=
  ⟨h.width, h.temps, h.inW, h.inT, h.lows.base hB, h.secrets.base hB, h.arrays.base hB, h.body.base hB, h.apart⟩
/-- What a function that makes the program p leaves. -/
def MadeProg (w : World) (p : Prg) (e : Ending) (w' : World) : Prop :=
  ∃ r, e = .returned (progV r) ∧ OwnProg w' w.heap.size r p ∧ Below w.heap.size w w'

theorem OwnI.set {w : World} {B : Nat} {a : Option Addr} {n c : Nat} {ts : List Tm} (h : OwnI w B a n c ts) {b j : Nat} (hb : b < B) (v : Value) : OwnI (w.setCell ⟨b, j, none⟩ v) B a n c ts :=
  h.apart (grown_set _ _ _ _) (fun g hg e => by have := (h.block g hg).1; injection e with e; omega)
theorem Own.set {w : World} {B : Nat} {a : Option Addr} {n c : Nat} {zs : List Int} (h : Own w B a n c zs) {b j : Nat} (hb : b < B) (v : Value) : Own (w.setCell ⟨b, j, none⟩ v) B a n c zs :=
  h.other (grown_set _ _ _ _) (fun g e => by injection e with e; omega)
theorem OwnStmts.set {w : World} {B : Nat} {a : Option Addr} {n c : Nat} {rs : List SRow} {ss : List Stm} (h : OwnStmts w B a n c rs ss) {b j : Nat} (hb : b < B) (v : Value) : OwnStmts (w.setCell ⟨b, j, none⟩ v) B a n c rs ss := by
  refine ⟨h.1.kept (grown_set _ _ _ _) ?_, h.2.1, h.2.2.1, fun i hi => (h.2.2.2.1 i hi).set hb v, h.2.2.2.2⟩
  cases hv : (Value.slice a n c).ownBlock with
  | none => exact .inl rfl
  | some g =>
    refine .inr fun e => ?_
    have := (h.block g hv).1
    injection e with e
    omega

/-- The three blocks of a call of toProg: the argument's, the result's, the variable's. -/
structure PBox (w wi : World) (c0 c1 c2 : List Value) : Prop where
  arg : Blk wi w.heap.size 58 c0
  res : Blk wi (w.heap.size + 1) 31 c1
  out : Blk wi (w.heap.size + 2) 31 c2
  bel : Below w.heap.size w wi
theorem PBox.below {w wi wj : World} {c0 c1 c2 : List Value} (h : PBox w wi c0 c1 c2) (hb : Below wi.heap.size wi wj) : PBox w wj c0 c1 c2 :=
  ⟨h.arg.below hb h.arg.lt, h.res.below hb h.res.lt, h.out.below hb h.out.lt, h.bel.trans (hb.mono h.bel.size)⟩
theorem PBox.set {w wi : World} {c0 c1 c2 : List Value} (h : PBox w wi c0 c1 c2) (j : Nat) (v : Value) : PBox w (wi.setCell ⟨w.heap.size + 2, j, none⟩ v) c0 c1 (c2.set j v) :=
  ⟨h.arg.other (by omega) v, h.res.other (by omega) v, h.out.set v, below_set h.bel (by omega) v⟩
theorem PBox.lt {w wi : World} {c0 c1 c2 : List Value} (h : PBox w wi c0 c1 c2) : w.heap.size + 2 < wi.heap.size := h.out.lt
end Go.Proofs.YtmooecbdpfhnlaaGreat
/- The contracts of the laws' own comparison of programs (eqProg), and of what measures them (szStmt, szStmtS, szProg). -/
namespace Go.Proofs.YtmooecbdpfhnlaaGreat
open Go.RowKit

/-- The two blocks of a call of eqProg. -/
structure QBox (w wi : World) (c0 c1 : List Value) : Prop where
  one : Blk wi w.heap.size 31 c0
  two : Blk wi (w.heap.size + 1) 31 c1
  bel : Below w.heap.size w wi
theorem QBox.below {w wi wj : World} {c0 c1 : List Value} (h : QBox w wi c0 c1) (hb : Below wi.heap.size wi wj) : QBox w wj c0 c1 :=
  ⟨h.one.below hb h.one.lt, h.two.below hb h.two.lt, h.bel.trans (hb.mono h.bel.size)⟩
end Go.Proofs.YtmooecbdpfhnlaaGreat
