/- Joined texts of this proof (StmtCopies, StmtEq, Copies, ProgCopies, ProgEq), in build order. -/
import Derived.Test.YtbnpoliogldohaaGreatS3
import Derived.RangeFuncRecord
import Derived.Test.YtbnpoliogldohaaGreatS1
/- The contracts of the laws' own helpers on Stmts and slices of Stmts. -/
namespace Go.Proofs.YtbnpoliogldohaaGreat
open Go.RowKit

/-- A statement of a program: its two numbers, its two slices of Terms. -/
structure Stm where
  op : Int
  n : Int
  at_ : List Tm
  exp : List Tm
deriving DecidableEq
instance : Inhabited Stm := ⟨⟨0, 0, [], []⟩⟩
/-- Its four cells. -/
structure SRow where
  op : Int
  n : Int
  at_ : Sl
  exp : Sl
def srowV (r : SRow) : List Value := [.int .i64 r.op, .int .i64 r.n, slV r.at_, slV r.exp]
def flatS (rs : List SRow) : List Value := rs.flatMap srowV
def noRow : SRow := ⟨0, 0, (none, 0, 0), (none, 0, 0)⟩
def srAt (rs : List SRow) (i : Nat) : SRow := rs.getD i noRow
def stAt (ss : List Stm) (i : Nat) : Stm := ss.getD i default

theorem flatS_len (rs : List SRow) : (flatS rs).length = rs.length * 4 := by
  induction rs with
  | nil => rfl
  | cons t r ih => simp only [flatS, List.flatMap_cons, List.length_append] at ih ⊢; simp only [srowV, List.length_cons, List.length_nil] at ih ⊢; omega
theorem flatS_append (a b : List SRow) : flatS (a ++ b) = flatS a ++ flatS b := by simp [flatS]
theorem flatS_at : ∀ (rs : List SRow) (k j : Nat), k < rs.length → j < 4 → (flatS rs)[k * 4 + j]? = (srowV (srAt rs k))[j]?
  | [], k, _, h, _ => absurd h (by simp)
  | t :: r, 0, j, _, hj => by
    show (srowV t ++ flatS r)[0 * 4 + j]? = (srowV t)[j]?
    rw [List.getElem?_append_left (by simp [srowV]; omega), Nat.zero_mul, Nat.zero_add]
  | t :: r, k + 1, j, h, hj => by
    have ih := flatS_at r k j (by simpa using h) hj
    show (srowV t ++ flatS r)[(k + 1) * 4 + j]? = (srowV (srAt r k))[j]?
    rw [List.getElem?_append_right (by simp [srowV]; omega), ← ih]
    congr 1
    simp [srowV]; omega
theorem flatS_set : ∀ (rs : List SRow) (k : Nat) (t : SRow), k < rs.length → flatS (rs.set k t) = ((((flatS rs).set (k * 4) (.int .i64 t.op)).set (k * 4 + 1) (.int .i64 t.n)).set (k * 4 + 2) (slV t.at_)).set (k * 4 + 3) (slV t.exp)
  | [], k, _, h => absurd h (by simp)
  | u :: r, 0, t, _ => rfl
  | u :: r, k + 1, t, h => by
    have ih := flatS_set r k t (by simpa using h)
    have e1 : (k + 1) * 4 = k * 4 + 1 + 1 + 1 + 1 := by omega
    rw [e1]
    show Value.int .i64 u.op :: Value.int .i64 u.n :: slV u.at_ :: slV u.exp :: flatS (r.set k t) = _
    rw [ih]
    rfl
theorem noughtsS (n : Nat) : (madeCells #[Value.int .i64 0, Value.int .i64 0, Value.slice none 0 0, Value.slice none 0 0] (n * 4)).toList = flatS (List.replicate n noRow) := by
  have e : (madeCells #[Value.int .i64 0, Value.int .i64 0, Value.slice none 0 0, Value.slice none 0 0] (n * 4)).toList = (List.range (n * 4)).map (fun i => (#[Value.int .i64 0, Value.int .i64 0, Value.slice none 0 0, Value.slice none 0 0] : Array Value)[i % 4]!) := by simp [madeCells]
  rw [e]
  clear e
  induction n with
  | zero => rfl
  | succ n ih =>
    rw [show (n + 1) * 4 = n * 4 + 1 + 1 + 1 + 1 by omega, List.range_succ, List.range_succ, List.range_succ, List.range_succ, List.map_append, List.map_append, List.map_append, List.map_append, ih, List.replicate_succ', flatS_append, List.append_assoc, List.append_assoc, List.append_assoc]
    congr 1
    simp only [List.map_cons, List.map_nil]
    rw [show n * 4 % 4 = 0 by omega, show (n * 4 + 1) % 4 = 1 by omega, show (n * 4 + 1 + 1) % 4 = 2 by omega, show (n * 4 + 1 + 1 + 1) % 4 = 3 by omega]
    rfl

/-- The cells r read as the statement s. -/
def StmOf (w : World) (r : SRow) (s : Stm) : Prop := r.op = s.op ∧ r.n = s.n ∧ In64 s.op ∧ In64 s.n ∧ Terms w r.at_.1 r.at_.2.1 s.at_ ∧ Terms w r.exp.1 r.exp.2.1 s.exp
/-- The slice '.slice a n c' of Stmts reads as ss; rs are its cells. -/
def Stmts (w : World) (a : Option Addr) (n : Nat) (rs : List SRow) (ss : List Stm) : Prop :=
  rs.length = n ∧ ss.length = n ∧ n ≤ 1048576 ∧
  (0 < n → ∃ b o, a = some ⟨b, o, none⟩ ∧ b < w.heap.size ∧ ∀ i, i < n → w.cell? ⟨b, o + i * 4, none⟩ = some (.int .i64 (srAt rs i).op) ∧ w.cell? ⟨b, o + i * 4 + 1, none⟩ = some (.int .i64 (srAt rs i).n) ∧ w.cell? ⟨b, o + i * 4 + 2, none⟩ = some (slV (srAt rs i).at_) ∧ w.cell? ⟨b, o + i * 4 + 3, none⟩ = some (slV (srAt rs i).exp)) ∧
  ∀ i, i < n → StmOf w (srAt rs i) (stAt ss i)
theorem StmOf.below {w w' : World} {r : SRow} {s : Stm} (h : StmOf w r s) (hb : Below w.heap.size w w') : StmOf w' r s :=
  ⟨h.1, h.2.1, h.2.2.1, h.2.2.2.1, h.2.2.2.2.1.below (Nat.le_refl _) hb, h.2.2.2.2.2.below (Nat.le_refl _) hb⟩
theorem Stmts.below {w w' : World} {a : Option Addr} {n : Nat} {rs : List SRow} {ss : List Stm} (h : Stmts w a n rs ss) (hb : Below w.heap.size w w') : Stmts w' a n rs ss := by
  obtain ⟨h1, h2, h3, h4, h5⟩ := h
  refine ⟨h1, h2, h3, fun hp => ?_, fun i hi => (h5 i hi).below hb⟩
  obtain ⟨b, o, rfl, hbl, hc⟩ := h4 hp
  exact ⟨b, o, rfl, Nat.lt_of_lt_of_le hbl hb.size, fun i hi => ⟨(hb.cell hbl).trans (hc i hi).1, (hb.cell hbl).trans (hc i hi).2.1, (hb.cell hbl).trans (hc i hi).2.2.1, (hb.cell hbl).trans (hc i hi).2.2.2⟩⟩
theorem Stmts.at_ {w : World} {a : Option Addr} {n : Nat} {rs : List SRow} {ss : List Stm} (h : Stmts w a n rs ss) {k : Nat} (hk : k < n) :
    ∃ b o x y a1 n1 c1 a2 n2 c2 ts us, a = some ⟨b, o, none⟩ ∧ b < w.heap.size ∧ Hid (stAt ss k = ⟨x, y, ts, us⟩) ∧ In64 x ∧ In64 y ∧ w.cell? ⟨b, o + k * 4, none⟩ = some (.int .i64 x) ∧ w.cell? ⟨b, o + k * 4 + 1, none⟩ = some (.int .i64 y) ∧ w.cell? ⟨b, o + k * 4 + 2, none⟩ = some (.slice a1 n1 c1) ∧ w.cell? ⟨b, o + k * 4 + 3, none⟩ = some (.slice a2 n2 c2) ∧ Terms w a1 n1 ts ∧ Terms w a2 n2 us := by
  obtain ⟨h1, h2, h3, h4, h5⟩ := h
  obtain ⟨b, o, rfl, hb, hc⟩ := h4 (by omega)
  obtain ⟨s1, s2, s3, s4, s5, s6⟩ := h5 k hk
  obtain ⟨k1, k2, k3, k4⟩ := hc k hk
  rw [s1] at k1
  rw [s2] at k2
  exact ⟨b, o, _, _, _, _, _, _, _, _, _, _, rfl, hb, rfl, s3, s4, k1, k2, k3, k4, s5, s6⟩

/-- .. of the call's own, from block B on; no two of its slices in one block. -/
def OwnStm (w : World) (B : Nat) (r : SRow) (s : Stm) : Prop := r.op = s.op ∧ r.n = s.n ∧ In64 s.op ∧ In64 s.n ∧ OwnT w B r.at_.1 r.at_.2.1 r.at_.2.2 s.at_ ∧ OwnT w B r.exp.1 r.exp.2.1 r.exp.2.2 s.exp
def blksOf (r : SRow) : List Nat := (slV r.at_).ownBlock.toList ++ (slV r.exp).ownBlock.toList
def blks (rs : List SRow) : List Nat := rs.flatMap blksOf
def OwnStmts (w : World) (B : Nat) (a : Option Addr) (n c : Nat) (rs : List SRow) (ss : List Stm) : Prop :=
  w.ownsRow B 74 4 (.slice a n c) n (flatS rs) ∧ n ≤ 1048576 ∧ ss.length = n ∧ (∀ i, i < n → OwnStm w B (srAt rs i) (stAt ss i)) ∧ (blks rs).Nodup
section
variable {w w' : World} {B : Nat} {r : SRow} {s : Stm} {a : Option Addr} {n c : Nat} {rs : List SRow} {ss : List Stm}
theorem OwnStm.below (h : OwnStm w B r s) (hb : Below w.heap.size w w') : OwnStm w' B r s := ⟨h.1, h.2.1, h.2.2.1, h.2.2.2.1, h.2.2.2.2.1.below hb, h.2.2.2.2.2.below hb⟩
theorem OwnStm.base {B' : Nat} (h : OwnStm w B r s) (hB : B' ≤ B) : OwnStm w B' r s := ⟨h.1, h.2.1, h.2.2.1, h.2.2.2.1, h.2.2.2.2.1.base hB, h.2.2.2.2.2.base hB⟩
theorem OwnStm.reads (h : OwnStm w B r s) : StmOf w r s := ⟨h.1, h.2.1, h.2.2.1, h.2.2.2.1, h.2.2.2.2.1.terms, h.2.2.2.2.2.terms⟩
theorem OwnStm.blk (h : OwnStm w B r s) {g : Nat} (hg : g ∈ blksOf r) : B ≤ g ∧ g < w.heap.size := by
  rcases List.mem_append.1 hg with hg | hg
  · exact h.2.2.2.2.1.block g (by simpa [slV] using hg)
  · exact h.2.2.2.2.2.block g (by simpa [slV] using hg)
theorem OwnStmts.len (h : OwnStmts w B a n c rs ss) : rs.length = n := by have := h.1.1; rw [flatS_len] at this; omega
theorem OwnStmts.below (h : OwnStmts w B a n c rs ss) (hb : Below w.heap.size w w') : OwnStmts w' B a n c rs ss :=
  ⟨h.1.kept (row := none) ⟨hb.os, hb.tape, hb.output, hb.size, fun k hk _ => hb.block k hk⟩ (by cases a <;> simp [Value.ownBlock]), h.2.1, h.2.2.1, fun i hi => (h.2.2.2.1 i hi).below hb, h.2.2.2.2⟩
theorem OwnStmts.base {B' : Nat} (h : OwnStmts w B a n c rs ss) (hB : B' ≤ B) : OwnStmts w B' a n c rs ss := by
  refine ⟨⟨h.1.1, ?_⟩, h.2.1, h.2.2.1, fun i hi => (h.2.2.2.1 i hi).base hB, h.2.2.2.2⟩
  rcases h.1.2 with hn | ⟨g, cap, cur, e, hb, r⟩
  · exact .inl hn
  · exact .inr ⟨g, cap, cur, e, by omega, r⟩
theorem OwnStmts.reads (h : OwnStmts w B a n c rs ss) : Stmts w a n rs ss := by
  have hlen := h.len
  obtain ⟨ho, hn, hs, hi, _⟩ := h
  refine ⟨hlen, hs, hn, fun hp => ?_, fun i h' => (hi i h').reads⟩
  rcases ho.2 with ⟨_, h0⟩ | ⟨g, cap, cur, e, _, hh, _⟩
  · exact absurd hp (by omega)
  · have ea : a = some ⟨g, 0, none⟩ := by injection e
    subst ea
    refine ⟨g, 0, rfl, (ho.lt g rfl).2, fun i h' => ?_⟩
    have e0 := flatS_at rs i 0 (by omega) (by omega)
    have e1 := flatS_at rs i 1 (by omega) (by omega)
    have e2 := flatS_at rs i 2 (by omega) (by omega)
    have e3 := flatS_at rs i 3 (by omega) (by omega)
    rw [Nat.zero_add, ho.cellAt (i * 4) (by omega), ho.cellAt (i * 4 + 1) (by omega), ho.cellAt (i * 4 + 2) (by omega), ho.cellAt (i * 4 + 3) (by omega)]
    exact ⟨e0, e1, e2, e3⟩
theorem OwnStmts.block (h : OwnStmts w B a n c rs ss) : ∀ g, (Value.slice a n c).ownBlock = some g → B ≤ g ∧ g < w.heap.size := h.1.lt
end
theorem blks_mem {rs : List SRow} {g : Nat} (h : g ∈ blks rs) : ∃ i, i < rs.length ∧ g ∈ blksOf (srAt rs i) := by
  obtain ⟨r, hr, hg⟩ := List.mem_flatMap.1 h
  obtain ⟨i, hi, rfl⟩ := List.getElem_of_mem hr
  exact ⟨i, hi, by simpa [srAt, List.getD_eq_getElem?_getD, hi] using hg⟩
/-- What a function that makes a slice of the Stmts ss leaves. -/
def MadeStmts (w : World) (ss : List Stm) (e : Ending) (w' : World) : Prop :=
  ∃ a n c rs, e = .returned (.slice a n c) ∧ OwnStmts w' w.heap.size a n c rs ss ∧ Below w.heap.size w w'
theorem info_stmt : (Tryz.prog.info? 74).map (fun i => (i.zero, i.size, i.bytes)) = some (some (.agg #[.int .i64 0, .int .i64 0, .slice none 0 0, .slice none 0 0]), 4, 64) := by kernel_rfl

/-- The block b holds the cells xs of type t, none of them frozen. -/
def Blk (w : World) (b : Nat) (t : TypeId) (xs : List Value) : Prop := w.heap[b]? = some (.cells xs.toArray t (0, 0))
theorem Blk.lt {w : World} {b : Nat} {t : TypeId} {xs : List Value} (h : Blk w b t xs) : b < w.heap.size := (Array.getElem?_eq_some_iff.1 h).1
theorem Blk.cell {w : World} {b : Nat} {t : TypeId} {xs : List Value} (h : Blk w b t xs) {j : Nat} {v : Value} (hj : xs[j]? = some v) : w.cell? ⟨b, j, none⟩ = some v := by simp [World.cell?, show w.heap[b]? = _ from h, hj]
theorem Blk.frozen {w : World} {b : Nat} {t : TypeId} {xs : List Value} (h : Blk w b t xs) (j : Nat) : w.frozen? ⟨b, j, none⟩ = false := by simp [World.frozen?, show w.heap[b]? = _ from h]
theorem Blk.new (w : World) (t : TypeId) (xs : List Value) : Blk (w.alloc (.cells xs.toArray t)) w.heap.size t xs := World.alloc_heap_new w _
theorem Blk.below {w w' : World} {b B : Nat} {t : TypeId} {xs : List Value} (h : Blk w b t xs) (hb : Below B w w') (hlt : b < B) : Blk w' b t xs := (hb.block b hlt).trans h
theorem Blk.alloc {w : World} {b : Nat} {t : TypeId} {xs : List Value} (h : Blk w b t xs) (o : Obj) : Blk (w.alloc o) b t xs := h.below ((Below.refl _ _).alloc (Nat.le_refl _) o) h.lt
theorem Blk.other {w : World} {b b' j : Nat} {t : TypeId} {xs : List Value} (h : Blk w b t xs) (hne : b ≠ b') (v : Value) : Blk (w.setCell ⟨b', j, none⟩ v) b t xs := (Below.heap_setCell _ _ _ b hne).trans h
theorem Blk.set {w : World} {b j : Nat} {t : TypeId} {xs : List Value} (h : Blk w b t xs) (v : Value) : Blk (w.setCell ⟨b, j, none⟩ v) b t (xs.set j v) := by
  obtain ⟨hlt, hk⟩ := Array.getElem?_eq_some_iff.1 h
  show (w.heap.modify b _)[b]? = _
  rw [Array.getElem?_eq_getElem (by rw [Array.size_modify]; exact hlt), Array.getElem_modify_self, hk]
  simp
theorem grown_set (w : World) (b j : Nat) (v : Value) : w.grownBy (w.setCell ⟨b, j, none⟩ v) (some b) :=
  ⟨rfl, rfl, rfl, by simp, fun k _ hk => Below.heap_setCell _ _ _ k (fun e => hk (by rw [e]))⟩
theorem below_set {B : Nat} {w w' : World} (h : Below B w w') {b j : Nat} (hb : B ≤ b) (v : Value) : Below B w (w'.setCell ⟨b, j, none⟩ v) := h.setCell hb v
/-- Cells written into an elder block. -/
theorem OwnT.set {w : World} {B : Nat} {a : Option Addr} {n c : Nat} {ts : List Tm} (h : OwnT w B a n c ts) {b j : Nat} (hb : b < B) (v : Value) : OwnT (w.setCell ⟨b, j, none⟩ v) B a n c ts :=
  h.apart (grown_set _ _ _ _) (fun g hg e => by have := (h.block g hg).1; injection e with e; omega)
set_option maxHeartbeats 800000 in
theorem toStmt_any (op n : Int) (a1 a2 : Option Addr) (n1 n2 c1 c2 : Nat) (ts us : List Tm) (w : World) (h1 : Terms w a1 n1 ts) (h2 : Terms w a2 n2 us) :
    Calls Tryz.prog 128 #[.agg #[.int .i64 op, .int .i64 n, .slice a1 n1 c1, .slice a2 n2 c2]] w fun e w' => ∃ r : SRow, e = .returned (.agg (srowV r).toArray) ∧ r.op = op ∧ r.n = n ∧ OwnT w' w.heap.size r.at_.1 r.at_.2.1 r.at_.2.2 ts ∧ OwnT w' w.heap.size r.exp.1 r.exp.2.1 r.exp.2.2 us ∧ (∀ g, (slV r.at_).ownBlock = some g → (slV r.exp).ownBlock ≠ some g) ∧ Below w.heap.size w w' := by
  go_enter Tryz.func128, Tryz.ntmps128
  go_wp2_with fail
  obtain ⟨wa, HW⟩ : ∃ wa, Hid (wa = (((w.alloc (Obj.cells #[Value.int IntKind.i64 op, Value.int IntKind.i64 n, Value.slice a1 n1 c1, Value.slice a2 n2 c2] 166)).alloc (Obj.cells #[Value.int IntKind.i64 0, Value.int IntKind.i64 0, Value.slice none 0 0, Value.slice none 0 0] 74)).alloc (Obj.cells #[Value.int IntKind.i64 op, Value.int IntKind.i64 n, Value.slice none 0 0, Value.slice none 0 0] 74))) := ⟨_, rfl⟩
  rw [← HW.out]
  have b0 : Blk wa w.heap.size 166 [.int .i64 op, .int .i64 n, .slice a1 n1 c1, .slice a2 n2 c2] := by rw [HW.out]; exact ((Blk.new w _ _).alloc _).alloc _
  have b1 : Blk wa (w.heap.size + 1) 74 [.int .i64 0, .int .i64 0, .slice none 0 0, .slice none 0 0] := by rw [HW.out]; exact (by simpa using Blk.new (w.alloc _) _ _ : Blk _ _ _ _).alloc _
  have b2 : Blk wa (w.heap.size + 2) 74 [.int .i64 op, .int .i64 n, .slice none 0 0, .slice none 0 0] := by rw [HW.out]; simpa using Blk.new ((w.alloc _).alloc _) 74 [.int .i64 op, .int .i64 n, .slice none 0 0, .slice none 0 0]
  have hbel : Below w.heap.size w wa := by rw [HW.out]; exact (((Below.refl _ _).alloc (Nat.le_refl _) _).alloc (by simp) _).alloc (by simp; omega) _
  clear HW
  refine (toTermS_any _ _ _ _ _ (h1.below (Nat.le_refl _) hbel)).mono ?_
  rintro e w1 ⟨p1, m1, d1, rfl, ho1, hb1⟩
  have q0 := b0.below hb1 b0.lt
  have q1 := b1.below hb1 b1.lt
  have q2 := b2.below hb1 b2.lt
  have hsz := b2.lt
  have hbel1 := hbel.trans (hb1.mono hbel.size)
  clear b0 b1 b2 hb1 hbel
  have e0 := q0.cell (j := 3) rfl
  have e1 := q2.cell (j := 2) rfl
  have e2 := q2.frozen 2
  go_wp2_with fail
  obtain ⟨wb, HW⟩ : ∃ wb, Hid (wb = w1.setCell ⟨w.heap.size + 2, 2, none⟩ (.slice p1 m1 d1)) := ⟨_, rfl⟩
  have f1 := q1.other (b' := w.heap.size + 2) (j := 2) (by omega) (.slice p1 m1 d1)
  rw [← HW.out] at f1
  have f2 : Blk wb (w.heap.size + 2) 74 [.int .i64 op, .int .i64 n, .slice p1 m1 d1, .slice none 0 0] := by rw [HW.out]; exact q2.set _
  have ho2 : OwnT wb wa.heap.size p1 m1 d1 ts := by rw [HW.out]; exact ho1.set hsz _
  have hbel2 : Below w.heap.size w wb := by rw [HW.out]; exact hbel1.setCell (by simp) _
  rw [show w.heap.size + 1 + 1 = w.heap.size + 2 from rfl, ← HW.out]
  clear HW q0 q1 q2 e0 e1 e2 ho1 hbel1 h1
  refine (toTermS_any _ _ _ _ _ (h2.below (Nat.le_refl _) hbel2)).mono ?_
  rintro e w2 ⟨p2, m2, d2, rfl, ho3, hb3⟩
  have hsz2 := f2.lt
  have q1 := f1.below hb3 f1.lt
  have q2 := f2.below hb3 f2.lt
  have ho4 := ho2.below hb3
  have hbel3 := hbel2.trans (hb3.mono hbel2.size)
  have hap : ∀ g, (Value.slice p1 m1 d1).ownBlock = some g → (Value.slice p2 m2 d2).ownBlock ≠ some g := fun g h1 h2 => by
    have := (ho2.block g h1).2
    have := (ho3.block g h2).1
    omega
  have hle : w.heap.size ≤ wa.heap.size := by omega
  have HA := Lib.hid hap
  clear f1 f2 ho2 hbel2 hb3 h2 hap
  have a0 := q1.cell (j := 0) rfl
  have a1 := q1.cell (j := 1) rfl
  have a2 := q1.cell (j := 2) rfl
  have a3 := q1.cell (j := 3) rfl
  have z0 := q1.frozen 0
  have z1 := q1.frozen 1
  have z2 := q1.frozen 2
  have z3 := q1.frozen 3
  have e0 := q2.cell (j := 0) rfl
  have e1 := q2.cell (j := 1) rfl
  have e2 := q2.cell (j := 2) rfl
  have e3 := q2.cell (j := 3) rfl
  have e4 := q2.frozen 3
  go_wp2
  refine bodyPost_ret (v := .agg #[.int .i64 op, .int .i64 n, .slice p1 m1 d1, .slice p2 m2 d2]) (by simp [results, Tryz.results128, go_sem, a0, a1, a2, a3]) rfl ?_
  exact ⟨⟨op, n, (p1, m1, d1), (p2, m2, d2)⟩, rfl, rfl, rfl, (((((ho4.set (by omega) _).set (by omega) _).set (by omega) _).set (by omega) _).set (by omega) _).base hle, (((((ho3.set (by omega) _).set (by omega) _).set (by omega) _).set (by omega) _).set (by omega) _).base (by omega), HA.out, ((((hbel3.setCell (by simp) _).setCell (by simp) _).setCell (by simp) _).setCell (by simp) _).setCell (by simp) _⟩
/-- Rows, and empty ones behind. -/
def CopyS (qs : List SRow) (n : Nat) : List SRow := qs ++ List.replicate (n - qs.length) noRow
theorem copyS_len {qs : List SRow} {n : Nat} (h : qs.length ≤ n) : (CopyS qs n).length = n := by simp [CopyS]; omega
theorem copyS_all {qs : List SRow} {n : Nat} (h : qs.length = n) : CopyS qs n = qs := by simp [CopyS, h]
theorem copyS_succ {qs : List SRow} {n : Nat} (h : qs.length < n) (r : SRow) : (CopyS qs n).set qs.length r = CopyS (qs ++ [r]) n := by
  unfold CopyS
  rw [List.set_append_right _ _ (Nat.le_refl _), Nat.sub_self, show n - qs.length = (n - (qs ++ [r]).length) + 1 by simp; omega, List.replicate_succ, List.set_cons_zero]
  simp
theorem own_put4 {w : World} {B g n cap : Nat} {rs : List SRow} (h : w.ownsRow B 74 4 (.slice (some ⟨g, 0, none⟩) n cap) n (flatS rs)) (k : Nat) (hk : k < rs.length) (r : SRow) :
    ((((w.setCell ⟨g, k * 4, none⟩ (.int .i64 r.op)).setCell ⟨g, k * 4 + 1, none⟩ (.int .i64 r.n)).setCell ⟨g, k * 4 + 2, none⟩ (slV r.at_)).setCell ⟨g, k * 4 + 3, none⟩ (slV r.exp)).ownsRow B 74 4 (.slice (some ⟨g, 0, none⟩) n cap) n (flatS (rs.set k r)) := by
  rw [flatS_set rs k r hk]; exact ((((h.stored (k * 4) _).1.stored (k * 4 + 1) _).1.stored (k * 4 + 2) _).1.stored (k * 4 + 3) _).1
theorem own_cell4 {w : World} {B g n cap : Nat} {rs : List SRow} (h : w.ownsRow B 74 4 (.slice (some ⟨g, 0, none⟩) n cap) n (flatS rs)) {k : Nat} (hk : k < n) :
    w.cell? ⟨g, k * 4, none⟩ = some (.int .i64 (srAt rs k).op) ∧ w.cell? ⟨g, k * 4 + 1, none⟩ = some (.int .i64 (srAt rs k).n) ∧ w.cell? ⟨g, k * 4 + 2, none⟩ = some (slV (srAt rs k).at_) ∧ w.cell? ⟨g, k * 4 + 3, none⟩ = some (slV (srAt rs k).exp) := by
  have hl : rs.length = n := by have := h.1; rw [flatS_len] at this; omega
  rw [h.cellAt (k * 4) (by omega), h.cellAt (k * 4 + 1) (by omega), h.cellAt (k * 4 + 2) (by omega), h.cellAt (k * 4 + 3) (by omega)]
  exact ⟨flatS_at rs k 0 (by omega) (by omega), flatS_at rs k 1 (by omega) (by omega), flatS_at rs k 2 (by omega) (by omega), flatS_at rs k 3 (by omega) (by omega)⟩
theorem OwnStm.set {w : World} {B : Nat} {r : SRow} {s : Stm} (h : OwnStm w B r s) {b j : Nat} (hb : b < B) (v : Value) : OwnStm (w.setCell ⟨b, j, none⟩ v) B r s :=
  ⟨h.1, h.2.1, h.2.2.1, h.2.2.2.1, h.2.2.2.2.1.set hb v, h.2.2.2.2.2.set hb v⟩
/-- The rows qs hold the first statements, of the call's own, no two slices in one block. -/
def RowsTo (w : World) (B : Nat) (qs : List SRow) (ss : List Stm) : Prop := (∀ i, i < qs.length → OwnStm w B (srAt qs i) (stAt ss i)) ∧ (blks qs).Nodup
theorem rowsTo_nil (w : World) (B : Nat) (ss : List Stm) : RowsTo w B [] ss := ⟨fun i hi => absurd hi (by simp), List.nodup_nil⟩
theorem RowsTo.below {w w' : World} {B : Nat} {qs : List SRow} {ss : List Stm} (h : RowsTo w B qs ss) (hb : Below w.heap.size w w') : RowsTo w' B qs ss := ⟨fun i hi => (h.1 i hi).below hb, h.2⟩
theorem RowsTo.set {w : World} {B : Nat} {qs : List SRow} {ss : List Stm} (h : RowsTo w B qs ss) {b j : Nat} (hb : b < B) (v : Value) : RowsTo (w.setCell ⟨b, j, none⟩ v) B qs ss := ⟨fun i hi => (h.1 i hi).set hb v, h.2⟩
theorem RowsTo.succ {w w' : World} {B : Nat} {qs : List SRow} {ss : List Stm} {r : SRow} {s : Stm} (h : RowsTo w B qs ss) (hb : Below w.heap.size w w') (hr : OwnStm w' w.heap.size r s) (hs : Hid (stAt ss qs.length = s)) (hap : ∀ g, (slV r.at_).ownBlock = some g → (slV r.exp).ownBlock ≠ some g) (hB : B ≤ w.heap.size) : RowsTo w' B (qs ++ [r]) ss := by
  refine ⟨fun i hi => ?_, ?_⟩
  · rcases Nat.lt_or_ge i qs.length with hlt | hge
    · rw [show srAt (qs ++ [r]) i = srAt qs i from getD_left _ _ _ _ hlt]
      exact (h.1 i hlt).below hb
    · have e : i = qs.length := by simp at hi; omega
      subst e
      rw [show srAt (qs ++ [r]) qs.length = r from getD_last _ _ _ _ rfl, hs.out]
      exact hr.base hB
  · have e : blks (qs ++ [r]) = blks qs ++ blksOf r := by simp [blks]
    rw [e]
    refine List.nodup_append.2 ⟨h.2, ?_, fun x hx y hy => ?_⟩
    · refine List.nodup_append.2 ⟨?_, ?_, fun x hx y hy => ?_⟩
      · cases (slV r.at_).ownBlock <;> simp
      · cases (slV r.exp).ownBlock <;> simp
      · have h1 : (slV r.at_).ownBlock = some x := by simpa using hx
        have h2 : (slV r.exp).ownBlock = some y := by simpa using hy
        rintro rfl
        exact hap x h1 h2
    · obtain ⟨i, hi, hg⟩ := blks_mem hx
      have := ((h.1 i hi).blk hg).2
      have := (hr.blk hy).1
      omega

set_option maxHeartbeats 1600000 in
theorem toStmtS_any (a : Option Addr) (n c : Nat) (rs : List SRow) (ss : List Stm) (w : World) (h : Stmts w a n rs ss) :
    Calls Tryz.prog 75 #[.slice a n c] w (MadeStmts w ss) := by
  have HL := Lib.hid h.2.1
  have hbd := h.2.2.1
  obtain ⟨i0, hi, hz0, hz1, hz2⟩ := info_parts info_stmt
  have HI := Lib.hid hi
  have HZ0 := Lib.hid hz0
  have HZ1 := Lib.hid hz1
  have HZ2 := Lib.hid hz2
  clear hi hz0 hz1 hz2
  go_enter Tryz.func75, Tryz.ntmps75
  go_wp2_with (at_make; refine wpList_make_full _ rfl _ _ 26 rfl w.heap.size 74 i0 (.agg #[.int .i64 0, .int .i64 0, .slice none 0 0, .slice none 0 0]) 4 Tryz.underlying26 HI.out HZ0.out HZ1.out _ _ _ _ n rfl rfl rfl rfl ?b2 ?b3 ?b4 ?_)
  case b2 => rw [HZ2.out]; omega
  case b3 => unfold maxLen; omega
  case b4 => exact Nat.le_refl _
  intro w1 hown hgrow
  have hb1 : Below w.heap.size w w1 := (Below.refl _ _).grown hgrow (Nat.le_refl _) (fun k hk => by cases hk)
  have HO : w1.ownsRow w.heap.size 74 4 (.slice (some ⟨w.heap.size, 0, none⟩) n n) n (flatS (CopyS [] n)) := by
    rw [show CopyS [] n = List.replicate n noRow from by simp [CopyS], ← noughtsS]; exact hown
  clear hown hgrow
  go_wp2
  go_loopw [4] (fun i wr => ∃ qs : List SRow, qs.length ≤ n ∧ i = .int .i64 qs.length ∧ wr.ownsRow w.heap.size 74 4 (.slice (some ⟨w.heap.size, 0, none⟩) n n) n (flatS (CopyS qs n)) ∧ RowsTo wr (w.heap.size + 1) qs ss ∧ Below w.heap.size w wr) (fun i _ => n - (intOf i).toNat)
  case atStart => exact ⟨[], Nat.zero_le _, rfl, HO, rowsTo_nil _ _ _, hb1⟩
  case round =>
    clear HO hb1
    obtain ⟨qs, hk0, rfl, hown, hrows, hbel⟩ := hrel
    obtain ⟨k, hkk⟩ : ∃ k, k = qs.length := ⟨_, rfl⟩
    have hk : k ≤ n := by omega
    have HK := Lib.hid hkk
    rw [← hkk]
    by_cases hlt : k < n
    · obtain ⟨b, o, x, y, a1, n1, c1, a2, n2, c2, ts, us, rfl, hb, hz, hin1, hin2, hc1, hc2, hc3, hc4, hT1, hT2⟩ := (h.below hbel).at_ hlt
      clear hkk
      go_wp2_with fail
      refine (toStmt_any _ _ _ _ _ _ _ _ _ _ _ hT1 hT2).mono ?_
      rintro e w2 ⟨r, rfl, e1, e2, ho1, ho2, hap, hb2⟩
      have hsz := (hown.lt w.heap.size rfl).2
      have hown2 : w2.ownsRow w.heap.size 74 4 (.slice (some ⟨w.heap.size, 0, none⟩) n n) n (flatS (CopyS qs n)) := hown.kept (row := none) ⟨hb2.os, hb2.tape, hb2.output, hb2.size, fun k hk _ => hb2.block k hk⟩ (.inr (by simp [Value.ownBlock]))
      have hbel2 : Below w.heap.size w w2 := hbel.trans (hb2.mono hbel.size)
      have hr2 : RowsTo w2 (w.heap.size + 1) (qs ++ [r]) ss := hrows.succ hb2 ⟨e1, e2, hin1, hin2, ho1, ho2⟩ (by rw [← HK.out]; exact hz) hap (by omega)
      obtain ⟨rop, rn, ⟨p1, m1, d1⟩, ⟨p2, m2, d2⟩⟩ := r
      obtain ⟨hd1, hd2, hd3, hd4⟩ := own_cell4 hown2 hlt
      generalize (srAt (CopyS qs n) k).op = q1 at hd1
      generalize (srAt (CopyS qs n) k).n = q2 at hd2
      generalize slV (srAt (CopyS qs n) k).at_ = q3 at hd3
      generalize slV (srAt (CopyS qs n) k).exp = q4 at hd4
      have hf1 := hown2.frozenAt (k * 4)
      have hf2 := hown2.frozenAt (k * 4 + 1)
      have hf3 := hown2.frozenAt (k * 4 + 2)
      have hf4 := hown2.frozenAt (k * 4 + 3)
      have HO2 := own_put4 hown2 k (by rw [copyS_len (by rw [← HK.out]; exact hk)]; exact hlt) ⟨rop, rn, (p1, m1, d1), (p2, m2, d2)⟩
      have HR2 := Lib.hid ((((hr2.set (b := w.heap.size) (j := k * 4) (by omega) (.int .i64 rop)).set (b := w.heap.size) (j := k * 4 + 1) (by omega) (.int .i64 rn)).set (b := w.heap.size) (j := k * 4 + 2) (by omega) (.slice p1 m1 d1)).set (b := w.heap.size) (j := k * 4 + 3) (by omega) (.slice p2 m2 d2))
      have HB2 := Lib.hid (below_set (below_set (below_set (below_set hbel2 (b := w.heap.size) (j := k * 4) (Nat.le_refl _) (.int .i64 rop)) (b := w.heap.size) (j := k * 4 + 1) (Nat.le_refl _) (.int .i64 rn)) (b := w.heap.size) (j := k * 4 + 2) (Nat.le_refl _) (.slice p1 m1 d1)) (b := w.heap.size) (j := k * 4 + 3) (Nat.le_refl _) (.slice p2 m2 d2))
      rw [HK.out, copyS_succ (by rw [← HK.out]; exact hlt)] at HO2
      rw [HK.out] at HR2 HB2
      have HO3 := Lib.hid HO2
      clear hc1 hc2 hc3 hc4 hown hbel hown2 hbel2 hb2 hT1 hT2 hrows hr2 ho1 ho2 hap HO2 e1 e2
      rw [show (srowV ⟨rop, rn, (p1, m1, d1), (p2, m2, d2)⟩).toArray = #[.int .i64 rop, .int .i64 rn, .slice p1 m1 d1, .slice p2 m2 d2] from rfl]
      go_wp2
      go_roundw
      case rel => exact ⟨qs ++ [⟨rop, rn, (p1, m1, d1), (p2, m2, d2)⟩], by have := HK.out; simp; omega, by have := HK.out; go_num, by rw [HK.out]; exact HO3.out, by rw [HK.out]; exact HR2.out, by rw [HK.out]; exact HB2.out⟩
      case measure => simp [intOf]; omega
    · obtain rfl : n = k := by omega
      go_wp2
      go_ret
      rw [copyS_all HK.out.symm] at hown
      exact ⟨_, _, _, qs, rfl, ⟨hown, hbd, HL.out, fun i hi => (hrows.1 i (by rw [← HK.out]; exact hi)).base (by omega), hrows.2⟩, hbel⟩
end Go.Proofs.YtbnpoliogldohaaGreat
/- The contracts of the laws' own comparisons of Stmts and of slices of Stmts. -/
namespace Go.Proofs.YtbnpoliogldohaaGreat
open Go.RowKit

theorem stm_ne {x y x' y' : Int} {ts us ts' us' : List Tm} (h : ¬ (x = x' ∧ y = y' ∧ ts = ts' ∧ us = us')) : decide ((⟨x, y, ts, us⟩ : Stm) = ⟨x', y', ts', us'⟩) = false :=
  decide_eq_false (fun e => h (by injection e with e1 e2 e3 e4; exact ⟨e1, e2, e3, e4⟩))
set_option maxHeartbeats 1600000 in
theorem eqStmt_any (x y x' y' : Int) (a1 a2 b1 b2 : Option Addr) (n1 n2 m1 m2 c1 c2 d1 d2 : Nat) (ts us ts' us' : List Tm) (w : World) (h1 : Terms w a1 n1 ts) (h2 : Terms w a2 n2 us) (h3 : Terms w b1 m1 ts') (h4 : Terms w b2 m2 us') :
    Calls Tryz.prog 130 #[.agg #[.int .i64 x, .int .i64 y, .slice a1 n1 c1, .slice a2 n2 c2], .agg #[.int .i64 x', .int .i64 y', .slice b1 m1 d1, .slice b2 m2 d2]] w fun e w' => e = .returned (.bool (decide ((⟨x, y, ts, us⟩ : Stm) = ⟨x', y', ts', us'⟩))) ∧ Below w.heap.size w w' := by
  have HB : Below w.heap.size w ((w.alloc (.cells #[.int .i64 x, .int .i64 y, .slice a1 n1 c1, .slice a2 n2 c2] 74)).alloc (.cells #[.int .i64 x', .int .i64 y', .slice b1 m1 d1, .slice b2 m2 d2] 74)) := ((Below.refl _ _).alloc (Nat.le_refl _) _).alloc (by simp) _
  by_cases e1 : x = x'
  · subst e1
    have hne0 : (x != x) = false := by simp
    by_cases e2 : y = y'
    · subst e2
      have hne1 : (y != y) = false := by simp
      have b0 : Blk ((w.alloc (.cells #[.int .i64 x, .int .i64 y, .slice a1 n1 c1, .slice a2 n2 c2] 74)).alloc (.cells #[.int .i64 x, .int .i64 y, .slice b1 m1 d1, .slice b2 m2 d2] 74)) w.heap.size 74 [.int .i64 x, .int .i64 y, .slice a1 n1 c1, .slice a2 n2 c2] := (Blk.new w _ _).alloc _
      have b1' : Blk ((w.alloc (.cells #[.int .i64 x, .int .i64 y, .slice a1 n1 c1, .slice a2 n2 c2] 74)).alloc (.cells #[.int .i64 x, .int .i64 y, .slice b1 m1 d1, .slice b2 m2 d2] 74)) (w.heap.size + 1) 74 [.int .i64 x, .int .i64 y, .slice b1 m1 d1, .slice b2 m2 d2] := by simpa using Blk.new (w.alloc _) 74 [.int .i64 x, .int .i64 y, .slice b1 m1 d1, .slice b2 m2 d2]
      have H0 := Lib.hid b0
      have H1 := Lib.hid b1'
      have HH := Lib.hid HB
      clear b0 b1' HB
      go_enter Tryz.func130, Tryz.ntmps130
      go_wp2_with fail
      refine (eqTermS_any _ _ _ _ _ _ _ _ _ (h1.below (Nat.le_refl _) HH.out) (h3.below (Nat.le_refl _) HH.out)).mono ?_
      rintro e w1 ⟨rfl, hb1⟩
      have q0 := (H0.out.below hb1 H0.out.lt).cell (j := 3) rfl
      have q1 := (H1.out.below hb1 H1.out.lt).cell (j := 3) rfl
      have hbel := HH.out.trans (hb1.mono HH.out.size)
      clear H0 H1 HH hb1 h1 h3
      by_cases e3 : ts = ts'
      · subst e3
        rw [decide_eq_true (rfl : ts = ts)]
        go_wp2_with fail
        refine (eqTermS_any _ _ _ _ _ _ _ _ _ (h2.below (Nat.le_refl _) hbel) (h4.below (Nat.le_refl _) hbel)).mono ?_
        rintro e w2 ⟨rfl, hb2⟩
        have hbel2 := hbel.trans (hb2.mono hbel.size)
        clear q0 q1 hb2 h2 h4 hbel
        by_cases e4 : us = us'
        · subst e4
          rw [decide_eq_true (rfl : us = us)]
          go_wp2
          go_ret
          exact ⟨ret_bool (by simp), hbel2⟩
        · rw [decide_eq_false e4]
          go_wp2
          go_ret
          exact ⟨ret_bool (stm_ne (fun h => e4 h.2.2.2)).symm, hbel2⟩
      · rw [decide_eq_false e3]
        go_wp2
        go_ret
        exact ⟨ret_bool (stm_ne (fun h => e3 h.2.2.1)).symm, hbel⟩
    · have hne1 : (y != y') = true := by simpa using e2
      go_enter Tryz.func130, Tryz.ntmps130
      go_wp2
      go_ret
      exact ⟨ret_bool (stm_ne (fun h => e2 h.2.1)).symm, HB⟩
  · have hne1 : (x != x') = true := by simpa using e1
    go_enter Tryz.func130, Tryz.ntmps130
    go_wp2
    go_ret
    exact ⟨ret_bool (stm_ne (fun h => e1 h.1)).symm, HB⟩
/-- The first k are alike. -/
def EqSt (xs ys : List Stm) (k : Nat) : Prop := ∀ i, i < k → stAt xs i = stAt ys i
theorem EqSt.zero (xs ys : List Stm) : EqSt xs ys 0 := fun i hi => absurd hi (by omega)
theorem EqSt.succ {xs ys : List Stm} {k : Nat} {t u : Stm} (h : EqSt xs ys k) (hx : Hid (stAt xs k = t)) (hy : Hid (stAt ys k = u)) (e : t = u) : EqSt xs ys (k + 1) := by
  intro i hi
  rcases Nat.lt_or_ge i k with hlt | hge
  · exact h i hlt
  · have : i = k := by omega
    subst this; rw [hx.out, hy.out]; exact e
theorem eqSt_all {xs ys : List Stm} (hl : xs.length = ys.length) (h : EqSt xs ys xs.length) : xs = ys := by
  apply List.ext_getElem hl
  intro i h1 h2
  have := h i h1
  simpa [stAt, List.getD_eq_getElem?_getD, h1, h2] using this
set_option maxHeartbeats 1600000 in
theorem eqStmtS_any (a b : Option Addr) (n m c d : Nat) (rs qs : List SRow) (xs ys : List Stm) (w : World) (hx : Stmts w a n rs xs) (hy : Stmts w b m qs ys) :
    Calls Tryz.prog 77 #[.slice a n c, .slice b m d] w fun e w' => e = .returned (.bool (decide (xs = ys))) ∧ Below w.heap.size w w' := by
  have HL := Lib.hid hx.2.1
  have HM := Lib.hid hy.2.1
  have hbd := hx.2.2.1
  have hbe := hy.2.2.1
  by_cases hnm : n = m
  · subst hnm
    have hne0 : ((n : Int) != (n : Int)) = false := by simp
    go_enter Tryz.func77, Tryz.ntmps77
    go_wp2
    go_loopw [5] (fun i wr => ∃ k : Nat, k ≤ n ∧ i = .int .i64 k ∧ EqSt xs ys k ∧ Below w.heap.size w wr) (fun i _ => n - (intOf i).toNat)
    case atStart => exact ⟨0, Nat.zero_le _, rfl, EqSt.zero _ _, Below.refl _ _⟩
    case round =>
      obtain ⟨k, hk, rfl, hg, hbel⟩ := hrel
      by_cases hlt : k < n
      · obtain ⟨b1, o1, x1, y1, p1, n1, c1, p2, n2, c2, ts, us, rfl, hb1, hxk, hin1, hin2, hc1, hc2, hc3, hc4, hT1, hT2⟩ := (hx.below hbel).at_ hlt
        obtain ⟨b2, o2, x2, y2, p3, n3, c3, p4, n4, c4, ts', us', rfl, hb2, hyk, hin3, hin4, hc5, hc6, hc7, hc8, hT3, hT4⟩ := (hy.below hbel).at_ hlt
        have f1 := lat_cell hb1 hc1
        have f2 := lat_cell hb1 hc2
        have f3 := lat_cell hb1 hc3
        have f4 := lat_cell hb1 hc4
        have f5 := lat_cell hb2 hc5
        have f6 := lat_cell hb2 hc6
        have f7 := lat_cell hb2 hc7
        have f8 := lat_cell hb2 hc8
        clear hc1 hc2 hc3 hc4 hc5 hc6 hc7 hc8
        obtain ⟨q, HQ⟩ : ∃ q, Hid (decide ((⟨x1, y1, ts, us⟩ : Stm) = ⟨x2, y2, ts', us'⟩) = q) := ⟨_, rfl⟩
        have hcon : ∀ p : Lat wr, Calls Tryz.prog 130 #[.agg #[.int .i64 x1, .int .i64 y1, .slice p1 n1 c1, .slice p2 n2 c2], .agg #[.int .i64 x2, .int .i64 y2, .slice p3 n3 c3, .slice p4 n4 c4]] p.wd fun e w' => e = .returned (.bool q) ∧ Below p.wd.heap.size p.wd w' := fun p => by
          rw [← HQ.out]; exact eqStmt_any _ _ _ _ _ _ _ _ _ _ _ _ _ _ _ _ _ _ _ _ _ (hT1.below (Nat.le_refl _) p.ok) (hT2.below (Nat.le_refl _) p.ok) (hT3.below (Nat.le_refl _) p.ok) (hT4.below (Nat.le_refl _) p.ok)
        have HC := Lib.hid hcon
        clear hcon hT1 hT2 hT3 hT4
        cases q with
        | true =>
          have HE := Lib.hid (of_decide_eq_true HQ.out)
          go_wp2
          refine wp_region_lat (by kernel_rfl) (by kernel_rfl) ?_
          repeat (quiet_step ((go_at_call 130; exact lat_calls (HC.out _))))
          refine wpQuiet_nil ?_
          intro _ hw'
          obtain ⟨⟨wq, hwq⟩, hw''⟩ := hw'
          subst hw''
          have ht := hbel.trans (hwq.mono hbel.size)
          clear f1 f2 f3 f4 f5 f6 f7 f8 HC
          go_wp2
          go_roundw
          case rel => exact ⟨k + 1, by omega, by go_num, hg.succ hxk hyk HE.out, ht⟩
          case measure => simp [intOf]; omega
        | false =>
          have HE := Lib.hid (of_decide_eq_false HQ.out)
          go_wp2
          refine wp_region_lat (by kernel_rfl) (by kernel_rfl) ?_
          repeat (quiet_step ((go_at_call 130; exact lat_calls (HC.out _))))
          refine wpQuiet_nil ?_
          intro _ hw'
          obtain ⟨⟨wq, hwq⟩, hw''⟩ := hw'
          subst hw''
          have ht := hbel.trans (hwq.mono hbel.size)
          clear f1 f2 f3 f4 f5 f6 f7 f8 HC
          go_wp2
          go_ret
          exact ⟨ret_bool (decide_eq_false (fun h => HE.out (by rw [← hxk.out, ← hyk.out, h]))).symm, ht⟩
      · obtain rfl : n = k := by omega
        go_wp2
        go_ret
        exact ⟨ret_bool (decide_eq_true (eqSt_all (HL.out.trans HM.out.symm) (by rw [HL.out]; exact hg))).symm, hbel⟩
  · have hne : ((n : Int) != (m : Int)) = true := by simp; omega
    go_enter Tryz.func77, Tryz.ntmps77
    go_wp2
    go_ret
    exact ⟨ret_bool (decide_eq_false (fun h => hnm (by rw [← HL.out, ← HM.out, h]))).symm, Below.refl _ _⟩
end Go.Proofs.YtbnpoliogldohaaGreat
/- The contracts of the laws' own helpers on slices of numbers: a copy (toInt64S), a comparison (eqInt64S), marks written into a slice (markInt64S), marks asked for (heldInt64S). -/
namespace Go.Proofs.YtbnpoliogldohaaGreat
open Go.RowKit

theorem info_int64 : (Tryz.prog.info? 2).map (fun i => (i.zero, i.size, i.bytes)) = some (some (.int .i64 0), 1, 8) := by kernel_rfl

theorem eqTo_all {xs ys : List Int} (hl : xs.length = ys.length) (h : ∀ i, i < xs.length → xs.getD i 0 = ys.getD i 0) : xs = ys := by
  apply List.ext_getElem hl
  intro i h1 h2
  have := h i h1
  simpa [List.getD_eq_getElem?_getD, h1, h2] using this

/-- The first k are alike. -/
def EqTo (xs ys : List Int) (k : Nat) : Prop := ∀ i, i < k → xs.getD i 0 = ys.getD i 0
theorem EqTo.zero (xs ys : List Int) : EqTo xs ys 0 := fun i hi => absurd hi (by omega)
theorem EqTo.succ {xs ys : List Int} {k : Nat} {x y : Int} (h : EqTo xs ys k) (hx : Hid (x = xs.getD k 0)) (hy : Hid (y = ys.getD k 0)) (e : x = y) : EqTo xs ys (k + 1) := by
  intro i hi
  rcases Nat.lt_or_ge i k with hlt | hge
  · exact h i hlt
  · have : i = k := by omega
    subst this; rw [← hx.out, ← hy.out]; exact e

set_option maxHeartbeats 400000 in
theorem eqInt64S_any (a b : Option Addr) (n m c d : Nat) (xs ys : List Int) (w : World) (hx : Ints w a n xs) (hy : Ints w b m ys) :
    Calls Tryz.prog 27 #[.slice a n c, .slice b m d] w fun e w' => e = .returned (.bool (decide (xs = ys))) ∧ ∃ j, w' = w.drewN j := by
  have HL := Lib.hid hx.1
  have HM := Lib.hid hy.1
  have hbd := hx.2.1
  have hbe := hy.2.1
  by_cases hnm : n = m
  · subst hnm
    have hne0 : ((n : Int) != (n : Int)) = false := by simp
    go_enter Tryz.func27, Tryz.ntmps27
    go_wp2
    go_loopw [5] (fun i wr => ∃ k : Nat, k ≤ n ∧ i = .int .i64 k ∧ EqTo xs ys k ∧ ∃ j, wr = w.drewN j) (fun i _ => n - (intOf i).toNat)
    case atStart => exact ⟨0, Nat.zero_le _, rfl, EqTo.zero _ _, 0, rfl⟩
    case round =>
      obtain ⟨k, hk, rfl, hg, j, rfl⟩ := hrel
      by_cases hlt : k < n
      · obtain ⟨b1, o1, x, rfl, hb1, hxk, hin1, hc1⟩ := hx.at_ hlt
        obtain ⟨b2, o2, y, rfl, hb2, hyk, hin2, hc2⟩ := hy.at_ hlt
        have hd1 : (w.drewN j).cell? ⟨b1, o1 + k, none⟩ = some (.int .i64 x) := hc1
        have hd2 : (w.drewN j).cell? ⟨b2, o2 + k, none⟩ = some (.int .i64 y) := hc2
        by_cases e : x = y
        · subst e
          go_wp2
          go_quiet (fail)
          go_wp2
          go_roundw
          case rel => exact ⟨k + 1, by omega, by go_num, hg.succ hxk hyk rfl, _, rfl⟩
          case measure => simp [intOf]; omega
        · have hne : (x != y) = true := by simpa using e
          go_wp2
          go_quiet (fail)
          go_wp2
          go_ret
          exact ⟨ret_bool (decide_eq_false (fun h => e (by rw [hxk.out, hyk.out, h]))).symm, _, World.drewN_drewN _ _ _⟩
      · obtain rfl : n = k := by omega
        go_wp2
        go_ret
        exact ⟨ret_bool (decide_eq_true (eqTo_all (HL.out.trans HM.out.symm) (by rw [HL.out]; exact hg))).symm, _, rfl⟩
  · have hne : ((n : Int) != (m : Int)) = true := by simp; omega
    go_enter Tryz.func27, Tryz.ntmps27
    go_wp2
    go_ret
    exact ⟨ret_bool (decide_eq_false (fun h => hnm (by rw [← HL.out, ← HM.out, h]))).symm, 0, rfl⟩

/-- The first k of zs, noughts behind. -/
def CopyTo (zs : List Int) (n k : Nat) : List Int := zs.take k ++ List.replicate (n - k) 0
theorem copyTo_zero (zs : List Int) (n : Nat) : CopyTo zs n 0 = List.replicate n 0 := by simp [CopyTo]
theorem copyTo_all {zs : List Int} {n : Nat} (h : zs.length = n) : CopyTo zs n n = zs := by subst h; simp [CopyTo]
theorem copyTo_succ {zs : List Int} {n k : Nat} {z : Int} (h : zs.length = n) (hk : k < n) (hz : Hid (z = zs.getD k 0)) : (CopyTo zs n k).set k z = CopyTo zs n (k + 1) := by
  subst h
  have e : z = zs[k] := by rw [hz.out]; simp [List.getD_eq_getElem?_getD, hk]
  subst e
  apply List.ext_getElem?
  intro i
  unfold CopyTo
  rw [List.getElem?_set]
  by_cases hi : k = i
  · subst hi
    have h1 : k < (zs.take k ++ List.replicate (zs.length - k) 0).length := by simp; omega
    rw [if_pos rfl, if_pos h1, List.getElem?_append_left (by simp; omega)]
    simp
  · rw [if_neg hi]
    simp only [List.getElem?_append, List.length_take, List.getElem?_take, List.getElem?_replicate, Nat.min_eq_left (show k ≤ zs.length by omega), Nat.min_eq_left (show k + 1 ≤ zs.length by omega)]
    repeat' split
    all_goals first | rfl | omega

set_option maxHeartbeats 400000 in
theorem toInt64S_any (a : Option Addr) (n c : Nat) (zs : List Int) (w : World) (h : Ints w a n zs) :
    Calls Tryz.prog 74 #[.slice a n c] w (MadeInts w zs) := by
  have HL := Lib.hid h.1
  have hbd := h.2.1
  obtain ⟨i0, hi, hz0, hz1, hz2⟩ := info_parts info_int64
  have HI := Lib.hid hi
  have HZ0 := Lib.hid hz0
  have HZ1 := Lib.hid hz1
  have HZ2 := Lib.hid hz2
  clear hi hz0 hz1 hz2
  go_enter Tryz.func74, Tryz.ntmps74
  go_wp2_with (at_make; refine wpList_make_full _ rfl _ _ 25 rfl w.heap.size 2 i0 (.int .i64 0) 1 Tryz.underlying25 HI.out HZ0.out HZ1.out _ _ _ _ n rfl rfl rfl rfl ?b2 ?b3 ?b4 ?_)
  case b2 => rw [HZ2.out]; omega
  case b3 => unfold maxLen; omega
  case b4 => exact Nat.le_refl _
  intro w1 hown hgrow
  have hb1 : Below w.heap.size w w1 := (Below.refl _ _).grown hgrow (Nat.le_refl _) (fun k hk => by cases hk)
  have hsz : w.heap.size < w1.heap.size := (hown.lt w.heap.size rfl).2
  have HO : w1.ownsRow w.heap.size 2 1 (.slice (some ⟨w.heap.size, 0, none⟩) n n) n ((CopyTo zs n 0).map (Value.int .i64)) := by
    rw [copyTo_zero]
    have e : (madeCells #[Value.int IntKind.i64 0] n).toList = (List.replicate n (0 : Int)).map (Value.int .i64) := by
      rw [toList_madeCells_one]; simp
    rw [← e]; exact hown
  clear hown hgrow
  go_wp2
  go_loopw [4] (fun i wr => ∃ k : Nat, k ≤ n ∧ i = .int .i64 k ∧ wr.ownsRow w.heap.size 2 1 (.slice (some ⟨w.heap.size, 0, none⟩) n n) n ((CopyTo zs n k).map (Value.int .i64)) ∧ Below w.heap.size w wr) (fun i _ => n - (intOf i).toNat)
  case atStart => exact ⟨0, Nat.zero_le _, rfl, HO, hb1⟩
  case round =>
    clear HO hb1 hsz
    obtain ⟨k, hk, rfl, hown, hbel⟩ := hrel
    by_cases hlt : k < n
    · obtain ⟨b, o, z, rfl, hb, hz, hin, hc⟩ := h.at_ hlt
      have hc1 : wr.cell? ⟨b, o + k, none⟩ = some (.int .i64 z) := (hbel.cell (by exact hb)).trans hc
      have hc2 := own_cell hown hlt
      generalize (CopyTo zs n k).getD k 0 = y at hc2
      have hf2 := hown.frozenAt k
      have HO2 := own_put hown k z
      rw [copyTo_succ HL.out hlt hz] at HO2
      have hbel2 : Below w.heap.size w (wr.setCell ⟨w.heap.size, k, none⟩ (.int .i64 z)) := hbel.setCell (Nat.le_refl _) _
      clear hc hown hbel
      go_wp2
      go_roundw
      case rel => exact ⟨k + 1, by omega, by go_num, HO2, hbel2⟩
      case measure => simp [intOf]; omega
    · obtain rfl : n = k := by omega
      go_wp2
      go_ret
      rw [copyTo_all HL.out] at hown
      exact ⟨_, _, _, rfl, ⟨hown, hbd, h.2.2.1⟩, hbel⟩

/-- The marks k, k + 1, .. -/
def marks (k : Int) (n : Nat) : List Int := (List.range n).map (fun i : Nat => k + (i : Int))
theorem marks_getD (k : Int) (n i : Nat) (h : i < n) : (marks k n).getD i 0 = k + (i : Int) := by simp [marks, List.getD_eq_getElem?_getD, h]
theorem marks_mem {k z : Int} {n : Nat} (h : z ∈ marks k n) : k ≤ z ∧ z < k + n := by
  obtain ⟨i, hi, rfl⟩ := List.mem_map.1 h
  have := List.mem_range.1 hi
  exact ⟨by omega, by omega⟩
/-- The first j marks written over zs. -/
def MarkTo (zs : List Int) (k : Int) (j : Nat) : List Int := marks k j ++ zs.drop j
theorem markTo_zero (zs : List Int) (k : Int) : MarkTo zs k 0 = zs := by simp [MarkTo, marks]
theorem markTo_all {zs : List Int} {n : Nat} (k : Int) (h : zs.length = n) : MarkTo zs k n = marks k n := by subst h; simp [MarkTo]
theorem markTo_succ {zs : List Int} {n j : Nat} (k : Int) (h : zs.length = n) (hj : j < n) : (MarkTo zs k j).set j (k + (j : Int)) = MarkTo zs k (j + 1) := by
  subst h
  apply List.ext_getElem?
  intro i
  unfold MarkTo marks
  rw [List.getElem?_set]
  by_cases hi : j = i
  · subst hi
    have h1 : j < ((List.range j).map (fun i : Nat => k + (i : Int)) ++ zs.drop j).length := by simp; omega
    rw [if_pos rfl, if_pos h1, List.getElem?_append_left (by simp)]
    simp
  · rw [if_neg hi]
    simp only [List.getElem?_append, List.length_map, List.length_range, List.getElem?_map, List.getElem?_drop]
    by_cases h1 : i < j
    · rw [if_pos h1, if_pos (show i < j + 1 by omega), List.getElem?_range h1, List.getElem?_range (show i < j + 1 by omega)]
    · rw [if_neg h1, if_neg (show ¬ i < j + 1 by omega), show j + (i - j) = j + 1 + (i - (j + 1)) by omega]

set_option maxHeartbeats 400000 in
theorem heldInt64S_wide (a : Option Addr) (n c : Nat) (k : Nat) (w : World) (h : Ints w a n (marks k n)) (hk : k ≤ 1152921504606846976) :
    Calls Tryz.prog 31 #[.slice a n c, .int .i64 (k : Int)] w fun e w' => e = .returned (.int .i64 ((k + n : Nat) : Int)) ∧ w = w' := by
  have hbd := h.2.1
  go_enter Tryz.func31, Tryz.ntmps31
  go_wp2
  go_loop [1, 5] (fun q i => ∃ j : Nat, j ≤ n ∧ i = .int .i64 j ∧ q = .int .i64 ((k + j : Nat) : Int)) (fun _ i => n - (intOf i).toNat)
  case atStart => exact ⟨0, Nat.zero_le _, rfl, rfl⟩
  case round =>
    obtain ⟨j, hj, rfl, rfl⟩ := hrel
    by_cases hlt : j < n
    · obtain ⟨b, o, z, rfl, hb, hz, hin, hc⟩ := h.at_ hlt
      have hz2 : z = (k : Int) + (j : Int) := by rw [hz.out, marks_getD _ _ _ hlt]
      subst hz2
      clear hz hin
      go_wp2
      go_round
      case rel => exact ⟨j + 1, by omega, by go_num, by go_num⟩
      case measure => simp [intOf]; omega
    · obtain rfl : n = j := by omega
      go_wp2
      go_ret
      exact ⟨rfl, rfl⟩
end Go.Proofs.YtbnpoliogldohaaGreat
/- Words for programs (six cells: a number, two slices of Inputs, a number, a slice of numbers, a slice of Stmts); the contract of the laws' own copy of one (toProg). -/
namespace Go.Proofs.YtbnpoliogldohaaGreat
open Go.RowKit

structure Prg where
  width : Int
  lows : List Tm
  secrets : List Tm
  temps : Int
  arrays : List Int
  body : List Stm
deriving DecidableEq
/-- Its six cells, and the cells of its statements. -/
structure PRow where
  width : Int
  lows : Sl
  secrets : Sl
  temps : Int
  arrays : Sl
  body : Sl
  rows : List SRow
def progV (r : PRow) : Value := .agg #[.int .i64 r.width, slV r.lows, slV r.secrets, .int .i64 r.temps, slV r.arrays, slV r.body]

/-- The cells r read as the program p. -/
structure ProgAt (w : World) (r : PRow) (p : Prg) : Prop where
  width : r.width = p.width
  temps : r.temps = p.temps
  inW : In64 p.width
  inT : In64 p.temps
  lows : Terms w r.lows.1 r.lows.2.1 p.lows
  secrets : Terms w r.secrets.1 r.secrets.2.1 p.secrets
  arrays : Ints w r.arrays.1 r.arrays.2.1 p.arrays
  body : Stmts w r.body.1 r.body.2.1 r.rows p.body
theorem ProgAt.below {w w' : World} {r : PRow} {p : Prg} (h : ProgAt w r p) (hb : Below w.heap.size w w') : ProgAt w' r p :=
  ⟨h.width, h.temps, h.inW, h.inT, h.lows.below (Nat.le_refl _) hb, h.secrets.below (Nat.le_refl _) hb, h.arrays.below hb, h.body.below hb⟩
/-- .. of the call's own, from block B on. -/
structure OwnProg (w : World) (B : Nat) (r : PRow) (p : Prg) : Prop where
  width : r.width = p.width
  temps : r.temps = p.temps
  inW : In64 p.width
  inT : In64 p.temps
  lows : OwnI w B r.lows.1 r.lows.2.1 r.lows.2.2 p.lows
  secrets : OwnI w B r.secrets.1 r.secrets.2.1 r.secrets.2.2 p.secrets
  arrays : Own w B r.arrays.1 r.arrays.2.1 r.arrays.2.2 p.arrays
  body : OwnStmts w B r.body.1 r.body.2.1 r.body.2.2 r.rows p.body
  apart : ∀ g, (slV r.lows).ownBlock = some g → (slV r.secrets).ownBlock ≠ some g
theorem OwnProg.reads {w : World} {B : Nat} {r : PRow} {p : Prg} (h : OwnProg w B r p) : ProgAt w r p :=
  ⟨h.width, h.temps, h.inW, h.inT, h.lows.terms, h.secrets.terms, h.arrays.ints, h.body.reads⟩
theorem OwnProg.below {w w' : World} {B : Nat} {r : PRow} {p : Prg} (h : OwnProg w B r p) (hb : Below w.heap.size w w') : OwnProg w' B r p :=
  ⟨h.width, h.temps, h.inW, h.inT, h.lows.below hb, h.secrets.below hb, h.arrays.below hb, h.body.below hb, h.apart⟩
theorem OwnProg.base {w : World} {B B' : Nat} {r : PRow} {p : Prg} (h : OwnProg w B r p) (hB : B' ≤ B) : OwnProg w B' r p :=
  ⟨h.width, h.temps, h.inW, h.inT, h.lows.base hB, h.secrets.base hB, h.arrays.base hB, h.body.base hB, h.apart⟩
/-- What a function that makes the program p leaves. -/
def MadeProg (w : World) (p : Prg) (e : Ending) (w' : World) : Prop :=
  ∃ r, e = .returned (progV r) ∧ OwnProg w' w.heap.size r p ∧ Below w.heap.size w w'

theorem OwnI.set {w : World} {B : Nat} {a : Option Addr} {n c : Nat} {ts : List Tm} (h : OwnI w B a n c ts) {b j : Nat} (hb : b < B) (v : Value) : OwnI (w.setCell ⟨b, j, none⟩ v) B a n c ts :=
  h.apart (grown_set _ _ _ _) (fun g hg e => by have := (h.block g hg).1; injection e with e; omega)
theorem Own.set {w : World} {B : Nat} {a : Option Addr} {n c : Nat} {zs : List Int} (h : Own w B a n c zs) {b j : Nat} (hb : b < B) (v : Value) : Own (w.setCell ⟨b, j, none⟩ v) B a n c zs :=
  h.other (grown_set _ _ _ _) (fun g e => by injection e with e; omega)
theorem OwnStmts.set {w : World} {B : Nat} {a : Option Addr} {n c : Nat} {rs : List SRow} {ss : List Stm} (h : OwnStmts w B a n c rs ss) {b j : Nat} (hb : b < B) (v : Value) : OwnStmts (w.setCell ⟨b, j, none⟩ v) B a n c rs ss := by
  refine ⟨h.1.kept (grown_set _ _ _ _) ?_, h.2.1, h.2.2.1, fun i hi => (h.2.2.2.1 i hi).set hb v, h.2.2.2.2⟩
  cases hv : (Value.slice a n c).ownBlock with
  | none => exact .inl rfl
  | some g =>
    refine .inr fun e => ?_
    have := (h.block g hv).1
    injection e with e
    omega

/-- The three blocks of a call of toProg: the argument's, the result's, the variable's. -/
structure PBox (w wi : World) (c0 c1 c2 : List Value) : Prop where
  arg : Blk wi w.heap.size 49 c0
  res : Blk wi (w.heap.size + 1) 28 c1
  out : Blk wi (w.heap.size + 2) 28 c2
  bel : Below w.heap.size w wi
theorem PBox.below {w wi wj : World} {c0 c1 c2 : List Value} (h : PBox w wi c0 c1 c2) (hb : Below wi.heap.size wi wj) : PBox w wj c0 c1 c2 :=
  ⟨h.arg.below hb h.arg.lt, h.res.below hb h.res.lt, h.out.below hb h.out.lt, h.bel.trans (hb.mono h.bel.size)⟩
theorem PBox.set {w wi : World} {c0 c1 c2 : List Value} (h : PBox w wi c0 c1 c2) (j : Nat) (v : Value) : PBox w (wi.setCell ⟨w.heap.size + 2, j, none⟩ v) c0 c1 (c2.set j v) :=
  ⟨h.arg.other (by omega) v, h.res.other (by omega) v, h.out.set v, below_set h.bel (by omega) v⟩
theorem PBox.lt {w wi : World} {c0 c1 c2 : List Value} (h : PBox w wi c0 c1 c2) : w.heap.size + 2 < wi.heap.size := h.out.lt
theorem pbox_new (w : World) (c0 c1 c2 : List Value) : PBox w (((w.alloc (.cells c0.toArray 49)).alloc (.cells c1.toArray 28)).alloc (.cells c2.toArray 28)) c0 c1 c2 :=
  ⟨((Blk.new w _ _).alloc _).alloc _, (by simpa using Blk.new (w.alloc _) 28 c1 : Blk _ _ _ _).alloc _, by simpa using Blk.new ((w.alloc _).alloc _) 28 c2, (((Below.refl _ _).alloc (Nat.le_refl _) _).alloc (by simp) _).alloc (by simp; omega) _⟩

set_option maxHeartbeats 3200000 in
theorem toProg_any (r : PRow) (p : Prg) (w : World) (h : ProgAt w r p) :
    Calls Tryz.prog 26 #[progV r] w (MadeProg w p) := by
  obtain ⟨wd, ⟨a1, n1, c1⟩, ⟨a2, n2, c2⟩, tp, ⟨a3, n3, c3⟩, ⟨a4, n4, c4⟩, rows⟩ := r
  obtain ⟨pw, pl, ps, pt, pa, pb⟩ := p
  obtain ⟨e1, e2, i1, i2, h1, h2, h3, h4⟩ := h
  simp only [] at e1 e2 i1 i2 h1 h2 h3 h4
  subst e1 e2
  show Calls Tryz.prog 26 #[.agg #[.int .i64 wd, .slice a1 n1 c1, .slice a2 n2 c2, .int .i64 tp, .slice a3 n3 c3, .slice a4 n4 c4]] w _
  obtain ⟨wa, HW⟩ : ∃ wa, Hid (wa = (((w.alloc (.cells #[.int .i64 wd, .slice a1 n1 c1, .slice a2 n2 c2, .int .i64 tp, .slice a3 n3 c3, .slice a4 n4 c4] 49)).alloc (.cells #[.int .i64 0, .slice none 0 0, .slice none 0 0, .int .i64 0, .slice none 0 0, .slice none 0 0] 28)).alloc (.cells #[.int .i64 wd, .slice none 0 0, .slice none 0 0, .int .i64 0, .slice none 0 0, .slice none 0 0] 28))) := ⟨_, rfl⟩
  have BX : PBox w wa [.int .i64 wd, .slice a1 n1 c1, .slice a2 n2 c2, .int .i64 tp, .slice a3 n3 c3, .slice a4 n4 c4] [.int .i64 0, .slice none 0 0, .slice none 0 0, .int .i64 0, .slice none 0 0, .slice none 0 0] [.int .i64 wd, .slice none 0 0, .slice none 0 0, .int .i64 0, .slice none 0 0, .slice none 0 0] := by rw [HW.out]; exact pbox_new w _ _ _
  go_enter Tryz.func26, Tryz.ntmps26
  go_wp2_with fail
  rw [← HW.out]
  refine (toInputS_any _ _ _ _ _ (h1.below (Nat.le_refl _) BX.bel)).mono ?_
  rintro e w1 ⟨p1, m1, d1, rfl, ho1, hb1⟩
  have B1 := BX.below hb1
  have l1 := BX.lt
  clear HW BX hb1 h1
  have f0 := B1.arg.cell (j := 2) rfl
  have f1 := B1.out.cell (j := 1) rfl
  have f2 := B1.out.frozen 1
  go_wp2_with fail
  obtain ⟨wb, HW⟩ : ∃ wb, Hid (wb = w1.setCell ⟨w.heap.size + 2, 1, none⟩ (.slice p1 m1 d1)) := ⟨_, rfl⟩
  rw [show w.heap.size + 1 + 1 = w.heap.size + 2 from rfl, ← HW.out]
  have C1 := B1.set 1 (.slice p1 m1 d1)
  have o1 := ho1.set (j := 1) l1 (.slice p1 m1 d1)
  rw [← HW.out] at C1 o1
  clear HW B1 ho1 f0 f1 f2
  refine (toInputS_any _ _ _ _ _ (h2.below (Nat.le_refl _) C1.bel)).mono ?_
  rintro e w2 ⟨p2, m2, d2, rfl, ho2, hb2⟩
  have hap : ∀ g, (Value.slice p1 m1 d1).ownBlock = some g → (Value.slice p2 m2 d2).ownBlock ≠ some g := fun g h1 h2 => by
    have := (o1.block g h1).2
    have := (ho2.block g h2).1
    omega
  have HA := Lib.hid hap
  have B2 := C1.below hb2
  have l2 := C1.lt
  have o1 := o1.below hb2
  clear C1 hb2 h2 hap
  have f0 := B2.arg.cell (j := 3) rfl
  have f1 := B2.out.cell (j := 2) rfl
  have f2 := B2.out.frozen 2
  have f3 := B2.arg.cell (j := 4) rfl
  have f4 := B2.out.cell (j := 3) rfl
  have f5 := B2.out.frozen 3
  go_wp2_with fail
  obtain ⟨wc, HW⟩ : ∃ wc, Hid (wc = (w2.setCell ⟨w.heap.size + 2, 2, none⟩ (.slice p2 m2 d2)).setCell ⟨w.heap.size + 2, 3, none⟩ (.int .i64 tp)) := ⟨_, rfl⟩
  rw [show w.heap.size + 1 + 1 = w.heap.size + 2 from rfl, ← HW.out]
  have C2 := (B2.set 2 (.slice p2 m2 d2)).set 3 (.int .i64 tp)
  have o1 := (o1.set (j := 2) l1 (.slice p2 m2 d2)).set (j := 3) l1 (.int .i64 tp)
  have o2 := (ho2.set (j := 2) l2 (.slice p2 m2 d2)).set (j := 3) l2 (.int .i64 tp)
  rw [← HW.out] at C2 o1 o2
  clear HW B2 ho2 f0 f1 f2 f3 f4 f5
  refine (toInt64S_any _ _ _ _ _ (h3.below C2.bel)).mono ?_
  rintro e w3 ⟨p3, m3, d3, rfl, ho3, hb3⟩
  have B3 := C2.below hb3
  have l3 := C2.lt
  have o1 := o1.below hb3
  have o2 := o2.below hb3
  clear C2 hb3 h3
  have f0 := B3.arg.cell (j := 5) rfl
  have f1 := B3.out.cell (j := 4) rfl
  have f2 := B3.out.frozen 4
  go_wp2_with fail
  obtain ⟨wd', HW⟩ : ∃ wd', Hid (wd' = w3.setCell ⟨w.heap.size + 2, 4, none⟩ (.slice p3 m3 d3)) := ⟨_, rfl⟩
  rw [show w.heap.size + 1 + 1 = w.heap.size + 2 from rfl, ← HW.out]
  have C3 := B3.set 4 (.slice p3 m3 d3)
  have o1 := o1.set (j := 4) l1 (.slice p3 m3 d3)
  have o2 := o2.set (j := 4) l2 (.slice p3 m3 d3)
  have o3 := ho3.set (j := 4) l3 (.slice p3 m3 d3)
  rw [← HW.out] at C3 o1 o2 o3
  clear HW B3 ho3 f0 f1 f2
  refine (toStmtS_any _ _ _ _ _ _ (h4.below C3.bel)).mono ?_
  rintro e w4 ⟨p4, m4, d4, rs, rfl, o4, hb4⟩
  have B4 := C3.below hb4
  have l4 := C3.lt
  have o1 := o1.below hb4
  have o2 := o2.below hb4
  have o3 := o3.below hb4
  clear C3 hb4 h4
  have a0 := B4.res.cell (j := 0) rfl
  have a1 := B4.res.cell (j := 1) rfl
  have a2 := B4.res.cell (j := 2) rfl
  have a3 := B4.res.cell (j := 3) rfl
  have a4 := B4.res.cell (j := 4) rfl
  have a5 := B4.res.cell (j := 5) rfl
  have z0 := B4.res.frozen 0
  have z1 := B4.res.frozen 1
  have z2 := B4.res.frozen 2
  have z3 := B4.res.frozen 3
  have z4 := B4.res.frozen 4
  have z5 := B4.res.frozen 5
  have e0 := B4.out.cell (j := 0) rfl
  have e1 := B4.out.cell (j := 1) rfl
  have e2 := B4.out.cell (j := 2) rfl
  have e3 := B4.out.cell (j := 3) rfl
  have e4 := B4.out.cell (j := 4) rfl
  have e5 := B4.out.cell (j := 5) rfl
  have e6 := B4.out.frozen 5
  have HB := Lib.hid B4.bel
  clear B4
  go_wp2
  refine bodyPost_ret (v := .agg #[.int .i64 wd, .slice p1 m1 d1, .slice p2 m2 d2, .int .i64 tp, .slice p3 m3 d3, .slice p4 m4 d4]) (by simp [results, Tryz.results26, go_sem, a0, a1, a2, a3, a4, a5]) rfl ?_
  have g1 : w.heap.size + 1 < wa.heap.size := by omega
  have g2 : w.heap.size + 1 < wb.heap.size := by omega
  have g3 : w.heap.size + 1 < wc.heap.size := by omega
  have g4 : w.heap.size + 1 < wd'.heap.size := by omega
  exact ⟨⟨wd, (p1, m1, d1), (p2, m2, d2), tp, (p3, m3, d3), (p4, m4, d4), rs⟩, rfl,
    ⟨rfl, rfl, i1, i2, (((((((o1.set l1 _).set g1 _).set g1 _).set g1 _).set g1 _).set g1 _).set g1 _).base (by omega), (((((((o2.set l2 _).set g2 _).set g2 _).set g2 _).set g2 _).set g2 _).set g2 _).base (by omega), (((((((o3.set l3 _).set g3 _).set g3 _).set g3 _).set g3 _).set g3 _).set g3 _).base (by omega), (((((((o4.set l4 _).set g4 _).set g4 _).set g4 _).set g4 _).set g4 _).set g4 _).base (by omega), HA.out⟩,
    below_set (below_set (below_set (below_set (below_set (below_set (below_set HB.out (by omega) _) (by omega) _) (by omega) _) (by omega) _) (by omega) _) (by omega) _) (by omega) _⟩
end Go.Proofs.YtbnpoliogldohaaGreat
/- The contracts of the laws' own comparison of programs (eqProg), and of what measures them (szStmt, szStmtS, szProg). -/
namespace Go.Proofs.YtbnpoliogldohaaGreat
open Go.RowKit

/-- The two blocks of a call of eqProg. -/
structure QBox (w wi : World) (c0 c1 : List Value) : Prop where
  one : Blk wi w.heap.size 28 c0
  two : Blk wi (w.heap.size + 1) 28 c1
  bel : Below w.heap.size w wi
theorem QBox.below {w wi wj : World} {c0 c1 : List Value} (h : QBox w wi c0 c1) (hb : Below wi.heap.size wi wj) : QBox w wj c0 c1 :=
  ⟨h.one.below hb h.one.lt, h.two.below hb h.two.lt, h.bel.trans (hb.mono h.bel.size)⟩
theorem qbox_new (w : World) (c0 c1 : List Value) : QBox w ((w.alloc (.cells c0.toArray 28)).alloc (.cells c1.toArray 28)) c0 c1 :=
  ⟨(Blk.new w _ _).alloc _, by simpa using Blk.new (w.alloc _) 28 c1, ((Below.refl _ _).alloc (Nat.le_refl _) _).alloc (by simp) _⟩
theorem prg_ne {p q : Prg} (h : ¬ (p.width = q.width ∧ p.lows = q.lows ∧ p.secrets = q.secrets ∧ p.temps = q.temps ∧ p.arrays = q.arrays ∧ p.body = q.body)) : decide (p = q) = false :=
  decide_eq_false (fun e => h (by subst e; exact ⟨rfl, rfl, rfl, rfl, rfl, rfl⟩))
set_option maxHeartbeats 3200000 in
theorem eqProg_any (r q : PRow) (p p' : Prg) (w : World) (h : ProgAt w r p) (h' : ProgAt w q p') :
    Calls Tryz.prog 28 #[progV r, progV q] w fun e w' => e = .returned (.bool (decide (p = p'))) ∧ Below w.heap.size w w' := by
  obtain ⟨wd, ⟨a1, n1, c1⟩, ⟨a2, n2, c2⟩, tp, ⟨a3, n3, c3⟩, ⟨a4, n4, c4⟩, rows⟩ := r
  obtain ⟨wd', ⟨b1, m1, d1⟩, ⟨b2, m2, d2⟩, tp', ⟨b3, m3, d3⟩, ⟨b4, m4, d4⟩, rows'⟩ := q
  obtain ⟨pw, pl, ps, pt, pa, pb⟩ := p
  obtain ⟨pw', pl', ps', pt', pa', pb'⟩ := p'
  obtain ⟨e1, e2, i1, i2, h1, h2, h3, h4⟩ := h
  obtain ⟨e1', e2', i1', i2', h1', h2', h3', h4'⟩ := h'
  simp only [] at e1 e2 i1 i2 h1 h2 h3 h4 e1' e2' i1' i2' h1' h2' h3' h4'
  subst e1 e2 e1' e2'
  show Calls Tryz.prog 28 #[.agg #[.int .i64 wd, .slice a1 n1 c1, .slice a2 n2 c2, .int .i64 tp, .slice a3 n3 c3, .slice a4 n4 c4], .agg #[.int .i64 wd', .slice b1 m1 d1, .slice b2 m2 d2, .int .i64 tp', .slice b3 m3 d3, .slice b4 m4 d4]] w _
  obtain ⟨wa, HW⟩ : ∃ wa, Hid (wa = ((w.alloc (.cells #[.int .i64 wd, .slice a1 n1 c1, .slice a2 n2 c2, .int .i64 tp, .slice a3 n3 c3, .slice a4 n4 c4] 28)).alloc (.cells #[.int .i64 wd', .slice b1 m1 d1, .slice b2 m2 d2, .int .i64 tp', .slice b3 m3 d3, .slice b4 m4 d4] 28))) := ⟨_, rfl⟩
  have BX : QBox w wa [.int .i64 wd, .slice a1 n1 c1, .slice a2 n2 c2, .int .i64 tp, .slice a3 n3 c3, .slice a4 n4 c4] [.int .i64 wd', .slice b1 m1 d1, .slice b2 m2 d2, .int .i64 tp', .slice b3 m3 d3, .slice b4 m4 d4] := by rw [HW.out]; exact qbox_new w _ _
  by_cases ew : wd = wd'
  · subst ew
    have hne0 : (wd != wd) = false := by simp
    go_enter Tryz.func28, Tryz.ntmps28
    go_wp2_with fail
    rw [← HW.out]
    refine (eqInputS_any _ _ _ _ _ _ _ _ _ (h1.below (Nat.le_refl _) BX.bel) (h1'.below (Nat.le_refl _) BX.bel)).mono ?_
    rintro e w1 ⟨rfl, hb1⟩
    have B1 := BX.below hb1
    clear BX HW hb1 h1 h1' hne0
    by_cases el : pl = pl'
    · subst el
      rw [decide_eq_true (rfl : pl = pl)]
      have f0 := B1.one.cell (j := 2) rfl
      have f1 := B1.two.cell (j := 2) rfl
      go_wp2_with fail
      refine (eqInputS_any _ _ _ _ _ _ _ _ _ (h2.below (Nat.le_refl _) B1.bel) (h2'.below (Nat.le_refl _) B1.bel)).mono ?_
      rintro e w2 ⟨rfl, hb2⟩
      have B2 := B1.below hb2
      clear B1 hb2 h2 h2' f0 f1
      by_cases es : ps = ps'
      · subst es
        rw [decide_eq_true (rfl : ps = ps)]
        have f0 := B2.one.cell (j := 3) rfl
        have f1 := B2.two.cell (j := 3) rfl
        by_cases et : tp = tp'
        · subst et
          have hne0 : (tp != tp) = false := by simp
          have f2 := B2.one.cell (j := 4) rfl
          have f3 := B2.two.cell (j := 4) rfl
          go_wp2_with fail
          refine (eqInt64S_any _ _ _ _ _ _ _ _ _ (h3.below B2.bel) (h3'.below B2.bel)).mono ?_
          rintro e w3 ⟨rfl, j, rfl⟩
          have B3 : QBox w (w2.drewN j) _ _ := ⟨B2.one, B2.two, below_dn B2.bel j⟩
          clear B2 h3 h3' f0 f1 f2 f3 hne0
          by_cases ea : pa = pa'
          · subst ea
            rw [decide_eq_true (rfl : pa = pa)]
            have f0 := B3.one.cell (j := 5) rfl
            have f1 := B3.two.cell (j := 5) rfl
            go_wp2_with fail
            refine (eqStmtS_any _ _ _ _ _ _ _ _ _ _ _ (h4.below B3.bel) (h4'.below B3.bel)).mono ?_
            rintro e w4 ⟨rfl, hb4⟩
            have hbel := B3.bel.trans (hb4.mono B3.bel.size)
            clear B3 hb4 h4 h4' f0 f1
            by_cases eb : pb = pb'
            · subst eb
              rw [decide_eq_true (rfl : pb = pb)]
              go_wp2
              go_ret
              exact ⟨ret_bool (by simp), hbel⟩
            · rw [decide_eq_false eb]
              go_wp2
              go_ret
              exact ⟨ret_bool (prg_ne (fun h => eb h.2.2.2.2.2)).symm, hbel⟩
          · rw [decide_eq_false ea]
            go_wp2
            go_ret
            exact ⟨ret_bool (prg_ne (fun h => ea h.2.2.2.2.1)).symm, B3.bel⟩
        · have hne0 : (tp != tp') = true := by simpa using et
          go_wp2
          go_ret
          exact ⟨ret_bool (prg_ne (fun h => et h.2.2.2.1)).symm, B2.bel⟩
      · rw [decide_eq_false es]
        go_wp2
        go_ret
        exact ⟨ret_bool (prg_ne (fun h => es h.2.2.1)).symm, B2.bel⟩
    · rw [decide_eq_false el]
      go_wp2
      go_ret
      exact ⟨ret_bool (prg_ne (fun h => el h.2.1)).symm, B1.bel⟩
  · have hne1 : (wd != wd') = true := by simpa using ew
    go_enter Tryz.func28, Tryz.ntmps28
    go_wp2
    go_ret
    exact ⟨ret_bool (prg_ne (fun h => ew h.1)).symm, by rw [← HW.out]; exact BX.bel⟩
end Go.Proofs.YtbnpoliogldohaaGreat
