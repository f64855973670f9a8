/- Joined texts of this proof (DrawTerm, AnyStmts), in build order. -/
import Derived.Test.YtmooecbdpfhnlaaT19
import Derived.Test.YtmooecbdpfhnlaaT3
import Derived.Test.YtmooecbdpfhnlaaT1
import Derived.Test.YtmooecbdpfhnlaaT4
import Derived.Deep.DeepCutAuto
import Derived.Test.YtmooecbdpfhnlaaT5
/- The contracts of the model's draws of expressions. What is drawn is not told, only how long it is at most. -/
namespace Go.Proofs.Ytmooecbdpfhnlaa
open Go.RowKit

/-- Terms were drawn: of at least one and at most m; the cursor has gone on, all else stands. -/
def DrewT (w : World) (p m : Nat) (e : Ending) (w' : World) : Prop :=
  ∃ a n c ts, e = .returned (.slice a n c) ∧ 1 ≤ n ∧ n ≤ m ∧ OwnT w' w.heap.size a n c ts ∧ Cur w' p ∧ w.grownBy w' (some p)

/-- How long an expression of that depth is at most. -/
def longest : Nat → Nat
  | 0 => 1
  | d + 1 => 3 * longest d + 1
theorem inTm_small {x y : Int} (h0 : -1000000 ≤ x) (h1 : x ≤ 1000000) (h2 : -1000000 ≤ y) (h3 : y ≤ 1000000) : InTm (x, y) := ⟨⟨by simp only []; omega, by simp only []; omega⟩, ⟨by simp only []; omega, by simp only []; omega⟩⟩
theorem ownT_one (w : World) (B : Nat) (x y : Int) (h : InTm (x, y)) (hB : B ≤ w.heap.size) : OwnT (w.alloc (.cells #[.int .i64 x, .int .i64 y] 94)) B (some ⟨w.heap.size, 0, none⟩) 1 1 [(x, y)] :=
  ⟨World.ownsRow_lit w #[.int .i64 x, .int .i64 y] 1 hB (by unfold maxLen; omega) rfl, by omega, fun t ht => by rw [List.mem_singleton] at ht; subst ht; exact h⟩
theorem ownT_some {w : World} {B : Nat} {a : Option Addr} {n c : Nat} {ts : List Tm} (h : OwnT w B a n c ts) (hp : 1 ≤ n) : ∃ g, a = some ⟨g, 0, none⟩ ∧ B ≤ g ∧ g < w.heap.size := by
  rcases h.1.2 with ⟨_, h0⟩ | ⟨g, cap, cur, e, hb, hg, _⟩
  · omega
  · exact ⟨g, by injection e, hb, (Array.getElem?_eq_some_iff.1 hg).1⟩
theorem ownT_empty (w : World) (B : Nat) (hB : B ≤ w.heap.size) : OwnT (w.alloc (.cells #[] 94)) B (some ⟨w.heap.size, 0, none⟩) 0 0 [] := ⟨own_emptyT w B hB, by omega, fun t ht => by simp at ht⟩

/-- 'append(out, xs...)' of Terms. -/
theorem wpList_concatT {ops : Array Oper} {rest : List Oper} {o : Oper} {ac : Act} {Q : Exit → Act → World → Prop} (w : World) (hgd : o.guard = none) (s x : Operand)
    (ho : o.op = .call { callee := .builtin .append, args := #[s, x], argTypes := #[44, 44] })
    (B : Nat) (a : Option Addr) (n c : Nat) (ts : List Tm) (hs : ac.eval s = .slice a n c) (hown : OwnT w B a n c ts)
    (b off m c2 : Nat) (us : List Tm) (hx : ac.eval x = .slice (some ⟨b, off, none⟩) m c2) (hi2 : Terms w (some ⟨b, off, none⟩) m us) (hn : n + m ≤ 1048576) (hB : B ≤ w.heap.size)
    (h : ∀ a1 c1 w', OwnT w' B a1 (n + m) c1 (ts ++ us) → GrowsTo w (.slice a n c) w' (.slice a1 (n + m) c1) → wpList Try.prog ops Q rest (ac.put o.dst (.slice a1 (n + m) c1)) w') : wpList Try.prog ops Q (o :: rest) ac w := by
  refine wpList_pushG w hgd s x 44 94 (.agg #[.int .i64 0, .int .i64 0]) 2 16 ho Try.underlying44 info_term rfl (by omega) B a n c (flatV ts) hs hown.1 ⟨b, off, none⟩ m c2 (flatV us) hx (by rw [flatV_len, hi2.1]) (terms_news hi2) (flatV_one us) (by unfold maxLen; omega) (by omega) hB ?_
  intro a1 c1 w' r1 r2
  refine h a1 c1 w' ⟨by rw [flatV_append]; exact r1, hn, fun t ht => ?_⟩ r2
  rcases List.mem_append.1 ht with ht | ht
  · exact hown.2.2 t ht
  · exact hi2.2.2.1 t ht

/-- What is said of l2Draw at a depth. -/
def DrawSaid (d : Nat) : Prop := d ≤ 10 → ∀ (p : Nat) (w : World) (vars arrays most : Int) (wide : Bool), Cur w p → 0 ≤ vars → vars ≤ 256 → 0 ≤ arrays → arrays ≤ 256 → 1 ≤ most → most ≤ 256 →
  Calls Try.prog 128 #[.pointer (some ⟨p, 0, none⟩), .int .i64 vars, .int .i64 arrays, .int .i64 most, .int .i64 (d : Int), .bool wide] w (DrewT w p (longest d))

end Go.Proofs.Ytmooecbdpfhnlaa
/- Slices of Stmts of the call's own whose Stmts are not told; 'append' to them. -/
namespace Go.Proofs.Ytmooecbdpfhnlaa
open Go.RowKit

/-- A slice of Stmts of the call's own, from block B on; its Stmts' slices lie from B on, too. -/
def OwnS (w : World) (B : Nat) (a : Option Addr) (n c : Nat) (rs : List SRow) (ss : List Stm) : Prop :=
  w.ownsRow B 46 4 (.slice a n c) n (flatS rs) ∧ n ≤ 1048576 ∧ ss.length = n ∧ ∀ i, i < n → OwnStm w B (srAt rs i) (stAt ss i)
section
variable {w w' : World} {B : Nat} {r : SRow} {s : Stm} {a : Option Addr} {n c : Nat} {rs : List SRow} {ss : List Stm}
theorem OwnS.len (h : OwnS w B a n c rs ss) : rs.length = n := by have := h.1.1; rw [flatS_len] at this; omega
theorem OwnS.below (h : OwnS w B a n c rs ss) (hb : Below w.heap.size w w') : OwnS w' B a n c rs ss :=
  ⟨h.1.kept (row := none) ⟨hb.os, hb.tape, hb.output, hb.size, fun k hk _ => hb.block k hk⟩ (by cases a <;> simp [Value.ownBlock]), h.2.1, h.2.2.1, fun i hi => (h.2.2.2 i hi).below hb⟩
theorem OwnS.base {B' : Nat} (h : OwnS w B a n c rs ss) (hB : B' ≤ B) : OwnS w B' a n c rs ss := by
  refine ⟨⟨h.1.1, ?_⟩, h.2.1, h.2.2.1, fun i hi => (h.2.2.2 i hi).base hB⟩
  rcases h.1.2 with hn | ⟨g, cap, cur, e, hb, r⟩
  · exact .inl hn
  · exact .inr ⟨g, cap, cur, e, by omega, r⟩
theorem OwnS.reads (h : OwnS w B a n c rs ss) : Stmts w a n rs ss := by
  have hlen := h.len
  obtain ⟨ho, hn, hs, hi⟩ := h
  refine ⟨hlen, hs, hn, fun hp => ?_, fun i h' => (hi i h').reads⟩
  rcases ho.2 with ⟨_, h0⟩ | ⟨g, cap, cur, e, _, hh, _⟩
  · exact absurd hp (by omega)
  · have ea : a = some ⟨g, 0, none⟩ := by injection e
    subst ea
    refine ⟨g, 0, rfl, (ho.lt g rfl).2, fun i h' => ?_⟩
    have e0 := flatS_at rs i 0 (by omega) (by omega)
    have e1 := flatS_at rs i 1 (by omega) (by omega)
    have e2 := flatS_at rs i 2 (by omega) (by omega)
    have e3 := flatS_at rs i 3 (by omega) (by omega)
    rw [Nat.zero_add, ho.cellAt (i * 4) (by omega), ho.cellAt (i * 4 + 1) (by omega), ho.cellAt (i * 4 + 2) (by omega), ho.cellAt (i * 4 + 3) (by omega)]
    exact ⟨e0, e1, e2, e3⟩
theorem OwnS.block (h : OwnS w B a n c rs ss) : ∀ g, (Value.slice a n c).ownBlock = some g → B ≤ g ∧ g < w.heap.size := h.1.lt
theorem OwnS.cap (h : OwnS w B a n c rs ss) : n ≤ c := by
  rcases h.1.2 with ⟨e1, h0⟩ | ⟨g, cap, cur, e1, hb, hg, hnc, _⟩
  · injection e1 with _ e2 e3; omega
  · injection e1 with _ e2 e3; omega
/-- An elder block turns. -/
theorem OwnT.old {p : Nat} {ts : List Tm} (h : OwnT w B a n c ts) (hp : p < B) (hg : w.grownBy w' (some p)) : OwnT w' B a n c ts :=
  h.apart hg (fun g hgg e => by have := (h.block g hgg).1; injection e with e; omega)
theorem OwnStm.old {p : Nat} (h : OwnStm w B r s) (hp : p < B) (hg : w.grownBy w' (some p)) : OwnStm w' B r s :=
  ⟨h.1, h.2.1, h.2.2.1, h.2.2.2.1, h.2.2.2.2.1.old hp hg, h.2.2.2.2.2.old hp hg⟩
theorem OwnS.old {p : Nat} (h : OwnS w B a n c rs ss) (hp : p < B) (hg : w.grownBy w' (some p)) : OwnS w' B a n c rs ss := by
  refine ⟨h.1.kept hg ?_, h.2.1, h.2.2.1, fun i hi => (h.2.2.2 i hi).old hp hg⟩
  cases hv : (Value.slice a n c).ownBlock with
  | none => exact .inl rfl
  | some g => exact .inr (fun e => by have := (h.block g hv).1; injection e with e; omega)
/-- The row of Stmts itself grows: a Stmt's Terms lie elsewhere. -/
theorem addr_add (g j : Nat) : (⟨g, 0, none⟩ : Addr).add j = ⟨g, j, none⟩ := by by_cases h : j = 0 <;> simp [Addr.add, h]
theorem kinds_apart {g : Nat} {ts : List Tm} {b : Option Addr} {m d : Nat} {xs : List Value} (h : OwnT w B b m d ts) (hr : w.ownsRow B 46 4 (.slice a n c) n xs) (hg : (Value.slice a n c).ownBlock = some g) : (Value.slice b m d).ownBlock ≠ some g := by
  intro e
  obtain ⟨c1, f1, h1⟩ := Lib.ownsRow_kind h.1 g e
  obtain ⟨c2, f2, h2⟩ := Lib.ownsRow_kind hr g hg
  rw [h1] at h2
  injection h2 with h2
  injection h2 with _ h2 _
  exact absurd h2 (by decide)
theorem OwnT.rowGrew {ts : List Tm} {b : Option Addr} {m d : Nat} {xs : List Value} (h : OwnT w B b m d ts) (hr : w.ownsRow B 46 4 (.slice a n c) n xs) (hg : w.grownBy w' (Value.slice a n c).ownBlock) : OwnT w' B b m d ts :=
  h.apart hg (fun _ e e' => kinds_apart h hr e' e)
theorem OwnStm.rowGrew {xs : List Value} (h : OwnStm w B r s) (hr : w.ownsRow B 46 4 (.slice a n c) n xs) (hg : w.grownBy w' (Value.slice a n c).ownBlock) : OwnStm w' B r s :=
  ⟨h.1, h.2.1, h.2.2.1, h.2.2.2.1, h.2.2.2.2.1.rowGrew hr hg, h.2.2.2.2.2.rowGrew hr hg⟩
end
theorem srAt_append_left {a b : List SRow} {k : Nat} (h : k < a.length) : srAt (a ++ b) k = srAt a k := by simp [srAt, List.getD_eq_getElem?_getD, List.getElem?_append_left h]
theorem srAt_append_right {a b : List SRow} {k : Nat} (h : a.length ≤ k) : srAt (a ++ b) k = srAt b (k - a.length) := by simp [srAt, List.getD_eq_getElem?_getD, List.getElem?_append_right h]
theorem stAt_append_left {a b : List Stm} {k : Nat} (h : k < a.length) : stAt (a ++ b) k = stAt a k := by simp [stAt, List.getD_eq_getElem?_getD, List.getElem?_append_left h]
theorem stAt_append_right {a b : List Stm} {k : Nat} (h : a.length ≤ k) : stAt (a ++ b) k = stAt b (k - a.length) := by simp [stAt, List.getD_eq_getElem?_getD, List.getElem?_append_right h]
theorem flatS_one (us : List SRow) : ∀ u ∈ flatS us, u.oneCell' = true := by
  intro u hu
  obtain ⟨r, _, hr⟩ := List.mem_flatMap.1 hu
  simp only [srowV, List.mem_cons, List.not_mem_nil, or_false] at hr
  rcases hr with rfl | rfl | rfl | rfl <;> rfl

/-- .. whatever its Stmts are. -/
def AnyS (w : World) (B : Nat) (a : Option Addr) (n c : Nat) : Prop := ∃ rs ss, OwnS w B a n c rs ss
/-- Some Stmts at an address, to be taken over. -/
def News (w : World) (B : Nat) (ad : Addr) (m : Nat) : Prop :=
  ∃ (us : List SRow) (vs : List Stm), us.length = m ∧ vs.length = m ∧ (∀ j u, (flatS us)[j]? = some u → w.cell? (ad.add j) = some u) ∧ ∀ i, i < m → OwnStm w B (srAt us i) (stAt vs i)
section
variable {w w' : World} {B : Nat} {a : Option Addr} {n c : Nat}
theorem AnyS.below (h : AnyS w B a n c) (hb : Below w.heap.size w w') : AnyS w' B a n c := by obtain ⟨rs, ss, h⟩ := h; exact ⟨rs, ss, h.below hb⟩
theorem AnyS.alloc (h : AnyS w B a n c) (o : Obj) : AnyS (w.alloc o) B a n c := h.below ((Below.refl _ _).alloc (Nat.le_refl _) o)
theorem AnyS.base {B' : Nat} (h : AnyS w B a n c) (hB : B' ≤ B) : AnyS w B' a n c := by obtain ⟨rs, ss, h⟩ := h; exact ⟨rs, ss, h.base hB⟩
theorem AnyS.block (h : AnyS w B a n c) : ∀ g, (Value.slice a n c).ownBlock = some g → B ≤ g ∧ g < w.heap.size := by obtain ⟨rs, ss, h⟩ := h; exact h.block
theorem AnyS.old {p : Nat} (h : AnyS w B a n c) (hp : p < B) (hg : w.grownBy w' (some p)) : AnyS w' B a n c := by obtain ⟨rs, ss, h⟩ := h; exact ⟨rs, ss, h.old hp hg⟩
theorem AnyS.some_ (h : AnyS w B a n c) (hp : 1 ≤ n) : ∃ g, a = some ⟨g, 0, none⟩ := by
  obtain ⟨rs, ss, h⟩ := h
  rcases h.1.2 with ⟨_, h0⟩ | ⟨g, cap, cur, e, _⟩
  · omega
  · exact ⟨g, by injection e⟩
theorem AnyS.news {g : Nat} (h : AnyS w B (some ⟨g, 0, none⟩) n c) : News w B ⟨g, 0, none⟩ n := by
  obtain ⟨rs, ss, h⟩ := h
  refine ⟨rs, ss, h.len, h.2.2.1, fun j u hj => ?_, h.2.2.2⟩
  have hlt : j < (flatS rs).length := (List.getElem?_eq_some_iff.1 hj).1
  rw [flatS_len, h.len] at hlt
  rw [addr_add, h.1.cellAt j hlt]
  exact hj
end
theorem anyS_empty (w : World) (B : Nat) (hB : B ≤ w.heap.size) : AnyS (w.alloc (.cells #[] 46)) B (some ⟨w.heap.size, 0, none⟩) 0 0 :=
  ⟨[], [], World.ownsRow_lit w #[] 0 hB (by unfold maxLen; omega) rfl, by omega, rfl, fun i hi => absurd hi (by omega)⟩
/-- One new Stmt. -/
theorem news_one {w : World} {B : Nat} {op x : Int} {s1 s2 : Sl} {ts us : List Tm} (h1 : In64 op) (h2 : In64 x) (h3 : OwnT w B s1.1 s1.2.1 s1.2.2 ts) (h4 : OwnT w B s2.1 s2.2.1 s2.2.2 us) :
    News (w.alloc (.cells #[.int .i64 op, .int .i64 x, slV s1, slV s2] 46)) B ⟨w.heap.size, 0, none⟩ 1 := by
  refine ⟨[⟨op, x, s1, s2⟩], [⟨op, x, ts, us⟩], rfl, rfl, fun j u hj => ?_, fun i hi => ?_⟩
  · rw [addr_add]
    exact (Blk.new w 46 [.int .i64 op, .int .i64 x, slV s1, slV s2]).cell hj
  · obtain rfl : i = 0 := by omega
    exact ⟨rfl, rfl, h1, h2, h3.alloc _, h4.alloc _⟩
/-- Two new Stmts of numbers alone. -/
theorem news_two {w : World} {B : Nat} {op x op' x' : Int} (h1 : In64 op) (h2 : In64 x) (h3 : In64 op') (h4 : In64 x') :
    News (w.alloc (.cells #[.int .i64 op, .int .i64 x, .slice none 0 0, .slice none 0 0, .int .i64 op', .int .i64 x', .slice none 0 0, .slice none 0 0] 46)) B ⟨w.heap.size, 0, none⟩ 2 := by
  refine ⟨[⟨op, x, (none, 0, 0), (none, 0, 0)⟩, ⟨op', x', (none, 0, 0), (none, 0, 0)⟩], [⟨op, x, [], []⟩, ⟨op', x', [], []⟩], rfl, rfl, fun j u hj => ?_, fun i hi => ?_⟩
  · rw [addr_add]
    exact (Blk.new w 46 [.int .i64 op, .int .i64 x, .slice none 0 0, .slice none 0 0, .int .i64 op', .int .i64 x', .slice none 0 0, .slice none 0 0]).cell hj
  · match i, hi with
    | 0, _ => exact ⟨rfl, rfl, h1, h2, ownT_nil _ _, ownT_nil _ _⟩
    | 1, _ => exact ⟨rfl, rfl, h3, h4, ownT_nil _ _, ownT_nil _ _⟩
theorem news_plain {w : World} {B : Nat} {op x : Int} (h1 : In64 op) (h2 : In64 x) :
    News (w.alloc (.cells #[.int .i64 op, .int .i64 x, .slice none 0 0, .slice none 0 0] 46)) B ⟨w.heap.size, 0, none⟩ 1 := news_one (s1 := (none, 0, 0)) (s2 := (none, 0, 0)) h1 h2 (ownT_nil _ _) (ownT_nil _ _)
theorem news_exp {w : World} {B : Nat} {op x : Int} {a : Option Addr} {n c : Nat} {us : List Tm} (h1 : In64 op) (h2 : In64 x) (h4 : OwnT w B a n c us) :
    News (w.alloc (.cells #[.int .i64 op, .int .i64 x, .slice none 0 0, .slice a n c] 46)) B ⟨w.heap.size, 0, none⟩ 1 := news_one (s1 := (none, 0, 0)) (s2 := (a, n, c)) h1 h2 (ownT_nil _ _) h4
theorem news_both {w : World} {B : Nat} {op x : Int} {a b : Option Addr} {n c m d : Nat} {ts us : List Tm} (h1 : In64 op) (h2 : In64 x) (h3 : OwnT w B b m d ts) (h4 : OwnT w B a n c us) :
    News (w.alloc (.cells #[.int .i64 op, .int .i64 x, .slice b m d, .slice a n c] 46)) B ⟨w.heap.size, 0, none⟩ 1 := news_one (s1 := (b, m, d)) (s2 := (a, n, c)) h1 h2 h3 h4

/-- 'append(out, some Stmts...)'. -/
theorem wpList_pushS {ops : Array Oper} {rest : List Oper} {o : Oper} {ac : Act} {Q : Exit → Act → World → Prop} (w : World) (hgd : o.guard = none) (s x : Operand)
    (ho : o.op = .call { callee := .builtin .append, args := #[s, x], argTypes := #[26, 26] })
    (B : Nat) (a : Option Addr) (n c : Nat) (hs : ac.eval s = .slice a n c) (hown : AnyS w B a n c)
    (ad : Addr) (m c2 : Nat) (hx : ac.eval x = .slice (some ad) m c2) (hnews : News w B ad m) (hn : n + m ≤ 1048576) (hB : B ≤ w.heap.size)
    (h : ∀ a1 c1 w', AnyS w' B a1 (n + m) c1 → GrowsTo w (.slice a n c) w' (.slice a1 (n + m) c1) → wpList Try.prog ops Q rest (ac.put o.dst (.slice a1 (n + m) c1)) w') : wpList Try.prog ops Q (o :: rest) ac w := by
  obtain ⟨rs, ss, hown⟩ := hown
  obtain ⟨us, vs, hu, hv, hc, hst⟩ := hnews
  refine wpList_pushG w hgd s x 26 46 (.agg #[.int .i64 0, .int .i64 0, .slice none 0 0, .slice none 0 0]) 4 64 ho Try.underlying26 info_stmt rfl (by omega) B a n c (flatS rs) hs hown.1 ad m c2 (flatS us) hx (by rw [flatS_len, hu]) hc (flatS_one us) (by unfold maxLen; omega) (by omega) hB ?_
  intro a1 c1 w' r1 r2
  refine h a1 c1 w' ⟨rs ++ us, ss ++ vs, by rw [flatS_append]; exact r1, hn, by rw [List.length_append, hown.2.2.1, hv], fun i hi => ?_⟩ r2
  have hlr := hown.len
  have hls := hown.2.2.1
  rcases Nat.lt_or_ge i n with hlt | hge
  · rw [srAt_append_left (by omega), stAt_append_left (by omega)]
    exact (hown.2.2.2 i hlt).rowGrew hown.1 r2.1
  · rw [srAt_append_right (by omega), stAt_append_right (by omega), hlr, hls]
    exact (hst (i - n) (by omega)).rowGrew hown.1 r2.1
end Go.Proofs.Ytmooecbdpfhnlaa
