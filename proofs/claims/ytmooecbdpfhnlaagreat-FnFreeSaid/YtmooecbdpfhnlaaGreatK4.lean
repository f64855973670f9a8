/- Joined texts of this proof (Grows, TermSS), in build order. -/
import Derived.Test.YtmooecbdpfhnlaaGreatK3
import Derived.Maps.AppendAt
import Derived.Lib.OwnKind
/- A slice of the call's own that grows: what lies in its block alone may turn; where the new one lies. 'append' for whatever element type. -/
namespace Go.Proofs.YtmooecbdpfhnlaaGreat
open Go.RowKit

/-- From w on, v's block alone may have turned; v' lies in it, or in a new block. -/
def GrowsTo (w : World) (v : Value) (w' : World) (v' : Value) : Prop := w.grownBy w' v.ownBlock ∧ ∀ g, v'.ownBlock = some g → v.ownBlock = some g ∨ w.heap.size ≤ g
theorem GrowsTo.refl (w : World) (v : Value) : GrowsTo w v w v := ⟨World.grownBy.refl _ _, fun _ h => .inl h⟩
theorem GrowsTo.size {w w' : World} {v v' : Value} (h : GrowsTo w v w' v') : w.heap.size ≤ w'.heap.size := h.1.size
theorem GrowsTo.trans {w w1 w2 : World} {v v1 v2 : Value} (h : GrowsTo w v w1 v1) (k : GrowsTo w1 v1 w2 v2) : GrowsTo w v w2 v2 := by
  refine ⟨⟨k.1.os.trans h.1.os, k.1.tape.trans h.1.tape, k.1.output.trans h.1.output, Nat.le_trans h.1.size k.1.size, fun b hb hne => ?_⟩, fun g hg => ?_⟩
  · refine (k.1.block b (Nat.lt_of_lt_of_le hb h.1.size) (fun e => ?_)).trans (h.1.block b hb hne)
    rcases h.2 b e.symm with h' | h'
    · exact hne h'.symm
    · omega
  · rcases k.2 g hg with h' | h'
    · exact h.2 g h'
    · exact .inr (Nat.le_trans h.1.size h')
theorem GrowsTo.below {w w' : World} {v v' : Value} {B : Nat} (h : GrowsTo w v w' v') (hB : B ≤ w.heap.size) (hv : ∀ g, v.ownBlock = some g → B ≤ g) : Below B w w' :=
  (Below.refl _ _).grown h.1 hB hv
/-- 'append(s, x...)', s of the call's own, x some cells at an address: whatever the element type. -/
theorem wpList_pushG {ops : Array Oper} {rest : List Oper} {o : Oper} {ac : Act} {Q : Exit → Act → World → Prop} (w : World) (hgd : o.guard = none) (s x : Operand) (t e : TypeId) (z : Value) (size bytes : Nat)
    (ho : o.op = .call { callee := .builtin .append, args := #[s, x], argTypes := #[t, t] }) (ht : Tryz.prog.underlying t = some (.slice e)) (hinf : (Tryz.prog.info? e).map (fun i => (i.zero, i.size, i.bytes)) = some (some z, size, bytes)) (hzs : z.cells.size = size) (hsz : 0 < size)
    (B : Nat) (a : Option Addr) (n c : Nat) (xs : List Value) (hs : ac.eval s = .slice a n c) (hown : w.ownsRow B e size (.slice a n c) n xs)
    (ad : Addr) (m c2 : Nat) (news : List Value) (hx : ac.eval x = .slice (some ad) m c2) (hl : news.length = m * size) (hnews : ∀ j u, news[j]? = some u → w.cell? (ad.add j) = some u) (h1 : ∀ u ∈ news, u.oneCell' = true)
    (h63 : n + m ≤ maxLen) (hbytes : (n + m) * bytes ≤ 140737488355328) (hB : B ≤ w.heap.size)
    (h : ∀ a1 c1 w', w'.ownsRow B e size (.slice a1 (n + m) c1) (n + m) (xs ++ news) → GrowsTo w (.slice a n c) w' (.slice a1 (n + m) c1) → wpList Tryz.prog ops Q rest (ac.put o.dst (.slice a1 (n + m) c1)) w') : wpList Tryz.prog ops Q (o :: rest) ac w := by
  obtain ⟨i0, hi, hz0, hz1, hz2⟩ := info_parts hinf
  obtain ⟨v', w', hrun, r1, r2, _, r4⟩ := run_append_own_at (P := Tryz.prog) w B t o.type e i0 z size bytes ht hi hz0 hz1 hz2 hzs hsz (.slice a n c) n xs hown ad m c2 news hl hnews h1 h63 hbytes hB
  have hf : ∃ a1 c1, v' = .slice a1 (n + m) c1 := by
    rcases r1.2 with ⟨e1, h0⟩ | ⟨g', cap, cur, e1, _⟩
    · exact ⟨none, 0, by rw [e1, h0]⟩
    · exact ⟨_, _, e1⟩
  obtain ⟨a1, c1, rfl⟩ := hf
  refine wpList_plain hgd fun K hK' => ?_
  unfold Oper.wp
  simp [execOp, ho, resolve, invoke, builtin, hs, hx, hrun, Result.andThen]
  refine hK' _ _ (h a1 c1 w' r1 ⟨r2, fun g hg => ?_⟩)
  rcases r4 with r4 | r4
  · exact .inl (by rw [← r4]; exact hg)
  · rw [r4] at hg; injection hg with hg; exact .inr (by omega)

/-- 'append(out, t)' of one Term. -/
theorem wpList_pushT {ops : Array Oper} {rest : List Oper} {o : Oper} {ac : Act} {Q : Exit → Act → World → Prop} (w : World) (hgd : o.guard = none) (s x : Operand)
    (ho : o.op = .call { callee := .builtin .append, args := #[s, x], argTypes := #[79, 79] })
    (B : Nat) (a : Option Addr) (n c : Nat) (ts : List Tm) (hs : ac.eval s = .slice a n c) (hown : OwnT w B a n c ts)
    (g : Nat) (p q : Int) (hx : ac.eval x = .slice (some ⟨g, 0, none⟩) 1 1) (hc1 : w.cell? ⟨g, 0, none⟩ = some (.int .i64 p)) (hc2 : w.cell? ⟨g, 1, none⟩ = some (.int .i64 q)) (hin : InTm (p, q)) (hn : n < 1048576) (hB : B ≤ w.heap.size)
    (h : ∀ a1 c1 w', OwnT w' B a1 (n + 1) c1 (ts ++ [(p, q)]) → GrowsTo w (.slice a n c) w' (.slice a1 (n + 1) c1) → wpList Tryz.prog ops Q rest (ac.put o.dst (.slice a1 (n + 1) c1)) w') : wpList Tryz.prog ops Q (o :: rest) ac w := by
  refine wpList_pushG w hgd s x 79 140 (.agg #[.int .i64 0, .int .i64 0]) 2 16 ho Tryz.underlying79 info_term rfl (by omega) B a n c (flatV ts) hs hown.1 ⟨g, 0, none⟩ 1 1 [.int .i64 p, .int .i64 q] hx rfl ?_ ?_ ?_ ?_ hB ?_
  · intro j u hj
    match j, hj with
    | 0, hj => simp at hj; subst hj; simpa [Addr.add] using hc1
    | 1, hj => simp at hj; subst hj; simpa [Addr.add] using hc2
  · intro u hu; simp at hu; rcases hu with rfl | rfl <;> rfl
  · unfold maxLen; omega
  · omega
  · intro a1 c1 w' r1 r2
    refine h a1 c1 w' ⟨by rw [flatV_append]; exact r1, by omega, fun t ht => ?_⟩ r2
    rcases List.mem_append.1 ht with ht | ht
    · exact hown.2.2 t ht
    · rw [List.mem_singleton] at ht; subst ht; exact hin
theorem terms_news {w : World} {b o n : Nat} {ts : List Tm} (h : Terms w (some ⟨b, o, none⟩) n ts) : ∀ j u, (flatV ts)[j]? = some u → w.cell? ((⟨b, o, none⟩ : Addr).add j) = some u := by
  intro j u hj
  have hl := h.1
  have hjl : j < ts.length * 2 := by have := (List.getElem?_eq_some_iff.1 hj).1; rw [flatV_len] at this; exact this
  obtain ⟨b', o', e, _, hc⟩ := h.2.2.2 (by omega)
  injection e with e
  injection e with e1 e2
  subst e1 e2
  rw [Go.WideShapes.add_plain, ← hj]
  have hf := flatV_at ts (j / 2) (by omega)
  have hcc := hc (j / 2) (by omega)
  rcases Nat.mod_two_eq_zero_or_one j with h0 | h0
  · have ej : j = j / 2 * 2 := by omega
    rw [ej, hf.1]; exact hcc.1
  · have ej : j = j / 2 * 2 + 1 := by omega
    rw [ej, hf.2, ← Nat.add_assoc]; exact hcc.2
theorem flatV_one : ∀ (ts : List Tm), ∀ u ∈ flatV ts, u.oneCell' = true := by
  intro ts u hu
  obtain ⟨t, _, h⟩ := List.mem_flatMap.1 hu
  simp at h
  rcases h with rfl | rfl <;> rfl
theorem own_emptyT (w : World) (B : Nat) (hB : B ≤ w.heap.size) : (w.alloc (.cells #[] 140)).ownsRow B 140 2 (.slice (some ⟨w.heap.size, 0, none⟩) 0 0) 0 [] := World.ownsRow_lit w #[] 0 hB (by unfold maxLen; omega) rfl
theorem ownT_nil (w : World) (B : Nat) : OwnT w B none 0 0 [] := ⟨World.ownsRow_nil _ _ _ _, by omega, fun z hz => by simp at hz⟩
end Go.Proofs.YtmooecbdpfhnlaaGreat
/- Words for slices of slices of Terms: reading, and of the call's own; comparison, marks. -/
namespace Go.Proofs.YtmooecbdpfhnlaaGreat
open Go.RowKit

/-- A slice's three: its address, its length, its capacity. -/
abbrev Sl := Option Addr × Nat × Nat
def slV (r : Sl) : Value := .slice r.1 r.2.1 r.2.2
def slAt (rs : List Sl) (i : Nat) : Sl := rs.getD i (none, 0, 0)
def tsAt (tss : List (List Tm)) (i : Nat) : List Tm := tss.getD i []

/-- The slice '.slice a n c' of slices of Terms reads as tss; rs are its slices. -/
def TermsSS (w : World) (a : Option Addr) (n : Nat) (rs : List Sl) (tss : List (List Tm)) : Prop :=
  rs.length = n ∧ tss.length = n ∧ (0 < n → ∃ b o, a = some ⟨b, o, none⟩ ∧ b < w.heap.size ∧ ∀ i, i < n → w.cell? ⟨b, o + i, none⟩ = some (slV (slAt rs i))) ∧
  ∀ i, i < n → Terms w (slAt rs i).1 (slAt rs i).2.1 (tsAt tss i)
theorem TermsSS.at_ {w : World} {a : Option Addr} {n : Nat} {rs : List Sl} {tss : List (List Tm)} (h : TermsSS w a n rs tss) {k : Nat} (hk : k < n) :
    ∃ b o a1 n1 c1, a = some ⟨b, o, none⟩ ∧ b < w.heap.size ∧ Hid (slAt rs k = (a1, n1, c1)) ∧ w.cell? ⟨b, o + k, none⟩ = some (.slice a1 n1 c1) ∧ Terms w a1 n1 (tsAt tss k) := by
  obtain ⟨_, _, h3, h4⟩ := h
  obtain ⟨b, o, rfl, hb, hc⟩ := h3 (by omega)
  exact ⟨b, o, _, _, _, rfl, hb, rfl, hc k hk, h4 k hk⟩
theorem TermsSS.below {w w' : World} {a : Option Addr} {n : Nat} {rs : List Sl} {tss : List (List Tm)} (h : TermsSS w a n rs tss) (hb : Below w.heap.size w w') : TermsSS w' a n rs tss := by
  obtain ⟨h1, h2, h3, h4⟩ := h
  refine ⟨h1, h2, fun hp => ?_, fun i hi => (h4 i hi).below (Nat.le_refl _) hb⟩
  obtain ⟨b, o, rfl, hbl, hc⟩ := h3 hp
  exact ⟨b, o, rfl, Nat.lt_of_lt_of_le hbl hb.size, fun i hi => (hb.cell hbl).trans (hc i hi)⟩

/-- .. of the call's own, from block B on; no two of its slices in one block. -/
def OwnSS (w : World) (B : Nat) (a : Option Addr) (n c : Nat) (rs : List Sl) (tss : List (List Tm)) : Prop :=
  w.ownsRow B 79 1 (.slice a n c) n (rs.map slV) ∧ n ≤ 3000 ∧ tss.length = n ∧
  (∀ i, i < n → OwnT w B (slAt rs i).1 (slAt rs i).2.1 (slAt rs i).2.2 (tsAt tss i)) ∧
  (∀ i j g, i < n → j < n → (slV (slAt rs i)).ownBlock = some g → (slV (slAt rs j)).ownBlock = some g → i = j)

section
variable {w w' : World} {B : Nat} {a : Option Addr} {n c : Nat} {rs : List Sl} {tss : List (List Tm)}
theorem OwnSS.len (h : OwnSS w B a n c rs tss) : rs.length = n := by have := h.1.1; simpa using this
theorem OwnSS.reads (h : OwnSS w B a n c rs tss) : TermsSS w a n rs tss := by
  have hlen := h.len
  obtain ⟨ho, hn, ht, hi, _⟩ := h
  refine ⟨hlen, ht, fun hp => ?_, fun i h' => (hi i h').terms⟩
  rcases ho.2 with ⟨_, h0⟩ | ⟨g, cap, cur, e, _, hh, _⟩
  · exact absurd hp (by omega)
  · have ea : a = some ⟨g, 0, none⟩ := by injection e
    subst ea
    refine ⟨g, 0, rfl, (ho.lt g rfl).2, fun i h' => ?_⟩
    rw [Nat.zero_add, ho.cellAt i (by omega)]
    simp [slAt, List.getD_eq_getElem?_getD, List.getElem?_eq_getElem (show i < rs.length by omega)]
theorem OwnSS.below (h : OwnSS w B a n c rs tss) (hb : Below w.heap.size w w') : OwnSS w' B a n c rs tss :=
  ⟨h.1.kept (row := none) ⟨hb.os, hb.tape, hb.output, hb.size, fun k hk _ => hb.block k hk⟩ (by cases a <;> simp [Value.ownBlock]), h.2.1, h.2.2.1, fun i hi => (h.2.2.2.1 i hi).below hb, h.2.2.2.2⟩
theorem OwnSS.base {B' : Nat} (h : OwnSS w B a n c rs tss) (hB : B' ≤ B) : OwnSS w B' a n c rs tss := by
  refine ⟨⟨h.1.1, ?_⟩, h.2.1, h.2.2.1, fun i hi => (h.2.2.2.1 i hi).base hB, h.2.2.2.2⟩
  rcases h.1.2 with hn | ⟨g, cap, cur, e, hb, r⟩
  · exact .inl hn
  · exact .inr ⟨g, cap, cur, e, by omega, r⟩
end
def MadeSS (w : World) (tss : List (List Tm)) (e : Ending) (w' : World) : Prop :=
  ∃ a n c rs, e = .returned (.slice a n c) ∧ OwnSS w' w.heap.size a n c rs tss ∧ Below w.heap.size w w'

/-- Rows of different element types lie in different blocks. -/
theorem own_kinds {w : World} {B B' size size' n n' : Nat} {e e' : TypeId} {v v' : Value} {xs xs' : List Value} (h : w.ownsRow B e size v n xs) (h' : w.ownsRow B' e' size' v' n' xs') (hne : e ≠ e') {g : Nat} (hg : v.ownBlock = some g) : v'.ownBlock ≠ some g := by
  intro hg'
  obtain ⟨c1, f1, e1⟩ := Go.Lib.ownsRow_kind h g hg
  obtain ⟨c2, f2, e2⟩ := Go.Lib.ownsRow_kind h' g hg'
  rw [e1] at e2
  injection e2 with e2
  injection e2 with _ e2
  exact hne e2
theorem getD_left {α : Type} (xs ys : List α) (d : α) (i : Nat) (h : i < xs.length) : (xs ++ ys).getD i d = xs.getD i d := by
  rw [List.getD_eq_getElem?_getD, List.getD_eq_getElem?_getD, List.getElem?_append_left h]
theorem getD_last {α : Type} (xs : List α) (y d : α) (i : Nat) (h : i = xs.length) : (xs ++ [y]).getD i d = y := by
  subst h; rw [List.getD_eq_getElem?_getD, List.getElem?_append_right (Nat.le_refl _)]; simp

end Go.Proofs.YtmooecbdpfhnlaaGreat
