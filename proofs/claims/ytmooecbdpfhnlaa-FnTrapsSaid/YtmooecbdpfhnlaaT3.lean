/- Joined texts of this proof (Grows, AppTree), in build order. -/
import Derived.Test.YtmooecbdpfhnlaaT2
import Derived.Maps.AppendAt
import Derived.Lib.OwnKind
/- A slice of the call's own that grows: what lies in its block alone may turn; where the new one lies. 'append' for whatever element type. -/
namespace Go.Proofs.Ytmooecbdpfhnlaa
open Go.RowKit

/-- From w on, v's block alone may have turned; v' lies in it, or in a new block. -/
def GrowsTo (w : World) (v : Value) (w' : World) (v' : Value) : Prop := w.grownBy w' v.ownBlock ∧ ∀ g, v'.ownBlock = some g → v.ownBlock = some g ∨ w.heap.size ≤ g
theorem GrowsTo.refl (w : World) (v : Value) : GrowsTo w v w v := ⟨World.grownBy.refl _ _, fun _ h => .inl h⟩
theorem GrowsTo.size {w w' : World} {v v' : Value} (h : GrowsTo w v w' v') : w.heap.size ≤ w'.heap.size := h.1.size
theorem GrowsTo.trans {w w1 w2 : World} {v v1 v2 : Value} (h : GrowsTo w v w1 v1) (k : GrowsTo w1 v1 w2 v2) : GrowsTo w v w2 v2 := by
  refine ⟨⟨k.1.os.trans h.1.os, k.1.tape.trans h.1.tape, k.1.output.trans h.1.output, Nat.le_trans h.1.size k.1.size, fun b hb hne => ?_⟩, fun g hg => ?_⟩
  · refine (k.1.block b (Nat.lt_of_lt_of_le hb h.1.size) (fun e => ?_)).trans (h.1.block b hb hne)
    rcases h.2 b e.symm with h' | h'
    · exact hne h'.symm
    · omega
  · rcases k.2 g hg with h' | h'
    · exact h.2 g h'
    · exact .inr (Nat.le_trans h.1.size h')
theorem GrowsTo.below {w w' : World} {v v' : Value} {B : Nat} (h : GrowsTo w v w' v') (hB : B ≤ w.heap.size) (hv : ∀ g, v.ownBlock = some g → B ≤ g) : Below B w w' :=
  (Below.refl _ _).grown h.1 hB hv
/-- 'append(s, x...)', s of the call's own, x some cells at an address: whatever the element type. -/
theorem wpList_pushG {ops : Array Oper} {rest : List Oper} {o : Oper} {ac : Act} {Q : Exit → Act → World → Prop} (w : World) (hgd : o.guard = none) (s x : Operand) (t e : TypeId) (z : Value) (size bytes : Nat)
    (ho : o.op = .call { callee := .builtin .append, args := #[s, x], argTypes := #[t, t] }) (ht : Try.prog.underlying t = some (.slice e)) (hinf : (Try.prog.info? e).map (fun i => (i.zero, i.size, i.bytes)) = some (some z, size, bytes)) (hzs : z.cells.size = size) (hsz : 0 < size)
    (B : Nat) (a : Option Addr) (n c : Nat) (xs : List Value) (hs : ac.eval s = .slice a n c) (hown : w.ownsRow B e size (.slice a n c) n xs)
    (ad : Addr) (m c2 : Nat) (news : List Value) (hx : ac.eval x = .slice (some ad) m c2) (hl : news.length = m * size) (hnews : ∀ j u, news[j]? = some u → w.cell? (ad.add j) = some u) (h1 : ∀ u ∈ news, u.oneCell' = true)
    (h63 : n + m ≤ maxLen) (hbytes : (n + m) * bytes ≤ 140737488355328) (hB : B ≤ w.heap.size)
    (h : ∀ a1 c1 w', w'.ownsRow B e size (.slice a1 (n + m) c1) (n + m) (xs ++ news) → GrowsTo w (.slice a n c) w' (.slice a1 (n + m) c1) → wpList Try.prog ops Q rest (ac.put o.dst (.slice a1 (n + m) c1)) w') : wpList Try.prog ops Q (o :: rest) ac w := by
  obtain ⟨i0, hi, hz0, hz1, hz2⟩ := info_parts hinf
  obtain ⟨v', w', hrun, r1, r2, _, r4⟩ := run_append_own_at (P := Try.prog) w B t o.type e i0 z size bytes ht hi hz0 hz1 hz2 hzs hsz (.slice a n c) n xs hown ad m c2 news hl hnews h1 h63 hbytes hB
  have hf : ∃ a1 c1, v' = .slice a1 (n + m) c1 := by
    rcases r1.2 with ⟨e1, h0⟩ | ⟨g', cap, cur, e1, _⟩
    · exact ⟨none, 0, by rw [e1, h0]⟩
    · exact ⟨_, _, e1⟩
  obtain ⟨a1, c1, rfl⟩ := hf
  refine wpList_plain hgd fun K hK' => ?_
  unfold Oper.wp
  simp [execOp, ho, resolve, invoke, builtin, hs, hx, hrun, Result.andThen]
  refine hK' _ _ (h a1 c1 w' r1 ⟨r2, fun g hg => ?_⟩)
  rcases r4 with r4 | r4
  · exact .inl (by rw [← r4]; exact hg)
  · rw [r4] at hg; injection hg with hg; exact .inr (by omega)

/-- 'append(out, t)' of one Term. -/
theorem wpList_pushT {ops : Array Oper} {rest : List Oper} {o : Oper} {ac : Act} {Q : Exit → Act → World → Prop} (w : World) (hgd : o.guard = none) (s x : Operand)
    (ho : o.op = .call { callee := .builtin .append, args := #[s, x], argTypes := #[44, 44] })
    (B : Nat) (a : Option Addr) (n c : Nat) (ts : List Tm) (hs : ac.eval s = .slice a n c) (hown : OwnT w B a n c ts)
    (g : Nat) (p q : Int) (hx : ac.eval x = .slice (some ⟨g, 0, none⟩) 1 1) (hc1 : w.cell? ⟨g, 0, none⟩ = some (.int .i64 p)) (hc2 : w.cell? ⟨g, 1, none⟩ = some (.int .i64 q)) (hin : InTm (p, q)) (hn : n < 1048576) (hB : B ≤ w.heap.size)
    (h : ∀ a1 c1 w', OwnT w' B a1 (n + 1) c1 (ts ++ [(p, q)]) → GrowsTo w (.slice a n c) w' (.slice a1 (n + 1) c1) → wpList Try.prog ops Q rest (ac.put o.dst (.slice a1 (n + 1) c1)) w') : wpList Try.prog ops Q (o :: rest) ac w := by
  refine wpList_pushG w hgd s x 44 94 (.agg #[.int .i64 0, .int .i64 0]) 2 16 ho Try.underlying44 info_term rfl (by omega) B a n c (flatV ts) hs hown.1 ⟨g, 0, none⟩ 1 1 [.int .i64 p, .int .i64 q] hx rfl ?_ ?_ ?_ ?_ hB ?_
  · intro j u hj
    match j, hj with
    | 0, hj => simp at hj; subst hj; simpa [Addr.add] using hc1
    | 1, hj => simp at hj; subst hj; simpa [Addr.add] using hc2
  · intro u hu; simp at hu; rcases hu with rfl | rfl <;> rfl
  · unfold maxLen; omega
  · omega
  · intro a1 c1 w' r1 r2
    refine h a1 c1 w' ⟨by rw [flatV_append]; exact r1, by omega, fun t ht => ?_⟩ r2
    rcases List.mem_append.1 ht with ht | ht
    · exact hown.2.2 t ht
    · rw [List.mem_singleton] at ht; subst ht; exact hin
theorem terms_news {w : World} {b o n : Nat} {ts : List Tm} (h : Terms w (some ⟨b, o, none⟩) n ts) : ∀ j u, (flatV ts)[j]? = some u → w.cell? ((⟨b, o, none⟩ : Addr).add j) = some u := by
  intro j u hj
  have hl := h.1
  have hjl : j < ts.length * 2 := by have := (List.getElem?_eq_some_iff.1 hj).1; rw [flatV_len] at this; exact this
  obtain ⟨b', o', e, _, hc⟩ := h.2.2.2 (by omega)
  injection e with e
  injection e with e1 e2
  subst e1 e2
  rw [Go.WideShapes.add_plain, ← hj]
  have hf := flatV_at ts (j / 2) (by omega)
  have hcc := hc (j / 2) (by omega)
  rcases Nat.mod_two_eq_zero_or_one j with h0 | h0
  · have ej : j = j / 2 * 2 := by omega
    rw [ej, hf.1]; exact hcc.1
  · have ej : j = j / 2 * 2 + 1 := by omega
    rw [ej, hf.2, ← Nat.add_assoc]; exact hcc.2
theorem flatV_one : ∀ (ts : List Tm), ∀ u ∈ flatV ts, u.oneCell' = true := by
  intro ts u hu
  obtain ⟨t, _, h⟩ := List.mem_flatMap.1 hu
  simp at h
  rcases h with rfl | rfl <;> rfl
theorem own_emptyT (w : World) (B : Nat) (hB : B ≤ w.heap.size) : (w.alloc (.cells #[] 94)).ownsRow B 94 2 (.slice (some ⟨w.heap.size, 0, none⟩) 0 0) 0 [] := World.ownsRow_lit w #[] 0 hB (by unfold maxLen; omega) rfl
theorem ownT_nil (w : World) (B : Nat) : OwnT w B none 0 0 [] := ⟨World.ownsRow_nil _ _ _ _, by omega, fun z hz => by simp at hz⟩
end Go.Proofs.Ytmooecbdpfhnlaa
/- The contract of the program's appendTree: the Terms of a tree, in order, behind what was there. (Four walks of one text, one for each kind of tree.) -/
namespace Go.Proofs.Ytmooecbdpfhnlaa
open Go.RowKit

theorem IsTree.iface {w : World} {F : Nat → Prop} {v : Value} {T : Tr} (h : IsTree w F v T) : ∃ u x, v = .iface u x := by cases h <;> exact ⟨_, _, rfl⟩
theorem flats_take_succ (kids : List Tr) (i : Nat) (h : i < kids.length) : Tr.flats (kids.take (i + 1)) = Tr.flats (kids.take i) ++ (kids.getD i default).flat := by
  rw [List.take_succ_eq_append_getElem h, flats_append, flats_one, List.getD_eq_getElem?_getD, List.getElem?_eq_getElem h]; rfl
theorem flats_take_le (kids : List Tr) (i : Nat) (h : i < kids.length) : (Tr.flats (kids.take i)).length + (kids.getD i default).flat.length ≤ (Tr.flats kids).length := by
  have e : Tr.flats kids = Tr.flats (kids.take (i + 1)) ++ Tr.flats (kids.drop (i + 1)) := by rw [← flats_append, List.take_append_drop]
  rw [e, flats_take_succ kids i h, List.length_append, List.length_append]; omega
theorem oks_getD {kids : List Tr} (h : Tr.oks kids) {i : Nat} (hi : i < kids.length) : (kids.getD i default).okT := by
  rw [List.getD_eq_getElem?_getD, List.getElem?_eq_getElem hi]; exact (oks_iff kids).1 h _ (List.getElem_mem hi)

theorem keeps_below {w w' : World} {F : Nat → Prop} (h : Below w.heap.size w w') : Keeps w F w' F := fun b _ _ hF hh => ⟨h.block b (Array.getElem?_eq_some_iff.1 hh).1, hF⟩
theorem row_one {w : World} {g : Nat} {v : Value} (h : w.heap[g]? = some (.cells #[v] 143 (0, 0))) : RowV w (fun _ => True) (some ⟨g, 0, none⟩) 1 [v] := by
  refine ⟨rfl, fun _ => ⟨g, 0, _, _, rfl, trivial, h, fun i hi => ?_⟩⟩
  have : i = 0 := by omega
  subst this
  rfl

/-- What appendTree leaves. -/
def AppT (w : World) (B : Nat) (a : Option Addr) (n c : Nat) (ts : List Tm) (T : Tr) (e : Ending) (w' : World) : Prop :=
  ∃ a' n' c', e = .returned (.slice a' n' c') ∧ OwnT w' B a' n' c' (ts ++ T.flat) ∧ GrowsTo w (.slice a n c) w' (.slice a' n' c')
end Go.Proofs.Ytmooecbdpfhnlaa
