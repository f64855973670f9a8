/- Joined texts of this proof (StepPush, DrawForm, Formulas), in build order. -/
import Derived.Test.YtmooecbdpfhnlaaT21
import Derived.Test.YtmooecbdpfhnlaaT18
import Derived.Deep.RegionHeld3
import Derived.Deep.AppendLies
import Derived.Test.YtmooecbdpfhnlaaT20
import Derived.Test.YtmooecbdpfhnlaaT9
/- 'append' at a step of a region that draws its order: Terms, Stmts. -/
namespace Go.Proofs.Ytmooecbdpfhnlaa
open Go.RowKit

theorem wrapI (n : Int) (h0 : 0 ≤ n) (h1 : n ≤ 1048576) : IntKind.i64.wrap n = n := by
  rw [IntKind.wrap_i64]
  omega
/-- 'append(s, x...)', s of the call's own, x some cells at an address: whatever the element type. -/
theorem step_pushG {ops : Array Oper} {o : Oper} {ac : Act} {K : Act → World → Prop} {Q : Exit → Act → World → Prop} {E : Prop} (w : World) (hgd : o.guard = none) (s x : Operand) (t e : TypeId) (z : Value) (size bytes : Nat)
    (ho : o.op = .call { callee := .builtin .append, args := #[s, x], argTypes := #[t, t] }) (ht : Try.prog.underlying t = some (.slice e)) (hinf : (Try.prog.info? e).map (fun i => (i.zero, i.size, i.bytes)) = some (some z, size, bytes)) (hzs : z.cells.size = size) (hsz : 0 < size)
    (B : Nat) (a : Option Addr) (n c : Nat) (xs : List Value) (hs : ac.eval s = .slice a n c) (hown : w.ownsRow B e size (.slice a n c) n xs)
    (ad : Addr) (m c2 : Nat) (news : List Value) (hx : ac.eval x = .slice (some ad) m c2) (hl : news.length = m * size) (hnews : ∀ j u, news[j]? = some u → w.cell? (ad.add j) = some u) (h1 : ∀ u ∈ news, u.oneCell' = true)
    (hm : 0 < m) (h63 : n + m ≤ maxLen) (hbytes : (n + m) * bytes ≤ 140737488355328) (hB : B ≤ w.heap.size)
    (h : ∀ g c1 w', w'.ownsRow B e size (.slice (some ⟨g, 0, none⟩) (n + m) c1) (n + m) (xs ++ news) → GrowsTo w (.slice a n c) w' (.slice (some ⟨g, 0, none⟩) (n + m) c1) → K (ac.put o.dst (.slice (some ⟨g, 0, none⟩) (n + m) c1)) w') :
    if Region.wanted o (yielded ops ac.tmps) = true then Oper.wp Try.prog o ac w K Q else E := by
  obtain ⟨i0, hi, hz0, hz1, hz2⟩ := info_parts hinf
  refine step_append_lies w hgd s x t ho B e i0 z size bytes ht hi hz0 hz1 hz2 hzs hsz (.slice a n c) n xs hs hown ad m c2 news hx hl hnews h1 hm h63 hbytes hB w.heap.size rfl ?_
  intro g cap w' r1 r2 r3 _
  refine h g cap w' r1 ⟨r2, fun g' hg' => ?_⟩
  have : g = g' := by simpa [Value.ownBlock] using hg'
  subst this
  rcases r3 with r3 | r3
  · exact .inl r3
  · exact .inr (by omega)
theorem step_pushT {ops : Array Oper} {o : Oper} {ac : Act} {K : Act → World → Prop} {Q : Exit → Act → World → Prop} {E : Prop} (w : World) (hgd : o.guard = none) (s x : Operand)
    (ho : o.op = .call { callee := .builtin .append, args := #[s, x], argTypes := #[44, 44] })
    (B : Nat) (a : Option Addr) (n c : Nat) (ts : List Tm) (hs : ac.eval s = .slice a n c) (hown : OwnT w B a n c ts)
    (g : Nat) (p q : Int) (hx : ac.eval x = .slice (some ⟨g, 0, none⟩) 1 1) (hc1 : w.cell? ⟨g, 0, none⟩ = some (.int .i64 p)) (hc2 : w.cell? ⟨g, 1, none⟩ = some (.int .i64 q)) (hin : InTm (p, q)) (hn : n < 1048576) (hB : B ≤ w.heap.size)
    (h : ∀ a1 c1 w', OwnT w' B a1 (n + 1) c1 (ts ++ [(p, q)]) → GrowsTo w (.slice a n c) w' (.slice a1 (n + 1) c1) → K (ac.put o.dst (.slice a1 (n + 1) c1)) w') :
    if Region.wanted o (yielded ops ac.tmps) = true then Oper.wp Try.prog o ac w K Q else E := by
  refine step_pushG w hgd s x 44 94 (.agg #[.int .i64 0, .int .i64 0]) 2 16 ho Try.underlying44 info_term rfl (by omega) B a n c (flatV ts) hs hown.1 ⟨g, 0, none⟩ 1 1 [.int .i64 p, .int .i64 q] hx rfl ?_ ?_ (by omega) ?_ ?_ hB ?_
  · intro j u hj
    match j, hj with
    | 0, hj => simp at hj; subst hj; simpa [Addr.add] using hc1
    | 1, hj => simp at hj; subst hj; simpa [Addr.add] using hc2
  · intro u hu; simp at hu; rcases hu with rfl | rfl <;> rfl
  · unfold maxLen; omega
  · omega
  · intro a1 c1 w' r1 r2
    refine h _ c1 w' ⟨by rw [flatV_append]; exact r1, by omega, fun t ht => ?_⟩ r2
    rcases List.mem_append.1 ht with ht | ht
    · exact hown.2.2 t ht
    · rw [List.mem_singleton] at ht; subst ht; exact hin
theorem step_pushS {ops : Array Oper} {o : Oper} {ac : Act} {K : Act → World → Prop} {Q : Exit → Act → World → Prop} {E : Prop} (w : World) (hgd : o.guard = none) (s x : Operand)
    (ho : o.op = .call { callee := .builtin .append, args := #[s, x], argTypes := #[26, 26] })
    (B : Nat) (a : Option Addr) (n c : Nat) (hs : ac.eval s = .slice a n c) (hown : AnyS w B a n c)
    (ad : Addr) (m c2 : Nat) (hx : ac.eval x = .slice (some ad) m c2) (hnews : News w B ad m) (hm : 0 < m) (hn : n + m ≤ 1048576) (hB : B ≤ w.heap.size)
    (h : ∀ a1 c1 w', AnyS w' B a1 (n + m) c1 → GrowsTo w (.slice a n c) w' (.slice a1 (n + m) c1) → K (ac.put o.dst (.slice a1 (n + m) c1)) w') :
    if Region.wanted o (yielded ops ac.tmps) = true then Oper.wp Try.prog o ac w K Q else E := by
  obtain ⟨rs, ss, hown⟩ := hown
  obtain ⟨us, vs, hu, hv, hc, hst⟩ := hnews
  refine step_pushG w hgd s x 26 46 (.agg #[.int .i64 0, .int .i64 0, .slice none 0 0, .slice none 0 0]) 4 64 ho Try.underlying26 info_stmt rfl (by omega) B a n c (flatS rs) hs hown.1 ad m c2 (flatS us) hx (by rw [flatS_len, hu]) hc (flatS_one us) hm (by unfold maxLen; omega) (by omega) hB ?_
  intro g c1 w' r1 r2
  refine h _ c1 w' ⟨rs ++ us, ss ++ vs, by rw [flatS_append]; exact r1, hn, by rw [List.length_append, hown.2.2.1, hv], fun i hi => ?_⟩ r2
  have hlr := hown.len
  have hls := hown.2.2.1
  rcases Nat.lt_or_ge i n with hlt | hge
  · rw [srAt_append_left (by omega), stAt_append_left (by omega)]
    exact (hown.2.2.2 i hlt).rowGrew hown.1 r2.1
  · rw [srAt_append_right (by omega), stAt_append_right (by omega), hlr, hls]
    exact (hst (i - n) (by omega)).rowGrew hown.1 r2.1
theorem step_pushI {ops : Array Oper} {o : Oper} {ac : Act} {K : Act → World → Prop} {Q : Exit → Act → World → Prop} {E : Prop} (w : World) (hgd : o.guard = none) (s x : Operand)
    (ho : o.op = .call { callee := .builtin .append, args := #[s, x], argTypes := #[25, 25] })
    (B : Nat) (a : Option Addr) (n c : Nat) (zs : List Int) (hs : ac.eval s = .slice a n c) (hown : Own w B a n c zs)
    (g : Nat) (z : Int) (hx : ac.eval x = .slice (some ⟨g, 0, none⟩) 1 1) (hc1 : w.cell? ⟨g, 0, none⟩ = some (.int .i64 z)) (hin : In64 z) (hn : n < 1048576) (hB : B ≤ w.heap.size)
    (h : ∀ a1 c1 w', Own w' B a1 (n + 1) c1 (zs ++ [z]) → GrowsTo w (.slice a n c) w' (.slice a1 (n + 1) c1) → K (ac.put o.dst (.slice a1 (n + 1) c1)) w') :
    if Region.wanted o (yielded ops ac.tmps) = true then Oper.wp Try.prog o ac w K Q else E := by
  refine step_pushG w hgd s x 25 2 (.int .i64 0) 1 8 ho Try.underlying25 info_i64 rfl (by omega) B a n c (zs.map (Value.int .i64)) hs hown.1 ⟨g, 0, none⟩ 1 1 [.int .i64 z] hx rfl ?_ ?_ (by omega) ?_ ?_ hB ?_
  · intro j u hj
    match j, hj with
    | 0, hj => simp at hj; subst hj; simpa [Addr.add] using hc1
  · intro u hu; simp at hu; subst hu; rfl
  · unfold maxLen; omega
  · omega
  · intro a1 c1 w' r1 r2
    refine h _ c1 w' ⟨by rw [List.map_append]; exact r1, by omega, fun t ht => ?_⟩ r2
    rcases List.mem_append.1 ht with ht | ht
    · exact hown.2.2 t ht
    · rw [List.mem_singleton] at ht; subst ht; exact hin
end Go.Proofs.Ytmooecbdpfhnlaa
/- The contracts of the laws' own draws of expressions: variable, number, two, formula. -/
namespace Go.Proofs.Ytmooecbdpfhnlaa
open Go.RowKit

/-! Plain mathematics: expressions over V variables and A arrays with small numbers. -/
def fOk (V A : Nat) (t : Tm) : Prop := 0 ≤ t.1 ∧ t.1 ≤ 16 ∧ 0 ≤ t.2 ∧ t.2 ≤ 255 ∧ (t.1 = 0 → t.2 < 4) ∧ (t.1 = 1 → t.2 < (V : Int)) ∧ (t.1 = 2 → t.2 < (A : Int))
def Formula (V A : Nat) (ts : List Tm) : Prop := runD 0 ts = some 1 ∧ ∀ t ∈ ts, fOk V A t
theorem runD_more {ts : List Tm} (h : runD 0 ts = some 1) (d : Int) (hd : 0 ≤ d) : runD d ts = some (d + 1) := by
  obtain ⟨op, n, kids, _, he, h1, h2, h3⟩ := tree_of h
  rw [he]
  exact runD_flat (.node op n kids) d hd ⟨h1, h2, h3⟩
theorem form_num (V A : Nat) {x : Int} (h0 : 0 ≤ x) (h1 : x ≤ 3) : Formula V A [(0, x)] := by
  refine ⟨?_, fun t ht => ?_⟩
  · simp [runD, tOkB, takesI]; omega
  · rw [List.mem_singleton] at ht; subst ht; refine ⟨by simp, by simp, ?_, ?_, ?_, ?_, ?_⟩ <;> simp <;> omega
theorem form_var (V A : Nat) {x : Int} (h0 : 0 ≤ x) (h1 : x < (V : Int)) (hV : V ≤ 256) : Formula V A [(1, x)] := by
  refine ⟨?_, fun t ht => ?_⟩
  · simp [runD, tOkB, takesI]; omega
  · rw [List.mem_singleton] at ht; subst ht; refine ⟨by simp, by simp, ?_, ?_, ?_, ?_, ?_⟩ <;> simp <;> omega
theorem form_not {V A : Nat} {ts : List Tm} (h : Formula V A ts) {op : Int} (h3 : 3 ≤ op) (h4 : op ≤ 4) : Formula V A (ts ++ [(op, 0)]) := by
  refine ⟨?_, fun t ht => ?_⟩
  · rw [runD_append, h.1]
    have : takesI op = 1 := by unfold takesI; split <;> (try split) <;> (try split) <;> omega
    simp [runD, tOkB, this]
  · rcases List.mem_append.1 ht with ht | ht
    · exact h.2 t ht
    · rw [List.mem_singleton] at ht; subst ht; refine ⟨?_, ?_, ?_, ?_, ?_, ?_, ?_⟩ <;> simp <;> omega
theorem form_cell {V A : Nat} {ts : List Tm} (h : Formula V A ts) {x : Int} (h0 : 0 ≤ x) (h1 : x < (A : Int)) (hA : A ≤ 256) : Formula V A (ts ++ [(2, x)]) := by
  refine ⟨?_, fun t ht => ?_⟩
  · rw [runD_append, h.1]
    have : takesI 2 = 1 := by decide
    simp [runD, tOkB, this]; omega
  · rcases List.mem_append.1 ht with ht | ht
    · exact h.2 t ht
    · rw [List.mem_singleton] at ht; subst ht; refine ⟨?_, ?_, ?_, ?_, ?_, ?_, ?_⟩ <;> simp <;> omega
theorem form_two {V A : Nat} {ts us : List Tm} (h : Formula V A ts) (h' : Formula V A us) {op : Int} (h3 : 5 ≤ op) (h4 : op ≤ 16) : Formula V A (ts ++ us ++ [(op, 0)]) := by
  refine ⟨?_, fun t ht => ?_⟩
  · have : takesI op = 2 := by unfold takesI; split <;> (try split) <;> (try split) <;> (try split) <;> omega
    rw [runD_append, runD_append, h.1]
    show ((some 1).bind fun x => runD x us).bind _ = _
    rw [Option.bind_some, runD_more h'.1 1 (by omega)]
    simp [runD, tOkB, this]
  · rcases List.mem_append.1 ht with ht | ht
    · rcases List.mem_append.1 ht with ht | ht
      · exact h.2 t ht
      · exact h'.2 t ht
    · rw [List.mem_singleton] at ht; subst ht; refine ⟨?_, ?_, ?_, ?_, ?_, ?_, ?_⟩ <;> simp <;> omega

/-! The dice, when other blocks turn. -/
theorem Dice.other {w w' : World} {p : Nat} {row : Option Nat} (h : Dice w p) (hg : w.grownBy w' row) (hr : ∀ g, row = some g → p < g) : Dice w' p := by
  have hp := h.lt
  obtain ⟨a, n, c, hc, i, hh, h1, h3⟩ := h
  have hne : ∀ k, k ≤ p → some k ≠ row := fun k hk e => by have := hr k e.symm; omega
  refine ⟨a, n, c, ⟨hc.1, fun h0 => ?_⟩, i, hh, h1, (hg.block p hp (hne p (Nat.le_refl _))).trans h3⟩
  obtain ⟨b, o, rfl, hb, hcc⟩ := hc.2 h0
  refine ⟨b, o, rfl, hb, fun j hj => ?_⟩
  obtain ⟨z, e1, e2, e3⟩ := hcc j hj
  exact ⟨z, e1, e2, hg.cell e3 (hne _ (by simp; omega))⟩
theorem Dice.alloc {w : World} {p : Nat} (h : Dice w p) (o : Obj) : Dice (w.alloc o) p := h.below ((Below.refl _ _).alloc (Nat.le_refl _) o)

/-- A draw under way: the argument's box, the dice; all else that was there stands. -/
structure GBox (w wi : World) (p : Nat) (cs : List Value) : Prop where
  arg : Blk wi w.heap.size 28 cs
  gen : Dice wi p
  grown : w.grownBy wi (some p)
  old : p < w.heap.size
section
variable {w wi wj : World} {p : Nat} {cs : List Value}
theorem GBox.base (h : GBox w wi p cs) : w.heap.size + 1 ≤ wi.heap.size := h.arg.lt
theorem GBox.step (h : GBox w wi p cs) (hd : Dice wj p) (hg : wi.grownBy wj (some p)) : GBox w wj p cs :=
  ⟨(hg.block _ h.arg.lt (fun e => by injection e with e; have := h.old; omega)).trans h.arg, hd, only_trans h.grown hg, h.old⟩
theorem GBox.alloc (h : GBox w wi p cs) (o : Obj) : GBox w (wi.alloc o) p cs := ⟨h.arg.alloc o, h.gen.alloc o, only_alloc h.grown o, h.old⟩
theorem GBox.drew (h : GBox w wi p cs) : GBox w wi.drew p cs := ⟨h.arg, h.gen, ⟨h.grown.os, h.grown.tape, h.grown.output, h.grown.size, h.grown.block⟩, h.old⟩
theorem GBox.below (h : GBox w wi p cs) (hb : Below wi.heap.size wi wj) : GBox w wj p cs := ⟨h.arg.below hb h.arg.lt, h.gen.below hb, only_more h.grown (only_below hb none) (fun g e => by cases e), h.old⟩
theorem GBox.grow (h : GBox w wi p cs) {row : Option Nat} (hg : wi.grownBy wj row) (hr : ∀ g, row = some g → w.heap.size + 1 ≤ g) : GBox w wj p cs :=
  ⟨(hg.block _ h.arg.lt (fun e => by have := hr _ e.symm; omega)).trans h.arg, h.gen.other hg (fun g e => by have := hr g e; have := h.old; omega), only_more h.grown hg (fun g e => by have := hr g e; omega), h.old⟩
end
theorem gbox_new (w : World) (p : Nat) (cs : List Value) (h : Dice w p) : GBox w (w.alloc (.cells cs.toArray 28)) p cs :=
  ⟨Blk.new w _ _, h.alloc _, only_alloc (World.grownBy.refl _ _) _, h.lt⟩
theorem ownT_gen {w wi wj : World} {p : Nat} {cs : List Value} {v : Option Addr} {n k : Nat} {ts : List Tm} (G : GBox w wi p cs) (ho : OwnT wi (w.heap.size + 1) v n k ts) (hg : wi.grownBy wj (some p)) : OwnT wj (w.heap.size + 1) v n k ts :=
  ho.apart hg (fun g hgg e => by have := (ho.block g hgg).1; have := G.old; injection e with e; omega)

theorem variable_any (x : Int) (w : World) (h : InTm (1, x)) : Calls Try.prog 30 #[.int .i64 x] w fun e w' => e = .returned (.slice (some ⟨w.heap.size, 0, none⟩) 1 1) ∧ OwnT w' w.heap.size (some ⟨w.heap.size, 0, none⟩) 1 1 [(1, x)] ∧ Below w.heap.size w w' := by
  go_enter Try.func30, Try.ntmps30
  go_wp2
  go_ret
  exact ⟨rfl, ownT_one w _ 1 x h (Nat.le_refl _), (Below.refl _ _).alloc (Nat.le_refl _) _⟩
theorem number_any (x : Int) (w : World) (h : InTm (0, x)) : Calls Try.prog 20 #[.int .i64 x] w fun e w' => e = .returned (.slice (some ⟨w.heap.size, 0, none⟩) 1 1) ∧ OwnT w' w.heap.size (some ⟨w.heap.size, 0, none⟩) 1 1 [(0, x)] ∧ Below w.heap.size w w' := by
  go_enter Try.func20, Try.ntmps20
  go_wp2
  go_ret
  exact ⟨rfl, ownT_one w _ 0 x h (Nat.le_refl _), (Below.refl _ _).alloc (Nat.le_refl _) _⟩
set_option maxHeartbeats 1600000 in
theorem two_any (op : Int) (b1 o1 n1 c1 b2 o2 n2 c2 : Nat) (ts us : List Tm) (w : World) (h1 : Terms w (some ⟨b1, o1, none⟩) n1 ts) (h2 : Terms w (some ⟨b2, o2, none⟩) n2 us) (hop : InTm (op, 0)) (hs : n1 + n2 < 1048576) :
    Calls Try.prog 29 #[.int .i64 op, .slice (some ⟨b1, o1, none⟩) n1 c1, .slice (some ⟨b2, o2, none⟩) n2 c2] w fun e w' => ∃ a c, e = .returned (.slice a (n1 + n2 + 1) c) ∧ OwnT w' w.heap.size a (n1 + n2 + 1) c (ts ++ us ++ [(op, 0)]) ∧ Below w.heap.size w w' := by
  go_enter Try.func29, Try.ntmps29
  have hb0 : Below w.heap.size w (w.alloc (.cells #[] 94)) := (Below.refl _ _).alloc (Nat.le_refl _) _
  go_wp2_with (at_builtin; refine wpList_concatT _ rfl _ _ rfl w.heap.size _ _ _ [] rfl (ownT_empty w _ (Nat.le_refl _)) b1 o1 n1 c1 ts rfl (h1.below (Nat.le_refl _) hb0) (by omega) (by simp) ?_)
  intro a3 c3 w3 ho3 hg3
  have hb3 : Below w.heap.size w w3 := hb0.grown hg3.1 hb0.size (fun g e => ((ownT_empty w _ (Nat.le_refl _)).block g e).1)
  clear hg3 hb0
  go_wp2_with (at_builtin; refine wpList_concatT _ rfl _ _ rfl w.heap.size _ _ _ ts rfl ho3 b2 o2 n2 c2 us rfl (h2.below (Nat.le_refl _) hb3) (by omega) hb3.size ?_)
  intro a4 c4 w4 ho4 hg4
  have hb4 : Below w.heap.size w w4 := hb3.grown hg4.1 hb3.size (fun g e => (ho3.block g e).1)
  have hs4 := hb4.size
  clear hg4 ho3 hb3
  go_wp2_with (at_builtin; refine wpList_pushT _ rfl _ _ rfl w.heap.size _ _ _ (ts ++ us) rfl (ho4.alloc _) w4.heap.size op 0 rfl (by simp) (by simp) hop (by omega) (by simp; omega) ?_)
  intro a5 c5 w5 ho5 hg5
  have hb5 : Below w.heap.size w w5 := (hb4.alloc hs4 _).grown hg5.1 (by simp; omega) (fun g e => (ho4.block g e).1)
  go_wp2
  go_ret
  exact ⟨a5, c5, rfl, by rw [List.append_assoc]; exact ho5, hb5⟩

/-- A program's head as the laws draw it: one low, two secrets, two temps, at most one array. -/
def Head (r : PRow) (A : Nat) : Prop := r.lows.2.1 = 1 ∧ r.secrets.2.1 = 2 ∧ r.temps = 2 ∧ r.arrays.2.1 = A ∧ A ≤ 1
/-- An expression was drawn. -/
def DrewF (w : World) (p A m : Nat) (e : Ending) (w' : World) : Prop :=
  ∃ g n c ts, e = .returned (.slice (some ⟨g, 0, none⟩) n c) ∧ 1 ≤ n ∧ n ≤ m ∧ Formula 5 A ts ∧ OwnT w' w.heap.size (some ⟨g, 0, none⟩) n c ts ∧ Dice w' p ∧ w.grownBy w' (some p)
end Go.Proofs.Ytmooecbdpfhnlaa
/- The contract of the laws' own draw of an expression: formula. -/
namespace Go.Proofs.Ytmooecbdpfhnlaa
open Go.RowKit

def FSaid (d : Nat) : Prop := d ≤ 5 → ∀ (r : PRow) (A p : Nat) (w : World), Dice w p → Head r A →
  Calls Try.prog 24 #[.pointer (some ⟨p, 0, none⟩), progV r, .int .i64 (d : Int)] w (DrewF w p A (2 ^ (d + 1) - 1))
theorem inTm1 {x : Int} (h0 : 0 ≤ x) (h1 : x ≤ 255) : InTm (1, x) := inTm_small (by omega) (by omega) (by omega) (by omega)
theorem inTm0 {x : Int} (h0 : 0 ≤ x) (h1 : x ≤ 255) : InTm (0, x) := inTm_small (by omega) (by omega) (by omega) (by omega)
/-- What a leaf leaves. -/
theorem drewF_leaf {w wi wj : World} {p A m : Nat} {cs : List Value} {ts : List Tm} (G : GBox w wi p cs) (hf : Formula 5 A ts) (hm : 1 ≤ m) (ho : OwnT wj wi.heap.size (some ⟨wi.heap.size, 0, none⟩) 1 1 ts) (hb : Below wi.heap.size wi wj) :
    DrewF w p A m (.returned (.slice (some ⟨wi.heap.size, 0, none⟩) 1 1)) wj :=
  ⟨_, 1, 1, ts, rfl, Nat.le_refl _, hm, hf, ho.base (by have := G.base; omega), (G.below hb).gen, (G.below hb).grown⟩
set_option maxRecDepth 20000 in
set_option maxHeartbeats 6400000 in
theorem formula_zero : FSaid 0 := by
  intro _ r A p w hd hh
  obtain ⟨wd, ⟨a1, n1, c1⟩, ⟨a2, n2, c2⟩, tp, ⟨a3, n3, c3⟩, ⟨a4, n4, c4⟩, rows⟩ := r
  obtain ⟨rfl, rfl, rfl, rfl, hA⟩ := hh
  simp only [] at hA
  obtain ⟨wa, HW⟩ : ∃ wa, Hid (wa = w.alloc (.cells #[.int .i64 wd, .slice a1 1 c1, .slice a2 2 c2, .int .i64 2, .slice a3 n3 c3, .slice a4 n4 c4] 28)) := ⟨_, rfl⟩
  have G : GBox w wa p [.int .i64 wd, .slice a1 1 c1, .slice a2 2 c2, .int .i64 2, .slice a3 n3 c3, .slice a4 n4 c4] := by rw [HW.out]; exact gbox_new w p _ hd
  show Calls Try.prog 24 #[.pointer (some ⟨p, 0, none⟩), .agg #[.int .i64 wd, .slice a1 1 c1, .slice a2 2 c2, .int .i64 2, .slice a3 n3 c3, .slice a4 n4 c4], .int .i64 0] w _
  go_enter Try.func24, Try.ntmps24
  go_wp2_with fail
  rw [← HW.out]
  refine (diceBelow_any p _ 3 G.gen (by omega) (by omega)).mono ?_
  rintro e w1 ⟨x, hx0, hx1, rfl, hd1, hg1⟩
  have G := G.step hd1 hg1
  by_cases hx : 0 < x
  · have hxx : decide (x > 0) = true := by simpa using hx
    go_wp2_with fail
    refine (diceBelow_any p _ 5 G.gen (by omega) (by omega)).mono ?_
    rintro e w2 ⟨y, hy0, hy1, rfl, hd2, hg2⟩
    have G := G.step hd2 hg2
    go_wp2_with fail
    refine (variable_any y _ (inTm1 hy0 (by omega))).mono ?_
    rintro e w3 ⟨rfl, ho3, hb3⟩
    go_wp2
    go_ret
    exact drewF_leaf G (form_var 5 n3 hy0 (by omega) (by omega)) (by simp) ho3 hb3
  · have hxx : decide (x > 0) = false := by simpa using hx
    go_wp2_with fail
    refine (diceBelow_any p _ 4 G.gen (by omega) (by omega)).mono ?_
    rintro e w2 ⟨y, hy0, hy1, rfl, hd2, hg2⟩
    have G := G.step hd2 hg2
    go_wp2_with fail
    refine (number_any y _ (inTm0 hy0 (by omega))).mono ?_
    rintro e w3 ⟨rfl, ho3, hb3⟩
    go_wp2
    go_ret
    exact drewF_leaf G (form_num 5 n3 hy0 (by omega)) (by simp) ho3 hb3

set_option maxRecDepth 20000 in
set_option maxHeartbeats 12800000 in
theorem formula_succ (d : Nat) (ih : Hid (FSaid d)) : FSaid (d + 1) := by
  intro hd5 r A p w hd hh
  have HF : Hid (∀ w', Dice w' p → Calls Try.prog 24 #[.pointer (some ⟨p, 0, none⟩), progV r, .int .i64 (d : Int)] w' (DrewF w' p A (2 ^ (d + 1) - 1))) := Lib.hid (fun w' h => ih.out (by omega) r A p w' h hh)
  obtain ⟨wd, ⟨a1, n1, c1⟩, ⟨a2, n2, c2⟩, tp, ⟨a3, n3, c3⟩, ⟨a4, n4, c4⟩, rows⟩ := r
  obtain ⟨rfl, rfl, rfl, rfl, hA⟩ := hh
  simp only [] at hA
  obtain ⟨M, HM⟩ : ∃ M, Hid (2 ^ (d + 1) - 1 = M) := ⟨_, Lib.hid rfl⟩
  have HM2 : Hid (2 ^ (d + 1 + 1) - 1 = 2 * M + 1) := Lib.hid (by rw [← HM.out, Nat.pow_succ 2 (d + 1)]; have := Nat.one_le_two_pow (n := d + 1); omega)
  have hMs : M ≤ 100 := by
    rw [← HM.out]
    have : 2 ^ (d + 1) ≤ 2 ^ 5 := Nat.pow_le_pow_right (by omega) (by omega)
    omega
  rw [HM.out] at HF
  rw [HM2.out]
  clear ih HM HM2
  obtain ⟨wa, HW⟩ : ∃ wa, Hid (wa = w.alloc (.cells #[.int .i64 wd, .slice a1 1 c1, .slice a2 2 c2, .int .i64 2, .slice a3 n3 c3, .slice a4 n4 c4] 28)) := ⟨_, rfl⟩
  have G : GBox w wa p [.int .i64 wd, .slice a1 1 c1, .slice a2 2 c2, .int .i64 2, .slice a3 n3 c3, .slice a4 n4 c4] := by rw [HW.out]; exact gbox_new w p _ hd
  show Calls Try.prog 24 #[.pointer (some ⟨p, 0, none⟩), .agg #[.int .i64 wd, .slice a1 1 c1, .slice a2 2 c2, .int .i64 2, .slice a3 n3 c3, .slice a4 n4 c4], .int .i64 ((d + 1 : Nat) : Int)] w _
  replace HF : Hid (∀ w', Dice w' p → Calls Try.prog 24 #[.pointer (some ⟨p, 0, none⟩), .agg #[.int .i64 wd, .slice a1 1 c1, .slice a2 2 c2, .int .i64 2, .slice a3 n3 c3, .slice a4 n4 c4], .int .i64 (d : Int)] w' (DrewF w' p n3 M)) := HF
  have hd0 : (((d + 1 : Nat) : Int) == 0) = false := by simp; omega
  go_enter Try.func24, Try.ntmps24
  go_wp2_with fail
  rw [← HW.out]
  refine (diceBelow_any p _ 4 G.gen (by omega) (by omega)).mono ?_
  rintro e w0 ⟨z, hz0, hz1, rfl, hd0', hg0⟩
  have G := G.step hd0' hg0
  clear HW hg0 hd0'
  by_cases hz : z = 0
  · subst hz
    go_wp2_with fail
    refine (diceBelow_any p _ 3 G.gen (by omega) (by omega)).mono ?_
    rintro e w1 ⟨x, hx0, hx1, rfl, hd1, hg1⟩
    have G := G.step hd1 hg1
    by_cases hx : 0 < x
    · have hxx : decide (x > 0) = true := by simpa using hx
      go_wp2_with fail
      refine (diceBelow_any p _ 5 G.gen (by omega) (by omega)).mono ?_
      rintro e w2 ⟨y, hy0, hy1, rfl, hd2, hg2⟩
      have G := G.step hd2 hg2
      go_wp2_with fail
      refine (variable_any y _ (inTm1 hy0 (by omega))).mono ?_
      rintro e w3 ⟨rfl, ho3, hb3⟩
      go_wp2
      go_ret
      exact drewF_leaf G (form_var 5 n3 hy0 (by omega) (by omega)) (by omega) ho3 hb3
    · have hxx : decide (x > 0) = false := by simpa using hx
      go_wp2_with fail
      refine (diceBelow_any p _ 4 G.gen (by omega) (by omega)).mono ?_
      rintro e w2 ⟨y, hy0, hy1, rfl, hd2, hg2⟩
      have G := G.step hd2 hg2
      go_wp2_with fail
      refine (number_any y _ (inTm0 hy0 (by omega))).mono ?_
      rintro e w3 ⟨rfl, ho3, hb3⟩
      go_wp2
      go_ret
      exact drewF_leaf G (form_num 5 n3 hy0 (by omega)) (by omega) ho3 hb3
  have hzz : (z == 0) = false := by simpa using hz
  go_wp2_with fail
  refine (diceBelow_any p _ 12 G.gen (by omega) (by omega)).mono ?_
  rintro e w1 ⟨op, hop0, hop1, rfl, hd1, hg1⟩
  have G := G.step hd1 hg1
  clear hd1 hg1 hz hzz hz0 hz1
  go_wp2_with fail
  refine (diceBelow_any p _ 8 G.gen (by omega) (by omega)).mono ?_
  rintro e w2 ⟨x, hx0, hx1, rfl, hd2, hg2⟩
  have G := G.step hd2 hg2
  clear hd2 hg2
  by_cases hx : x = 0
  · subst hx
    go_wp2_with fail
    refine (diceBelow_any p _ 2 G.gen (by omega) (by omega)).mono ?_
    rintro e w3 ⟨y, hy0, hy1, rfl, hd3, hg3⟩
    have G := G.step hd3 hg3
    clear hd3 hg3
    have t0 := G.arg.cell (j := 0) rfl
    have t1 := G.arg.cell (j := 1) rfl
    have t2 := G.arg.cell (j := 2) rfl
    have t3 := G.arg.cell (j := 3) rfl
    have t4 := G.arg.cell (j := 4) rfl
    have t5 := G.arg.cell (j := 5) rfl
    go_wp2_with fail
    refine (HF.out _ G.gen).mono ?_
    rintro e w4 ⟨g4, n4', c4', ts, rfl, hn1, hnM, hf4, ho4, hd4, hg4⟩
    have O := ho4.base G.base
    have G := G.step hd4 hg4
    have hs4 := G.base
    clear ho4 hd4 hg4 t0 t1 t2 t3 t4 t5
    go_wp2_with (at_builtin; refine wpList_pushT _ rfl _ _ rfl (w.heap.size + 1) _ _ _ ts rfl (O.alloc _) w4.heap.size (3 + y) 0 rfl (by simp) (by simp) (inTm_small (by omega) (by omega) (by omega) (by omega)) (by omega) (by simp; omega) ?_)
    intro a5 c5 w5 ho5 hg5
    obtain ⟨g5, rfl, _, _⟩ := ownT_some ho5 (by omega)
    have G := (G.alloc _).grow hg5.1 (fun g e => (O.block g e).1)
    clear hg5 O
    go_wp2
    go_ret
    exact ⟨g5, _, c5, _, rfl, by omega, by omega, form_not hf4 (by omega) (by omega), ho5.base (by omega), G.gen, G.grown⟩
  have hxx : (x == 0) = false := by simpa using hx
  clear hx hx0 hx1
  have t0 := G.arg.cell (j := 0) rfl
  have t1 := G.arg.cell (j := 1) rfl
  have t2 := G.arg.cell (j := 2) rfl
  have t3 := G.arg.cell (j := 3) rfl
  have t4 := G.arg.cell (j := 4) rfl
  have t5 := G.arg.cell (j := 5) rfl
  go_upto_region 10 with fail
  go_cut [62] (fun s wx => ∃ b : Bool, s = .bool b ∧ (b = true → 0 < n3) ∧ GBox w wx p [.int .i64 wd, .slice a1 1 c1, .slice a2 2 c2, .int .i64 2, .slice a3 n3 c3, .slice a4 n4 c4])
  case first =>
    by_cases hn3 : 0 < n3
    · have hnn : decide ((n3 : Int) > 0) = true := by simp; omega
      go_wp2_with fail
      refine (diceBelow_any p _ 8 G.gen (by omega) (by omega)).mono ?_
      rintro e w3 ⟨y, hy0, hy1, rfl, hd3, hg3⟩
      have G := G.step hd3 hg3
      go_wp2_with fail
      go_meet
      exact ⟨y == 0, rfl, fun _ => hn3, G⟩
    · have hnn : decide ((n3 : Int) > 0) = false := by simp; omega
      go_wp2_with fail
      go_meet
      exact ⟨false, rfl, (fun h => Bool.noConfusion h), G⟩
  case rest =>
    clear t0 t1 t2 t3 t4 t5 G
    obtain ⟨b, rfl, hb3, G⟩ := hcut
    have t0 := G.arg.cell (j := 0) rfl
    have t1 := G.arg.cell (j := 1) rfl
    have t2 := G.arg.cell (j := 2) rfl
    have t3 := G.arg.cell (j := 3) rfl
    have t4 := G.arg.cell (j := 4) rfl
    have t5 := G.arg.cell (j := 5) rfl
    cases b with
    | true =>
      have hn3 := hb3 rfl
      go_wp2_with fail
      have G0 := G.drew
      have hwd : IntKind.i64.wrap (d : Int) = (d : Int) := wrapI _ (by omega) (by omega)
      go_region_held3 (fun w' => w'.cell? ⟨w.heap.size, 0, none⟩ = some (.int .i64 wd) ∧ w'.cell? ⟨w.heap.size, 1, none⟩ = some (.slice a1 1 c1) ∧ w'.cell? ⟨w.heap.size, 2, none⟩ = some (.slice a2 2 c2) ∧ w'.cell? ⟨w.heap.size, 3, none⟩ = some (.int .i64 2) ∧ w'.cell? ⟨w.heap.size, 4, none⟩ = some (.slice a3 n3 c3) ∧ w'.cell? ⟨w.heap.size, 5, none⟩ = some (.slice a4 n4 c4)) (first | (refine ⟨?_, ?_, ?_, ?_, ?_, ?_⟩ <;> assumption) | go_keep | (refine ⟨?_, ?_, ?_, ?_, ?_, ?_⟩ <;> go_keep)) (first
        | (go_at_call 24; refine (HF.out _ G0.gen).mono ?_; rintro e w4 ⟨g4, n4', c4', ts, rfl, hn1, hnM, hf4, ho4, hd4, hg4⟩; have O := ho4.base G0.base; have G1 := G0.step hd4 hg4; have u0 := G1.arg.cell (j := 0) rfl; have u1 := G1.arg.cell (j := 1) rfl; have u2 := G1.arg.cell (j := 2) rfl; have u3 := G1.arg.cell (j := 3) rfl; have u4 := G1.arg.cell (j := 4) rfl; have u5 := G1.arg.cell (j := 5) rfl; clear ho4 hd4 hg4)
        | (go_at_call 19; refine (diceBelow_any p _ (n3 : Int) G1.gen (by omega) (by omega)).mono ?_; rintro e w5 ⟨y, hy0, hy1, rfl, hd5, hg5⟩; have O5 := ownT_gen G1 O hg5; have G2 := G1.step hd5 hg5; have hs5 := G2.base; have v0 := G2.arg.cell (j := 0) rfl; have v1 := G2.arg.cell (j := 1) rfl; have v2 := G2.arg.cell (j := 2) rfl; have v3 := G2.arg.cell (j := 3) rfl; have v4 := G2.arg.cell (j := 4) rfl; have v5 := G2.arg.cell (j := 5) rfl; clear hd5 hg5)
        | (refine step_pushT _ (by rfl) _ _ (by rfl) (w.heap.size + 1) _ _ _ ts (by rfl) (O5.alloc _) w5.heap.size 2 y (by rfl) (by simp) (by simp) (inTm_small (by omega) (by omega) (by omega) (by omega)) (by omega) (by simp; omega) ?_; intro a6 c6 w6 ho6 hg6; have G3 := (G2.alloc _).grow hg6.1 (fun g e => (O5.block g e).1); have x0 := G3.arg.cell (j := 0) rfl; have x1 := G3.arg.cell (j := 1) rfl; have x2 := G3.arg.cell (j := 2) rfl; have x3 := G3.arg.cell (j := 3) rfl; have x4 := G3.arg.cell (j := 4) rfl; have x5 := G3.arg.cell (j := 5) rfl))
      all_goals
        obtain ⟨g6, rfl, _, _⟩ := ownT_some ho6 (by omega)
        go_wp2
        go_ret
        exact ⟨g6, _, c6, _, rfl, by omega, by omega, form_cell hf4 hy0 (by omega) (by omega), ho6.base (by omega), G3.gen, G3.grown⟩
    | false =>
      go_wp2_with fail
      have G0 := G.drew
      have hwd : IntKind.i64.wrap (d : Int) = (d : Int) := wrapI _ (by omega) (by omega)
      go_region_held3 (fun w' => w'.cell? ⟨w.heap.size, 0, none⟩ = some (.int .i64 wd) ∧ w'.cell? ⟨w.heap.size, 1, none⟩ = some (.slice a1 1 c1) ∧ w'.cell? ⟨w.heap.size, 2, none⟩ = some (.slice a2 2 c2) ∧ w'.cell? ⟨w.heap.size, 3, none⟩ = some (.int .i64 2) ∧ w'.cell? ⟨w.heap.size, 4, none⟩ = some (.slice a3 n3 c3) ∧ w'.cell? ⟨w.heap.size, 5, none⟩ = some (.slice a4 n4 c4)) (first | (refine ⟨?_, ?_, ?_, ?_, ?_, ?_⟩ <;> assumption) | go_keep | (refine ⟨?_, ?_, ?_, ?_, ?_, ?_⟩ <;> go_keep)) (first
        | (go_at_call 24; refine (HF.out _ G0.gen).mono ?_; rintro e w4 ⟨g4, n4', c4', ts, rfl, hn1, hnM, hf4, ho4, hd4, hg4⟩; have O := ho4.base G0.base; have G1 := G0.step hd4 hg4; have u0 := G1.arg.cell (j := 0) rfl; have u1 := G1.arg.cell (j := 1) rfl; have u2 := G1.arg.cell (j := 2) rfl; have u3 := G1.arg.cell (j := 3) rfl; have u4 := G1.arg.cell (j := 4) rfl; have u5 := G1.arg.cell (j := 5) rfl; clear ho4 hd4 hg4)
        | (go_at_call 24; refine (HF.out _ G1.gen).mono ?_; rintro e w5 ⟨g5, n5, c5, us, rfl, hn51, hn5M, hf5, ho5, hd5, hg5⟩; have O5 := ho5.base G1.base; have O4 := ownT_gen G1 O hg5; have G2 := G1.step hd5 hg5; have v0 := G2.arg.cell (j := 0) rfl; have v1 := G2.arg.cell (j := 1) rfl; have v2 := G2.arg.cell (j := 2) rfl; have v3 := G2.arg.cell (j := 3) rfl; have v4 := G2.arg.cell (j := 4) rfl; have v5 := G2.arg.cell (j := 5) rfl; clear ho5 hd5 hg5)
        | (go_at_call 29; refine (two_any _ _ _ _ _ _ _ _ _ ts us _ O4.terms O5.terms (inTm_small (by omega) (by omega) (by omega) (by omega)) (by omega)).mono ?_; rintro e w6 ⟨a6, c6, rfl, ho6, hb6⟩; have G3 := G2.below hb6; have x0 := G3.arg.cell (j := 0) rfl; have x1 := G3.arg.cell (j := 1) rfl; have x2 := G3.arg.cell (j := 2) rfl; have x3 := G3.arg.cell (j := 3) rfl; have x4 := G3.arg.cell (j := 4) rfl; have x5 := G3.arg.cell (j := 5) rfl))
      all_goals
        obtain ⟨g6, rfl, _, _⟩ := ownT_some ho6 (by omega)
        have hs6 := G2.base
        go_wp2
        go_ret
        exact ⟨g6, _, c6, _, rfl, by omega, by omega, form_two hf4 hf5 (by omega) (by omega), ho6.base (by omega), G3.gen, G3.grown⟩
theorem formula_all : ∀ d, FSaid d := by
  intro d
  induction d with
  | zero => exact formula_zero
  | succ d ih => exact formula_succ d (Lib.hid ih)
theorem formula_any (r : PRow) (A p d : Nat) (w : World) (hd : d ≤ 5) (hd' : Dice w p) (hh : Head r A) :
    Calls Try.prog 24 #[.pointer (some ⟨p, 0, none⟩), progV r, .int .i64 (d : Int)] w (DrewF w p A (2 ^ (d + 1) - 1)) := formula_all d hd r A p w hd' hh
end Go.Proofs.Ytmooecbdpfhnlaa
