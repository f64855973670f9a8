/- Joined texts of this proof (StepPush, RunMem, ImplSmall, StartMath), in build order. -/
import Derived.Test.YtalcambmmbilkaaJ12
import Derived.Test.YtalcambmmbilkaaJ11
import Derived.Deep.RegionHeld3
import Derived.Deep.AppendLies
import Derived.Test.YtalcambmmbilkaaJ10
/- 'append' at a step of a region that draws its order: Terms, Stmts. -/
namespace Go.Proofs.Ytalcambmmbilkaa
open Go.RowKit

theorem wrapI (n : Int) (h0 : 0 ≤ n) (h1 : n ≤ 1048576) : IntKind.i64.wrap n = n := by
  rw [IntKind.wrap_i64]
  omega
/-- 'append(s, x...)', s of the call's own, x some cells at an address: whatever the element type. -/
theorem step_pushG {ops : Array Oper} {o : Oper} {ac : Act} {K : Act → World → Prop} {Q : Exit → Act → World → Prop} {E : Prop} (w : World) (hgd : o.guard = none) (s x : Operand) (t e : TypeId) (z : Value) (size bytes : Nat)
    (ho : o.op = .call { callee := .builtin .append, args := #[s, x], argTypes := #[t, t] }) (ht : Try.prog.underlying t = some (.slice e)) (hinf : (Try.prog.info? e).map (fun i => (i.zero, i.size, i.bytes)) = some (some z, size, bytes)) (hzs : z.cells.size = size) (hsz : 0 < size)
    (B : Nat) (a : Option Addr) (n c : Nat) (xs : List Value) (hs : ac.eval s = .slice a n c) (hown : w.ownsRow B e size (.slice a n c) n xs)
    (ad : Addr) (m c2 : Nat) (news : List Value) (hx : ac.eval x = .slice (some ad) m c2) (hl : news.length = m * size) (hnews : ∀ j u, news[j]? = some u → w.cell? (ad.add j) = some u) (h1 : ∀ u ∈ news, u.oneCell' = true)
    (hm : 0 < m) (h63 : n + m ≤ maxLen) (hbytes : (n + m) * bytes ≤ 140737488355328) (hB : B ≤ w.heap.size)
    (h : ∀ g c1 w', w'.ownsRow B e size (.slice (some ⟨g, 0, none⟩) (n + m) c1) (n + m) (xs ++ news) → GrowsTo w (.slice a n c) w' (.slice (some ⟨g, 0, none⟩) (n + m) c1) → K (ac.put o.dst (.slice (some ⟨g, 0, none⟩) (n + m) c1)) w') :
    if Region.wanted o (yielded ops ac.tmps) = true then Oper.wp Try.prog o ac w K Q else E := by
  obtain ⟨i0, hi, hz0, hz1, hz2⟩ := info_parts hinf
  refine step_append_lies w hgd s x t ho B e i0 z size bytes ht hi hz0 hz1 hz2 hzs hsz (.slice a n c) n xs hs hown ad m c2 news hx hl hnews h1 hm h63 hbytes hB w.heap.size rfl ?_
  intro g cap w' r1 r2 r3 _
  refine h g cap w' r1 ⟨r2, fun g' hg' => ?_⟩
  have : g = g' := by simpa [Value.ownBlock] using hg'
  subst this
  rcases r3 with r3 | r3
  · exact .inl r3
  · exact .inr (by omega)
theorem step_pushT {ops : Array Oper} {o : Oper} {ac : Act} {K : Act → World → Prop} {Q : Exit → Act → World → Prop} {E : Prop} (w : World) (hgd : o.guard = none) (s x : Operand)
    (ho : o.op = .call { callee := .builtin .append, args := #[s, x], argTypes := #[35, 35] })
    (B : Nat) (a : Option Addr) (n c : Nat) (ts : List Tm) (hs : ac.eval s = .slice a n c) (hown : OwnT w B a n c ts)
    (g : Nat) (p q : Int) (hx : ac.eval x = .slice (some ⟨g, 0, none⟩) 1 1) (hc1 : w.cell? ⟨g, 0, none⟩ = some (.int .i64 p)) (hc2 : w.cell? ⟨g, 1, none⟩ = some (.int .i64 q)) (hin : InTm (p, q)) (hn : n < 1048576) (hB : B ≤ w.heap.size)
    (h : ∀ a1 c1 w', OwnT w' B a1 (n + 1) c1 (ts ++ [(p, q)]) → GrowsTo w (.slice a n c) w' (.slice a1 (n + 1) c1) → K (ac.put o.dst (.slice a1 (n + 1) c1)) w') :
    if Region.wanted o (yielded ops ac.tmps) = true then Oper.wp Try.prog o ac w K Q else E := by
  refine step_pushG w hgd s x 35 83 (.agg #[.int .i64 0, .int .i64 0]) 2 16 ho Try.underlying35 info_term rfl (by omega) B a n c (flatV ts) hs hown.1 ⟨g, 0, none⟩ 1 1 [.int .i64 p, .int .i64 q] hx rfl ?_ ?_ (by omega) ?_ ?_ hB ?_
  · intro j u hj
    match j, hj with
    | 0, hj => simp at hj; subst hj; simpa [Addr.add] using hc1
    | 1, hj => simp at hj; subst hj; simpa [Addr.add] using hc2
  · intro u hu; simp at hu; rcases hu with rfl | rfl <;> rfl
  · unfold maxLen; omega
  · omega
  · intro a1 c1 w' r1 r2
    refine h _ c1 w' ⟨by rw [flatV_append]; exact r1, by omega, fun t ht => ?_⟩ r2
    rcases List.mem_append.1 ht with ht | ht
    · exact hown.2.2 t ht
    · rw [List.mem_singleton] at ht; subst ht; exact hin
theorem step_pushS {ops : Array Oper} {o : Oper} {ac : Act} {K : Act → World → Prop} {Q : Exit → Act → World → Prop} {E : Prop} (w : World) (hgd : o.guard = none) (s x : Operand)
    (ho : o.op = .call { callee := .builtin .append, args := #[s, x], argTypes := #[29, 29] })
    (B : Nat) (a : Option Addr) (n c : Nat) (hs : ac.eval s = .slice a n c) (hown : AnyS w B a n c)
    (ad : Addr) (m c2 : Nat) (hx : ac.eval x = .slice (some ad) m c2) (hnews : News w B ad m) (hm : 0 < m) (hn : n + m ≤ 1048576) (hB : B ≤ w.heap.size)
    (h : ∀ a1 c1 w', AnyS w' B a1 (n + m) c1 → GrowsTo w (.slice a n c) w' (.slice a1 (n + m) c1) → K (ac.put o.dst (.slice a1 (n + m) c1)) w') :
    if Region.wanted o (yielded ops ac.tmps) = true then Oper.wp Try.prog o ac w K Q else E := by
  obtain ⟨rs, ss, hown⟩ := hown
  obtain ⟨us, vs, hu, hv, hc, hst⟩ := hnews
  refine step_pushG w hgd s x 29 37 (.agg #[.int .i64 0, .int .i64 0, .slice none 0 0, .slice none 0 0]) 4 64 ho Try.underlying29 info_stmt rfl (by omega) B a n c (flatS rs) hs hown.1 ad m c2 (flatS us) hx (by rw [flatS_len, hu]) hc (flatS_one us) hm (by unfold maxLen; omega) (by omega) hB ?_
  intro g c1 w' r1 r2
  refine h _ c1 w' ⟨rs ++ us, ss ++ vs, by rw [flatS_append]; exact r1, hn, by rw [List.length_append, hown.2.2.1, hv], fun i hi => ?_⟩ r2
  have hlr := hown.len
  have hls := hown.2.2.1
  rcases Nat.lt_or_ge i n with hlt | hge
  · rw [srAt_append_left (by omega), stAt_append_left (by omega)]
    exact (hown.2.2.2 i hlt).rowGrew hown.1 r2.1
  · rw [srAt_append_right (by omega), stAt_append_right (by omega), hlr, hls]
    exact (hst (i - n) (by omega)).rowGrew hown.1 r2.1
theorem step_pushI {ops : Array Oper} {o : Oper} {ac : Act} {K : Act → World → Prop} {Q : Exit → Act → World → Prop} {E : Prop} (w : World) (hgd : o.guard = none) (s x : Operand)
    (ho : o.op = .call { callee := .builtin .append, args := #[s, x], argTypes := #[28, 28] })
    (B : Nat) (a : Option Addr) (n c : Nat) (zs : List Int) (hs : ac.eval s = .slice a n c) (hown : Own w B a n c zs)
    (g : Nat) (z : Int) (hx : ac.eval x = .slice (some ⟨g, 0, none⟩) 1 1) (hc1 : w.cell? ⟨g, 0, none⟩ = some (.int .i64 z)) (hin : In64 z) (hn : n < 1048576) (hB : B ≤ w.heap.size)
    (h : ∀ a1 c1 w', Own w' B a1 (n + 1) c1 (zs ++ [z]) → GrowsTo w (.slice a n c) w' (.slice a1 (n + 1) c1) → K (ac.put o.dst (.slice a1 (n + 1) c1)) w') :
    if Region.wanted o (yielded ops ac.tmps) = true then Oper.wp Try.prog o ac w K Q else E := by
  refine step_pushG w hgd s x 28 2 (.int .i64 0) 1 8 ho Try.underlying28 info_i64 rfl (by omega) B a n c (zs.map (Value.int .i64)) hs hown.1 ⟨g, 0, none⟩ 1 1 [.int .i64 z] hx rfl ?_ ?_ (by omega) ?_ ?_ hB ?_
  · intro j u hj
    match j, hj with
    | 0, hj => simp at hj; subst hj; simpa [Addr.add] using hc1
  · intro u hu; simp at hu; subst hu; rfl
  · unfold maxLen; omega
  · omega
  · intro a1 c1 w' r1 r2
    refine h _ c1 w' ⟨by rw [List.map_append]; exact r1, by omega, fun t ht => ?_⟩ r2
    rcases List.mem_append.1 ht with ht | ht
    · exact hown.2.2 t ht
    · rw [List.mem_singleton] at ht; subst ht; exact hin
theorem wpList_pushJ {ops : Array Oper} {rest : List Oper} {o : Oper} {ac : Act} {Q : Exit → Act → World → Prop} (w : World) (hgd : o.guard = none) (s x : Operand)
    (ho : o.op = .call { callee := .builtin .append, args := #[s, x], argTypes := #[28, 28] })
    (B : Nat) (a : Option Addr) (n c : Nat) (zs : List Int) (hs : ac.eval s = .slice a n c) (hown : Own w B a n c zs)
    (g : Nat) (z : Int) (hx : ac.eval x = .slice (some ⟨g, 0, none⟩) 1 1) (hc : w.cell? ⟨g, 0, none⟩ = some (.int .i64 z)) (hz : In64 z) (hn : n < 1048576) (hB : B ≤ w.heap.size)
    (h : ∀ a1 c1 w', Own w' B a1 (n + 1) c1 (zs ++ [z]) → GrowsTo w (.slice a n c) w' (.slice a1 (n + 1) c1) → wpList Try.prog ops Q rest (ac.put o.dst (.slice a1 (n + 1) c1)) w') : wpList Try.prog ops Q (o :: rest) ac w := by
  refine wpList_pushG w hgd s x 28 2 (.int .i64 0) 1 8 ho Try.underlying28 info_i64 rfl (by omega) B a n c (zs.map (Value.int .i64)) hs hown.1 ⟨g, 0, none⟩ 1 1 [.int .i64 z] hx rfl ?_ ?_ ?_ ?_ hB ?_
  · intro j u hj
    match j, hj with
    | 0, hj => simp at hj; subst hj; simpa [Addr.add] using hc
  · intro u hu; simp at hu; subst hu; rfl
  · unfold maxLen; omega
  · omega
  · intro a1 c1 w' r1 r2
    refine h a1 c1 w' ⟨by simpa using r1, by omega, fun y hy => ?_⟩ r2
    rcases List.mem_append.1 hy with hy | hy
    · exact hown.2.2 y hy
    · rw [List.mem_singleton] at hy; subst hy; exact hz
end Go.Proofs.Ytalcambmmbilkaa
/- The memory of a run: the rows of variables, of cells, of what was put out, each in a block of its own; what a write leaves. The states of a right program. -/
namespace Go.Proofs.Ytalcambmmbilkaa
open Go.RowKit

section
variable {w w' : World} {B : Nat} {a : Option Addr} {n c : Nat} {zs : List Int} {rs : List Sl} {css : List (List Int)} {row : Option Nat}
theorem Own.keep (h : Own w B a n c zs) (hg : w.grownBy w' row) (hr : ∀ g, (Value.slice a n c).ownBlock = some g → row ≠ some g) : Own w' B a n c zs := by
  refine ⟨h.1.kept hg ?_, h.2⟩
  cases hv : (Value.slice a n c).ownBlock with
  | none => exact .inl rfl
  | some g => exact .inr fun e => hr g hv e.symm
theorem OwnIS.keep (h : OwnIS w B a n c rs css) (hg : w.grownBy w' row) (ho : ∀ g, (Value.slice a n c).ownBlock = some g → row ≠ some g) (hr : ∀ i g, i < n → (slV (slAt rs i)).ownBlock = some g → row ≠ some g) : OwnIS w' B a n c rs css := by
  refine ⟨h.1.kept hg ?_, h.2.1, h.2.2.1, fun i hi => (h.2.2.2 i hi).keep hg (hr i · hi)⟩
  cases hv : (Value.slice a n c).ownBlock with
  | none => exact .inl rfl
  | some g => exact .inr fun e => ho g hv e.symm
/-- A box of another type is no such row. -/
theorem blk_apart {b : Nat} {t e : TypeId} {xs vs : List Value} {v : Value} {size m : Nat} (hb : Blk w b t xs) (ho : w.ownsRow B e size v m vs) (hne : t ≠ e) : ∀ g, v.ownBlock = some g → (some b : Option Nat) ≠ some g := by
  intro g hg hbg
  injection hbg with hbg
  subst hbg
  obtain ⟨c1, f1, e1⟩ := Go.Lib.ownsRow_kind ho b hg
  rw [show w.heap[b]? = _ from hb] at e1
  injection e1 with e1
  injection e1 with _ e1
  exact hne e1
end
/-- The rows of a run. -/
structure EnvMem (w : World) (B : Nat) (er : ERow) (os : Sl) (q : Sta) : Prop where
  vars : Own w B er.vars.1 er.vars.2.1 er.vars.2.2 q.vars
  cells : OwnIS w B er.cells.1 er.cells.2.1 er.cells.2.2 er.rows q.cells
  outs : Own w B os.1 os.2.1 os.2.2 q.outs
  vo : ∀ g, (slV er.vars).ownBlock = some g → (slV os).ownBlock ≠ some g
  cv : ∀ i g, i < er.cells.2.1 → (slV (slAt er.rows i)).ownBlock = some g → (slV er.vars).ownBlock ≠ some g
  co : ∀ i g, i < er.cells.2.1 → (slV (slAt er.rows i)).ownBlock = some g → (slV os).ownBlock ≠ some g
  cc : ∀ i j g, i < er.cells.2.1 → j < er.cells.2.1 → (slV (slAt er.rows i)).ownBlock = some g → (slV (slAt er.rows j)).ownBlock = some g → i = j
section
variable {w w' : World} {B : Nat} {er : ERow} {os os' : Sl} {q : Sta} {row : Option Nat}
theorem EnvMem.env (h : EnvMem w B er os q) : EnvAt w er (envOf q) := ⟨h.vars.ints, h.cells.reads⟩
theorem EnvMem.below (h : EnvMem w B er os q) (hb : Below w.heap.size w w') : EnvMem w' B er os q := ⟨h.vars.below hb, h.cells.below hb, h.outs.below hb, h.vo, h.cv, h.co, h.cc⟩
theorem EnvMem.alloc (h : EnvMem w B er os q) (o : Obj) : EnvMem (w.alloc o) B er os q := h.below ((Below.refl _ _).alloc (Nat.le_refl _) o)
theorem EnvMem.drewN (h : EnvMem w B er os q) (k : Nat) : EnvMem (w.drewN k) B er os q := h.below ⟨rfl, rfl, rfl, Nat.le_refl _, fun _ _ => rfl⟩
theorem EnvMem.keep (h : EnvMem w B er os q) (hg : w.grownBy w' row) (hv : ∀ g, (slV er.vars).ownBlock = some g → row ≠ some g) (ho : ∀ g, (slV os).ownBlock = some g → row ≠ some g) (hc : ∀ g, (slV er.cells).ownBlock = some g → row ≠ some g) (hr : ∀ i g, i < er.cells.2.1 → (slV (slAt er.rows i)).ownBlock = some g → row ≠ some g) : EnvMem w' B er os q :=
  ⟨h.vars.keep hg hv, h.cells.keep hg hc hr, h.outs.keep hg ho, h.vo, h.cv, h.co, h.cc⟩
/-- What is written into a box of another type. -/
theorem EnvMem.box (h : EnvMem w B er os q) {b : Nat} {t : TypeId} {xs : List Value} (hb : Blk w b t xs) (h1 : t ≠ 2) (h2 : t ≠ 28) (hg : w.grownBy w' (some b)) : EnvMem w' B er os q :=
  h.keep hg (blk_apart hb h.vars.1 h1) (blk_apart hb h.outs.1 h1) (blk_apart hb h.cells.1 h2) (fun i g hi hgg => blk_apart hb (h.cells.2.2.2 i hi).1 h1 g hgg)
theorem EnvMem.set (h : EnvMem w B er os q) {b j : Nat} {t : TypeId} {xs : List Value} (hb : Blk w b t xs) (h1 : t ≠ 2) (h2 : t ≠ 28) (v : Value) : EnvMem (w.setCell ⟨b, j, none⟩ v) B er os q := h.box hb h1 h2 (grown_set _ _ _ _)
theorem in64_set {zs : List Int} {k : Nat} {z : Int} (h : ∀ x ∈ zs, In64 x) (hz : In64 z) : ∀ x ∈ zs.set k z, In64 x := fun x hx => by
  rcases List.mem_or_eq_of_mem_set hx with h' | h'
  · exact h x h'
  · rw [h']; exact hz
/-- A variable is written. -/
theorem EnvMem.setV (h : EnvMem w B er os q) {g k : Nat} {z : Nat} (hz : In64 (z : Int)) (ha : er.vars.1 = some ⟨g, 0, none⟩) {n : Int} (hk : n.toNat = k) : EnvMem (w.setCell ⟨g, k, none⟩ (.int .i64 (z : Int))) B er os (setV q n z) := by
  subst hk
  have hb : (slV er.vars).ownBlock = some g := by rw [slV, ha]; rfl
  have hg := grown_set w g n.toNat (.int .i64 (z : Int))
  have hv := h.vars
  rw [ha] at hv
  refine ⟨?_, h.cells.keep hg (fun g' hg' e => ?_) (fun i g' hi hg' e => ?_), h.outs.keep hg (fun g' hg' e => ?_), h.vo, h.cv, h.co, h.cc⟩
  · rw [ha]
    exact ⟨own_put hv.1 _ _, hv.2.1, in64_set hv.2.2 hz⟩
  · injection e with e
    subst e
    exact own_kinds h.cells.1 h.vars.1 (by decide) hg' hb
  · injection e with e
    subst e
    exact h.cv i g hi hg' hb
  · injection e with e
    subst e
    exact h.vo g hb hg'
/-- A cell is written. -/
theorem EnvMem.putC (h : EnvMem w B er os q) {g k i : Nat} {z : Nat} (hz : In64 (z : Int)) (hi : i < er.cells.2.1) (ha : (slAt er.rows i).1 = some ⟨g, 0, none⟩) {n : Int} (hk : n.toNat = i) : EnvMem (w.setCell ⟨g, k, none⟩ (.int .i64 (z : Int))) B er os (putC q n k z) := by
  subst hk
  have hb : (slV (slAt er.rows n.toNat)).ownBlock = some g := by rw [slV, ha]; rfl
  have hg := grown_set w g k (.int .i64 (z : Int))
  have hlen : q.cells.length = er.cells.2.1 := h.cells.2.2.1
  refine ⟨h.vars.keep hg (fun g' hg' e => ?_), ⟨h.cells.1.kept hg ?_, h.cells.2.1, ?_, fun j hj => ?_⟩, h.outs.keep hg (fun g' hg' e => ?_), h.vo, h.cv, h.co, h.cc⟩
  · injection e with e
    subst e
    exact h.cv _ g hi hb hg'
  · cases hv : (Value.slice er.cells.1 er.cells.2.1 er.cells.2.2).ownBlock with
    | none => exact .inl rfl
    | some g' =>
      refine .inr fun e => ?_
      injection e with e
      subst e
      exact own_kinds h.cells.1 (h.cells.2.2.2 _ hi).1 (by decide) hv hb
  · simp [Go.Proofs.Ytalcambmmbilkaa.putC, hlen]
  · have ho := h.cells.2.2.2 j hj
    by_cases hjn : j = n.toNat
    · subst hjn
      have e : intsAt (Go.Proofs.Ytalcambmmbilkaa.putC q n k z).cells n.toNat = (intsAt q.cells n.toNat).set k (z : Int) := by
        show (q.cells.set n.toNat _).getD n.toNat [] = _
        rw [List.getD_eq_getElem?_getD, List.getElem?_set_self (by omega)]
        rfl
      rw [e]
      rw [ha] at ho ⊢
      exact ⟨own_put ho.1 _ _, ho.2.1, in64_set ho.2.2 hz⟩
    · have e : intsAt (Go.Proofs.Ytalcambmmbilkaa.putC q n k z).cells j = intsAt q.cells j := by
        show (q.cells.set n.toNat _).getD j [] = _
        rw [List.getD_eq_getElem?_getD, List.getElem?_set_ne (by omega)]
        rw [intsAt, List.getD_eq_getElem?_getD]
      rw [e]
      exact ho.keep hg (fun g' hg' e' => hjn (by injection e' with e'; subst e'; exact h.cc _ _ g hj hi hg' hb))
  · injection e with e
    subst e
    exact h.co _ g hi hb hg'
/-- A value is put out. -/
theorem EnvMem.push (h : EnvMem w B er os q) {z : Nat} (ho : Own w' B os'.1 os'.2.1 os'.2.2 (q.outs ++ [(z : Int)])) (hg : GrowsTo w (slV os) w' (slV os')) : EnvMem w' B er os' (outV q z) := by
  have new : ∀ g, (slV os').ownBlock = some g → g < w.heap.size → (slV os).ownBlock = some g := fun g h1 h2 => by
    rcases hg.2 g h1 with h | h
    · exact h
    · omega
  refine ⟨h.vars.keep hg.1 (fun g hgg e => h.vo g hgg e), h.cells.keep hg.1 (fun g hgg e => own_kinds h.cells.1 h.outs.1 (by decide) hgg e) (fun i g hi hgg e => h.co i g hi hgg e), ho, fun g hgg e => ?_, h.cv, fun i g hi hgg e => ?_, h.cc⟩
  · exact h.vo g hgg (new g e (h.vars.block g hgg).2)
  · exact h.co i g hi hgg (new g e ((h.cells.2.2.2 i hi).block g hgg).2)
/-- A row that the variables' or the cells' or outs' is lies from B on. -/
theorem EnvMem.varsB (h : EnvMem w B er os q) {g : Nat} (ha : er.vars.1 = some ⟨g, 0, none⟩) : B ≤ g := (h.vars.block g (by rw [ha]; rfl)).1
theorem EnvMem.cellB (h : EnvMem w B er os q) {i g : Nat} (hi : i < er.cells.2.1) (ha : (slAt er.rows i).1 = some ⟨g, 0, none⟩) : B ≤ g := ((h.cells.2.2.2 i hi).block g (by rw [ha]; rfl)).1
end

/-- A state of the program p. -/
structure StaOk (p : Prg) (q : Sta) : Prop where
  env : envB p (envOf q) = true
  outs : ∀ z ∈ q.outs, 0 ≤ z ∧ z < ((2 ^ p.width.toNat : Nat) : Int)
/-- A statement of it. -/
def goodS (p : Prg) (s : Stm) : Prop := stmtB (2 ^ p.width.toNat) (p.lows.length + p.secrets.length) p.temps.toNat p.arrays.length s = true
theorem goodS_exp {p : Prg} {s : Stm} (h : goodS p s) (ho : s.op = 0 ∨ s.op = 1 ∨ s.op = 2 ∨ s.op = 6) : namesB (2 ^ p.width.toNat) (p.lows.length + p.secrets.length + p.temps.toNat) p.arrays.length s.exp = true ∧ s.exp.length ≤ 40 := by
  simp only [goodS, stmtB, Bool.and_eq_true] at h
  have hb : bears s.op = true := by
    unfold bears
    rcases ho with e | e | e | e <;> rw [e] <;> rfl
  have := h.1.1.2
  rw [hb] at this
  simp only [Bool.not_true, Bool.false_or, bodyB, Bool.and_eq_true, decide_eq_true_eq] at this
  exact ⟨this.2.2, this.2.1⟩
theorem goodS_at {p : Prg} {s : Stm} (h : goodS p s) (ho : s.op = 1) : namesB (2 ^ p.width.toNat) (p.lows.length + p.secrets.length + p.temps.toNat) p.arrays.length s.at_ = true ∧ s.at_.length ≤ 40 := by
  simp only [goodS, stmtB, Bool.and_eq_true] at h
  have := h.1.2
  rw [ho] at this
  simp only [beq_self_eq_true, Bool.not_true, Bool.false_or, bodyB, Bool.and_eq_true, decide_eq_true_eq] at this
  exact ⟨this.2.2, this.2.1⟩
theorem goodS_num {p : Prg} {s : Stm} (h : goodS p s) : numOk (p.lows.length + p.secrets.length) p.temps.toNat p.arrays.length s.op s.n = true := by
  simp only [goodS, stmtB, Bool.and_eq_true] at h
  exact h.2
theorem goodS_set {p : Prg} {s : Stm} {q : Sta} (h : goodS p s) (hq : StaOk p q) (ho : s.op = 0) : 0 ≤ s.n ∧ s.n.toNat < q.vars.length := by
  have := goodS_num h
  rw [ho] at this
  simp only [numOk, if_pos, Bool.and_eq_true, decide_eq_true_eq] at this
  have e := env_vars hq.env
  simp only [envOf] at e
  omega
theorem goodS_put {p : Prg} {s : Stm} {q : Sta} (h : goodS p s) (hq : StaOk p q) (ho : s.op = 1) : 0 ≤ s.n ∧ s.n.toNat < q.cells.length := by
  have := goodS_num h
  rw [ho] at this
  simp [numOk] at this
  have e := (envB_ok hq.env).2.2.1
  simp only [envOf] at e
  omega
theorem goodS_reck {p : Prg} {q : Sta} {ts : List Tm} (hq : StaOk p q) (h : namesB (2 ^ p.width.toNat) (p.lows.length + p.secrets.length + p.temps.toNat) p.arrays.length ts = true) : Reck (2 ^ p.width.toNat) (envOf q) ts := reck_of hq.env h
theorem vl_lt {p : Prg} {q : Sta} {ts : List Tm} (hq : StaOk p q) (h : namesB (2 ^ p.width.toNat) (p.lows.length + p.secrets.length + p.temps.toNat) p.arrays.length ts = true) : vlS (2 ^ p.width.toNat) q ts < 2 ^ p.width.toNat := by
  have := plainB_lt (P := p) (v := envOf q) (ts := ts) (envB_ok hq.env).1
  rw [plainB, reckB, hq.env, h, if_pos (by rfl)] at this
  exact this
theorem pow_256 {p : Prg} (h : codeB p = 0) : 2 ^ p.width.toNat ≤ 256 := Nat.pow_le_pow_right (n := 2) (j := 8) (by omega) (by have := (code_head h).2.1; omega)
theorem envB_of {p : Prg} {v : Envr} (h : codeB p = 0) (h1 : (v.vars.length : Int) = (p.lows.length : Int) + (p.secrets.length : Int) + p.temps) (h2 : v.cells.length = p.arrays.length) (h3 : InEnv (2 ^ p.width.toNat) v.vars v.cells) (h4 : ∀ i, i < v.cells.length → ((intsAt v.cells i).length : Int) = p.arrays.getD i 0) : envB p v = true := by
  simp only [envB, Bool.and_eq_true, decide_eq_true_eq, beq_iff_eq]
  have vals : ∀ (m : Int) (zs : List Int), (zs.length : Int) = m → (∀ z ∈ zs, 0 ≤ z ∧ z < ((2 ^ p.width.toNat : Nat) : Int)) → valB (2 ^ p.width.toNat) m zs = true := fun m zs e hz => by
    simp only [valB, valsB, Bool.and_eq_true, decide_eq_true_eq, List.all_eq_true]
    exact ⟨e, hz⟩
  refine ⟨⟨h, vals _ _ h1 h3.1⟩, h2, ?_⟩
  simp only [cellsB, List.all_eq_true, List.mem_range]
  exact fun i hi => vals _ _ (h4 i hi) (getD_cells h3.2 i)
theorem StaOk.setV {p : Prg} {q : Sta} (h : StaOk p q) (n : Int) {z : Nat} (hz : z < 2 ^ p.width.toNat) : StaOk p (setV q n z) := by
  obtain ⟨e1, e2, e3, e4, e5⟩ := envB_ok h.env
  refine ⟨envB_of e1 (by simpa [envOf, Go.Proofs.Ytalcambmmbilkaa.setV] using e2) e3 ⟨fun x hx => ?_, e4.2⟩ e5, h.outs⟩
  rcases List.mem_or_eq_of_mem_set hx with h' | h'
  · exact e4.1 x h'
  · rw [h']; exact ⟨by omega, by omega⟩
theorem StaOk.putC {p : Prg} {q : Sta} (h : StaOk p q) (n : Int) {i z : Nat} (hn : n.toNat < q.cells.length) (hz : z < 2 ^ p.width.toNat) : StaOk p (putC q n i z) := by
  obtain ⟨e1, e2, e3, e4, e5⟩ := envB_ok h.env
  refine ⟨envB_of e1 e2 (by simpa [envOf, Go.Proofs.Ytalcambmmbilkaa.putC] using e3) ⟨e4.1, fun cs hcs x hx => ?_⟩ (fun j hj => ?_), h.outs⟩
  · rcases List.mem_or_eq_of_mem_set hcs with h' | h'
    · exact e4.2 cs h' x hx
    · rw [h'] at hx
      rcases List.mem_or_eq_of_mem_set hx with h' | h'
      · exact getD_cells e4.2 n.toNat x h'
      · rw [h']; exact ⟨by omega, by omega⟩
  · have hj' : j < q.cells.length := by simpa [envOf, Go.Proofs.Ytalcambmmbilkaa.putC] using hj
    have := e5 j hj'
    by_cases hjn : j = n.toNat
    · subst hjn
      rw [← this]
      show (((q.cells.set n.toNat _).getD n.toNat []).length : Int) = _
      rw [List.getD_eq_getElem?_getD, List.getElem?_set_self hn]
      simp [envOf]
    · rw [← this]
      show (((q.cells.set n.toNat _).getD j []).length : Int) = _
      rw [List.getD_eq_getElem?_getD, List.getElem?_set_ne (by omega), intsAt, List.getD_eq_getElem?_getD]
      rfl
theorem StaOk.outV {p : Prg} {q : Sta} (h : StaOk p q) {z : Nat} (hz : z < 2 ^ p.width.toNat) : StaOk p (outV q z) := by
  refine ⟨h.env, fun x hx => ?_⟩
  rcases List.mem_append.1 hx with h' | h'
  · exact h.outs x h'
  · rw [List.mem_singleton] at h'; rw [h']; exact ⟨by omega, by omega⟩
theorem Basic.ok {p : Prg} {s : Stm} {q q' : Sta} {r : Rz} (h : Basic (2 ^ p.width.toNat) s q q' r) (hg : goodS p s) (hq : StaOk p q) : StaOk p q' := by
  cases h with
  | set h ht => exact hq.setV _ (vl_lt hq (goodS_exp hg (.inl h)).1)
  | put h ha ht hl => exact hq.putC _ (goodS_put hg hq h).2 (vl_lt hq (goodS_exp hg (.inr (.inl h))).1)
  | out h ht => exact hq.outV (vl_lt hq (goodS_exp hg (.inr (.inr (.inr h)))).1)
  | _ => exact hq
theorem Runs.ok {p : Prg} {ss : List Stm} {m : Mode} {i j s : Nat} {q q' : Sta} {r : Rz} (h : Runs (2 ^ p.width.toNat) ss m i j s q q' r) (hg : ∀ i, i < ss.length → goodS p (stAt ss i)) : StaOk p q → StaOk p q' := by
  induction h with
  | plain hi _ _ _ h => exact h.ok (hg _ hi)
  | nil | zero | ifT | if0 => exact id
  | go _ _ ih1 ih2 => exact fun hq => ih2 (ih1 hq)
  | again _ _ ih1 ih2 => exact fun hq => ih2 (ih1 hq)
  | catch_ _ _ _ _ _ ih1 ih2 => exact fun hq => ih2 (ih1 hq)
  | _ => assumption
theorem good_seg {p : Prg} {ss : List Stm} {lo hi : Nat} (h1 : lo ≤ hi) (h2 : hi ≤ ss.length) (hg : ∀ i, i < ss.length → goodS p (stAt ss i)) : ∀ i, i < (seg ss lo hi).length → goodS p (stAt (seg ss lo hi) i) := fun i hi' => by
  rw [seg_len h1 h2] at hi'
  rw [seg_at (by omega)]
  exact hg _ (by omega)
/-- A right program's statements, and its steps. -/
theorem code_good {p : Prg} (h : codeB p = 0) : (∀ i, i < p.body.length → goodS p (stAt p.body i)) ∧ ∃ s, s ≤ 400 ∧ Steps p.body 0 p.body.length s := by
  unfold codeB at h
  split at h
  · exact absurd h (by decide)
  split at h
  · exact absurd h (by decide)
  split at h
  · exact absurd h (by decide)
  split at h
  · exact absurd h (by decide)
  rename_i h4
  have hs : stmtsB p = true := by simpa using h4
  split at h
  · exact absurd h (by decide)
  rename_i h5
  have hb : blockOf p.body 0 = (p.body.length : Int) := by omega
  split at h
  · exact absurd h (by decide)
  rename_i h6
  refine ⟨fun i hi => List.all_eq_true.1 hs _ (stAt_mem hi), stepsN p.body, by omega, stepsN_spec (part_steps (loops_ok hs) _ 0 _ (Nat.le_refl _) (Nat.zero_le _) hb)⟩
end Go.Proofs.Ytalcambmmbilkaa
/- The contracts of the program's small helpers of chapter 3. -/
namespace Go.Proofs.Ytalcambmmbilkaa
open Go.RowKit

def opensB (x : Int) : Bool := (x == 2 || x == 5) || x == 8
def secondB (x : Int) : Bool := x == 3 || x == 9
def takesB (op sec s : Int) : Bool := decide (sec < 0) && ((op == 2 && s == 3) || (op == 8 && s == 9))
def mayEndB (op sec : Int) : Bool := op != 8 || decide (0 ≤ sec)
/-- The program's head as a value. -/
def headV (wd tp : Int) (a1 a2 a3 a4 : Option Addr) (n1 n2 n3 n4 c1 c2 c3 c4 : Nat) : Value := .agg #[.int .i64 wd, .slice a1 n1 c1, .slice a2 n2 c2, .int .i64 tp, .slice a3 n3 c3, .slice a4 n4 c4]

theorem isWithin_any (x lo hi : Int) (w : World) :
    Calls Try.prog 86 #[.int .i64 x, .int .i64 lo, .int .i64 hi] w fun e w' => e = .returned (.bool (decide (lo ≤ x) && decide (x ≤ hi))) ∧ w = w' := by
  by_cases h1 : lo ≤ x
  · by_cases h2 : x ≤ hi
    · go_enter Try.func86, Try.ntmps86
      go_wp2
      go_ret
      exact ⟨ret_bool (by simp [h1, h2]), rfl⟩
    · go_enter Try.func86, Try.ntmps86
      go_wp2
      go_ret
      exact ⟨ret_bool (by rw [decide_eq_false (p := x ≤ hi) (by omega)]), rfl⟩
  · go_enter Try.func86, Try.ntmps86
    go_wp2
    go_ret
    exact ⟨ret_bool (by rw [decide_eq_false (p := lo ≤ x) (by omega), Bool.false_and]), rfl⟩
theorem isWithin_lat {w : World} (x lo hi : Int) {v : Bool} (hv : (decide (lo ≤ x) && decide (x ≤ hi)) = v) (p : Lat w) :
    Calls Try.prog 86 #[.int .i64 x, .int .i64 lo, .int .i64 hi] p.wd fun e w' => e = .returned (.bool v) ∧ Below p.wd.heap.size p.wd w' :=
  (isWithin_any x lo hi p.wd).mono fun _ _ ⟨he, hw⟩ => ⟨by rw [he, hv], by rw [← hw]; exact Below.refl _ _⟩
theorem opensBlock_any (x : Int) (w : World) : Calls Try.prog 112 #[.int .i64 x] w fun e w' => e = .returned (.bool (opensB x)) ∧ w = w' := by
  obtain ⟨R, HR⟩ : ∃ R, Hid (opensB x = R) := ⟨_, rfl⟩
  rw [HR.out]
  by_cases h : x = 2 ∨ x = 5 ∨ x = 8
  · have hR : R = true := by rw [← HR.out]; rcases h with rfl | rfl | rfl <;> rfl
    subst hR
    rcases h with rfl | rfl | rfl
    all_goals
      go_enter Try.func112, Try.ntmps112
      go_wp2
      go_ret
      exact ⟨rfl, rfl⟩
  · have k2 : (x == 2) = false := by simp; omega
    have k5 : (x == 5) = false := by simp; omega
    have k8 : (x == 8) = false := by simp; omega
    have hR : R = false := by rw [← HR.out]; simp [opensB, k2, k5, k8]
    subst hR
    go_enter Try.func112, Try.ntmps112
    go_wp2
    go_ret
    exact ⟨rfl, rfl⟩
theorem startsSecond_any (x : Int) (w : World) : Calls Try.prog 111 #[.int .i64 x] w fun e w' => e = .returned (.bool (secondB x)) ∧ w = w' := by
  obtain ⟨R, HR⟩ : ∃ R, Hid (secondB x = R) := ⟨_, rfl⟩
  rw [HR.out]
  by_cases h : x = 3 ∨ x = 9
  · have hR : R = true := by rw [← HR.out]; rcases h with rfl | rfl <;> rfl
    subst hR
    rcases h with rfl | rfl
    all_goals
      go_enter Try.func111, Try.ntmps111
      go_wp2
      go_ret
      exact ⟨rfl, rfl⟩
  · have k3 : (x == 3) = false := by simp; omega
    have k9 : (x == 9) = false := by simp; omega
    have hR : R = false := by rw [← HR.out]; simp [secondB, k3, k9]
    subst hR
    go_enter Try.func111, Try.ntmps111
    go_wp2
    go_ret
    exact ⟨rfl, rfl⟩
theorem takesLabel_any (x s y : Int) (w : World) : Calls Try.prog 127 #[.agg #[.int .i64 x, .int .i64 s], .int .i64 y] w fun e w' => e = .returned (.bool (takesB x s y)) ∧ Below w.heap.size w w' := by
  obtain ⟨R, HR⟩ : ∃ R, Hid (takesB x s y = R) := ⟨_, rfl⟩
  rw [HR.out]
  by_cases hs : 0 ≤ s
  · have hR : R = false := by rw [← HR.out, takesB, decide_eq_false (by omega)]; rfl
    subst hR
    go_enter Try.func127, Try.ntmps127
    go_wp2
    go_ret
    exact ⟨rfl, (Below.refl _ _).alloc (Nat.le_refl _) _⟩
  have hR : R = ((x == 2 && y == 3) || (x == 8 && y == 9)) := by rw [← HR.out, takesB, decide_eq_true (by omega)]; rfl
  have HR := Lib.hid hR
  clear hR
  by_cases h2 : x = 2
  · subst h2
    by_cases h3 : y = 3
    · subst h3
      have hR : R = true := HR.out
      subst hR
      go_enter Try.func127, Try.ntmps127
      go_wp2
      go_ret
      exact ⟨rfl, (Below.refl _ _).alloc (Nat.le_refl _) _⟩
    · have k3 : (y == 3) = false := by simpa using h3
      have hR : R = false := by rw [HR.out, k3]; rfl
      subst hR
      go_enter Try.func127, Try.ntmps127
      go_wp2
      go_ret
      exact ⟨rfl, (Below.refl _ _).alloc (Nat.le_refl _) _⟩
  have k2 : (x == 2) = false := by simpa using h2
  by_cases h8 : x = 8
  · subst h8
    by_cases h9 : y = 9
    · subst h9
      have hR : R = true := HR.out
      subst hR
      go_enter Try.func127, Try.ntmps127
      go_wp2
      go_ret
      exact ⟨rfl, (Below.refl _ _).alloc (Nat.le_refl _) _⟩
    · have k9 : (y == 9) = false := by simpa using h9
      have hR : R = false := by rw [HR.out, k9]; rfl
      subst hR
      go_enter Try.func127, Try.ntmps127
      go_wp2
      go_ret
      exact ⟨rfl, (Below.refl _ _).alloc (Nat.le_refl _) _⟩
  have k8 : (x == 8) = false := by simpa using h8
  have hR : R = false := by rw [HR.out, k2, k8]; rfl
  subst hR
  go_enter Try.func127, Try.ntmps127
  go_wp2
  go_ret
  exact ⟨rfl, (Below.refl _ _).alloc (Nat.le_refl _) _⟩
theorem mayEnd_any (x s : Int) (w : World) : Calls Try.prog 128 #[.agg #[.int .i64 x, .int .i64 s]] w fun e w' => e = .returned (.bool (mayEndB x s)) ∧ Below w.heap.size w w' := by
  obtain ⟨R, HR⟩ : ∃ R, Hid (mayEndB x s = R) := ⟨_, rfl⟩
  rw [HR.out]
  by_cases h8 : x = 8
  · subst h8
    by_cases hs : 0 ≤ s
    · have hR : R = true := by rw [← HR.out, mayEndB, decide_eq_true hs]; rfl
      subst hR
      go_enter Try.func128, Try.ntmps128
      go_wp2
      go_ret
      exact ⟨rfl, (Below.refl _ _).alloc (Nat.le_refl _) _⟩
    · have hR : R = false := by rw [← HR.out, mayEndB, decide_eq_false hs]; rfl
      subst hR
      go_enter Try.func128, Try.ntmps128
      go_wp2
      go_ret
      exact ⟨rfl, (Below.refl _ _).alloc (Nat.le_refl _) _⟩
  have k8 : (x != 8) = true := by simpa using h8
  have hR : R = true := by rw [← HR.out, mayEndB, k8]; rfl
  subst hR
  go_enter Try.func128, Try.ntmps128
  go_wp2
  go_ret
  exact ⟨rfl, (Below.refl _ _).alloc (Nat.le_refl _) _⟩
set_option maxHeartbeats 800000 in
theorem greatestValue_any (r : PRow) (W : Nat) (w : World) (hW : r.width = (W : Int)) (h8 : W ≤ 8) :
    Calls Try.prog 116 #[progV r] w fun e w' => e = .returned (.int .i64 (((2 ^ W : Nat) : Int) - 1)) ∧ Below w.heap.size w w' := by
  obtain ⟨wd, ⟨a1, n1, c1⟩, ⟨a2, n2, c2⟩, tp, ⟨a3, n3, c3⟩, ⟨a4, n4, c4⟩, rows⟩ := r
  simp only [] at hW
  subst hW
  show Calls Try.prog 116 #[.agg #[.int .i64 (W : Int), .slice a1 n1 c1, .slice a2 n2 c2, .int .i64 tp, .slice a3 n3 c3, .slice a4 n4 c4]] w _
  have hc : W = 0 ∨ W = 1 ∨ W = 2 ∨ W = 3 ∨ W = 4 ∨ W = 5 ∨ W = 6 ∨ W = 7 ∨ W = 8 := by omega
  rcases hc with rfl | rfl | rfl | rfl | rfl | rfl | rfl | rfl | rfl
  all_goals
    go_enter Try.func116, Try.ntmps116
    go_wp2
    go_ret
    exact ⟨rfl, (Below.refl _ _).alloc (Nat.le_refl _) _⟩
theorem firstTemp_any (r : PRow) (w : World) (h1 : r.lows.2.1 ≤ 1048576) (h2 : r.secrets.2.1 ≤ 1048576) :
    Calls Try.prog 144 #[progV r] w fun e w' => e = .returned (.int .i64 ((r.lows.2.1 : Int) + (r.secrets.2.1 : Int))) ∧ Below w.heap.size w w' := by
  obtain ⟨wd, ⟨a1, n1, c1⟩, ⟨a2, n2, c2⟩, tp, ⟨a3, n3, c3⟩, ⟨a4, n4, c4⟩, rows⟩ := r
  simp only [] at h1 h2
  show Calls Try.prog 144 #[.agg #[.int .i64 wd, .slice a1 n1 c1, .slice a2 n2 c2, .int .i64 tp, .slice a3 n3 c3, .slice a4 n4 c4]] w _
  go_enter Try.func144, Try.ntmps144
  go_wp2
  go_ret
  exact ⟨rfl, (Below.refl _ _).alloc (Nat.le_refl _) _⟩
end Go.Proofs.Ytalcambmmbilkaa
/- What StartOf asks of inputs and answers: words, and the contract of the program's areInputs. -/
namespace Go.Proofs.Ytalcambmmbilkaa
open Go.RowKit

/-- Every value from 0 to its Max, as many as there are. -/
def areB (ins : List Tm) (zs : List Int) : Bool := decide (zs.length = ins.length) && (List.range zs.length).all (fun i => decide (0 ≤ zs.getD i 0) && decide (zs.getD i 0 ≤ (tmAt ins i).1))
def AreTo (ins : List Tm) (zs : List Int) (k : Nat) : Prop := ∀ i, i < k → 0 ≤ zs.getD i 0 ∧ zs.getD i 0 ≤ (tmAt ins i).1
theorem AreTo.zero (ins : List Tm) (zs : List Int) : AreTo ins zs 0 := fun i hi => absurd hi (by omega)
theorem AreTo.succ {ins : List Tm} {zs : List Int} {k : Nat} {z : Int} {t : Tm} (h : AreTo ins zs k) (hz : Hid (z = zs.getD k 0)) (ht : Hid (tmAt ins k = t)) (h0 : 0 ≤ z) (h1 : z ≤ t.1) : AreTo ins zs (k + 1) := by
  intro i hi
  rcases Nat.lt_or_ge i k with hlt | hge
  · exact h i hlt
  · obtain rfl : i = k := by omega
    rw [← hz.out, ht.out]; exact ⟨h0, h1⟩
theorem areB_all {ins : List Tm} {zs : List Int} (hl : zs.length = ins.length) (h : AreTo ins zs zs.length) : areB ins zs = true := by
  rw [areB, decide_eq_true hl, Bool.true_and, List.all_eq_true]
  intro i hi
  rw [List.mem_range] at hi
  have := h i hi
  simp only [Bool.and_eq_true, decide_eq_true_eq]
  exact this
theorem areB_bad {ins : List Tm} {zs : List Int} {k : Nat} {z : Int} {t : Tm} (hk : k < zs.length) (hz : Hid (z = zs.getD k 0)) (ht : Hid (tmAt ins k = t)) (h : ¬ (0 ≤ z ∧ z ≤ t.1)) : areB ins zs = false := by
  rw [← Bool.not_eq_true]
  intro hA
  simp only [areB, Bool.and_eq_true, List.all_eq_true, List.mem_range, decide_eq_true_eq] at hA
  have := hA.2 k hk
  rw [← hz.out, ht.out] at this
  exact h this
theorem areB_len {ins : List Tm} {zs : List Int} (h : zs.length ≠ ins.length) : areB ins zs = false := by rw [areB, decide_eq_false h, Bool.false_and]
theorem areB_ok {ins : List Tm} {zs : List Int} (h : areB ins zs = true) : zs.length = ins.length ∧ AreTo ins zs zs.length := by
  simp only [areB, Bool.and_eq_true, List.all_eq_true, List.mem_range, decide_eq_true_eq] at h
  exact ⟨h.1, h.2⟩
/-- Is there a start? -/
noncomputable def startB (p : Prg) (ls ss : List Int) : Bool := (codeB p == 0) && (areB p.lows ls && areB p.secrets ss)
/-- The start. -/
def startQ (p : Prg) (ls ss : List Int) : Sta := ⟨ls ++ ss ++ List.replicate p.temps.toNat 0, p.arrays.map (fun z => List.replicate z.toNat 0), []⟩
theorem code_parts {p : Prg} (h : codeB p = 0) : inpB p = true ∧ roomB p = true := by
  unfold codeB at h
  split at h
  · exact absurd h (by decide)
  split at h
  · exact absurd h (by decide)
  split at h
  · exact absurd h (by decide)
  rename_i h1 h2 h3
  exact ⟨by simpa using h2, by simpa using h3⟩
theorem are_in {S : Nat} {low : Bool} {ins : List Tm} {zs : List Int} (hi : inputsB S low ins = true) (h : areB ins zs = true) : ∀ z ∈ zs, 0 ≤ z ∧ z < (S : Int) := by
  obtain ⟨hl, ha⟩ := areB_ok h
  intro z hz
  obtain ⟨i, hi', rfl⟩ := List.getElem_of_mem hz
  have h1 := ha i hi'
  rw [List.getD_eq_getElem?_getD, List.getElem?_eq_getElem hi'] at h1
  simp only [Option.getD_some] at h1
  simp only [inputsB, Bool.and_eq_true, List.all_eq_true] at hi
  have h2 := hi.1 _ (tmAt_mem (show i < ins.length by omega))
  simp only [inpOk, Bool.and_eq_true, decide_eq_true_eq] at h2
  omega
/-- The start is a state of the program. -/
theorem start_ok {p : Prg} {ls ss : List Int} (h : startB p ls ss = true) : StaOk p (startQ p ls ss) := by
  simp only [startB, Bool.and_eq_true, beq_iff_eq] at h
  obtain ⟨hc, h1, h2⟩ := h
  obtain ⟨hi, hr⟩ := code_parts hc
  simp only [inpB, Bool.and_eq_true] at hi
  simp only [roomB, Bool.and_eq_true, decide_eq_true_eq, List.all_eq_true] at hr
  have hS : 0 < 2 ^ p.width.toNat := Nat.pow_pos (by omega)
  have zero : ∀ n : Nat, ∀ z ∈ List.replicate n (0 : Int), 0 ≤ z ∧ z < ((2 ^ p.width.toNat : Nat) : Int) := fun n z hz => by
    rw [(List.mem_replicate.1 hz).2]
    exact ⟨by omega, by omega⟩
  have l1 := (areB_ok h1).1
  have l2 := (areB_ok h2).1
  refine ⟨envB_of hc ?_ (by simp [envOf, startQ]) ⟨fun z hz => ?_, fun cs hcs z hz => ?_⟩ (fun i hi' => ?_), fun z hz => by simp [startQ] at hz⟩
  · simp only [envOf, startQ, List.length_append, List.length_replicate]
    omega
  · simp only [envOf, startQ, List.mem_append] at hz
    rcases hz with (hz | hz) | hz
    · exact are_in hi.1.1 h1 z hz
    · exact are_in hi.1.2 h2 z hz
    · exact zero _ z hz
  · simp only [envOf, startQ, List.mem_map] at hcs
    obtain ⟨y, _, rfl⟩ := hcs
    exact zero _ z hz
  · have hi2 : i < p.arrays.length := by simpa [envOf, startQ] using hi'
    have e : intsAt (envOf (startQ p ls ss)).cells i = List.replicate (p.arrays.getD i 0).toNat 0 := by
      simp [envOf, startQ, intsAt, List.getD_eq_getElem?_getD, List.getElem?_eq_getElem hi2]
    rw [e, List.length_replicate]
    have := hr.2 _ (getD_mem hi2)
    omega
set_option maxHeartbeats 800000 in
theorem areInputs_any (a a' : Option Addr) (n c n' c' : Nat) (ins : List Tm) (zs : List Int) (w : World) (h : Terms w a n ins) (h' : Ints w a' n' zs) :
    Calls Try.prog 69 #[.slice a n c, .slice a' n' c'] w fun e w' => e = .returned (.bool (areB ins zs)) ∧ w = w' := by
  have HL := Lib.hid h.1
  have HM := Lib.hid h'.1
  have hbd := h.2.1
  have hbe := h'.2.1
  by_cases hnm : n' = n
  case neg =>
    have hne : ((n' : Int) != (n : Int)) = true := by simp; omega
    go_enter Try.func69, Try.ntmps69
    go_wp2
    go_ret
    exact ⟨ret_bool (areB_len (fun e => hnm (by rw [← HL.out, ← HM.out, e]))).symm, rfl⟩
  subst hnm
  have hne0 : ((n' : Int) != (n' : Int)) = false := by simp
  go_enter Try.func69, Try.ntmps69
  go_wp2
  go_loop [14] (fun i => ∃ k : Nat, k ≤ n' ∧ i = .int .i64 (k : Int) ∧ Hid (AreTo ins zs k)) (fun i => n' - (intOf i).toNat)
  case atStart => exact ⟨0, Nat.zero_le _, rfl, Lib.hid (AreTo.zero _ _)⟩
  case round =>
    obtain ⟨k, hk, rfl, hg⟩ := hrel
    by_cases hlt : k < n'
    · obtain ⟨b1, o1, x, y, rfl, hb1, hz1, hi1, hi2, hc1, hc2⟩ := h.at_ hlt
      obtain ⟨b2, o2, z, rfl, hb2, hz2, hi3, hc3⟩ := h'.at_ hlt
      clear hc2
      go_wp2_with fail
      refine (isWithin_any z 0 x _).mono ?_
      rintro e w1 ⟨rfl, rfl⟩
      by_cases hin : 0 ≤ z ∧ z ≤ x
      · rw [decide_eq_true hin.1, decide_eq_true hin.2]
        have HG := Lib.hid (hg.out.succ hz2 hz1 hin.1 hin.2)
        clear hin hg
        go_wp2
        go_round
        case rel => exact ⟨k + 1, by omega, by go_num, HG⟩
        case measure => simp [intOf]; omega
      · have HX : Hid ((decide (0 ≤ z) && decide (z ≤ x)) = false) := Lib.hid (by
          rcases Decidable.not_and_iff_or_not.1 hin with h | h
          · rw [decide_eq_false h, Bool.false_and]
          · rw [decide_eq_false h, Bool.and_false])
        have HB := Lib.hid (areB_bad (by rw [HM.out]; exact hlt) hz2 hz1 hin)
        rw [HX.out]
        clear hin HX
        go_wp2
        go_ret
        exact ⟨ret_bool HB.out.symm, rfl⟩
    · obtain rfl : n' = k := by omega
      go_wp2
      go_ret
      exact ⟨ret_bool (areB_all (HM.out.trans HL.out.symm) (by rw [HM.out]; exact hg.out)).symm, rfl⟩
end Go.Proofs.Ytalcambmmbilkaa
