/- Joined texts of this proof (StepPush, RunMem, Span, MarkOnly, MarkProg, MemLaw), in build order. -/
import Derived.Test.YtbnpoliogldohaaGreatS13
import Derived.Test.YtbnpoliogldohaaGreatS11
import Derived.Deep.RegionHeld3
import Derived.Deep.AppendLies
import Derived.Test.YtbnpoliogldohaaGreatS4
import Derived.Test.YtbnpoliogldohaaGreatS3
/- 'append' at a step of a region that draws its order: Terms, Stmts. -/
namespace Go.Proofs.YtbnpoliogldohaaGreat
open Go.RowKit

theorem wrapI (n : Int) (h0 : 0 ≤ n) (h1 : n ≤ 1048576) : IntKind.i64.wrap n = n := by
  rw [IntKind.wrap_i64]
  omega
/-- 'append(s, x...)', s of the call's own, x some cells at an address: whatever the element type. -/
theorem step_pushG {ops : Array Oper} {o : Oper} {ac : Act} {K : Act → World → Prop} {Q : Exit → Act → World → Prop} {E : Prop} (w : World) (hgd : o.guard = none) (s x : Operand) (t e : TypeId) (z : Value) (size bytes : Nat)
    (ho : o.op = .call { callee := .builtin .append, args := #[s, x], argTypes := #[t, t] }) (ht : Tryz.prog.underlying t = some (.slice e)) (hinf : (Tryz.prog.info? e).map (fun i => (i.zero, i.size, i.bytes)) = some (some z, size, bytes)) (hzs : z.cells.size = size) (hsz : 0 < size)
    (B : Nat) (a : Option Addr) (n c : Nat) (xs : List Value) (hs : ac.eval s = .slice a n c) (hown : w.ownsRow B e size (.slice a n c) n xs)
    (ad : Addr) (m c2 : Nat) (news : List Value) (hx : ac.eval x = .slice (some ad) m c2) (hl : news.length = m * size) (hnews : ∀ j u, news[j]? = some u → w.cell? (ad.add j) = some u) (h1 : ∀ u ∈ news, u.oneCell' = true)
    (hm : 0 < m) (h63 : n + m ≤ maxLen) (hbytes : (n + m) * bytes ≤ 140737488355328) (hB : B ≤ w.heap.size)
    (h : ∀ g c1 w', w'.ownsRow B e size (.slice (some ⟨g, 0, none⟩) (n + m) c1) (n + m) (xs ++ news) → GrowsTo w (.slice a n c) w' (.slice (some ⟨g, 0, none⟩) (n + m) c1) → K (ac.put o.dst (.slice (some ⟨g, 0, none⟩) (n + m) c1)) w') :
    if Region.wanted o (yielded ops ac.tmps) = true then Oper.wp Tryz.prog o ac w K Q else E := by
  obtain ⟨i0, hi, hz0, hz1, hz2⟩ := info_parts hinf
  refine step_append_lies w hgd s x t ho B e i0 z size bytes ht hi hz0 hz1 hz2 hzs hsz (.slice a n c) n xs hs hown ad m c2 news hx hl hnews h1 hm h63 hbytes hB w.heap.size rfl ?_
  intro g cap w' r1 r2 r3 _
  refine h g cap w' r1 ⟨r2, fun g' hg' => ?_⟩
  have : g = g' := by simpa [Value.ownBlock] using hg'
  subst this
  rcases r3 with r3 | r3
  · exact .inl r3
  · exact .inr (by omega)
end Go.Proofs.YtbnpoliogldohaaGreat
/- The memory of a run: the rows of variables, of cells, of what was put out, each in a block of its own; what a write leaves. The states of a right program. -/
namespace Go.Proofs.YtbnpoliogldohaaGreat
open Go.RowKit

section
variable {w w' : World} {B : Nat} {a : Option Addr} {n c : Nat} {zs : List Int} {rs : List Sl} {css : List (List Int)} {row : Option Nat}
theorem Own.keep (h : Own w B a n c zs) (hg : w.grownBy w' row) (hr : ∀ g, (Value.slice a n c).ownBlock = some g → row ≠ some g) : Own w' B a n c zs := by
  refine ⟨h.1.kept hg ?_, h.2⟩
  cases hv : (Value.slice a n c).ownBlock with
  | none => exact .inl rfl
  | some g => exact .inr fun e => hr g hv e.symm
theorem OwnIS.keep (h : OwnIS w B a n c rs css) (hg : w.grownBy w' row) (ho : ∀ g, (Value.slice a n c).ownBlock = some g → row ≠ some g) (hr : ∀ i g, i < n → (slV (slAt rs i)).ownBlock = some g → row ≠ some g) : OwnIS w' B a n c rs css := by
  refine ⟨h.1.kept hg ?_, h.2.1, h.2.2.1, fun i hi => (h.2.2.2 i hi).keep hg (hr i · hi)⟩
  cases hv : (Value.slice a n c).ownBlock with
  | none => exact .inl rfl
  | some g => exact .inr fun e => ho g hv e.symm
/-- A box of another type is no such row. -/
theorem blk_apart {b : Nat} {t e : TypeId} {xs vs : List Value} {v : Value} {size m : Nat} (hb : Blk w b t xs) (ho : w.ownsRow B e size v m vs) (hne : t ≠ e) : ∀ g, v.ownBlock = some g → (some b : Option Nat) ≠ some g := by
  intro g hg hbg
  injection hbg with hbg
  subst hbg
  obtain ⟨c1, f1, e1⟩ := Go.Lib.ownsRow_kind ho b hg
  rw [show w.heap[b]? = _ from hb] at e1
  injection e1 with e1
  injection e1 with _ e1
  exact hne e1
end
/-- The rows of a run. -/
structure EnvMem (w : World) (B : Nat) (er : ERow) (os : Sl) (q : Sta) : Prop where
  vars : Own w B er.vars.1 er.vars.2.1 er.vars.2.2 q.vars
  cells : OwnIS w B er.cells.1 er.cells.2.1 er.cells.2.2 er.rows q.cells
  outs : Own w B os.1 os.2.1 os.2.2 q.outs
  vo : ∀ g, (slV er.vars).ownBlock = some g → (slV os).ownBlock ≠ some g
  cv : ∀ i g, i < er.cells.2.1 → (slV (slAt er.rows i)).ownBlock = some g → (slV er.vars).ownBlock ≠ some g
  co : ∀ i g, i < er.cells.2.1 → (slV (slAt er.rows i)).ownBlock = some g → (slV os).ownBlock ≠ some g
  cc : ∀ i j g, i < er.cells.2.1 → j < er.cells.2.1 → (slV (slAt er.rows i)).ownBlock = some g → (slV (slAt er.rows j)).ownBlock = some g → i = j
section
variable {w w' : World} {B : Nat} {er : ERow} {os os' : Sl} {q : Sta} {row : Option Nat}
theorem EnvMem.env (h : EnvMem w B er os q) : EnvAt w er (envOf q) := ⟨h.vars.ints, h.cells.reads⟩
theorem EnvMem.below (h : EnvMem w B er os q) (hb : Below w.heap.size w w') : EnvMem w' B er os q := ⟨h.vars.below hb, h.cells.below hb, h.outs.below hb, h.vo, h.cv, h.co, h.cc⟩
theorem EnvMem.alloc (h : EnvMem w B er os q) (o : Obj) : EnvMem (w.alloc o) B er os q := h.below ((Below.refl _ _).alloc (Nat.le_refl _) o)
theorem EnvMem.drewN (h : EnvMem w B er os q) (k : Nat) : EnvMem (w.drewN k) B er os q := h.below ⟨rfl, rfl, rfl, Nat.le_refl _, fun _ _ => rfl⟩
theorem EnvMem.keep (h : EnvMem w B er os q) (hg : w.grownBy w' row) (hv : ∀ g, (slV er.vars).ownBlock = some g → row ≠ some g) (ho : ∀ g, (slV os).ownBlock = some g → row ≠ some g) (hc : ∀ g, (slV er.cells).ownBlock = some g → row ≠ some g) (hr : ∀ i g, i < er.cells.2.1 → (slV (slAt er.rows i)).ownBlock = some g → row ≠ some g) : EnvMem w' B er os q :=
  ⟨h.vars.keep hg hv, h.cells.keep hg hc hr, h.outs.keep hg ho, h.vo, h.cv, h.co, h.cc⟩
/-- What is written into a box of another type. -/
theorem EnvMem.box (h : EnvMem w B er os q) {b : Nat} {t : TypeId} {xs : List Value} (hb : Blk w b t xs) (h1 : t ≠ 2) (h2 : t ≠ 25) (hg : w.grownBy w' (some b)) : EnvMem w' B er os q :=
  h.keep hg (blk_apart hb h.vars.1 h1) (blk_apart hb h.outs.1 h1) (blk_apart hb h.cells.1 h2) (fun i g hi hgg => blk_apart hb (h.cells.2.2.2 i hi).1 h1 g hgg)
theorem EnvMem.set (h : EnvMem w B er os q) {b j : Nat} {t : TypeId} {xs : List Value} (hb : Blk w b t xs) (h1 : t ≠ 2) (h2 : t ≠ 25) (v : Value) : EnvMem (w.setCell ⟨b, j, none⟩ v) B er os q := h.box hb h1 h2 (grown_set _ _ _ _)
theorem in64_set {zs : List Int} {k : Nat} {z : Int} (h : ∀ x ∈ zs, In64 x) (hz : In64 z) : ∀ x ∈ zs.set k z, In64 x := fun x hx => by
  rcases List.mem_or_eq_of_mem_set hx with h' | h'
  · exact h x h'
  · rw [h']; exact hz
/-- A variable is written. -/
theorem EnvMem.setV (h : EnvMem w B er os q) {g k : Nat} {z : Nat} (hz : In64 (z : Int)) (ha : er.vars.1 = some ⟨g, 0, none⟩) {n : Int} (hk : n.toNat = k) : EnvMem (w.setCell ⟨g, k, none⟩ (.int .i64 (z : Int))) B er os (setV q n z) := by
  subst hk
  have hb : (slV er.vars).ownBlock = some g := by rw [slV, ha]; rfl
  have hg := grown_set w g n.toNat (.int .i64 (z : Int))
  have hv := h.vars
  rw [ha] at hv
  refine ⟨?_, h.cells.keep hg (fun g' hg' e => ?_) (fun i g' hi hg' e => ?_), h.outs.keep hg (fun g' hg' e => ?_), h.vo, h.cv, h.co, h.cc⟩
  · rw [ha]
    exact ⟨own_put hv.1 _ _, hv.2.1, in64_set hv.2.2 hz⟩
  · injection e with e
    subst e
    exact own_kinds h.cells.1 h.vars.1 (by decide) hg' hb
  · injection e with e
    subst e
    exact h.cv i g hi hg' hb
  · injection e with e
    subst e
    exact h.vo g hb hg'
/-- A cell is written. -/
theorem EnvMem.putC (h : EnvMem w B er os q) {g k i : Nat} {z : Nat} (hz : In64 (z : Int)) (hi : i < er.cells.2.1) (ha : (slAt er.rows i).1 = some ⟨g, 0, none⟩) {n : Int} (hk : n.toNat = i) : EnvMem (w.setCell ⟨g, k, none⟩ (.int .i64 (z : Int))) B er os (putC q n k z) := by
  subst hk
  have hb : (slV (slAt er.rows n.toNat)).ownBlock = some g := by rw [slV, ha]; rfl
  have hg := grown_set w g k (.int .i64 (z : Int))
  have hlen : q.cells.length = er.cells.2.1 := h.cells.2.2.1
  refine ⟨h.vars.keep hg (fun g' hg' e => ?_), ⟨h.cells.1.kept hg ?_, h.cells.2.1, ?_, fun j hj => ?_⟩, h.outs.keep hg (fun g' hg' e => ?_), h.vo, h.cv, h.co, h.cc⟩
  · injection e with e
    subst e
    exact h.cv _ g hi hb hg'
  · cases hv : (Value.slice er.cells.1 er.cells.2.1 er.cells.2.2).ownBlock with
    | none => exact .inl rfl
    | some g' =>
      refine .inr fun e => ?_
      injection e with e
      subst e
      exact own_kinds h.cells.1 (h.cells.2.2.2 _ hi).1 (by decide) hv hb
  · simp [Go.Proofs.YtbnpoliogldohaaGreat.putC, hlen]
  · have ho := h.cells.2.2.2 j hj
    by_cases hjn : j = n.toNat
    · subst hjn
      have e : intsAt (Go.Proofs.YtbnpoliogldohaaGreat.putC q n k z).cells n.toNat = (intsAt q.cells n.toNat).set k (z : Int) := by
        show (q.cells.set n.toNat _).getD n.toNat [] = _
        rw [List.getD_eq_getElem?_getD, List.getElem?_set_self (by omega)]
        rfl
      rw [e]
      rw [ha] at ho ⊢
      exact ⟨own_put ho.1 _ _, ho.2.1, in64_set ho.2.2 hz⟩
    · have e : intsAt (Go.Proofs.YtbnpoliogldohaaGreat.putC q n k z).cells j = intsAt q.cells j := by
        show (q.cells.set n.toNat _).getD j [] = _
        rw [List.getD_eq_getElem?_getD, List.getElem?_set_ne (by omega)]
        rw [intsAt, List.getD_eq_getElem?_getD]
      rw [e]
      exact ho.keep hg (fun g' hg' e' => hjn (by injection e' with e'; subst e'; exact h.cc _ _ g hj hi hg' hb))
  · injection e with e
    subst e
    exact h.co _ g hi hb hg'
/-- A value is put out. -/
theorem EnvMem.push (h : EnvMem w B er os q) {z : Nat} (ho : Own w' B os'.1 os'.2.1 os'.2.2 (q.outs ++ [(z : Int)])) (hg : GrowsTo w (slV os) w' (slV os')) : EnvMem w' B er os' (outV q z) := by
  have new : ∀ g, (slV os').ownBlock = some g → g < w.heap.size → (slV os).ownBlock = some g := fun g h1 h2 => by
    rcases hg.2 g h1 with h | h
    · exact h
    · omega
  refine ⟨h.vars.keep hg.1 (fun g hgg e => h.vo g hgg e), h.cells.keep hg.1 (fun g hgg e => own_kinds h.cells.1 h.outs.1 (by decide) hgg e) (fun i g hi hgg e => h.co i g hi hgg e), ho, fun g hgg e => ?_, h.cv, fun i g hi hgg e => ?_, h.cc⟩
  · exact h.vo g hgg (new g e (h.vars.block g hgg).2)
  · exact h.co i g hi hgg (new g e ((h.cells.2.2.2 i hi).block g hgg).2)
end

/-- A state of the program p. -/
structure StaOk (p : Prg) (q : Sta) : Prop where
  env : envB p (envOf q) = true
  outs : ∀ z ∈ q.outs, 0 ≤ z ∧ z < ((2 ^ p.width.toNat : Nat) : Int)
/-- A statement of it. -/
def goodS (p : Prg) (s : Stm) : Prop := stmtB (2 ^ p.width.toNat) (p.lows.length + p.secrets.length) p.temps.toNat p.arrays.length s = true
theorem goodS_exp {p : Prg} {s : Stm} (h : goodS p s) (ho : s.op = 0 ∨ s.op = 1 ∨ s.op = 2 ∨ s.op = 6) : namesB (2 ^ p.width.toNat) (p.lows.length + p.secrets.length + p.temps.toNat) p.arrays.length s.exp = true ∧ s.exp.length ≤ 40 := by
  simp only [goodS, stmtB, Bool.and_eq_true] at h
  have hb : bears s.op = true := by
    unfold bears
    rcases ho with e | e | e | e <;> rw [e] <;> rfl
  have := h.1.1.2
  rw [hb] at this
  simp only [Bool.not_true, Bool.false_or, bodyB, Bool.and_eq_true, decide_eq_true_eq] at this
  exact ⟨this.2.2, this.2.1⟩
theorem goodS_num {p : Prg} {s : Stm} (h : goodS p s) : numOk (p.lows.length + p.secrets.length) p.temps.toNat p.arrays.length s.op s.n = true := by
  simp only [goodS, stmtB, Bool.and_eq_true] at h
  exact h.2
theorem goodS_put {p : Prg} {s : Stm} {q : Sta} (h : goodS p s) (hq : StaOk p q) (ho : s.op = 1) : 0 ≤ s.n ∧ s.n.toNat < q.cells.length := by
  have := goodS_num h
  rw [ho] at this
  simp [numOk] at this
  have e := (envB_ok hq.env).2.2.1
  simp only [envOf] at e
  omega
theorem vl_lt {p : Prg} {q : Sta} {ts : List Tm} (hq : StaOk p q) (h : namesB (2 ^ p.width.toNat) (p.lows.length + p.secrets.length + p.temps.toNat) p.arrays.length ts = true) : vlS (2 ^ p.width.toNat) q ts < 2 ^ p.width.toNat := by
  have := plainB_lt (P := p) (v := envOf q) (ts := ts) (envB_ok hq.env).1
  rw [plainB, reckB, hq.env, h, if_pos (by rfl)] at this
  exact this
theorem envB_of {p : Prg} {v : Envr} (h : codeB p = 0) (h1 : (v.vars.length : Int) = (p.lows.length : Int) + (p.secrets.length : Int) + p.temps) (h2 : v.cells.length = p.arrays.length) (h3 : InEnv (2 ^ p.width.toNat) v.vars v.cells) (h4 : ∀ i, i < v.cells.length → ((intsAt v.cells i).length : Int) = p.arrays.getD i 0) : envB p v = true := by
  simp only [envB, Bool.and_eq_true, decide_eq_true_eq, beq_iff_eq]
  have vals : ∀ (m : Int) (zs : List Int), (zs.length : Int) = m → (∀ z ∈ zs, 0 ≤ z ∧ z < ((2 ^ p.width.toNat : Nat) : Int)) → valB (2 ^ p.width.toNat) m zs = true := fun m zs e hz => by
    simp only [valB, valsB, Bool.and_eq_true, decide_eq_true_eq, List.all_eq_true]
    exact ⟨e, hz⟩
  refine ⟨⟨h, vals _ _ h1 h3.1⟩, h2, ?_⟩
  simp only [cellsB, List.all_eq_true, List.mem_range]
  exact fun i hi => vals _ _ (h4 i hi) (getD_cells h3.2 i)
theorem StaOk.setV {p : Prg} {q : Sta} (h : StaOk p q) (n : Int) {z : Nat} (hz : z < 2 ^ p.width.toNat) : StaOk p (setV q n z) := by
  obtain ⟨e1, e2, e3, e4, e5⟩ := envB_ok h.env
  refine ⟨envB_of e1 (by simpa [envOf, Go.Proofs.YtbnpoliogldohaaGreat.setV] using e2) e3 ⟨fun x hx => ?_, e4.2⟩ e5, h.outs⟩
  rcases List.mem_or_eq_of_mem_set hx with h' | h'
  · exact e4.1 x h'
  · rw [h']; exact ⟨by omega, by omega⟩
theorem StaOk.putC {p : Prg} {q : Sta} (h : StaOk p q) (n : Int) {i z : Nat} (hn : n.toNat < q.cells.length) (hz : z < 2 ^ p.width.toNat) : StaOk p (putC q n i z) := by
  obtain ⟨e1, e2, e3, e4, e5⟩ := envB_ok h.env
  refine ⟨envB_of e1 e2 (by simpa [envOf, Go.Proofs.YtbnpoliogldohaaGreat.putC] using e3) ⟨e4.1, fun cs hcs x hx => ?_⟩ (fun j hj => ?_), h.outs⟩
  · rcases List.mem_or_eq_of_mem_set hcs with h' | h'
    · exact e4.2 cs h' x hx
    · rw [h'] at hx
      rcases List.mem_or_eq_of_mem_set hx with h' | h'
      · exact getD_cells e4.2 n.toNat x h'
      · rw [h']; exact ⟨by omega, by omega⟩
  · have hj' : j < q.cells.length := by simpa [envOf, Go.Proofs.YtbnpoliogldohaaGreat.putC] using hj
    have := e5 j hj'
    by_cases hjn : j = n.toNat
    · subst hjn
      rw [← this]
      show (((q.cells.set n.toNat _).getD n.toNat []).length : Int) = _
      rw [List.getD_eq_getElem?_getD, List.getElem?_set_self hn]
      simp [envOf]
    · rw [← this]
      show (((q.cells.set n.toNat _).getD j []).length : Int) = _
      rw [List.getD_eq_getElem?_getD, List.getElem?_set_ne (by omega), intsAt, List.getD_eq_getElem?_getD]
      rfl
theorem StaOk.outV {p : Prg} {q : Sta} (h : StaOk p q) {z : Nat} (hz : z < 2 ^ p.width.toNat) : StaOk p (outV q z) := by
  refine ⟨h.env, fun x hx => ?_⟩
  rcases List.mem_append.1 hx with h' | h'
  · exact h.outs x h'
  · rw [List.mem_singleton] at h'; rw [h']; exact ⟨by omega, by omega⟩
theorem Basic.ok {p : Prg} {s : Stm} {q q' : Sta} {r : Rz} (h : Basic (2 ^ p.width.toNat) s q q' r) (hg : goodS p s) (hq : StaOk p q) : StaOk p q' := by
  cases h with
  | set h ht => exact hq.setV _ (vl_lt hq (goodS_exp hg (.inl h)).1)
  | put h ha ht hl => exact hq.putC _ (goodS_put hg hq h).2 (vl_lt hq (goodS_exp hg (.inr (.inl h))).1)
  | out h ht => exact hq.outV (vl_lt hq (goodS_exp hg (.inr (.inr (.inr h)))).1)
  | _ => exact hq
theorem Runs.ok {p : Prg} {ss : List Stm} {m : Mode} {i j s : Nat} {q q' : Sta} {r : Rz} (h : Runs (2 ^ p.width.toNat) ss m i j s q q' r) (hg : ∀ i, i < ss.length → goodS p (stAt ss i)) : StaOk p q → StaOk p q' := by
  induction h with
  | plain hi _ _ _ h => exact h.ok (hg _ hi)
  | nil | zero | ifT | if0 => exact id
  | go _ _ ih1 ih2 => exact fun hq => ih2 (ih1 hq)
  | again _ _ ih1 ih2 => exact fun hq => ih2 (ih1 hq)
  | catch_ _ _ _ _ _ ih1 ih2 => exact fun hq => ih2 (ih1 hq)
  | _ => assumption
/-- A right program's statements, and its steps. -/
theorem code_good {p : Prg} (h : codeB p = 0) : (∀ i, i < p.body.length → goodS p (stAt p.body i)) ∧ ∃ s, s ≤ 400 ∧ Steps p.body 0 p.body.length s := by
  unfold codeB at h
  split at h
  · exact absurd h (by decide)
  split at h
  · exact absurd h (by decide)
  split at h
  · exact absurd h (by decide)
  split at h
  · exact absurd h (by decide)
  rename_i h4
  have hs : stmtsB p = true := by simpa using h4
  split at h
  · exact absurd h (by decide)
  rename_i h5
  have hb : blockOf p.body 0 = (p.body.length : Int) := by omega
  split at h
  · exact absurd h (by decide)
  rename_i h6
  refine ⟨fun i hi => List.all_eq_true.1 hs _ (stAt_mem hi), stepsN p.body, by omega, stepsN_spec (part_steps (loops_ok hs) _ 0 _ (Nat.le_refl _) (Nat.zero_le _) hb)⟩
end Go.Proofs.YtbnpoliogldohaaGreat
/- Only blocks from lo up to hi turn: what lies elsewhere stays as it lay. -/
namespace Go.Proofs.YtbnpoliogldohaaGreat
open Go.RowKit

structure Span (lo hi : Nat) (w w' : World) : Prop where
  os : w'.os = w.os
  tape : w'.tape = w.tape
  output : w'.output = w.output
  size : w.heap.size ≤ w'.heap.size
  block : ∀ k, k < w.heap.size → (k < lo ∨ hi ≤ k) → w'.heap[k]? = w.heap[k]?
section
variable {lo hi lo' hi' B n c m size : Nat} {w w' w'' : World} {row : Option Nat} {v : Value} {t : TypeId} {xs : List Value} {a : Option Addr} {ts : List Tm} {zs : List Int}
theorem Span.refl (lo hi : Nat) (w : World) : Span lo hi w w := ⟨rfl, rfl, rfl, Nat.le_refl _, fun _ _ _ => rfl⟩
theorem Span.trans (h : Span lo hi w w') (k : Span lo hi w' w'') : Span lo hi w w'' :=
  ⟨k.os.trans h.os, k.tape.trans h.tape, k.output.trans h.output, Nat.le_trans h.size k.size, fun i hi h' => (k.block i (Nat.lt_of_lt_of_le hi h.size) h').trans (h.block i hi h')⟩
theorem Span.wide (h : Span lo hi w w') (h1 : lo' ≤ lo) (h2 : hi ≤ hi') : Span lo' hi' w w' :=
  ⟨h.os, h.tape, h.output, h.size, fun k hk h' => h.block k hk (by omega)⟩
theorem Span.of_grown (h : w.grownBy w' row) (hr : ∀ g, row = some g → lo ≤ g ∧ g < hi) : Span lo hi w w' :=
  ⟨h.os, h.tape, h.output, h.size, fun k hk h' => h.block k hk (fun e => by have := hr k e.symm; omega)⟩
theorem Span.of_below (h : Below w.heap.size w w') : Span lo hi w w' := ⟨h.os, h.tape, h.output, h.size, fun k hk _ => h.block k hk⟩
theorem Span.set (w : World) {b j : Nat} (v : Value) (h1 : lo ≤ b) (h2 : b < hi) : Span lo hi w (w.setCell ⟨b, j, none⟩ v) :=
  Span.of_grown (grown_set w b j v) (fun g e => by injection e with e; omega)
theorem Span.below (h : Span lo hi w w') (hl : lo ≤ w.heap.size) : Below lo w w' := ⟨h.os, h.tape, h.output, h.size, fun k hk => h.block k (by omega) (.inl hk)⟩
theorem ownsRow_span (h : w.ownsRow B t size v n xs) (hs : Span lo hi w w') (hv : ∀ g, v.ownBlock = some g → g < lo ∨ hi ≤ g) : w'.ownsRow B t size v n xs := by
  refine ⟨h.1, ?_⟩
  rcases h.2 with hn | ⟨g, cap, cur, hv', hb, hg, rest⟩
  · exact .inl hn
  · exact .inr ⟨g, cap, cur, hv', hb, (hs.block g (Array.getElem?_eq_some_iff.1 hg).1 (hv g (by rw [hv']; rfl))).trans hg, rest⟩
theorem Own.span (h : Own w B a n c zs) (hs : Span lo hi w w') (hB : hi ≤ B) : Own w' B a n c zs := ⟨ownsRow_span h.1 hs (fun g hg => .inr (Nat.le_trans hB (h.block g hg).1)), h.2⟩
theorem EnvMem.span {er : ERow} {os : Sl} {q : Sta} (h : EnvMem w B er os q) (hs : Span lo hi w w') (hB : hi ≤ B) : EnvMem w' B er os q :=
  ⟨h.vars.span hs hB, ⟨ownsRow_span h.cells.1 hs (fun g hg => .inr (Nat.le_trans hB (h.cells.1.lt g hg).1)), h.cells.2.1, h.cells.2.2.1, fun i hi => (h.cells.2.2.2 i hi).span hs hB⟩, h.outs.span hs hB, h.vo, h.cv, h.co, h.cc⟩
theorem blk_stay {b : Nat} (h : Blk w b t xs) (hg : w.grownBy w' row) (hr : row ≠ some b) : Blk w' b t xs := (hg.block b h.lt (fun e => hr e.symm)).trans h
theorem Blk.span {b : Nat} (h : Blk w b t xs) (hs : Span lo hi w w') (hv : b < lo ∨ hi ≤ b) : Blk w' b t xs := (hs.block b h.lt hv).trans h
end
/-- Where the own blocks of a slice, of a program's slices lie. -/
def SlIn (lo hi : Nat) (s : Sl) : Prop := ∀ g, (slV s).ownBlock = some g → lo ≤ g ∧ g < hi
structure ProgIn (lo hi : Nat) (r : PRow) : Prop where
  lows : SlIn lo hi r.lows
  secrets : SlIn lo hi r.secrets
  arrays : SlIn lo hi r.arrays
  body : SlIn lo hi r.body
  rows : ∀ g ∈ blks r.rows, lo ≤ g ∧ g < hi
theorem OwnProg.inside {w : World} {B : Nat} {r : PRow} {p : Prg} (h : OwnProg w B r p) : ProgIn B w.heap.size r := by
  refine ⟨fun g hg => h.lows.block g hg, fun g hg => h.secrets.block g hg, fun g hg => h.arrays.block g hg, fun g hg => h.body.block g hg, fun g hg => ?_⟩
  obtain ⟨i, hi, hg⟩ := blks_mem hg
  exact (h.body.2.2.2.1 i (by have := h.body.len; omega)).blk hg
theorem ProgIn.wide {lo hi lo' hi' : Nat} {r : PRow} (h : ProgIn lo hi r) (h1 : lo' ≤ lo) (h2 : hi ≤ hi') : ProgIn lo' hi' r :=
  ⟨fun g hg => by have := h.lows g hg; omega, fun g hg => by have := h.secrets g hg; omega, fun g hg => by have := h.arrays g hg; omega, fun g hg => by have := h.body g hg; omega, fun g hg => by have := h.rows g hg; omega⟩
/-- No two of a body's slices lie in one block. -/
theorem blks_apart {rs : List SRow} (h : (blks rs).Nodup) {i j : Nat} (hi : i < rs.length) (hj : j < rs.length) (hne : i ≠ j) {g : Nat} (h1 : g ∈ blksOf (srAt rs i)) : g ∉ blksOf (srAt rs j) := by
  intro h2
  have hp := (List.pairwise_flatMap.1 h).2
  have ei : srAt rs i = rs[i] := by simp [srAt, List.getD_eq_getElem?_getD, hi]
  have ej : srAt rs j = rs[j] := by simp [srAt, List.getD_eq_getElem?_getD, hj]
  rw [ei] at h1
  rw [ej] at h2
  rcases Nat.lt_or_ge i j with hlt | hge
  · exact (List.pairwise_iff_getElem.1 hp i j hi hj hlt g h1 g h2) rfl
  · exact (List.pairwise_iff_getElem.1 hp j i hj hi (by omega) g h2 g h1) rfl
theorem blks_self {rs : List SRow} (h : (blks rs).Nodup) {i : Nat} (hi : i < rs.length) {g : Nat} (h1 : (slV (srAt rs i).at_).ownBlock = some g) : (slV (srAt rs i).exp).ownBlock ≠ some g := by
  intro h2
  have ei : srAt rs i = rs[i] := by simp [srAt, List.getD_eq_getElem?_getD, hi]
  have hm := (List.pairwise_flatMap.1 h).1 rs[i] (List.getElem_mem hi)
  rw [← ei, blksOf, h1, h2] at hm
  simp at hm
theorem list_set_same {α : Type} {l : List α} {i : Nat} {v : α} (h : l[i]? = some v) : l.set i v = l := by
  apply List.ext_getElem? 
  intro j
  rw [List.getElem?_set]
  split
  · rename_i e
    subst e
    obtain ⟨hlt, _⟩ := List.getElem?_eq_some_iff.1 h
    rw [if_pos hlt, h]
  · rfl
end Go.Proofs.YtbnpoliogldohaaGreat
/- The marks on slices of Terms, of Inputs, of numbers, by themselves (written by tools/gen_markonly.py). -/
namespace Go.Proofs.YtbnpoliogldohaaGreat
open Go.RowKit

set_option maxHeartbeats 800000 in
theorem markTermS_w (a : Option Addr) (n c : Nat) (ts : List Tm) (k : Nat) (w : World) (B : Nat) (h : OwnT w B a n c ts) (hk : k ≤ 1152921504606846976) :
    Calls Tryz.prog 131 #[.slice a n c, .int .i64 (k : Int)] w fun e w' => e = .returned (.int .i64 ((k + 2 * n : Nat) : Int)) ∧ OwnT w' B a n c (marksT k n) ∧ w.grownBy w' (Value.slice a n c).ownBlock := by
  have HL := Lib.hid h.len
  have hbd := h.2.1
  have hin : ∀ t ∈ marksT k n, InTm t := fun t ht => marksT_in ht (by omega) (by omega) hbd
  have HIN := Lib.hid hin
  clear hin
  go_enter Tryz.func131, Tryz.ntmps131
  go_wp2
  go_loopw [1, 5] (fun q i wr => ∃ j : Nat, j ≤ n ∧ i = .int .i64 j ∧ q = .int .i64 ((k + 2 * j : Nat) : Int) ∧ wr.ownsRow B 138 2 (.slice a n c) n (flatV (MarkT ts k j)) ∧ w.grownBy wr (Value.slice a n c).ownBlock) (fun _ i _ => n - (intOf i).toNat)
  case atStart => exact ⟨0, Nat.zero_le _, rfl, rfl, by rw [markT_zero]; exact h.1, World.grownBy.refl _ _⟩
  case round =>
    obtain ⟨j, hj, rfl, rfl, hown, hgr⟩ := hrel
    by_cases hlt : j < n
    · obtain ⟨g, rfl⟩ : ∃ g, a = some ⟨g, 0, none⟩ := by
        rcases hown.2 with ⟨_, h0⟩ | ⟨g, cap, cur, e, _⟩
        · omega
        · exact ⟨g, by injection e⟩
      obtain ⟨hd1, hd2⟩ := own_cell2 hown hlt
      generalize (tmAt (MarkT ts k j) j).1 = q1 at hd1
      generalize (tmAt (MarkT ts k j) j).2 = q2 at hd2
      have hf1 := hown.frozenAt (j * 2)
      have hf2 := hown.frozenAt (j * 2 + 1)
      have HO2 := own_put2 hown j (by rw [markT_len _ HL.out hj]; exact hlt) ((k : Int) + 2 * (j : Int)) ((k : Int) + 2 * (j : Int) + 1)
      rw [markT_succ k HL.out hlt] at HO2
      have hgr1 := (hown.stored (j * 2) (.int .i64 ((k : Int) + 2 * (j : Int))))
      have hgr2 := (hgr1.1.stored (j * 2 + 1) (.int .i64 ((k : Int) + 2 * (j : Int) + 1))).2
      have hgr3 := hgr1.2
      have HG := Lib.hid (show w.grownBy ((wr.setCell ⟨g, j * 2, none⟩ (.int .i64 ((k : Int) + 2 * (j : Int)))).setCell ⟨g, j * 2 + 1, none⟩ (.int .i64 ((k : Int) + 2 * (j : Int) + 1))) (some g) from
        ⟨hgr2.os.trans (hgr3.os.trans hgr.os), hgr2.tape.trans (hgr3.tape.trans hgr.tape), hgr2.output.trans (hgr3.output.trans hgr.output), Nat.le_trans hgr.size (Nat.le_trans hgr3.size hgr2.size),
          fun b hb hne => (hgr2.block b (Nat.lt_of_lt_of_le hb (Nat.le_trans hgr.size hgr3.size)) hne).trans ((hgr3.block b (Nat.lt_of_lt_of_le hb hgr.size) hne).trans (hgr.block b hb hne))⟩)
      clear hown hgr hgr1 hgr2 hgr3
      go_wp2
      go_roundw
      case rel => exact ⟨j + 1, by omega, by go_num, by go_num, HO2, HG.out⟩
      case measure => simp [intOf]; omega
    · obtain rfl : n = j := by omega
      go_wp2
      go_ret
      rw [markT_all k HL.out] at hown
      exact ⟨rfl, ⟨hown, hbd, HIN.out⟩, hgr⟩
set_option maxHeartbeats 800000 in
theorem markInputS_w (a : Option Addr) (n c : Nat) (ts : List Tm) (k : Nat) (w : World) (B : Nat) (h : OwnI w B a n c ts) (hk : k ≤ 1152921504606846976) :
    Calls Tryz.prog 78 #[.slice a n c, .int .i64 (k : Int)] w fun e w' => e = .returned (.int .i64 ((k + 2 * n : Nat) : Int)) ∧ OwnI w' B a n c (marksT k n) ∧ w.grownBy w' (Value.slice a n c).ownBlock := by
  have HL := Lib.hid h.len
  have hbd := h.2.1
  have hin : ∀ t ∈ marksT k n, InTm t := fun t ht => marksT_in ht (by omega) (by omega) hbd
  have HIN := Lib.hid hin
  clear hin
  go_enter Tryz.func78, Tryz.ntmps78
  go_wp2
  go_loopw [1, 5] (fun q i wr => ∃ j : Nat, j ≤ n ∧ i = .int .i64 j ∧ q = .int .i64 ((k + 2 * j : Nat) : Int) ∧ wr.ownsRow B 68 2 (.slice a n c) n (flatV (MarkT ts k j)) ∧ w.grownBy wr (Value.slice a n c).ownBlock) (fun _ i _ => n - (intOf i).toNat)
  case atStart => exact ⟨0, Nat.zero_le _, rfl, rfl, by rw [markT_zero]; exact h.1, World.grownBy.refl _ _⟩
  case round =>
    obtain ⟨j, hj, rfl, rfl, hown, hgr⟩ := hrel
    by_cases hlt : j < n
    · obtain ⟨g, rfl⟩ : ∃ g, a = some ⟨g, 0, none⟩ := by
        rcases hown.2 with ⟨_, h0⟩ | ⟨g, cap, cur, e, _⟩
        · omega
        · exact ⟨g, by injection e⟩
      obtain ⟨hd1, hd2⟩ := own_cellI2 hown hlt
      generalize (tmAt (MarkT ts k j) j).1 = q1 at hd1
      generalize (tmAt (MarkT ts k j) j).2 = q2 at hd2
      have hf1 := hown.frozenAt (j * 2)
      have hf2 := hown.frozenAt (j * 2 + 1)
      have HO2 := own_putI2 hown j (by rw [markT_len _ HL.out hj]; exact hlt) ((k : Int) + 2 * (j : Int)) ((k : Int) + 2 * (j : Int) + 1)
      rw [markT_succ k HL.out hlt] at HO2
      have hgr1 := (hown.stored (j * 2) (.int .i64 ((k : Int) + 2 * (j : Int))))
      have hgr2 := (hgr1.1.stored (j * 2 + 1) (.int .i64 ((k : Int) + 2 * (j : Int) + 1))).2
      have hgr3 := hgr1.2
      have HG := Lib.hid (show w.grownBy ((wr.setCell ⟨g, j * 2, none⟩ (.int .i64 ((k : Int) + 2 * (j : Int)))).setCell ⟨g, j * 2 + 1, none⟩ (.int .i64 ((k : Int) + 2 * (j : Int) + 1))) (some g) from
        ⟨hgr2.os.trans (hgr3.os.trans hgr.os), hgr2.tape.trans (hgr3.tape.trans hgr.tape), hgr2.output.trans (hgr3.output.trans hgr.output), Nat.le_trans hgr.size (Nat.le_trans hgr3.size hgr2.size),
          fun b hb hne => (hgr2.block b (Nat.lt_of_lt_of_le hb (Nat.le_trans hgr.size hgr3.size)) hne).trans ((hgr3.block b (Nat.lt_of_lt_of_le hb hgr.size) hne).trans (hgr.block b hb hne))⟩)
      clear hown hgr hgr1 hgr2 hgr3
      go_wp2
      go_roundw
      case rel => exact ⟨j + 1, by omega, by go_num, by go_num, HO2, HG.out⟩
      case measure => simp [intOf]; omega
    · obtain rfl : n = j := by omega
      go_wp2
      go_ret
      rw [markT_all k HL.out] at hown
      exact ⟨rfl, ⟨hown, hbd, HIN.out⟩, hgr⟩
set_option maxHeartbeats 400000 in
theorem markInt64S_w (a : Option Addr) (n c : Nat) (zs : List Int) (k : Nat) (w : World) (B : Nat) (h : Own w B a n c zs) (hk : k ≤ 1152921504606846976) :
    Calls Tryz.prog 30 #[.slice a n c, .int .i64 (k : Int)] w fun e w' => e = .returned (.int .i64 ((k + n : Nat) : Int)) ∧ Own w' B a n c (marks k n) ∧ w.grownBy w' (Value.slice a n c).ownBlock := by
  have HL := Lib.hid h.len
  have hbd := h.2.1
  have hin : ∀ z ∈ marks k n, In64 z := fun z hz => by have := marks_mem hz; exact ⟨by omega, by omega⟩
  have HIN := Lib.hid hin
  clear hin
  go_enter Tryz.func30, Tryz.ntmps30
  go_wp2
  go_loopw [1, 5] (fun q i wr => ∃ j : Nat, j ≤ n ∧ i = .int .i64 j ∧ q = .int .i64 ((k + j : Nat) : Int) ∧ wr.ownsRow B 2 1 (.slice a n c) n ((MarkTo zs k j).map (Value.int .i64)) ∧ w.grownBy wr (Value.slice a n c).ownBlock) (fun _ i _ => n - (intOf i).toNat)
  case atStart => exact ⟨0, Nat.zero_le _, rfl, rfl, by rw [markTo_zero]; exact h.1, World.grownBy.refl _ _⟩
  case round =>
    obtain ⟨j, hj, rfl, rfl, hown, hgr⟩ := hrel
    by_cases hlt : j < n
    · obtain ⟨g, rfl⟩ : ∃ g, a = some ⟨g, 0, none⟩ := by
        rcases hown.2 with ⟨_, h0⟩ | ⟨g, cap, cur, e, _⟩
        · omega
        · exact ⟨g, by injection e⟩
      have hc2 := own_cell hown hlt
      generalize (MarkTo zs k j).getD j 0 = y at hc2
      have hf2 := hown.frozenAt j
      have HO2 := own_put hown j ((k : Int) + (j : Int))
      rw [markTo_succ k HL.out hlt] at HO2
      have hgr2 := (hown.stored j (.int .i64 ((k : Int) + (j : Int)))).2
      have HG := Lib.hid (show w.grownBy (wr.setCell ⟨g, j, none⟩ (.int .i64 ((k : Int) + (j : Int)))) (some g) from
        ⟨hgr2.os.trans hgr.os, hgr2.tape.trans hgr.tape, hgr2.output.trans hgr.output, Nat.le_trans hgr.size hgr2.size,
          fun b hb hne => (hgr2.block b (Nat.lt_of_lt_of_le hb hgr.size) hne).trans (hgr.block b hb hne)⟩)
      clear hown hgr hgr2
      go_wp2
      go_roundw
      case rel => exact ⟨j + 1, by omega, by go_num, by go_num, HO2, HG.out⟩
      case measure => simp [intOf]; omega
    · obtain rfl : n = j := by omega
      go_wp2
      go_ret
      rw [markTo_all k HL.out] at hown
      exact ⟨rfl, ⟨hown, hbd, HIN.out⟩, hgr⟩
end Go.Proofs.YtbnpoliogldohaaGreat
/- The laws' own marks on programs (markStmtS, markProg): only a program's own blocks turn. -/
namespace Go.Proofs.YtbnpoliogldohaaGreat
open Go.RowKit

/-- A body under way: its cells rs', each slice of it where rs has it. -/
structure MarkRel (w wr : World) (lo hi B : Nat) (a : Option Addr) (n c : Nat) (rs rs' : List SRow) : Prop where
  row : wr.ownsRow B 74 4 (.slice a n c) n (flatS rs')
  same : ∀ i, i < n → (srAt rs' i).at_ = (srAt rs i).at_ ∧ (srAt rs' i).exp = (srAt rs i).exp
  one : ∀ i, i < n → ∃ ts, OwnT wr B (srAt rs i).at_.1 (srAt rs i).at_.2.1 (srAt rs i).at_.2.2 ts
  two : ∀ i, i < n → ∃ us, OwnT wr B (srAt rs i).exp.1 (srAt rs i).exp.2.1 (srAt rs i).exp.2.2 us
  span : Span lo hi w wr
theorem at_mem {r : SRow} {g : Nat} (h : (slV r.at_).ownBlock = some g) : g ∈ blksOf r := by simp [blksOf, h]
theorem exp_mem {r : SRow} {g : Nat} (h : (slV r.exp).ownBlock = some g) : g ∈ blksOf r := by simp [blksOf, h]
section
variable {w wr wx : World} {lo hi B n c g k : Nat} {a : Option Addr} {rs rs' : List SRow}
theorem MarkRel.len (h : MarkRel w wr lo hi B a n c rs rs') : rs'.length = n := by have := h.row.1; rw [flatS_len] at this; omega
/-- Two numbers are written. -/
theorem MarkRel.nums (h : MarkRel w wr lo hi B (some ⟨g, 0, none⟩) n c rs rs') (hk : k < n) (x y : Int) (hg : lo ≤ g ∧ g < hi) :
    MarkRel w ((wr.setCell ⟨g, k * 4, none⟩ (.int .i64 x)).setCell ⟨g, k * 4 + 1, none⟩ (.int .i64 y)) lo hi B (some ⟨g, 0, none⟩) n c rs (rs'.set k ⟨x, y, (srAt rs' k).at_, (srAt rs' k).exp⟩) := by
  have hl := h.len
  have s1 := h.row.stored (k * 4) (.int .i64 x)
  have s2 := s1.1.stored (k * 4 + 1) (.int .i64 y)
  have ef : flatS (rs'.set k ⟨x, y, (srAt rs' k).at_, (srAt rs' k).exp⟩) = ((flatS rs').set (k * 4) (.int .i64 x)).set (k * 4 + 1) (.int .i64 y) := by
    rw [flatS_set _ _ _ (by omega)]
    simp only []
    have e2 := flatS_at rs' k 2 (by omega) (by omega)
    have e3 := flatS_at rs' k 3 (by omega) (by omega)
    rw [list_set_same (i := k * 4 + 2), list_set_same (i := k * 4 + 3)]
    · rw [List.getElem?_set_ne (by omega), List.getElem?_set_ne (by omega), e3]; rfl
    · rw [List.getElem?_set_ne (by omega), List.getElem?_set_ne (by omega), e2]; rfl
  have hs : ∀ g', g' = g → Span lo hi wr ((wr.setCell ⟨g, k * 4, none⟩ (.int .i64 x)).setCell ⟨g, k * 4 + 1, none⟩ (.int .i64 y)) := fun g' _ => (Span.set wr _ hg.1 hg.2).trans (Span.set _ _ hg.1 hg.2)
  have kt : ∀ {s : Sl} {ts : List Tm}, OwnT wr B s.1 s.2.1 s.2.2 ts → OwnT ((wr.setCell ⟨g, k * 4, none⟩ (.int .i64 x)).setCell ⟨g, k * 4 + 1, none⟩ (.int .i64 y)) B s.1 s.2.1 s.2.2 ts := fun {s ts} ho => by
    have h1 : OwnT (wr.setCell ⟨g, k * 4, none⟩ (.int .i64 x)) B s.1 s.2.1 s.2.2 ts := ho.apart (grown_set _ _ _ _) (fun g' hg' e => by injection e with e; subst e; exact own_kinds ho.1 h.row (by decide) hg' rfl)
    exact h1.apart (grown_set _ _ _ _) (fun g' hg' e => by injection e with e; subst e; exact own_kinds h1.1 s1.1 (by decide) hg' rfl)
  refine ⟨by rw [ef]; exact s2.1, fun i hi' => ?_, fun i hi' => ?_, fun i hi' => ?_, h.span.trans (hs g rfl)⟩
  · have := h.same i hi'
    by_cases e : i = k
    · subst e
      rw [show srAt (rs'.set i ⟨x, y, (srAt rs' i).at_, (srAt rs' i).exp⟩) i = ⟨x, y, (srAt rs' i).at_, (srAt rs' i).exp⟩ by simp [srAt, List.getD_eq_getElem?_getD, hl, hi']]
      exact this
    · rw [show srAt (rs'.set k ⟨x, y, (srAt rs' k).at_, (srAt rs' k).exp⟩) i = srAt rs' i by rw [srAt, List.getD_eq_getElem?_getD, List.getElem?_set_ne (Ne.symm e), srAt, List.getD_eq_getElem?_getD]]
      exact this
  · obtain ⟨ts, ho⟩ := h.one i hi'; exact ⟨ts, kt ho⟩
  · obtain ⟨ts, ho⟩ := h.two i hi'; exact ⟨ts, kt ho⟩
/-- A row's first slice, its second one is marked. -/
theorem MarkRel.at_ (h : MarkRel w wr lo hi B a n c rs rs') (hk : k < n) (hl : rs.length = n) (hn : (blks rs).Nodup) (hin : ∀ g ∈ blks rs, lo ≤ g ∧ g < hi) {ts : List Tm} (ho : OwnT wx B (srAt rs k).at_.1 (srAt rs k).at_.2.1 (srAt rs k).at_.2.2 ts) (hg : wr.grownBy wx (slV (srAt rs k).at_).ownBlock) : MarkRel w wx lo hi B a n c rs rs' := by
  have hm : ∀ i, i < n → ∀ g, g ∈ blksOf (srAt rs i) → g ∈ blks rs := fun i hi g hg => List.mem_flatMap.2 ⟨srAt rs i, by simp [srAt, List.getD_eq_getElem?_getD, hl, hi], hg⟩
  obtain ⟨t0, h0⟩ := h.one k hk
  refine ⟨h.row.kept hg ?_, h.same, fun i hi => ?_, fun i hi => ?_, h.span.trans (Span.of_grown hg (fun g e => hin g (hm k hk g (at_mem e))))⟩
  · cases hv : (Value.slice a n c).ownBlock with
    | none => exact .inl rfl
    | some g => exact .inr fun e => own_kinds h.row h0.1 (by decide) hv e.symm
  · by_cases e : i = k
    · subst e; exact ⟨ts, ho⟩
    · obtain ⟨us, hu⟩ := h.one i hi
      exact ⟨us, hu.apart hg (fun g hgg e' => blks_apart hn (by omega) (by omega) e (at_mem hgg) (at_mem e'))⟩
  · obtain ⟨us, hu⟩ := h.two i hi
    refine ⟨us, hu.apart hg (fun g hgg e' => ?_)⟩
    by_cases e : i = k
    · subst e; exact blks_self hn (by omega) e' hgg
    · exact blks_apart hn (by omega) (by omega) e (exp_mem hgg) (at_mem e')
theorem MarkRel.exp (h : MarkRel w wr lo hi B a n c rs rs') (hk : k < n) (hl : rs.length = n) (hn : (blks rs).Nodup) (hin : ∀ g ∈ blks rs, lo ≤ g ∧ g < hi) {ts : List Tm} (ho : OwnT wx B (srAt rs k).exp.1 (srAt rs k).exp.2.1 (srAt rs k).exp.2.2 ts) (hg : wr.grownBy wx (slV (srAt rs k).exp).ownBlock) : MarkRel w wx lo hi B a n c rs rs' := by
  have hm : ∀ i, i < n → ∀ g, g ∈ blksOf (srAt rs i) → g ∈ blks rs := fun i hi g hg => List.mem_flatMap.2 ⟨srAt rs i, by simp [srAt, List.getD_eq_getElem?_getD, hl, hi], hg⟩
  obtain ⟨t0, h0⟩ := h.two k hk
  refine ⟨h.row.kept hg ?_, h.same, fun i hi => ?_, fun i hi => ?_, h.span.trans (Span.of_grown hg (fun g e => hin g (hm k hk g (exp_mem e))))⟩
  · cases hv : (Value.slice a n c).ownBlock with
    | none => exact .inl rfl
    | some g => exact .inr fun e => own_kinds h.row h0.1 (by decide) hv e.symm
  · obtain ⟨us, hu⟩ := h.one i hi
    refine ⟨us, hu.apart hg (fun g hgg e' => ?_)⟩
    by_cases e : i = k
    · subst e; exact blks_self hn (by omega) hgg e'
    · exact blks_apart hn (by omega) (by omega) e (at_mem hgg) (exp_mem e')
  · by_cases e : i = k
    · subst e; exact ⟨ts, ho⟩
    · obtain ⟨us, hu⟩ := h.two i hi
      exact ⟨us, hu.apart hg (fun g hgg e' => blks_apart hn (by omega) (by omega) e (exp_mem hgg) (exp_mem e'))⟩
theorem MarkRel.at_k (h : MarkRel w wr lo hi B a n c rs rs') (hk : k < n) : ∃ (g : Nat) (x y : Int) (a1 a2 : Option Addr) (n1 c1 n2 c2 : Nat), a = some ⟨g, 0, none⟩ ∧ Hid (srAt rs k = srAt rs k) ∧ Hid ((srAt rs k).at_ = (a1, n1, c1)) ∧ Hid ((srAt rs k).exp = (a2, n2, c2)) ∧ wr.cell? ⟨g, k * 4, none⟩ = some (.int .i64 x) ∧ wr.cell? ⟨g, k * 4 + 1, none⟩ = some (.int .i64 y) ∧ wr.cell? ⟨g, k * 4 + 2, none⟩ = some (.slice a1 n1 c1) ∧ wr.cell? ⟨g, k * 4 + 3, none⟩ = some (.slice a2 n2 c2) := by
  have hl := h.len
  rcases h.row.2 with ⟨_, h0⟩ | ⟨g, cap, cur, e, _⟩
  · omega
  have ea : a = some ⟨g, 0, none⟩ := by injection e
  subst ea
  have e0 := flatS_at rs' k 0 (by omega) (by omega)
  have e1 := flatS_at rs' k 1 (by omega) (by omega)
  have e2 := flatS_at rs' k 2 (by omega) (by omega)
  have e3 := flatS_at rs' k 3 (by omega) (by omega)
  obtain ⟨s1, s2⟩ := h.same k hk
  have hr := h.row
  have q0 := hr.cellAt (k * 4) (by omega)
  have q1 := hr.cellAt (k * 4 + 1) (by omega)
  have q2 := hr.cellAt (k * 4 + 2) (by omega)
  have q3 := hr.cellAt (k * 4 + 3) (by omega)
  rw [Nat.add_zero] at e0
  rw [e0] at q0
  rw [e1] at q1
  rw [e2] at q2
  rw [e3] at q3
  refine ⟨g, _, _, _, _, _, _, _, _, rfl, Lib.hid rfl, Lib.hid rfl, Lib.hid rfl, q0, q1, ?_, ?_⟩
  · rw [q2]
    show some (slV (srAt rs' k).at_) = some (slV (srAt rs k).at_)
    rw [s1]
  · rw [q3]
    show some (slV (srAt rs' k).exp) = some (slV (srAt rs k).exp)
    rw [s2]
end
/-- What marks leave. -/
def Marked (w : World) (lo hi top : Nat) (e : Ending) (w' : World) : Prop := ∃ m : Nat, e = .returned (.int .i64 (m : Int)) ∧ m ≤ top ∧ Span lo hi w w'
set_option maxHeartbeats 1600000 in
theorem markStmtS_any (a : Option Addr) (n c : Nat) (rs : List SRow) (ss : List Stm) (k : Nat) (w : World) (B lo hi : Nat) (h : OwnStmts w B a n c rs ss) (hb : SlIn lo hi (a, n, c)) (hin : ∀ g ∈ blks rs, lo ≤ g ∧ g < hi) (hk : k ≤ 1125899906842624) :
    Calls Tryz.prog 79 #[.slice a n c, .int .i64 (k : Int)] w (Marked w lo hi (k + n * 4194306)) := by
  have HL := Lib.hid h.len
  have hbd := h.2.1
  have HN := Lib.hid h.2.2.2.2
  have HIN := Lib.hid hin
  have HSB := Lib.hid hb
  have HREL : Hid (MarkRel w w lo hi B a n c rs rs) := Lib.hid ⟨h.1, fun i hi => ⟨rfl, rfl⟩, fun i hi => ⟨_, (h.2.2.2.1 i hi).2.2.2.2.1⟩, fun i hi => ⟨_, (h.2.2.2.1 i hi).2.2.2.2.2⟩, Span.refl _ _ _⟩
  clear h hb hin
  go_enter Tryz.func79, Tryz.ntmps79
  go_wp2
  go_loopw [1, 5] (fun q i wr => ∃ (j p : Nat) (rs' : List SRow), j ≤ n ∧ i = .int .i64 j ∧ q = .int .i64 (p : Int) ∧ p ≤ k + j * 4194306 ∧ MarkRel w wr lo hi B a n c rs rs') (fun _ i _ => n - (intOf i).toNat)
  case atStart => exact ⟨0, k, rs, Nat.zero_le _, rfl, rfl, by omega, HREL.out⟩
  case round =>
    clear HREL
    obtain ⟨j, p, rs', hj, rfl, rfl, hp, hrel⟩ := hrel
    by_cases hlt : j < n
    · obtain ⟨g, x, y, a1, a2, n1, c1, n2, c2, rfl, _, hs1, hs2, hc0, hc1, hc2, hc3⟩ := hrel.at_k hlt
      have hf0 := hrel.row.frozenAt (j * 4)
      have hf1 := hrel.row.frozenAt (j * 4 + 1)
      have hR1 := hrel.nums hlt (p : Int) ((p : Int) + 1) (HSB.out g rfl)
      have hp60 : p ≤ 1125904304889344 + 1125899906842624 := by
        have : j * 4194306 ≤ 1048576 * 4194306 := Nat.mul_le_mul_right _ (by omega)
        omega
      have HP := Lib.hid hp
      clear hp hrel
      go_wp2_with fail
      obtain ⟨wx, HW⟩ : ∃ wx, Hid (wx = (wr.setCell ⟨g, j * 4, none⟩ (.int .i64 p)).setCell ⟨g, j * 4 + 1, none⟩ (.int .i64 ((p : Int) + 1))) := ⟨_, rfl⟩
      rw [← HW.out]
      rw [← HW.out] at hR1
      clear hc0 hc1 hc2 hc3 hf0 hf1
      obtain ⟨g', x', y', a1', a2', n1', c1', n2', c2', eg, _, hs1', hs2', _, _, hd2, hd3⟩ := hR1.at_k hlt
      have eg' : g = g' := by injection eg with eg; injection eg with eg
      have e1 := hs1.out.symm.trans hs1'.out
      have e2 := hs2.out.symm.trans hs2'.out
      injection e1 with e11 e12; injection e12 with e12 e13
      injection e2 with e21 e22; injection e22 with e22 e23
      subst eg' e11 e12 e13 e21 e22 e23
      clear hs1' hs2' eg HW
      obtain ⟨ts, hts⟩ := hR1.one j hlt
      have hts' := hts
      rw [hs1.out] at hts'
      have HN1 := hts'.2.1
      go_wp2_with fail
      refine (markTermS_w _ _ _ ts (p + 2) _ B hts' (by omega)).mono ?_
      rintro e w2 ⟨rfl, hot, hg2⟩
      have hR2 := hR1.at_ hlt HL.out HN.out HIN.out (ts := marksT ((p + 2 : Nat) : Int) n1) (by rw [hs1.out]; exact hot) (by rw [hs1.out]; exact hg2)
      clear hot hg2 hts hts' hd2 hd3 hR1
      obtain ⟨g', x'', y'', a1', a2', n1', c1', n2', c2', eg, _, hs1', hs2', _, _, hd2, hd3⟩ := hR2.at_k hlt
      have eg' : g = g' := by injection eg with eg; injection eg with eg
      have e1 := hs1.out.symm.trans hs1'.out
      have e2 := hs2.out.symm.trans hs2'.out
      injection e1 with e11 e12; injection e12 with e12 e13
      injection e2 with e21 e22; injection e22 with e22 e23
      subst eg' e11 e12 e13 e21 e22 e23
      clear hs1' hs2' eg
      obtain ⟨us, hus⟩ := hR2.two j hlt
      have hus' := hus
      rw [hs2.out] at hus'
      have HN2 := hus'.2.1
      go_wp2_with fail
      refine (markTermS_w _ _ _ us (p + 2 + 2 * n1) _ B hus' (by omega)).mono ?_
      rintro e w3 ⟨rfl, hot, hg2⟩
      have hR3 := Lib.hid (hR2.exp hlt HL.out HN.out HIN.out (ts := marksT ((p + 2 + 2 * n1 : Nat) : Int) n2) (by rw [hs2.out]; exact hot) (by rw [hs2.out]; exact hg2))
      clear hot hg2 hus hus' hd2 hd3 hR2
      go_wp2
      go_roundw
      case rel => exact ⟨j + 1, p + 2 + 2 * n1 + 2 * n2, _, by omega, by go_num, by go_num, by have := HP.out; rw [Nat.add_mul]; omega, hR3.out⟩
      case measure => simp [intOf]; omega
    · obtain rfl : n = j := by omega
      have HS := Lib.hid hrel.span
      clear hrel
      go_wp2
      go_ret
      exact ⟨p, rfl, hp, HS.out⟩
theorem Own.only {w w' : World} {B n c lo hi : Nat} {a : Option Addr} {zs : List Int} (h : Own w B a n c zs) (hs : Span lo hi w w') (hv : ∀ g, (Value.slice a n c).ownBlock = some g → g < lo ∨ hi ≤ g) : Own w' B a n c zs := ⟨ownsRow_span h.1 hs hv, h.2⟩
theorem OwnI.kept {w w' : World} {B n c : Nat} {a : Option Addr} {ts : List Tm} {row : Option Nat} (h : OwnI w B a n c ts) (hg : w.grownBy w' row) (hr : ∀ g, (Value.slice a n c).ownBlock = some g → row ≠ some g) : OwnI w' B a n c ts := h.apart hg hr
theorem OwnStmts.kept {w w' : World} {B n c : Nat} {a : Option Addr} {rs : List SRow} {ss : List Stm} {row : Option Nat} (h : OwnStmts w B a n c rs ss) (hg : w.grownBy w' row) (hr : ∀ g, (Value.slice a n c).ownBlock = some g → row ≠ some g) (hi : ∀ i, i < n → (∀ g, (slV (srAt rs i).at_).ownBlock = some g → row ≠ some g) ∧ ∀ g, (slV (srAt rs i).exp).ownBlock = some g → row ≠ some g) : OwnStmts w' B a n c rs ss := by
  refine ⟨h.1.kept hg ?_, h.2.1, h.2.2.1, fun i hi' => ?_, h.2.2.2.2⟩
  · cases hv : (Value.slice a n c).ownBlock with
    | none => exact .inl rfl
    | some g => exact .inr fun e => hr g hv e.symm
  · obtain ⟨h1, h2, h3, h4, h5, h6⟩ := h.2.2.2.1 i hi'
    exact ⟨h1, h2, h3, h4, h5.apart hg (hi i hi').1, h6.apart hg (hi i hi').2⟩
set_option maxRecDepth 20000 in
set_option maxHeartbeats 3200000 in
theorem markProg_any (r : PRow) (p : Prg) (k : Nat) (w : World) (B lo hi : Nat) (h : OwnProg w B r p) (hin : ProgIn lo hi r) (hk : k ≤ 4194304) :
    Calls Tryz.prog 29 #[progV r, .int .i64 (k : Int)] w (Marked w lo hi 9007199254740992) := by
  obtain ⟨wd, ⟨a1, n1, c1⟩, ⟨a2, n2, c2⟩, tp, ⟨a3, n3, c3⟩, ⟨a4, n4, c4⟩, rows⟩ := r
  have H1 := Lib.hid h.lows
  have H2 := Lib.hid h.secrets
  have H3 := Lib.hid h.arrays
  have H4 := Lib.hid h.body
  have HAP := Lib.hid h.apart
  have HIN := Lib.hid hin
  have b1 := h.lows.2.1
  have b2 := h.secrets.2.1
  have b3 := h.arrays.2.1
  have b4 := h.body.2.1
  clear h hin
  show Calls Tryz.prog 29 #[.agg #[.int .i64 wd, .slice a1 n1 c1, .slice a2 n2 c2, .int .i64 tp, .slice a3 n3 c3, .slice a4 n4 c4], .int .i64 (k : Int)] w _
  obtain ⟨wa, HW⟩ : ∃ wa, Hid (wa = w.alloc (.cells #[.int .i64 wd, .slice a1 n1 c1, .slice a2 n2 c2, .int .i64 tp, .slice a3 n3 c3, .slice a4 n4 c4] 28)) := ⟨_, rfl⟩
  have BX : Blk wa w.heap.size 28 [.int .i64 wd, .slice a1 n1 c1, .slice a2 n2 c2, .int .i64 tp, .slice a3 n3 c3, .slice a4 n4 c4] := by rw [HW.out]; exact Blk.new w _ _
  have HBA : Below w.heap.size w wa := by rw [HW.out]; exact (Below.refl _ _).alloc (Nat.le_refl _) _
  have HS : Span lo hi w wa := Span.of_below HBA
  have hbx := BX.lt
  simp only [] at H1 H2 H3 H4 HAP b1 b2 b3 b4
  have G1 := H1.out.below HBA
  have G2 := H2.out.below HBA
  have G3 := H3.out.below HBA
  have G4 := H4.out.below HBA
  clear H1 H2 H3 H4
  have t1 := BX.cell (j := 1) rfl
  rw [HW.out] at t1
  go_enter Tryz.func29, Tryz.ntmps29
  go_wp2_with fail
  rw [← HW.out]
  refine (markInputS_w a1 n1 c1 _ k _ B G1 (by omega)).mono ?_
  rintro e w1 ⟨rfl, _, hg⟩
  have G2 := G2.apart hg (fun g hgg e => HAP.out g e hgg)
  have G3 := G3.keep hg (fun g hgg e => own_kinds G3.1 G1.1 (by decide) hgg e)
  have G4 := OwnStmts.kept G4 hg (fun g hgg e => own_kinds G4.1 G1.1 (by decide) hgg e) (fun i hi => ⟨fun g hgg e => own_kinds (G4.2.2.2.1 i hi).2.2.2.2.1.1 G1.1 (by decide) hgg e, fun g hgg e => own_kinds (G4.2.2.2.1 i hi).2.2.2.2.2.1 G1.1 (by decide) hgg e⟩)
  have BX := blk_stay BX hg (fun e => blk_apart BX G1.1 (by decide) _ e rfl)
  have HS := HS.trans (Span.of_grown hg (fun g e => HIN.out.lows g e))
  clear G1 hg t1 HW HBA
  have t2 := BX.cell (j := 2) rfl
  go_wp2_with fail
  refine (markInputS_w a2 n2 c2 _ (k + 2 * n1) _ B G2 (by omega)).mono ?_
  rintro e w2 ⟨rfl, _, hg⟩
  have G3 := G3.keep hg (fun g hgg e => own_kinds G3.1 G2.1 (by decide) hgg e)
  have G4 := OwnStmts.kept G4 hg (fun g hgg e => own_kinds G4.1 G2.1 (by decide) hgg e) (fun i hi => ⟨fun g hgg e => own_kinds (G4.2.2.2.1 i hi).2.2.2.2.1.1 G2.1 (by decide) hgg e, fun g hgg e => own_kinds (G4.2.2.2.1 i hi).2.2.2.2.2.1 G2.1 (by decide) hgg e⟩)
  have BX := blk_stay BX hg (fun e => blk_apart BX G2.1 (by decide) _ e rfl)
  have HS := HS.trans (Span.of_grown hg (fun g e => HIN.out.secrets g e))
  clear G2 hg t2
  have t3 := BX.cell (j := 4) rfl
  go_wp2_with fail
  refine (markInt64S_w a3 n3 c3 _ (k + 2 * n1 + 2 * n2) _ B G3 (by omega)).mono ?_
  rintro e w3 ⟨rfl, _, hg⟩
  have G4 := OwnStmts.kept G4 hg (fun g hgg e => own_kinds G4.1 G3.1 (by decide) hgg e) (fun i hi => ⟨fun g hgg e => own_kinds (G4.2.2.2.1 i hi).2.2.2.2.1.1 G3.1 (by decide) hgg e, fun g hgg e => own_kinds (G4.2.2.2.1 i hi).2.2.2.2.2.1 G3.1 (by decide) hgg e⟩)
  have BX := blk_stay BX hg (fun e => blk_apart BX G3.1 (by decide) _ e rfl)
  have HS := HS.trans (Span.of_grown hg (fun g e => HIN.out.arrays g e))
  clear G3 hg t3
  have t4 := BX.cell (j := 5) rfl
  go_wp2_with fail
  refine (markStmtS_any a4 n4 c4 rows _ (k + 2 * n1 + 2 * n2 + n3) _ B lo hi G4 HIN.out.body HIN.out.rows (by omega)).mono ?_
  rintro e w4 ⟨m, rfl, hm, hs⟩
  have HS := Lib.hid (HS.trans hs)
  have hm2 : m ≤ 9007199254740992 := by
    have : n4 * 4194306 ≤ 1048576 * 4194306 := Nat.mul_le_mul_right _ b4
    omega
  clear hs t4 hm
  go_wp2
  go_ret
  exact ⟨m, rfl, hm2, HS.out⟩
end Go.Proofs.YtbnpoliogldohaaGreat
/- What a law holds of the memory while it asks: the arguments that it hands over (a program, two slices of numbers), in blocks of their own. -/
namespace Go.Proofs.YtbnpoliogldohaaGreat
open Go.RowKit

/-- The arguments: the program from block P0 on, the two slices from P1, P2 on; the program's box b10. -/
structure XG (vk : World) (P0 P1 P2 : Nat) (rx : PRow) (p : Prg) (s1 s2 : Sl) (zs1 zs2 : List Int) : Prop where
  x0 : OwnProg vk P0 rx p
  x1 : Own vk P1 s1.1 s1.2.1 s1.2.2 zs1
  x2 : Own vk P2 s2.1 s2.2.1 s2.2.2 zs2
theorem XG.below {vk vl : World} {P0 P1 P2 : Nat} {rx : PRow} {p : Prg} {s1 s2 : Sl} {zs1 zs2 : List Int} (h : XG vk P0 P1 P2 rx p s1 s2 zs1 zs2) (hb : Below vk.heap.size vk vl) : XG vl P0 P1 P2 rx p s1 s2 zs1 zs2 := ⟨h.x0.below hb, h.x1.below hb, h.x2.below hb⟩
/-- Where they lie. -/
structure XIn (P0 P1 P2 P3 : Nat) (rx : PRow) (s1 s2 : Sl) : Prop where
  x0 : ProgIn P0 P1 rx
  x1 : SlIn P1 P2 s1
  x2 : SlIn P2 P3 s2
  l1 : P0 ≤ P1
  l2 : P1 ≤ P2
  l3 : P2 ≤ P3
theorem Own.inside {w : World} {B : Nat} {s : Sl} {zs : List Int} (h : Own w B s.1 s.2.1 s.2.2 zs) : SlIn B w.heap.size s := fun g hg => h.block g hg
theorem SlIn.wide {lo hi lo' hi' : Nat} {s : Sl} (h : SlIn lo hi s) (h1 : lo' ≤ lo) (h2 : hi ≤ hi') : SlIn lo' hi' s := fun g hg => by have := h g hg; omega
end Go.Proofs.YtbnpoliogldohaaGreat
