/- Joined texts of this proof (Grows, TermSS, InputCopies), in build order. -/
import Derived.Test.YtbnpoliogldohaaGreatS2
import Derived.Maps.AppendAt
import Derived.Lib.OwnKind
/- A slice of the call's own that grows: what lies in its block alone may turn; where the new one lies. 'append' for whatever element type. -/
namespace Go.Proofs.YtbnpoliogldohaaGreat
open Go.RowKit

/-- From w on, v's block alone may have turned; v' lies in it, or in a new block. -/
def GrowsTo (w : World) (v : Value) (w' : World) (v' : Value) : Prop := w.grownBy w' v.ownBlock ∧ ∀ g, v'.ownBlock = some g → v.ownBlock = some g ∨ w.heap.size ≤ g
theorem GrowsTo.refl (w : World) (v : Value) : GrowsTo w v w v := ⟨World.grownBy.refl _ _, fun _ h => .inl h⟩
theorem GrowsTo.size {w w' : World} {v v' : Value} (h : GrowsTo w v w' v') : w.heap.size ≤ w'.heap.size := h.1.size
theorem GrowsTo.trans {w w1 w2 : World} {v v1 v2 : Value} (h : GrowsTo w v w1 v1) (k : GrowsTo w1 v1 w2 v2) : GrowsTo w v w2 v2 := by
  refine ⟨⟨k.1.os.trans h.1.os, k.1.tape.trans h.1.tape, k.1.output.trans h.1.output, Nat.le_trans h.1.size k.1.size, fun b hb hne => ?_⟩, fun g hg => ?_⟩
  · refine (k.1.block b (Nat.lt_of_lt_of_le hb h.1.size) (fun e => ?_)).trans (h.1.block b hb hne)
    rcases h.2 b e.symm with h' | h'
    · exact hne h'.symm
    · omega
  · rcases k.2 g hg with h' | h'
    · exact h.2 g h'
    · exact .inr (Nat.le_trans h.1.size h')
theorem GrowsTo.below {w w' : World} {v v' : Value} {B : Nat} (h : GrowsTo w v w' v') (hB : B ≤ w.heap.size) (hv : ∀ g, v.ownBlock = some g → B ≤ g) : Below B w w' :=
  (Below.refl _ _).grown h.1 hB hv
/-- 'append(s, x...)', s of the call's own, x some cells at an address: whatever the element type. -/
theorem wpList_pushG {ops : Array Oper} {rest : List Oper} {o : Oper} {ac : Act} {Q : Exit → Act → World → Prop} (w : World) (hgd : o.guard = none) (s x : Operand) (t e : TypeId) (z : Value) (size bytes : Nat)
    (ho : o.op = .call { callee := .builtin .append, args := #[s, x], argTypes := #[t, t] }) (ht : Tryz.prog.underlying t = some (.slice e)) (hinf : (Tryz.prog.info? e).map (fun i => (i.zero, i.size, i.bytes)) = some (some z, size, bytes)) (hzs : z.cells.size = size) (hsz : 0 < size)
    (B : Nat) (a : Option Addr) (n c : Nat) (xs : List Value) (hs : ac.eval s = .slice a n c) (hown : w.ownsRow B e size (.slice a n c) n xs)
    (ad : Addr) (m c2 : Nat) (news : List Value) (hx : ac.eval x = .slice (some ad) m c2) (hl : news.length = m * size) (hnews : ∀ j u, news[j]? = some u → w.cell? (ad.add j) = some u) (h1 : ∀ u ∈ news, u.oneCell' = true)
    (h63 : n + m ≤ maxLen) (hbytes : (n + m) * bytes ≤ 140737488355328) (hB : B ≤ w.heap.size)
    (h : ∀ a1 c1 w', w'.ownsRow B e size (.slice a1 (n + m) c1) (n + m) (xs ++ news) → GrowsTo w (.slice a n c) w' (.slice a1 (n + m) c1) → wpList Tryz.prog ops Q rest (ac.put o.dst (.slice a1 (n + m) c1)) w') : wpList Tryz.prog ops Q (o :: rest) ac w := by
  obtain ⟨i0, hi, hz0, hz1, hz2⟩ := info_parts hinf
  obtain ⟨v', w', hrun, r1, r2, _, r4⟩ := run_append_own_at (P := Tryz.prog) w B t o.type e i0 z size bytes ht hi hz0 hz1 hz2 hzs hsz (.slice a n c) n xs hown ad m c2 news hl hnews h1 h63 hbytes hB
  have hf : ∃ a1 c1, v' = .slice a1 (n + m) c1 := by
    rcases r1.2 with ⟨e1, h0⟩ | ⟨g', cap, cur, e1, _⟩
    · exact ⟨none, 0, by rw [e1, h0]⟩
    · exact ⟨_, _, e1⟩
  obtain ⟨a1, c1, rfl⟩ := hf
  refine wpList_plain hgd fun K hK' => ?_
  unfold Oper.wp
  simp [execOp, ho, resolve, invoke, builtin, hs, hx, hrun, Result.andThen]
  refine hK' _ _ (h a1 c1 w' r1 ⟨r2, fun g hg => ?_⟩)
  rcases r4 with r4 | r4
  · exact .inl (by rw [← r4]; exact hg)
  · rw [r4] at hg; injection hg with hg; exact .inr (by omega)

theorem terms_news {w : World} {b o n : Nat} {ts : List Tm} (h : Terms w (some ⟨b, o, none⟩) n ts) : ∀ j u, (flatV ts)[j]? = some u → w.cell? ((⟨b, o, none⟩ : Addr).add j) = some u := by
  intro j u hj
  have hl := h.1
  have hjl : j < ts.length * 2 := by have := (List.getElem?_eq_some_iff.1 hj).1; rw [flatV_len] at this; exact this
  obtain ⟨b', o', e, _, hc⟩ := h.2.2.2 (by omega)
  injection e with e
  injection e with e1 e2
  subst e1 e2
  rw [Go.WideShapes.add_plain, ← hj]
  have hf := flatV_at ts (j / 2) (by omega)
  have hcc := hc (j / 2) (by omega)
  rcases Nat.mod_two_eq_zero_or_one j with h0 | h0
  · have ej : j = j / 2 * 2 := by omega
    rw [ej, hf.1]; exact hcc.1
  · have ej : j = j / 2 * 2 + 1 := by omega
    rw [ej, hf.2, ← Nat.add_assoc]; exact hcc.2
theorem flatV_one : ∀ (ts : List Tm), ∀ u ∈ flatV ts, u.oneCell' = true := by
  intro ts u hu
  obtain ⟨t, _, h⟩ := List.mem_flatMap.1 hu
  simp at h
  rcases h with rfl | rfl <;> rfl
theorem own_emptyT (w : World) (B : Nat) (hB : B ≤ w.heap.size) : (w.alloc (.cells #[] 138)).ownsRow B 138 2 (.slice (some ⟨w.heap.size, 0, none⟩) 0 0) 0 [] := World.ownsRow_lit w #[] 0 hB (by unfold maxLen; omega) rfl
theorem ownT_nil (w : World) (B : Nat) : OwnT w B none 0 0 [] := ⟨World.ownsRow_nil _ _ _ _, by omega, fun z hz => by simp at hz⟩
end Go.Proofs.YtbnpoliogldohaaGreat
/- Words for slices of slices of Terms: reading, and of the call's own; comparison, marks. -/
namespace Go.Proofs.YtbnpoliogldohaaGreat
open Go.RowKit

/-- A slice's three: its address, its length, its capacity. -/
abbrev Sl := Option Addr × Nat × Nat
def slV (r : Sl) : Value := .slice r.1 r.2.1 r.2.2
def slAt (rs : List Sl) (i : Nat) : Sl := rs.getD i (none, 0, 0)
def tsAt (tss : List (List Tm)) (i : Nat) : List Tm := tss.getD i []

/-- The slice '.slice a n c' of slices of Terms reads as tss; rs are its slices. -/
def TermsSS (w : World) (a : Option Addr) (n : Nat) (rs : List Sl) (tss : List (List Tm)) : Prop :=
  rs.length = n ∧ tss.length = n ∧ (0 < n → ∃ b o, a = some ⟨b, o, none⟩ ∧ b < w.heap.size ∧ ∀ i, i < n → w.cell? ⟨b, o + i, none⟩ = some (slV (slAt rs i))) ∧
  ∀ i, i < n → Terms w (slAt rs i).1 (slAt rs i).2.1 (tsAt tss i)
theorem TermsSS.at_ {w : World} {a : Option Addr} {n : Nat} {rs : List Sl} {tss : List (List Tm)} (h : TermsSS w a n rs tss) {k : Nat} (hk : k < n) :
    ∃ b o a1 n1 c1, a = some ⟨b, o, none⟩ ∧ b < w.heap.size ∧ Hid (slAt rs k = (a1, n1, c1)) ∧ w.cell? ⟨b, o + k, none⟩ = some (.slice a1 n1 c1) ∧ Terms w a1 n1 (tsAt tss k) := by
  obtain ⟨_, _, h3, h4⟩ := h
  obtain ⟨b, o, rfl, hb, hc⟩ := h3 (by omega)
  exact ⟨b, o, _, _, _, rfl, hb, rfl, hc k hk, h4 k hk⟩
theorem TermsSS.below {w w' : World} {a : Option Addr} {n : Nat} {rs : List Sl} {tss : List (List Tm)} (h : TermsSS w a n rs tss) (hb : Below w.heap.size w w') : TermsSS w' a n rs tss := by
  obtain ⟨h1, h2, h3, h4⟩ := h
  refine ⟨h1, h2, fun hp => ?_, fun i hi => (h4 i hi).below (Nat.le_refl _) hb⟩
  obtain ⟨b, o, rfl, hbl, hc⟩ := h3 hp
  exact ⟨b, o, rfl, Nat.lt_of_lt_of_le hbl hb.size, fun i hi => (hb.cell hbl).trans (hc i hi)⟩

/-- .. of the call's own, from block B on; no two of its slices in one block. -/
def OwnSS (w : World) (B : Nat) (a : Option Addr) (n c : Nat) (rs : List Sl) (tss : List (List Tm)) : Prop :=
  w.ownsRow B 71 1 (.slice a n c) n (rs.map slV) ∧ n ≤ 3000 ∧ tss.length = n ∧
  (∀ i, i < n → OwnT w B (slAt rs i).1 (slAt rs i).2.1 (slAt rs i).2.2 (tsAt tss i)) ∧
  (∀ i j g, i < n → j < n → (slV (slAt rs i)).ownBlock = some g → (slV (slAt rs j)).ownBlock = some g → i = j)

section
variable {w w' : World} {B : Nat} {a : Option Addr} {n c : Nat} {rs : List Sl} {tss : List (List Tm)}
theorem OwnSS.len (h : OwnSS w B a n c rs tss) : rs.length = n := by have := h.1.1; simpa using this
theorem OwnSS.reads (h : OwnSS w B a n c rs tss) : TermsSS w a n rs tss := by
  have hlen := h.len
  obtain ⟨ho, hn, ht, hi, _⟩ := h
  refine ⟨hlen, ht, fun hp => ?_, fun i h' => (hi i h').terms⟩
  rcases ho.2 with ⟨_, h0⟩ | ⟨g, cap, cur, e, _, hh, _⟩
  · exact absurd hp (by omega)
  · have ea : a = some ⟨g, 0, none⟩ := by injection e
    subst ea
    refine ⟨g, 0, rfl, (ho.lt g rfl).2, fun i h' => ?_⟩
    rw [Nat.zero_add, ho.cellAt i (by omega)]
    simp [slAt, List.getD_eq_getElem?_getD, List.getElem?_eq_getElem (show i < rs.length by omega)]
theorem OwnSS.below (h : OwnSS w B a n c rs tss) (hb : Below w.heap.size w w') : OwnSS w' B a n c rs tss :=
  ⟨h.1.kept (row := none) ⟨hb.os, hb.tape, hb.output, hb.size, fun k hk _ => hb.block k hk⟩ (by cases a <;> simp [Value.ownBlock]), h.2.1, h.2.2.1, fun i hi => (h.2.2.2.1 i hi).below hb, h.2.2.2.2⟩
theorem OwnSS.base {B' : Nat} (h : OwnSS w B a n c rs tss) (hB : B' ≤ B) : OwnSS w B' a n c rs tss := by
  refine ⟨⟨h.1.1, ?_⟩, h.2.1, h.2.2.1, fun i hi => (h.2.2.2.1 i hi).base hB, h.2.2.2.2⟩
  rcases h.1.2 with hn | ⟨g, cap, cur, e, hb, r⟩
  · exact .inl hn
  · exact .inr ⟨g, cap, cur, e, by omega, r⟩
end
theorem ownSS_empty (w : World) (B : Nat) (hB : B ≤ w.heap.size) : OwnSS (w.alloc (.cells #[] 71)) B (some ⟨w.heap.size, 0, none⟩) 0 0 [] [] :=
  ⟨World.ownsRow_lit w #[] 0 hB (by unfold maxLen; omega) rfl, by omega, rfl, fun i hi => absurd hi (by omega), fun i j g hi => absurd hi (by omega)⟩
def MadeSS (w : World) (tss : List (List Tm)) (e : Ending) (w' : World) : Prop :=
  ∃ a n c rs, e = .returned (.slice a n c) ∧ OwnSS w' w.heap.size a n c rs tss ∧ Below w.heap.size w w'

/-- Rows of different element types lie in different blocks. -/
theorem own_kinds {w : World} {B B' size size' n n' : Nat} {e e' : TypeId} {v v' : Value} {xs xs' : List Value} (h : w.ownsRow B e size v n xs) (h' : w.ownsRow B' e' size' v' n' xs') (hne : e ≠ e') {g : Nat} (hg : v.ownBlock = some g) : v'.ownBlock ≠ some g := by
  intro hg'
  obtain ⟨c1, f1, e1⟩ := Go.Lib.ownsRow_kind h g hg
  obtain ⟨c2, f2, e2⟩ := Go.Lib.ownsRow_kind h' g hg'
  rw [e1] at e2
  injection e2 with e2
  injection e2 with _ e2
  exact hne e2
theorem info_terms : (Tryz.prog.info? 71).map (fun i => (i.zero, i.size, i.bytes)) = some (some (.slice none 0 0), 1, 24) := by kernel_rfl
theorem getD_left {α : Type} (xs ys : List α) (d : α) (i : Nat) (h : i < xs.length) : (xs ++ ys).getD i d = xs.getD i d := by
  rw [List.getD_eq_getElem?_getD, List.getD_eq_getElem?_getD, List.getElem?_append_left h]
theorem getD_last {α : Type} (xs : List α) (y d : α) (i : Nat) (h : i = xs.length) : (xs ++ [y]).getD i d = y := by
  subst h; rw [List.getD_eq_getElem?_getD, List.getElem?_append_right (Nat.le_refl _)]; simp

end Go.Proofs.YtbnpoliogldohaaGreat
/- The contracts of the laws' own helpers on slices of Inputs (written by tools/gen_inputs.py after TermCopies). -/
namespace Go.Proofs.YtbnpoliogldohaaGreat
open Go.RowKit

/-- A slice of Terms that the call made itself, from block B on. -/
def OwnI (w : World) (B : Nat) (a : Option Addr) (n c : Nat) (ts : List Tm) : Prop :=
  w.ownsRow B 68 2 (.slice a n c) n (flatV ts) ∧ n ≤ 1048576 ∧ ∀ t ∈ ts, InTm t

section
variable {w w' : World} {B : Nat} {a : Option Addr} {n c : Nat} {ts : List Tm}
theorem OwnI.len (h : OwnI w B a n c ts) : ts.length = n := by have := h.1.1; rw [flatV_len] at this; omega
theorem OwnI.terms (h : OwnI w B a n c ts) : Terms w a n ts := by
  have hlen := h.len
  obtain ⟨ho, hn, hin⟩ := h
  refine ⟨hlen, hn, hin, fun hp => ?_⟩
  rcases ho.2 with ⟨_, h0⟩ | ⟨g, cap, cur, e, _, hh, _⟩
  · exact absurd hp (by omega)
  · have ea : a = some ⟨g, 0, none⟩ := by injection e
    subst ea
    refine ⟨g, 0, rfl, (ho.lt g rfl).2, fun i hi => ?_⟩
    rw [Nat.zero_add, ho.cellAt (i * 2) (by omega), ho.cellAt (i * 2 + 1) (by omega)]
    exact flatV_at ts i (by omega)
theorem OwnI.below (h : OwnI w B a n c ts) (hb : Below w.heap.size w w') : OwnI w' B a n c ts :=
  ⟨h.1.kept (row := none) ⟨hb.os, hb.tape, hb.output, hb.size, fun k hk _ => hb.block k hk⟩ (by cases a <;> simp [Value.ownBlock]), h.2⟩
theorem OwnI.base {B' : Nat} (h : OwnI w B a n c ts) (hB : B' ≤ B) : OwnI w B' a n c ts := by
  refine ⟨⟨h.1.1, ?_⟩, h.2⟩
  rcases h.1.2 with hn | ⟨g, cap, cur, e, hb, r⟩
  · exact .inl hn
  · exact .inr ⟨g, cap, cur, e, by omega, r⟩
theorem OwnI.alloc (h : OwnI w B a n c ts) (o : Obj) : OwnI (w.alloc o) B a n c ts := ⟨h.1.alloc o, h.2⟩
theorem OwnI.block (h : OwnI w B a n c ts) : ∀ g, (Value.slice a n c).ownBlock = some g → B ≤ g ∧ g < w.heap.size := h.1.lt
theorem OwnI.apart {row : Option Nat} (h : OwnI w B a n c ts) (hg : w.grownBy w' row) (hr : ∀ g, (Value.slice a n c).ownBlock = some g → row ≠ some g) : OwnI w' B a n c ts := by
  refine ⟨h.1.kept hg ?_, h.2⟩
  cases hv : (Value.slice a n c).ownBlock with
  | none => exact .inl rfl
  | some g => exact .inr fun e => hr g hv e.symm
theorem OwnI.cap (h : OwnI w B a n c ts) : n ≤ c := by
  rcases h.1.2 with ⟨e, h0⟩ | ⟨g, cap, cur, e, hb, hg, hnc, _⟩
  · omega
  · injection e with e1 e2 e3
    omega
end
/-- What a function that makes a slice of the Terms ts leaves. -/
def MadeI (w : World) (ts : List Tm) (e : Ending) (w' : World) : Prop :=
  ∃ a n c, e = .returned (.slice a n c) ∧ OwnI w' w.heap.size a n c ts ∧ Below w.heap.size w w'
theorem info_input : (Tryz.prog.info? 68).map (fun i => (i.zero, i.size, i.bytes)) = some (some (.agg #[.int .i64 0, .int .i64 0]), 2, 16) := by kernel_rfl
theorem own_putI2 {w : World} {B g n cap : Nat} {ts : List Tm} (h : w.ownsRow B 68 2 (.slice (some ⟨g, 0, none⟩) n cap) n (flatV ts)) (k : Nat) (hk : k < ts.length) (x y : Int) :
    ((w.setCell ⟨g, k * 2, none⟩ (.int .i64 x)).setCell ⟨g, k * 2 + 1, none⟩ (.int .i64 y)).ownsRow B 68 2 (.slice (some ⟨g, 0, none⟩) n cap) n (flatV (ts.set k (x, y))) := by
  rw [flatV_set ts k (x, y) hk]; exact ((h.stored (k * 2) _).1.stored (k * 2 + 1) _).1
theorem own_cellI2 {w : World} {B g n cap : Nat} {ts : List Tm} (h : w.ownsRow B 68 2 (.slice (some ⟨g, 0, none⟩) n cap) n (flatV ts)) {k : Nat} (hk : k < n) :
    w.cell? ⟨g, k * 2, none⟩ = some (.int .i64 (tmAt ts k).1) ∧ w.cell? ⟨g, k * 2 + 1, none⟩ = some (.int .i64 (tmAt ts k).2) := by
  have hl : ts.length = n := by have := h.1; rw [flatV_len] at this; omega
  rw [h.cellAt (k * 2) (by omega), h.cellAt (k * 2 + 1) (by omega)]
  exact flatV_at ts k (by omega)
set_option maxHeartbeats 400000 in
theorem toInput_any (x y : Int) (w : World) :
    Calls Tryz.prog 127 #[.agg #[.int .i64 x, .int .i64 y]] w fun e w' => e = .returned (.agg #[.int .i64 x, .int .i64 y]) ∧ Below w.heap.size w w' := by
  go_enter Tryz.func127, Tryz.ntmps127
  go_wp2
  exact bodyPost_ret (v := .agg #[.int .i64 x, .int .i64 y]) (by simp [results, Tryz.results127, go_sem]) rfl ⟨rfl, (((Below.refl _ _).alloc (Nat.le_refl _) _).alloc (by simp) _).alloc (by simp; omega) _⟩

set_option maxHeartbeats 800000 in
theorem toInputS_any (a : Option Addr) (n c : Nat) (ts : List Tm) (w : World) (h : Terms w a n ts) :
    Calls Tryz.prog 73 #[.slice a n c] w (MadeI w ts) := by
  have HL := Lib.hid h.1
  have hbd := h.2.1
  obtain ⟨i0, hi, hz0, hz1, hz2⟩ := info_parts info_input
  have HI := Lib.hid hi
  have HZ0 := Lib.hid hz0
  have HZ1 := Lib.hid hz1
  have HZ2 := Lib.hid hz2
  clear hi hz0 hz1 hz2
  go_enter Tryz.func73, Tryz.ntmps73
  go_wp2_with (at_make; refine wpList_make_full _ rfl _ _ 24 rfl w.heap.size 68 i0 (.agg #[.int .i64 0, .int .i64 0]) 2 Tryz.underlying24 HI.out HZ0.out HZ1.out _ _ _ _ n rfl rfl rfl rfl ?b2 ?b3 ?b4 ?_)
  case b2 => rw [HZ2.out]; omega
  case b3 => unfold maxLen; omega
  case b4 => exact Nat.le_refl _
  intro w1 hown hgrow
  have hb1 : Below w.heap.size w w1 := (Below.refl _ _).grown hgrow (Nat.le_refl _) (fun k hk => by cases hk)
  have hsz : w.heap.size < w1.heap.size := (hown.lt w.heap.size rfl).2
  have HO : w1.ownsRow w.heap.size 68 2 (.slice (some ⟨w.heap.size, 0, none⟩) n n) n (flatV (CopyT ts n 0)) := by
    rw [copyT_zero, ← noughts]; exact hown
  clear hown hgrow
  go_wp2
  go_loopw [4] (fun i wr => ∃ k : Nat, k ≤ n ∧ i = .int .i64 k ∧ wr.ownsRow w.heap.size 68 2 (.slice (some ⟨w.heap.size, 0, none⟩) n n) n (flatV (CopyT ts n k)) ∧ Below w.heap.size w wr) (fun i _ => n - (intOf i).toNat)
  case atStart => exact ⟨0, Nat.zero_le _, rfl, HO, hb1⟩
  case round =>
    clear HO hb1 hsz
    obtain ⟨k, hk, rfl, hown, hbel⟩ := hrel
    by_cases hlt : k < n
    · obtain ⟨b, o, x, y, rfl, hb, hz, hin1, hin2, hc1, hc2⟩ := (h.below (Nat.le_refl _) hbel).at_ hlt
      go_wp2_with fail
      refine (toInput_any _ _ _).mono ?_
      rintro e w2 ⟨rfl, hb2⟩
      have hown2 : w2.ownsRow w.heap.size 68 2 (.slice (some ⟨w.heap.size, 0, none⟩) n n) n (flatV (CopyT ts n k)) := hown.kept (row := none) ⟨hb2.os, hb2.tape, hb2.output, hb2.size, fun k hk _ => hb2.block k hk⟩ (.inr (by simp [Value.ownBlock]))
      have hbel2 : Below w.heap.size w w2 := hbel.trans (hb2.mono hbel.size)
      obtain ⟨hd1, hd2⟩ := own_cellI2 hown2 hlt
      generalize (tmAt (CopyT ts n k) k).1 = q1 at hd1
      generalize (tmAt (CopyT ts n k) k).2 = q2 at hd2
      have hf1 := hown2.frozenAt (k * 2)
      have hf2 := hown2.frozenAt (k * 2 + 1)
      have HO2 := own_putI2 hown2 k (by rw [copyT_len HL.out hk]; exact hlt) x y
      rw [copyT_succ HL.out hlt hz] at HO2
      have hbel3 : Below w.heap.size w ((w2.setCell ⟨w.heap.size, k * 2, none⟩ (.int .i64 x)).setCell ⟨w.heap.size, k * 2 + 1, none⟩ (.int .i64 y)) := (hbel2.setCell (Nat.le_refl _) _).setCell (Nat.le_refl _) _
      clear hc1 hc2 hown hbel hown2 hbel2 hb2
      go_wp2
      go_roundw
      case rel => exact ⟨k + 1, by omega, by go_num, HO2, hbel3⟩
      case measure => simp [intOf]; omega
    · obtain rfl : n = k := by omega
      go_wp2
      go_ret
      rw [copyT_all HL.out] at hown
      exact ⟨_, _, _, rfl, ⟨hown, hbd, h.2.2.1⟩, hbel⟩
set_option maxHeartbeats 400000 in
theorem eqInput_any (x y x' y' : Int) (w : World) :
    Calls Tryz.prog 129 #[.agg #[.int .i64 x, .int .i64 y], .agg #[.int .i64 x', .int .i64 y']] w fun e w' => e = .returned (.bool (decide ((x, y) = (x', y')))) ∧ Below w.heap.size w w' := by
  by_cases h1 : x = x'
  · subst h1
    have hne0 : (x != x) = false := by simp
    by_cases h2 : y = y'
    · subst h2
      have hne1 : (y != y) = false := by simp
      go_enter Tryz.func129, Tryz.ntmps129
      go_wp2
      go_ret
      exact ⟨ret_bool (by simp), ((Below.refl _ _).alloc (Nat.le_refl _) _).alloc (by simp) _⟩
    · have hne1 : (y != y') = true := by simpa using h2
      go_enter Tryz.func129, Tryz.ntmps129
      go_wp2
      go_ret
      exact ⟨ret_bool (by simp [h2]), ((Below.refl _ _).alloc (Nat.le_refl _) _).alloc (by simp) _⟩
  · have hne1 : (x != x') = true := by simpa using h1
    go_enter Tryz.func129, Tryz.ntmps129
    go_wp2
    go_ret
    exact ⟨ret_bool (by simp [h1]), ((Below.refl _ _).alloc (Nat.le_refl _) _).alloc (by simp) _⟩

set_option maxHeartbeats 800000 in
theorem eqInputS_any (a b : Option Addr) (n m c d : Nat) (xs ys : List Tm) (w : World) (hx : Terms w a n xs) (hy : Terms w b m ys) :
    Calls Tryz.prog 76 #[.slice a n c, .slice b m d] w fun e w' => e = .returned (.bool (decide (xs = ys))) ∧ Below w.heap.size w w' := by
  have HL := Lib.hid hx.1
  have HM := Lib.hid hy.1
  have hbd := hx.2.1
  have hbe := hy.2.1
  by_cases hnm : n = m
  · subst hnm
    have hne0 : ((n : Int) != (n : Int)) = false := by simp
    go_enter Tryz.func76, Tryz.ntmps76
    go_wp2
    go_loopw [5] (fun i wr => ∃ k : Nat, k ≤ n ∧ i = .int .i64 k ∧ EqTm xs ys k ∧ Below w.heap.size w wr) (fun i _ => n - (intOf i).toNat)
    case atStart => exact ⟨0, Nat.zero_le _, rfl, EqTm.zero _ _, Below.refl _ _⟩
    case round =>
      obtain ⟨k, hk, rfl, hg, hbel⟩ := hrel
      by_cases hlt : k < n
      · obtain ⟨b1, o1, x1, y1, rfl, hb1, hxk, hin1, hin2, hc1, hc2⟩ := (hx.below (Nat.le_refl _) hbel).at_ hlt
        obtain ⟨b2, o2, x2, y2, rfl, hb2, hyk, hin3, hin4, hc3, hc4⟩ := (hy.below (Nat.le_refl _) hbel).at_ hlt
        have f1 := lat_cell hb1 hc1
        have f2 := lat_cell hb1 hc2
        have f3 := lat_cell hb2 hc3
        have f4 := lat_cell hb2 hc4
        clear hc1 hc2 hc3 hc4
        obtain ⟨q, HQ⟩ : ∃ q, Hid (decide ((x1, y1) = (x2, y2)) = q) := ⟨_, rfl⟩
        have hcon : ∀ p : Lat wr, Calls Tryz.prog 129 #[.agg #[.int .i64 x1, .int .i64 y1], .agg #[.int .i64 x2, .int .i64 y2]] p.wd fun e w' => e = .returned (.bool q) ∧ Below p.wd.heap.size p.wd w' := fun p => by
          rw [← HQ.out]; exact eqInput_any _ _ _ _ _
        have HC := Lib.hid hcon
        clear hcon
        cases q with
        | true =>
          have HE := Lib.hid (of_decide_eq_true HQ.out)
          go_wp2
          refine wp_region_lat (by kernel_rfl) (by kernel_rfl) ?_
          repeat (quiet_step ((go_at_call 129; exact lat_calls (HC.out _))))
          refine wpQuiet_nil ?_
          intro _ hw'
          obtain ⟨⟨wq, hwq⟩, hw''⟩ := hw'
          subst hw''
          have ht := hbel.trans (hwq.mono hbel.size)
          clear f1 f2 f3 f4 HC
          go_wp2
          go_roundw
          case rel => exact ⟨k + 1, by omega, by go_num, hg.succ hxk hyk HE.out, ht⟩
          case measure => simp [intOf]; omega
        | false =>
          have HE := Lib.hid (of_decide_eq_false HQ.out)
          go_wp2
          refine wp_region_lat (by kernel_rfl) (by kernel_rfl) ?_
          repeat (quiet_step ((go_at_call 129; exact lat_calls (HC.out _))))
          refine wpQuiet_nil ?_
          intro _ hw'
          obtain ⟨⟨wq, hwq⟩, hw''⟩ := hw'
          subst hw''
          have ht := hbel.trans (hwq.mono hbel.size)
          clear f1 f2 f3 f4 HC
          go_wp2
          go_ret
          exact ⟨ret_bool (decide_eq_false (fun h => HE.out (by rw [← hxk.out, ← hyk.out, h]))).symm, ht⟩
      · obtain rfl : n = k := by omega
        go_wp2
        go_ret
        exact ⟨ret_bool (decide_eq_true (eqTm_all (HL.out.trans HM.out.symm) (by rw [HL.out]; exact hg))).symm, hbel⟩
  · have hne : ((n : Int) != (m : Int)) = true := by simp; omega
    go_enter Tryz.func76, Tryz.ntmps76
    go_wp2
    go_ret
    exact ⟨ret_bool (decide_eq_false (fun h => hnm (by rw [← HL.out, ← HM.out, h]))).symm, Below.refl _ _⟩
set_option maxHeartbeats 800000 in
theorem heldInputS_wide (a : Option Addr) (n c : Nat) (k : Nat) (w : World) (h : Terms w a n (marksT k n)) (hk : k ≤ 1152921504606846976) :
    Calls Tryz.prog 80 #[.slice a n c, .int .i64 (k : Int)] w fun e w' => e = .returned (.int .i64 ((k + 2 * n : Nat) : Int)) ∧ w = w' := by
  have hbd := h.2.1
  go_enter Tryz.func80, Tryz.ntmps80
  go_wp2
  go_loop [1, 5] (fun q i => ∃ j : Nat, j ≤ n ∧ i = .int .i64 j ∧ q = .int .i64 ((k + 2 * j : Nat) : Int)) (fun _ i => n - (intOf i).toNat)
  case atStart => exact ⟨0, Nat.zero_le _, rfl, rfl⟩
  case round =>
    obtain ⟨j, hj, rfl, rfl⟩ := hrel
    by_cases hlt : j < n
    · obtain ⟨b, o, x, y, rfl, hb, hz, hin1, hin2, hc1, hc2⟩ := h.at_ hlt
      have hz2 := hz.out
      rw [marksT_at _ _ _ hlt] at hz2
      injection hz2 with hx hy
      subst hx hy
      clear hz hin1 hin2
      go_wp2
      go_round
      case rel => exact ⟨j + 1, by omega, by go_num, by go_num⟩
      case measure => simp [intOf]; omega
    · obtain rfl : n = j := by omega
      go_wp2
      go_ret
      exact ⟨rfl, rfl⟩

end Go.Proofs.YtbnpoliogldohaaGreat
