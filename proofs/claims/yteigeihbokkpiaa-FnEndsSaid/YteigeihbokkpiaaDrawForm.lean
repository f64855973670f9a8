/- The contracts of the laws' own draws of expressions: variable, number, two, formula. -/
import Derived.Test.YteigeihbokkpiaaDice
import Derived.Test.YteigeihbokkpiaaDrawTerm
import Derived.Test.YteigeihbokkpiaaSpecExp
import Derived.Test.YteigeihbokkpiaaStepPush
namespace Go.Proofs.Yteigeihbokkpiaa
open Go.RowKit

/-! Plain mathematics: expressions over V variables and A arrays with small numbers. -/
def fOk (V A : Nat) (t : Tm) : Prop := 0 ≤ t.1 ∧ t.1 ≤ 16 ∧ 0 ≤ t.2 ∧ t.2 ≤ 255 ∧ (t.1 = 0 → t.2 < 4) ∧ (t.1 = 1 → t.2 < (V : Int)) ∧ (t.1 = 2 → t.2 < (A : Int))
def Formula (V A : Nat) (ts : List Tm) : Prop := runD 0 ts = some 1 ∧ ∀ t ∈ ts, fOk V A t
theorem runD_more {ts : List Tm} (h : runD 0 ts = some 1) (d : Int) (hd : 0 ≤ d) : runD d ts = some (d + 1) := by
  obtain ⟨op, n, kids, _, he, h1, h2, h3⟩ := tree_of h
  rw [he]
  exact runD_flat (.node op n kids) d hd ⟨h1, h2, h3⟩
theorem form_num (V A : Nat) {x : Int} (h0 : 0 ≤ x) (h1 : x ≤ 3) : Formula V A [(0, x)] := by
  refine ⟨?_, fun t ht => ?_⟩
  · simp [runD, tOkB, takesI]; omega
  · rw [List.mem_singleton] at ht; subst ht; refine ⟨by simp, by simp, ?_, ?_, ?_, ?_, ?_⟩ <;> simp <;> omega
theorem form_var (V A : Nat) {x : Int} (h0 : 0 ≤ x) (h1 : x < (V : Int)) (hV : V ≤ 256) : Formula V A [(1, x)] := by
  refine ⟨?_, fun t ht => ?_⟩
  · simp [runD, tOkB, takesI]; omega
  · rw [List.mem_singleton] at ht; subst ht; refine ⟨by simp, by simp, ?_, ?_, ?_, ?_, ?_⟩ <;> simp <;> omega
theorem form_not {V A : Nat} {ts : List Tm} (h : Formula V A ts) {op : Int} (h3 : 3 ≤ op) (h4 : op ≤ 4) : Formula V A (ts ++ [(op, 0)]) := by
  refine ⟨?_, fun t ht => ?_⟩
  · rw [runD_append, h.1]
    have : takesI op = 1 := by unfold takesI; split <;> (try split) <;> (try split) <;> omega
    simp [runD, tOkB, this]
  · rcases List.mem_append.1 ht with ht | ht
    · exact h.2 t ht
    · rw [List.mem_singleton] at ht; subst ht; refine ⟨?_, ?_, ?_, ?_, ?_, ?_, ?_⟩ <;> simp <;> omega
theorem form_cell {V A : Nat} {ts : List Tm} (h : Formula V A ts) {x : Int} (h0 : 0 ≤ x) (h1 : x < (A : Int)) (hA : A ≤ 256) : Formula V A (ts ++ [(2, x)]) := by
  refine ⟨?_, fun t ht => ?_⟩
  · rw [runD_append, h.1]
    have : takesI 2 = 1 := by decide
    simp [runD, tOkB, this]; omega
  · rcases List.mem_append.1 ht with ht | ht
    · exact h.2 t ht
    · rw [List.mem_singleton] at ht; subst ht; refine ⟨?_, ?_, ?_, ?_, ?_, ?_, ?_⟩ <;> simp <;> omega
theorem form_two {V A : Nat} {ts us : List Tm} (h : Formula V A ts) (h' : Formula V A us) {op : Int} (h3 : 5 ≤ op) (h4 : op ≤ 16) : Formula V A (ts ++ us ++ [(op, 0)]) := by
  refine ⟨?_, fun t ht => ?_⟩
  · have : takesI op = 2 := by unfold takesI; split <;> (try split) <;> (try split) <;> (try split) <;> omega
    rw [runD_append, runD_append, h.1]
    show ((some 1).bind fun x => runD x us).bind _ = _
    rw [Option.bind_some, runD_more h'.1 1 (by omega)]
    simp [runD, tOkB, this]
  · rcases List.mem_append.1 ht with ht | ht
    · rcases List.mem_append.1 ht with ht | ht
      · exact h.2 t ht
      · exact h'.2 t ht
    · rw [List.mem_singleton] at ht; subst ht; refine ⟨?_, ?_, ?_, ?_, ?_, ?_, ?_⟩ <;> simp <;> omega

/-! The dice, when other blocks turn. -/
theorem Dice.other {w w' : World} {p : Nat} {row : Option Nat} (h : Dice w p) (hg : w.grownBy w' row) (hr : ∀ g, row = some g → p < g) : Dice w' p := by
  have hp := h.lt
  obtain ⟨a, n, c, hc, i, hh, h1, h3⟩ := h
  have hne : ∀ k, k ≤ p → some k ≠ row := fun k hk e => by have := hr k e.symm; omega
  refine ⟨a, n, c, ⟨hc.1, fun h0 => ?_⟩, i, hh, h1, (hg.block p hp (hne p (Nat.le_refl _))).trans h3⟩
  obtain ⟨b, o, rfl, hb, hcc⟩ := hc.2 h0
  refine ⟨b, o, rfl, hb, fun j hj => ?_⟩
  obtain ⟨z, e1, e2, e3⟩ := hcc j hj
  exact ⟨z, e1, e2, hg.cell e3 (hne _ (by simp; omega))⟩
theorem Dice.alloc {w : World} {p : Nat} (h : Dice w p) (o : Obj) : Dice (w.alloc o) p := h.below ((Below.refl _ _).alloc (Nat.le_refl _) o)

/-- A draw under way: the argument's box, the dice; all else that was there stands. -/
structure GBox (w wi : World) (p : Nat) (cs : List Value) : Prop where
  arg : Blk wi w.heap.size 28 cs
  gen : Dice wi p
  grown : w.grownBy wi (some p)
  old : p < w.heap.size
section
variable {w wi wj : World} {p : Nat} {cs : List Value}
theorem GBox.base (h : GBox w wi p cs) : w.heap.size + 1 ≤ wi.heap.size := h.arg.lt
theorem GBox.step (h : GBox w wi p cs) (hd : Dice wj p) (hg : wi.grownBy wj (some p)) : GBox w wj p cs :=
  ⟨(hg.block _ h.arg.lt (fun e => by injection e with e; have := h.old; omega)).trans h.arg, hd, only_trans h.grown hg, h.old⟩
theorem GBox.alloc (h : GBox w wi p cs) (o : Obj) : GBox w (wi.alloc o) p cs := ⟨h.arg.alloc o, h.gen.alloc o, only_alloc h.grown o, h.old⟩
theorem GBox.drew (h : GBox w wi p cs) : GBox w wi.drew p cs := ⟨h.arg, h.gen, ⟨h.grown.os, h.grown.tape, h.grown.output, h.grown.size, h.grown.block⟩, h.old⟩
theorem GBox.below (h : GBox w wi p cs) (hb : Below wi.heap.size wi wj) : GBox w wj p cs := ⟨h.arg.below hb h.arg.lt, h.gen.below hb, only_more h.grown (only_below hb none) (fun g e => by cases e), h.old⟩
theorem GBox.grow (h : GBox w wi p cs) {row : Option Nat} (hg : wi.grownBy wj row) (hr : ∀ g, row = some g → w.heap.size + 1 ≤ g) : GBox w wj p cs :=
  ⟨(hg.block _ h.arg.lt (fun e => by have := hr _ e.symm; omega)).trans h.arg, h.gen.other hg (fun g e => by have := hr g e; have := h.old; omega), only_more h.grown hg (fun g e => by have := hr g e; omega), h.old⟩
end
theorem gbox_new (w : World) (p : Nat) (cs : List Value) (h : Dice w p) : GBox w (w.alloc (.cells cs.toArray 28)) p cs :=
  ⟨Blk.new w _ _, h.alloc _, only_alloc (World.grownBy.refl _ _) _, h.lt⟩
theorem ownT_gen {w wi wj : World} {p : Nat} {cs : List Value} {v : Option Addr} {n k : Nat} {ts : List Tm} (G : GBox w wi p cs) (ho : OwnT wi (w.heap.size + 1) v n k ts) (hg : wi.grownBy wj (some p)) : OwnT wj (w.heap.size + 1) v n k ts :=
  ho.apart hg (fun g hgg e => by have := (ho.block g hgg).1; have := G.old; injection e with e; omega)

theorem variable_any (x : Int) (w : World) (h : InTm (1, x)) : Calls Try.prog 47 #[.int .i64 x] w fun e w' => e = .returned (.slice (some ⟨w.heap.size, 0, none⟩) 1 1) ∧ OwnT w' w.heap.size (some ⟨w.heap.size, 0, none⟩) 1 1 [(1, x)] ∧ Below w.heap.size w w' := by
  go_enter Try.func47, Try.ntmps47
  go_wp2
  go_ret
  exact ⟨rfl, ownT_one w _ 1 x h (Nat.le_refl _), (Below.refl _ _).alloc (Nat.le_refl _) _⟩
theorem number_any (x : Int) (w : World) (h : InTm (0, x)) : Calls Try.prog 104 #[.int .i64 x] w fun e w' => e = .returned (.slice (some ⟨w.heap.size, 0, none⟩) 1 1) ∧ OwnT w' w.heap.size (some ⟨w.heap.size, 0, none⟩) 1 1 [(0, x)] ∧ Below w.heap.size w w' := by
  go_enter Try.func104, Try.ntmps104
  go_wp2
  go_ret
  exact ⟨rfl, ownT_one w _ 0 x h (Nat.le_refl _), (Below.refl _ _).alloc (Nat.le_refl _) _⟩
set_option maxHeartbeats 1600000 in
theorem two_any (op : Int) (b1 o1 n1 c1 b2 o2 n2 c2 : Nat) (ts us : List Tm) (w : World) (h1 : Terms w (some ⟨b1, o1, none⟩) n1 ts) (h2 : Terms w (some ⟨b2, o2, none⟩) n2 us) (hop : InTm (op, 0)) (hs : n1 + n2 < 1048576) :
    Calls Try.prog 105 #[.int .i64 op, .slice (some ⟨b1, o1, none⟩) n1 c1, .slice (some ⟨b2, o2, none⟩) n2 c2] w fun e w' => ∃ a c, e = .returned (.slice a (n1 + n2 + 1) c) ∧ OwnT w' w.heap.size a (n1 + n2 + 1) c (ts ++ us ++ [(op, 0)]) ∧ Below w.heap.size w w' := by
  go_enter Try.func105, Try.ntmps105
  have hb0 : Below w.heap.size w (w.alloc (.cells #[] 121)) := (Below.refl _ _).alloc (Nat.le_refl _) _
  go_wp2_with (at_builtin; refine wpList_concatT _ rfl _ _ rfl w.heap.size _ _ _ [] rfl (ownT_empty w _ (Nat.le_refl _)) b1 o1 n1 c1 ts rfl (h1.below (Nat.le_refl _) hb0) (by omega) (by simp) ?_)
  intro a3 c3 w3 ho3 hg3
  have hb3 : Below w.heap.size w w3 := hb0.grown hg3.1 hb0.size (fun g e => ((ownT_empty w _ (Nat.le_refl _)).block g e).1)
  clear hg3 hb0
  go_wp2_with (at_builtin; refine wpList_concatT _ rfl _ _ rfl w.heap.size _ _ _ ts rfl ho3 b2 o2 n2 c2 us rfl (h2.below (Nat.le_refl _) hb3) (by omega) hb3.size ?_)
  intro a4 c4 w4 ho4 hg4
  have hb4 : Below w.heap.size w w4 := hb3.grown hg4.1 hb3.size (fun g e => (ho3.block g e).1)
  have hs4 := hb4.size
  clear hg4 ho3 hb3
  go_wp2_with (at_builtin; refine wpList_pushT _ rfl _ _ rfl w.heap.size _ _ _ (ts ++ us) rfl (ho4.alloc _) w4.heap.size op 0 rfl (by simp) (by simp) hop (by omega) (by simp; omega) ?_)
  intro a5 c5 w5 ho5 hg5
  have hb5 : Below w.heap.size w w5 := (hb4.alloc hs4 _).grown hg5.1 (by simp; omega) (fun g e => (ho4.block g e).1)
  go_wp2
  go_ret
  exact ⟨a5, c5, rfl, by rw [List.append_assoc]; exact ho5, hb5⟩

/-- A program's head as the laws draw it: one low, two secrets, two temps, at most one array. -/
def Head (r : PRow) (A : Nat) : Prop := r.lows.2.1 = 1 ∧ r.secrets.2.1 = 2 ∧ r.temps = 2 ∧ r.arrays.2.1 = A ∧ A ≤ 1
/-- An expression was drawn. -/
def DrewF (w : World) (p A m : Nat) (e : Ending) (w' : World) : Prop :=
  ∃ g n c ts, e = .returned (.slice (some ⟨g, 0, none⟩) n c) ∧ 1 ≤ n ∧ n ≤ m ∧ Formula 5 A ts ∧ OwnT w' w.heap.size (some ⟨g, 0, none⟩) n c ts ∧ Dice w' p ∧ w.grownBy w' (some p)
end Go.Proofs.Yteigeihbokkpiaa
