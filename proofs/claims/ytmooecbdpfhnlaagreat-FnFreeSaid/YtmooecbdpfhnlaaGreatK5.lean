/- Joined texts of this proof (DrawTerm, InputCopies), in build order. -/
import Derived.Test.YtmooecbdpfhnlaaGreatK2
import Derived.Test.YtmooecbdpfhnlaaGreatK4
import Derived.Test.YtmooecbdpfhnlaaGreatK3
import Derived.Deep.DeepCutAuto
/- The contracts of the model's draws of expressions. What is drawn is not told, only how long it is at most. -/
namespace Go.Proofs.YtmooecbdpfhnlaaGreat
open Go.RowKit

/-- How long an expression of that depth is at most. -/
def longest : Nat → Nat
  | 0 => 1
  | d + 1 => 3 * longest d + 1
theorem inTm_small {x y : Int} (h0 : -1000000 ≤ x) (h1 : x ≤ 1000000) (h2 : -1000000 ≤ y) (h3 : y ≤ 1000000) : InTm (x, y) := ⟨⟨by simp only []; omega, by simp only []; omega⟩, ⟨by simp only []; omega, by simp only []; omega⟩⟩
theorem ownT_one (w : World) (B : Nat) (x y : Int) (h : InTm (x, y)) (hB : B ≤ w.heap.size) : OwnT (w.alloc (.cells #[.int .i64 x, .int .i64 y] 140)) B (some ⟨w.heap.size, 0, none⟩) 1 1 [(x, y)] :=
  ⟨World.ownsRow_lit w #[.int .i64 x, .int .i64 y] 1 hB (by unfold maxLen; omega) rfl, by omega, fun t ht => by rw [List.mem_singleton] at ht; subst ht; exact h⟩
theorem ownT_some {w : World} {B : Nat} {a : Option Addr} {n c : Nat} {ts : List Tm} (h : OwnT w B a n c ts) (hp : 1 ≤ n) : ∃ g, a = some ⟨g, 0, none⟩ ∧ B ≤ g ∧ g < w.heap.size := by
  rcases h.1.2 with ⟨_, h0⟩ | ⟨g, cap, cur, e, hb, hg, _⟩
  · omega
  · exact ⟨g, by injection e, hb, (Array.getElem?_eq_some_iff.1 hg).1⟩
theorem ownT_empty (w : World) (B : Nat) (hB : B ≤ w.heap.size) : OwnT (w.alloc (.cells #[] 140)) B (some ⟨w.heap.size, 0, none⟩) 0 0 [] := ⟨own_emptyT w B hB, by omega, fun t ht => by simp at ht⟩

/-- 'append(out, xs...)' of Terms. -/
theorem wpList_concatT {ops : Array Oper} {rest : List Oper} {o : Oper} {ac : Act} {Q : Exit → Act → World → Prop} (w : World) (hgd : o.guard = none) (s x : Operand)
    (ho : o.op = .call { callee := .builtin .append, args := #[s, x], argTypes := #[79, 79] })
    (B : Nat) (a : Option Addr) (n c : Nat) (ts : List Tm) (hs : ac.eval s = .slice a n c) (hown : OwnT w B a n c ts)
    (b off m c2 : Nat) (us : List Tm) (hx : ac.eval x = .slice (some ⟨b, off, none⟩) m c2) (hi2 : Terms w (some ⟨b, off, none⟩) m us) (hn : n + m ≤ 1048576) (hB : B ≤ w.heap.size)
    (h : ∀ a1 c1 w', OwnT w' B a1 (n + m) c1 (ts ++ us) → GrowsTo w (.slice a n c) w' (.slice a1 (n + m) c1) → wpList Tryz.prog ops Q rest (ac.put o.dst (.slice a1 (n + m) c1)) w') : wpList Tryz.prog ops Q (o :: rest) ac w := by
  refine wpList_pushG w hgd s x 79 140 (.agg #[.int .i64 0, .int .i64 0]) 2 16 ho Tryz.underlying79 info_term rfl (by omega) B a n c (flatV ts) hs hown.1 ⟨b, off, none⟩ m c2 (flatV us) hx (by rw [flatV_len, hi2.1]) (terms_news hi2) (flatV_one us) (by unfold maxLen; omega) (by omega) hB ?_
  intro a1 c1 w' r1 r2
  refine h a1 c1 w' ⟨by rw [flatV_append]; exact r1, hn, fun t ht => ?_⟩ r2
  rcases List.mem_append.1 ht with ht | ht
  · exact hown.2.2 t ht
  · exact hi2.2.2.1 t ht

end Go.Proofs.YtmooecbdpfhnlaaGreat
/- The contracts of the laws' own helpers on slices of Inputs (written by tools/gen_inputs.py after TermCopies). -/
namespace Go.Proofs.YtmooecbdpfhnlaaGreat
open Go.RowKit

/-- A slice of Terms that the call made itself, from block B on. -/
def OwnI (w : World) (B : Nat) (a : Option Addr) (n c : Nat) (ts : List Tm) : Prop :=
  w.ownsRow B 41 2 (.slice a n c) n (flatV ts) ∧ n ≤ 1048576 ∧ ∀ t ∈ ts, InTm t

section
variable {w w' : World} {B : Nat} {a : Option Addr} {n c : Nat} {ts : List Tm}
theorem OwnI.len (h : OwnI w B a n c ts) : ts.length = n := by have := h.1.1; rw [flatV_len] at this; omega
theorem OwnI.terms (h : OwnI w B a n c ts) : Terms w a n ts := by
  have hlen := h.len
  obtain ⟨ho, hn, hin⟩ := h
  refine ⟨hlen, hn, hin, fun hp => ?_⟩
  rcases ho.2 with ⟨_, h0⟩ | ⟨g, cap, cur, e, _, hh, _⟩
  · exact absurd hp (by omega)
  · have ea : a = some ⟨g, 0, none⟩ := by injection e
    subst ea
    refine ⟨g, 0, rfl, (ho.lt g rfl).2, fun i hi => ?_⟩
    rw [Nat.zero_add, ho.cellAt (i * 2) (by omega), ho.cellAt (i * 2 + 1) (by omega)]
    exact flatV_at ts i (by omega)
theorem OwnI.below (h : OwnI w B a n c ts) (hb : Below w.heap.size w w') : OwnI w' B a n c ts :=
  ⟨h.1.kept (row := none) ⟨hb.os, hb.tape, hb.output, hb.size, fun k hk _ => hb.block k hk⟩ (by cases a <;> simp [Value.ownBlock]), h.2⟩
theorem OwnI.base {B' : Nat} (h : OwnI w B a n c ts) (hB : B' ≤ B) : OwnI w B' a n c ts := by
  refine ⟨⟨h.1.1, ?_⟩, h.2⟩
  rcases h.1.2 with hn | ⟨g, cap, cur, e, hb, r⟩
  · exact .inl hn
  · exact .inr ⟨g, cap, cur, e, by omega, r⟩
theorem OwnI.alloc (h : OwnI w B a n c ts) (o : Obj) : OwnI (w.alloc o) B a n c ts := ⟨h.1.alloc o, h.2⟩
theorem OwnI.block (h : OwnI w B a n c ts) : ∀ g, (Value.slice a n c).ownBlock = some g → B ≤ g ∧ g < w.heap.size := h.1.lt
theorem OwnI.apart {row : Option Nat} (h : OwnI w B a n c ts) (hg : w.grownBy w' row) (hr : ∀ g, (Value.slice a n c).ownBlock = some g → row ≠ some g) : OwnI w' B a n c ts := by
  refine ⟨h.1.kept hg ?_, h.2⟩
  cases hv : (Value.slice a n c).ownBlock with
  | none => exact .inl rfl
  | some g => exact .inr fun e => hr g hv e.symm
theorem OwnI.cap (h : OwnI w B a n c ts) : n ≤ c := by
  rcases h.1.2 with ⟨e, h0⟩ | ⟨g, cap, cur, e, hb, hg, hnc, _⟩
  · omega
  · injection e with e1 e2 e3
    omega
end
/-- What a function that makes a slice of the Terms ts leaves. -/
def MadeI (w : World) (ts : List Tm) (e : Ending) (w' : World) : Prop :=
  ∃ a n c, e = .returned (.slice a n c) ∧ OwnI w' w.heap.size a n c ts ∧ Below w.heap.size w w'
theorem info_input : (Tryz.prog.info? 41).map (fun i => (i.zero, i.size, i.bytes)) = some (some (.agg #[.int .i64 0, .int .i64 0]), 2, 16) := by kernel_rfl
end Go.Proofs.YtmooecbdpfhnlaaGreat
