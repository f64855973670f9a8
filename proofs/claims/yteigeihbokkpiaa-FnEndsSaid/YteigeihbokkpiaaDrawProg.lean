/- The contract of the laws' own draw of a program: program. -/
import Derived.Test.YteigeihbokkpiaaDeeds0
import Derived.Test.YteigeihbokkpiaaSpecProgOk
namespace Go.Proofs.Yteigeihbokkpiaa
open Go.RowKit

/-! What a drawn program is. -/
structure Drawn (P : Prg) (l s b s' b' : Int) (A : Nat) : Prop where
  width : P.width = 2 ∨ P.width = 3
  lows : P.lows = [(l, 0)]
  secrets : P.secrets = [(s, b), (s', b')]
  temps : P.temps = 2
  arrays : P.arrays.length = A
  fewA : A ≤ 1
  sizes : ∀ z ∈ P.arrays, 1 ≤ z ∧ z ≤ 3
  l0 : 0 ≤ l
  l1 : l ≤ 2
  s0 : 1 ≤ s
  s1 : s ≤ 3
  b0 : 0 ≤ b
  b1 : b ≤ 2
  s0' : 0 ≤ s'
  s1' : s' ≤ 3
  b0' : 0 ≤ b'
  b1' : b' ≤ 2
theorem bits_small {x : Int} (h0 : 0 ≤ x) (h1 : x ≤ 3) : bitsN x.toNat ≤ 2 := bitsN_le 2 _ (by have : (2 : Nat) ^ 2 = 4 := rfl; omega)
/-- The program that is drawn when no other was right. -/
theorem last_ok {P : Prg} {l s b s' b' : Int} {A : Nat} (h : Drawn P l s b s' b' A) (hb : P.body = [⟨6, 0, [], [(1, 1)]⟩]) : codeB P = 0 := by
  obtain ⟨wd, lo, se, tp, ar, bo⟩ := P
  obtain ⟨h1, h2, h3, h4, h5, h6, h7, l0, l1, s0, s1, b0, b1, s0', s1', b0', b1'⟩ := h
  simp only [] at h1 h2 h3 h4 h5 h7 hb
  subst h2 h3 h4 hb
  have hw : 1 ≤ wd ∧ wd ≤ 8 := by omega
  have hS : (4 : Int) ≤ ((2 ^ wd.toNat : Nat) : Int) := by rcases h1 with rfl | rfl <;> decide
  have hi : inpB ⟨wd, [(l, 0)], [(s, b), (s', b')], 2, ar, [⟨6, 0, [], [(1, 1)]⟩]⟩ = true := by
    have q1 := bits_small l0 (by omega)
    have q2 := bits_small (x := s) (by omega) s1
    have q3 := bits_small s0' s1'
    simp only [inpB, inputsB, inpOk, bitsTo, tmAt, List.all_cons, List.all_nil, List.length_cons, List.length_nil, Bool.and_eq_true, decide_eq_true_eq, List.getD_cons_zero, List.getD_cons_succ]
    refine ⟨⟨⟨⟨⟨⟨⟨?_, ?_⟩, ?_, ?_⟩, ?_⟩, trivial⟩, ?_⟩, ⟨⟨⟨⟨?_, ?_⟩, ?_, ?_⟩, ?_⟩, ⟨⟨⟨?_, ?_⟩, ?_, ?_⟩, ?_⟩, trivial⟩, ?_⟩, ?_⟩ <;> first | omega | simp
  have hr : roomB ⟨wd, [(l, 0)], [(s, b), (s', b')], 2, ar, [⟨6, 0, [], [(1, 1)]⟩]⟩ = true := by
    simp only [roomB, Bool.and_eq_true, decide_eq_true_eq, List.length_cons, List.length_nil]
    refine ⟨⟨⟨⟨by omega, by omega⟩, by omega⟩, by omega⟩, List.all_eq_true.2 fun z hz => ?_⟩
    have := h7 z hz
    simp; omega
  have hst : stmtsB ⟨wd, [(l, 0)], [(s, b), (s', b')], 2, ar, [⟨6, 0, [], [(1, 1)]⟩]⟩ = true := by
    simp [stmtsB, stmtB, bears, bodyB, namesB, nameOk, expB, runD, tOkB, takesI, numOk]
  have hbl : blockOf [(⟨6, 0, [], [(1, 1)]⟩ : Stm)] 0 = 1 := by
    rw [block_next (by simp) (by simp [opAt, stAt]) (by simp [opAt, stAt]), block_past (by simp)]; rfl
  unfold codeB
  rw [if_neg (by simpa using hw), hi, if_neg (by simp), hr, if_neg (by simp), hst, if_neg (by simp), if_neg (by simp [hbl])]
  have hlo : LoopsOk [(⟨6, 0, [], [(1, 1)]⟩ : Stm)] := by
    intro i hi h5
    obtain rfl : i = 0 := by simpa using hi
    simp [opAt, stAt] at h5
  have := (steps_small (stepsN_spec (part_steps hlo _ 0 1 (Nat.le_refl _) (by simp) hbl))).2
  rw [if_neg]
  intro hbig
  have h2 : (stepsN [(⟨6, 0, [], [(1, 1)]⟩ : Stm)] + 1) * (stepsN [(⟨6, 0, [], [(1, 1)]⟩ : Stm)] + 1) ≤ 6 := by simpa using this
  have h3 : 401 * 401 ≤ (stepsN [(⟨6, 0, [], [(1, 1)]⟩ : Stm)] + 1) * (stepsN [(⟨6, 0, [], [(1, 1)]⟩ : Stm)] + 1) := Nat.mul_le_mul (by have : 400 < stepsN [(⟨6, 0, [], [(1, 1)]⟩ : Stm)] := hbig; omega) (by have : 400 < stepsN [(⟨6, 0, [], [(1, 1)]⟩ : Stm)] := hbig; omega)
  omega

/-! The blocks of the draw under way. -/
theorem Blk.gen {w w' : World} {b g : Nat} {t : TypeId} {xs : List Value} (h : Blk w b t xs) (hg : w.grownBy w' (some g)) (hne : b ≠ g) : Blk w' b t xs := (hg.block b h.lt (fun e => by injection e with e; omega)).trans h
/-- The drawn array, if there is one. -/
def ArrAt (w wi : World) (bp : Nat) (a : Option Addr) (A c : Nat) (zs : List Int) : Prop :=
  (a = none ∧ A = 0 ∧ c = 0 ∧ zs = []) ∨ ∃ ba z, a = some ⟨ba, 0, none⟩ ∧ A = 1 ∧ c = 1 ∧ zs = [z] ∧ 1 ≤ z ∧ z ≤ 3 ∧ Blk wi ba 2 [.int .i64 z] ∧ w.heap.size < ba ∧ ba ≠ bp
structure PBx (w wi : World) (p bl bs bp : Nat) (l s b s' b' : Int) (a : Option Addr) (A c : Nat) (zs : List Int) (cs : List Value) : Prop where
  res : Blk wi w.heap.size 28 [.int .i64 0, .slice none 0 0, .slice none 0 0, .int .i64 0, .slice none 0 0, .slice none 0 0]
  lows : Blk wi bl 70 [.int .i64 l, .int .i64 0]
  secrets : Blk wi bs 70 [.int .i64 s, .int .i64 b, .int .i64 s', .int .i64 b']
  arr : ArrAt w wi bp a A c zs
  prog : Blk wi bp 28 cs
  gen : Dice wi p
  grown : w.grownBy wi (some p)
  old : p < w.heap.size
  o1 : w.heap.size < bl
  o2 : w.heap.size < bs
  o3 : w.heap.size < bp
  n1 : bl ≠ bp
  n2 : bs ≠ bp
section
variable {w wi wj : World} {p bl bs bp : Nat} {l s b s' b' : Int} {a : Option Addr} {A c : Nat} {zs : List Int} {cs : List Value}
theorem ArrAt.gen {g : Nat} (h : ArrAt w wi bp a A c zs) (hg : wi.grownBy wj (some g)) (hne : g ≤ w.heap.size ∨ g = bp) : ArrAt w wj bp a A c zs := by
  rcases h with h | ⟨ba, z, h1, h2, h3, h4, h5, h6, h7, h8, h9⟩
  · exact .inl h
  · exact .inr ⟨ba, z, h1, h2, h3, h4, h5, h6, h7.gen hg (by omega), h8, h9⟩
theorem ArrAt.below (h : ArrAt w wi bp a A c zs) (hb : Below wi.heap.size wi wj) : ArrAt w wj bp a A c zs := by
  rcases h with h | ⟨ba, z, h1, h2, h3, h4, h5, h6, h7, h8, h9⟩
  · exact .inl h
  · exact .inr ⟨ba, z, h1, h2, h3, h4, h5, h6, h7.below hb h7.lt, h8, h9⟩
theorem PBx.step (h : PBx w wi p bl bs bp l s b s' b' a A c zs cs) (hd : Dice wj p) (hg : wi.grownBy wj (some p)) : PBx w wj p bl bs bp l s b s' b' a A c zs cs := by
  have q := h.old
  have q1 := h.o1
  have q2 := h.o2
  have q3 := h.o3
  exact ⟨h.res.gen hg (by omega), h.lows.gen hg (by omega), h.secrets.gen hg (by omega), h.arr.gen hg (.inl (by omega)), h.prog.gen hg (by omega), hd, only_trans h.grown hg, q, q1, q2, q3, h.n1, h.n2⟩
theorem PBx.below (h : PBx w wi p bl bs bp l s b s' b' a A c zs cs) (hb : Below wi.heap.size wi wj) : PBx w wj p bl bs bp l s b s' b' a A c zs cs :=
  ⟨h.res.below hb h.res.lt, h.lows.below hb h.lows.lt, h.secrets.below hb h.secrets.lt, h.arr.below hb, h.prog.below hb h.prog.lt, h.gen.below hb, only_more h.grown (only_below hb none) (fun g e => by cases e), h.old, h.o1, h.o2, h.o3, h.n1, h.n2⟩
theorem PBx.alloc (h : PBx w wi p bl bs bp l s b s' b' a A c zs cs) (o : Obj) : PBx w (wi.alloc o) p bl bs bp l s b s' b' a A c zs cs := h.below ((Below.refl _ _).alloc (Nat.le_refl _) o)
theorem PBx.set (h : PBx w wi p bl bs bp l s b s' b' a A c zs cs) (j : Nat) (v : Value) : PBx w (wi.setCell ⟨bp, j, none⟩ v) p bl bs bp l s b s' b' a A c zs (cs.set j v) := by
  have q := h.old
  have q3 := h.o3
  have hg := grown_set wi bp j v
  exact ⟨h.res.gen hg (by omega), h.lows.gen hg h.n1, h.secrets.gen hg h.n2, h.arr.gen hg (.inr rfl), h.prog.set v, h.gen.other hg (fun g e => by injection e with e; omega), only_more h.grown hg (fun g e => by injection e with e; omega), q, h.o1, h.o2, q3, h.n1, h.n2⟩
theorem ArrAt.ints (h : ArrAt w wi bp a A c zs) : Ints wi a A zs ∧ zs.length = A ∧ A ≤ 1 ∧ ∀ z ∈ zs, 1 ≤ z ∧ z ≤ 3 := by
  rcases h with ⟨rfl, rfl, rfl, rfl⟩ | ⟨ba, z, rfl, rfl, rfl, rfl, h5, h6, h7, h8, h9⟩
  · exact ⟨⟨rfl, by omega, fun z hz => by simp at hz, fun h => absurd h (by omega)⟩, rfl, by omega, fun z hz => by simp at hz⟩
  · refine ⟨⟨rfl, by omega, fun y hy => ?_, fun _ => ⟨ba, 0, rfl, h7.lt, fun i hi => ?_⟩⟩, rfl, by omega, fun y hy => ?_⟩
    · rw [List.mem_singleton] at hy; subst hy; exact in64s (by omega) (by omega)
    · obtain rfl : i = 0 := by omega
      exact h7.cell rfl
    · rw [List.mem_singleton] at hy; subst hy; omega
/-- A program of the drawn head, and of a body. -/
theorem PBx.progAt {wd : Int} {ab : Option Addr} {nb cb : Nat} {rs : List SRow} {ss : List Stm} (h : PBx w wi p bl bs bp l s b s' b' a A c zs cs) (hl : 0 ≤ l ∧ l ≤ 2) (hs : 1 ≤ s ∧ s ≤ 3) (hb : 0 ≤ b ∧ b ≤ 2) (hs' : 0 ≤ s' ∧ s' ≤ 3) (hb' : 0 ≤ b' ∧ b' ≤ 2) (hw : 2 ≤ wd ∧ wd ≤ 3) (hbody : Stmts wi ab nb rs ss) :
    ProgAt wi ⟨wd, (some ⟨bl, 0, none⟩, 1, 1), (some ⟨bs, 0, none⟩, 2, 2), 2, (a, A, c), (ab, nb, cb), rs⟩ ⟨wd, [(l, 0)], [(s, b), (s', b')], 2, zs, ss⟩ := by
  refine ⟨rfl, rfl, in64s (by simp only []; omega) (by simp only []; omega), in64s (by simp) (by simp), ⟨rfl, by simp, fun t ht => ?_, fun _ => ⟨bl, 0, rfl, h.lows.lt, fun i hi => ?_⟩⟩, ⟨rfl, by simp, fun t ht => ?_, fun _ => ⟨bs, 0, rfl, h.secrets.lt, fun i hi => ?_⟩⟩, h.arr.ints.1, hbody⟩
  · rw [List.mem_singleton] at ht; subst ht; exact inTm_small (by omega) (by omega) (by omega) (by omega)
  · obtain rfl : i = 0 := by simp only [] at hi; omega
    exact ⟨h.lows.cell rfl, h.lows.cell rfl⟩
  · simp only [List.mem_cons, List.not_mem_nil, or_false] at ht
    rcases ht with rfl | rfl
    · exact inTm_small (by omega) (by omega) (by omega) (by omega)
    · exact inTm_small (by omega) (by omega) (by omega) (by omega)
  · match i, hi with
    | 0, _ => exact ⟨h.secrets.cell rfl, h.secrets.cell rfl⟩
    | 1, _ => exact ⟨h.secrets.cell rfl, h.secrets.cell rfl⟩
theorem PBx.drawn {wd : Int} {ss : List Stm} (h : PBx w wi p bl bs bp l s b s' b' a A c zs cs) (hl : 0 ≤ l ∧ l ≤ 2) (hs : 1 ≤ s ∧ s ≤ 3) (hb : 0 ≤ b ∧ b ≤ 2) (hs' : 0 ≤ s' ∧ s' ≤ 3) (hb' : 0 ≤ b' ∧ b' ≤ 2) (hw : 2 ≤ wd ∧ wd ≤ 3) :
    Drawn ⟨wd, [(l, 0)], [(s, b), (s', b')], 2, zs, ss⟩ l s b s' b' A :=
  ⟨by simp only []; omega, rfl, rfl, rfl, h.arr.ints.2.1, h.arr.ints.2.2.1, h.arr.ints.2.2.2, hl.1, hl.2, hs.1, hs.2, hb.1, hb.2, hs'.1, hs'.2, hb'.1, hb'.2⟩
end
/-- A right program was drawn. -/
def DrewP (w : World) (p : Nat) (e : Ending) (w' : World) : Prop :=
  ∃ r P A l s b s' b', e = .returned (progV r) ∧ ProgAt w' r P ∧ r.body.2.1 ≤ r.body.2.2 ∧ Head r A ∧ codeB P = 0 ∧ Drawn P l s b s' b' A ∧ Dice w' p ∧ w.grownBy w' (some p)
end Go.Proofs.Yteigeihbokkpiaa
