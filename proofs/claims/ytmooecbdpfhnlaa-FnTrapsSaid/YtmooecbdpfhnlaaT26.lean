/- Joined texts of this proof (DrawProg, Programs), in build order. -/
import Derived.Test.YtmooecbdpfhnlaaT23
import Derived.Test.YtmooecbdpfhnlaaT10
import Derived.Test.YtmooecbdpfhnlaaT25
/- The contract of the laws' own draw of a program: program. -/
namespace Go.Proofs.Ytmooecbdpfhnlaa
open Go.RowKit

/-! What a drawn program is. -/
structure Drawn (P : Prg) (l s b s' b' : Int) (A : Nat) : Prop where
  width : P.width = 2 ∨ P.width = 3
  lows : P.lows = [(l, 0)]
  secrets : P.secrets = [(s, b), (s', b')]
  temps : P.temps = 2
  arrays : P.arrays.length = A
  fewA : A ≤ 1
  sizes : ∀ z ∈ P.arrays, 1 ≤ z ∧ z ≤ 3
  l0 : 0 ≤ l
  l1 : l ≤ 2
  s0 : 1 ≤ s
  s1 : s ≤ 3
  b0 : 0 ≤ b
  b1 : b ≤ 2
  s0' : 0 ≤ s'
  s1' : s' ≤ 3
  b0' : 0 ≤ b'
  b1' : b' ≤ 2
theorem bits_small {x : Int} (h0 : 0 ≤ x) (h1 : x ≤ 3) : bitsN x.toNat ≤ 2 := bitsN_le 2 _ (by have : (2 : Nat) ^ 2 = 4 := rfl; omega)
/-- The program that is drawn when no other was right. -/
theorem last_ok {P : Prg} {l s b s' b' : Int} {A : Nat} (h : Drawn P l s b s' b' A) (hb : P.body = [⟨6, 0, [], [(1, 1)]⟩]) : codeB P = 0 := by
  obtain ⟨wd, lo, se, tp, ar, bo⟩ := P
  obtain ⟨h1, h2, h3, h4, h5, h6, h7, l0, l1, s0, s1, b0, b1, s0', s1', b0', b1'⟩ := h
  simp only [] at h1 h2 h3 h4 h5 h7 hb
  subst h2 h3 h4 hb
  have hw : 1 ≤ wd ∧ wd ≤ 8 := by omega
  have hS : (4 : Int) ≤ ((2 ^ wd.toNat : Nat) : Int) := by rcases h1 with rfl | rfl <;> decide
  have hi : inpB ⟨wd, [(l, 0)], [(s, b), (s', b')], 2, ar, [⟨6, 0, [], [(1, 1)]⟩]⟩ = true := by
    have q1 := bits_small l0 (by omega)
    have q2 := bits_small (x := s) (by omega) s1
    have q3 := bits_small s0' s1'
    simp only [inpB, inputsB, inpOk, bitsTo, tmAt, List.all_cons, List.all_nil, List.length_cons, List.length_nil, Bool.and_eq_true, decide_eq_true_eq, List.getD_cons_zero, List.getD_cons_succ]
    refine ⟨⟨⟨⟨⟨⟨⟨?_, ?_⟩, ?_, ?_⟩, ?_⟩, trivial⟩, ?_⟩, ⟨⟨⟨⟨?_, ?_⟩, ?_, ?_⟩, ?_⟩, ⟨⟨⟨?_, ?_⟩, ?_, ?_⟩, ?_⟩, trivial⟩, ?_⟩, ?_⟩ <;> first | omega | simp
  have hr : roomB ⟨wd, [(l, 0)], [(s, b), (s', b')], 2, ar, [⟨6, 0, [], [(1, 1)]⟩]⟩ = true := by
    simp only [roomB, Bool.and_eq_true, decide_eq_true_eq, List.length_cons, List.length_nil]
    refine ⟨⟨⟨⟨by omega, by omega⟩, by omega⟩, by omega⟩, List.all_eq_true.2 fun z hz => ?_⟩
    have := h7 z hz
    simp; omega
  have hst : stmtsB ⟨wd, [(l, 0)], [(s, b), (s', b')], 2, ar, [⟨6, 0, [], [(1, 1)]⟩]⟩ = true := by
    simp [stmtsB, stmtB, bears, bodyB, namesB, nameOk, expB, runD, tOkB, takesI, numOk]
  have hbl : blockOf [(⟨6, 0, [], [(1, 1)]⟩ : Stm)] 0 = 1 := by
    rw [block_next (by simp) (by simp [opAt, stAt]) (by simp [opAt, stAt]), block_past (by simp)]; rfl
  unfold codeB
  rw [if_neg (by simpa using hw), hi, if_neg (by simp), hr, if_neg (by simp), hst, if_neg (by simp), if_neg (by simp [hbl])]
  have hlo : LoopsOk [(⟨6, 0, [], [(1, 1)]⟩ : Stm)] := by
    intro i hi h5
    obtain rfl : i = 0 := by simpa using hi
    simp [opAt, stAt] at h5
  have := (steps_small (stepsN_spec (part_steps hlo _ 0 1 (Nat.le_refl _) (by simp) hbl))).2
  rw [if_neg]
  intro hbig
  have h2 : (stepsN [(⟨6, 0, [], [(1, 1)]⟩ : Stm)] + 1) * (stepsN [(⟨6, 0, [], [(1, 1)]⟩ : Stm)] + 1) ≤ 6 := by simpa using this
  have h3 : 401 * 401 ≤ (stepsN [(⟨6, 0, [], [(1, 1)]⟩ : Stm)] + 1) * (stepsN [(⟨6, 0, [], [(1, 1)]⟩ : Stm)] + 1) := Nat.mul_le_mul (by have : 400 < stepsN [(⟨6, 0, [], [(1, 1)]⟩ : Stm)] := hbig; omega) (by have : 400 < stepsN [(⟨6, 0, [], [(1, 1)]⟩ : Stm)] := hbig; omega)
  omega

/-! The blocks of the draw under way. -/
theorem Blk.gen {w w' : World} {b g : Nat} {t : TypeId} {xs : List Value} (h : Blk w b t xs) (hg : w.grownBy w' (some g)) (hne : b ≠ g) : Blk w' b t xs := (hg.block b h.lt (fun e => by injection e with e; omega)).trans h
/-- The drawn array, if there is one. -/
def ArrAt (w wi : World) (bp : Nat) (a : Option Addr) (A c : Nat) (zs : List Int) : Prop :=
  (a = none ∧ A = 0 ∧ c = 0 ∧ zs = []) ∨ ∃ ba z, a = some ⟨ba, 0, none⟩ ∧ A = 1 ∧ c = 1 ∧ zs = [z] ∧ 1 ≤ z ∧ z ≤ 3 ∧ Blk wi ba 2 [.int .i64 z] ∧ w.heap.size < ba ∧ ba ≠ bp
structure PBx (w wi : World) (p bl bs bp : Nat) (l s b s' b' : Int) (a : Option Addr) (A c : Nat) (zs : List Int) (cs : List Value) : Prop where
  res : Blk wi w.heap.size 28 [.int .i64 0, .slice none 0 0, .slice none 0 0, .int .i64 0, .slice none 0 0, .slice none 0 0]
  lows : Blk wi bl 80 [.int .i64 l, .int .i64 0]
  secrets : Blk wi bs 80 [.int .i64 s, .int .i64 b, .int .i64 s', .int .i64 b']
  arr : ArrAt w wi bp a A c zs
  prog : Blk wi bp 28 cs
  gen : Dice wi p
  grown : w.grownBy wi (some p)
  old : p < w.heap.size
  o1 : w.heap.size < bl
  o2 : w.heap.size < bs
  o3 : w.heap.size < bp
  n1 : bl ≠ bp
  n2 : bs ≠ bp
section
variable {w wi wj : World} {p bl bs bp : Nat} {l s b s' b' : Int} {a : Option Addr} {A c : Nat} {zs : List Int} {cs : List Value}
theorem ArrAt.gen {g : Nat} (h : ArrAt w wi bp a A c zs) (hg : wi.grownBy wj (some g)) (hne : g ≤ w.heap.size ∨ g = bp) : ArrAt w wj bp a A c zs := by
  rcases h with h | ⟨ba, z, h1, h2, h3, h4, h5, h6, h7, h8, h9⟩
  · exact .inl h
  · exact .inr ⟨ba, z, h1, h2, h3, h4, h5, h6, h7.gen hg (by omega), h8, h9⟩
theorem ArrAt.below (h : ArrAt w wi bp a A c zs) (hb : Below wi.heap.size wi wj) : ArrAt w wj bp a A c zs := by
  rcases h with h | ⟨ba, z, h1, h2, h3, h4, h5, h6, h7, h8, h9⟩
  · exact .inl h
  · exact .inr ⟨ba, z, h1, h2, h3, h4, h5, h6, h7.below hb h7.lt, h8, h9⟩
theorem PBx.step (h : PBx w wi p bl bs bp l s b s' b' a A c zs cs) (hd : Dice wj p) (hg : wi.grownBy wj (some p)) : PBx w wj p bl bs bp l s b s' b' a A c zs cs := by
  have q := h.old
  have q1 := h.o1
  have q2 := h.o2
  have q3 := h.o3
  exact ⟨h.res.gen hg (by omega), h.lows.gen hg (by omega), h.secrets.gen hg (by omega), h.arr.gen hg (.inl (by omega)), h.prog.gen hg (by omega), hd, only_trans h.grown hg, q, q1, q2, q3, h.n1, h.n2⟩
theorem PBx.below (h : PBx w wi p bl bs bp l s b s' b' a A c zs cs) (hb : Below wi.heap.size wi wj) : PBx w wj p bl bs bp l s b s' b' a A c zs cs :=
  ⟨h.res.below hb h.res.lt, h.lows.below hb h.lows.lt, h.secrets.below hb h.secrets.lt, h.arr.below hb, h.prog.below hb h.prog.lt, h.gen.below hb, only_more h.grown (only_below hb none) (fun g e => by cases e), h.old, h.o1, h.o2, h.o3, h.n1, h.n2⟩
theorem PBx.alloc (h : PBx w wi p bl bs bp l s b s' b' a A c zs cs) (o : Obj) : PBx w (wi.alloc o) p bl bs bp l s b s' b' a A c zs cs := h.below ((Below.refl _ _).alloc (Nat.le_refl _) o)
theorem PBx.set (h : PBx w wi p bl bs bp l s b s' b' a A c zs cs) (j : Nat) (v : Value) : PBx w (wi.setCell ⟨bp, j, none⟩ v) p bl bs bp l s b s' b' a A c zs (cs.set j v) := by
  have q := h.old
  have q3 := h.o3
  have hg := grown_set wi bp j v
  exact ⟨h.res.gen hg (by omega), h.lows.gen hg h.n1, h.secrets.gen hg h.n2, h.arr.gen hg (.inr rfl), h.prog.set v, h.gen.other hg (fun g e => by injection e with e; omega), only_more h.grown hg (fun g e => by injection e with e; omega), q, h.o1, h.o2, q3, h.n1, h.n2⟩
theorem ArrAt.ints (h : ArrAt w wi bp a A c zs) : Ints wi a A zs ∧ zs.length = A ∧ A ≤ 1 ∧ ∀ z ∈ zs, 1 ≤ z ∧ z ≤ 3 := by
  rcases h with ⟨rfl, rfl, rfl, rfl⟩ | ⟨ba, z, rfl, rfl, rfl, rfl, h5, h6, h7, h8, h9⟩
  · exact ⟨⟨rfl, by omega, fun z hz => by simp at hz, fun h => absurd h (by omega)⟩, rfl, by omega, fun z hz => by simp at hz⟩
  · refine ⟨⟨rfl, by omega, fun y hy => ?_, fun _ => ⟨ba, 0, rfl, h7.lt, fun i hi => ?_⟩⟩, rfl, by omega, fun y hy => ?_⟩
    · rw [List.mem_singleton] at hy; subst hy; exact in64s (by omega) (by omega)
    · obtain rfl : i = 0 := by omega
      exact h7.cell rfl
    · rw [List.mem_singleton] at hy; subst hy; omega
/-- A program of the drawn head, and of a body. -/
theorem PBx.progAt {wd : Int} {ab : Option Addr} {nb cb : Nat} {rs : List SRow} {ss : List Stm} (h : PBx w wi p bl bs bp l s b s' b' a A c zs cs) (hl : 0 ≤ l ∧ l ≤ 2) (hs : 1 ≤ s ∧ s ≤ 3) (hb : 0 ≤ b ∧ b ≤ 2) (hs' : 0 ≤ s' ∧ s' ≤ 3) (hb' : 0 ≤ b' ∧ b' ≤ 2) (hw : 2 ≤ wd ∧ wd ≤ 3) (hbody : Stmts wi ab nb rs ss) :
    ProgAt wi ⟨wd, (some ⟨bl, 0, none⟩, 1, 1), (some ⟨bs, 0, none⟩, 2, 2), 2, (a, A, c), (ab, nb, cb), rs⟩ ⟨wd, [(l, 0)], [(s, b), (s', b')], 2, zs, ss⟩ := by
  refine ⟨rfl, rfl, in64s (by simp only []; omega) (by simp only []; omega), in64s (by simp) (by simp), ⟨rfl, by simp, fun t ht => ?_, fun _ => ⟨bl, 0, rfl, h.lows.lt, fun i hi => ?_⟩⟩, ⟨rfl, by simp, fun t ht => ?_, fun _ => ⟨bs, 0, rfl, h.secrets.lt, fun i hi => ?_⟩⟩, h.arr.ints.1, hbody⟩
  · rw [List.mem_singleton] at ht; subst ht; exact inTm_small (by omega) (by omega) (by omega) (by omega)
  · obtain rfl : i = 0 := by simp only [] at hi; omega
    exact ⟨h.lows.cell rfl, h.lows.cell rfl⟩
  · simp only [List.mem_cons, List.not_mem_nil, or_false] at ht
    rcases ht with rfl | rfl
    · exact inTm_small (by omega) (by omega) (by omega) (by omega)
    · exact inTm_small (by omega) (by omega) (by omega) (by omega)
  · match i, hi with
    | 0, _ => exact ⟨h.secrets.cell rfl, h.secrets.cell rfl⟩
    | 1, _ => exact ⟨h.secrets.cell rfl, h.secrets.cell rfl⟩
theorem PBx.drawn {wd : Int} {ss : List Stm} (h : PBx w wi p bl bs bp l s b s' b' a A c zs cs) (hl : 0 ≤ l ∧ l ≤ 2) (hs : 1 ≤ s ∧ s ≤ 3) (hb : 0 ≤ b ∧ b ≤ 2) (hs' : 0 ≤ s' ∧ s' ≤ 3) (hb' : 0 ≤ b' ∧ b' ≤ 2) (hw : 2 ≤ wd ∧ wd ≤ 3) :
    Drawn ⟨wd, [(l, 0)], [(s, b), (s', b')], 2, zs, ss⟩ l s b s' b' A :=
  ⟨by simp only []; omega, rfl, rfl, rfl, h.arr.ints.2.1, h.arr.ints.2.2.1, h.arr.ints.2.2.2, hl.1, hl.2, hs.1, hs.2, hb.1, hb.2, hs'.1, hs'.2, hb'.1, hb'.2⟩
end
/-- A right program was drawn. -/
def DrewP (w : World) (p : Nat) (e : Ending) (w' : World) : Prop :=
  ∃ r P A l s b s' b', e = .returned (progV r) ∧ ProgAt w' r P ∧ r.body.2.1 ≤ r.body.2.2 ∧ Head r A ∧ codeB P = 0 ∧ Drawn P l s b s' b' A ∧ ((∀ ba oa, r.arrays.1 = some ⟨ba, oa, none⟩ → w.heap.size < ba) ∧ ∀ w'', w'.grownBy w'' (some p) → ProgAt w'' r P) ∧ Dice w' p ∧ w.grownBy w' (some p)
end Go.Proofs.Ytmooecbdpfhnlaa
/- The contract of the laws' own draw of a program: program. -/
namespace Go.Proofs.Ytmooecbdpfhnlaa
open Go.RowKit

/-- What is told of the drawn numbers. -/
structure Nums (x l s b s' b' : Int) : Prop where
  w : 2 ≤ 2 + x ∧ 2 + x ≤ 3
  l : 0 ≤ l ∧ l ≤ 2
  s : 1 ≤ s ∧ s ≤ 3
  b : 0 ≤ b ∧ b ≤ 2
  s' : 0 ≤ s' ∧ s' ≤ 3
  b' : 0 ≤ b' ∧ b' ≤ 2
theorem drewP_of {w wi : World} {p bl bs bp : Nat} {x l s b s' b' : Int} {a : Option Addr} {A c : Nat} {zs : List Int} {cs : List Value} {ab : Option Addr} {nb cb : Nat} {rs : List SRow} {ss : List Stm}
    (B : PBx w wi p bl bs bp l s b s' b' a A c zs cs) (N : Nums x l s b s' b') (hS : OwnS wi (w.heap.size + 1) ab nb cb rs ss) (hok : codeB ⟨2 + x, [(l, 0)], [(s, b), (s', b')], 2, zs, ss⟩ = 0) (v0 v1 v2 v3 v4 v5 : Value) :
    DrewP w p (.returned (.agg #[.int .i64 (2 + x), .slice (some ⟨bl, 0, none⟩) 1 1, .slice (some ⟨bs, 0, none⟩) 2 2, .int .i64 2, .slice a A c, .slice ab nb cb])) ((((((wi.setCell ⟨w.heap.size, 0, none⟩ v0).setCell ⟨w.heap.size, 1, none⟩ v1).setCell ⟨w.heap.size, 2, none⟩ v2).setCell ⟨w.heap.size, 3, none⟩ v3).setCell ⟨w.heap.size, 4, none⟩ v4).setCell ⟨w.heap.size, 5, none⟩ v5) := by
  have hg : wi.grownBy ((((((wi.setCell ⟨w.heap.size, 0, none⟩ v0).setCell ⟨w.heap.size, 1, none⟩ v1).setCell ⟨w.heap.size, 2, none⟩ v2).setCell ⟨w.heap.size, 3, none⟩ v3).setCell ⟨w.heap.size, 4, none⟩ v4).setCell ⟨w.heap.size, 5, none⟩ v5) (some w.heap.size) :=
    only_trans (only_trans (only_trans (only_trans (only_trans (grown_set _ _ _ _) (grown_set _ _ _ _)) (grown_set _ _ _ _)) (grown_set _ _ _ _)) (grown_set _ _ _ _)) (grown_set _ _ _ _)
  generalize ((((((wi.setCell ⟨w.heap.size, 0, none⟩ v0).setCell ⟨w.heap.size, 1, none⟩ v1).setCell ⟨w.heap.size, 2, none⟩ v2).setCell ⟨w.heap.size, 3, none⟩ v3).setCell ⟨w.heap.size, 4, none⟩ v4).setCell ⟨w.heap.size, 5, none⟩ v5) = wj at hg
  have q1 := B.o1
  have q2 := B.o2
  have q3 := B.o3
  have q := B.old
  have hS' := hS.old (Nat.lt_succ_self _) hg
  have key : ∀ w'', wj.grownBy w'' (some p) → ProgAt w'' ⟨2 + x, (some ⟨bl, 0, none⟩, 1, 1), (some ⟨bs, 0, none⟩, 2, 2), 2, (a, A, c), (ab, nb, cb), rs⟩ ⟨2 + x, [(l, 0)], [(s, b), (s', b')], 2, zs, ss⟩ := by
    intro w'' hg2
    have P := B.progAt (cb := cb) N.l N.s N.b N.s' N.b' N.w hS.reads
    refine ⟨P.width, P.temps, P.inW, P.inT, ⟨P.lows.1, P.lows.2.1, P.lows.2.2.1, fun _ => ?_⟩, ⟨P.secrets.1, P.secrets.2.1, P.secrets.2.2.1, fun _ => ?_⟩, ((B.arr.gen hg (.inl (Nat.le_refl _))).gen hg2 (.inl (by omega))).ints.1, (hS'.old (by omega) hg2).reads⟩
    · have hb := (B.lows.gen hg (by omega)).gen hg2 (by omega)
      refine ⟨bl, 0, rfl, hb.lt, fun i hi => ?_⟩
      obtain rfl : i = 0 := by simp only [] at hi; omega
      exact ⟨hb.cell rfl, hb.cell rfl⟩
    · have hb := (B.secrets.gen hg (by omega)).gen hg2 (by omega)
      refine ⟨bs, 0, rfl, hb.lt, fun i hi => ?_⟩
      match i, hi with
      | 0, _ => exact ⟨hb.cell rfl, hb.cell rfl⟩
      | 1, _ => exact ⟨hb.cell rfl, hb.cell rfl⟩
  refine ⟨⟨2 + x, (some ⟨bl, 0, none⟩, 1, 1), (some ⟨bs, 0, none⟩, 2, 2), 2, (a, A, c), (ab, nb, cb), rs⟩, ⟨2 + x, [(l, 0)], [(s, b), (s', b')], 2, zs, ss⟩, A, l, s, b, s', b', rfl, key _ (World.grownBy.refl _ _), hS.cap, ⟨rfl, rfl, rfl, rfl, B.arr.ints.2.2.1⟩, hok, B.drawn N.l N.s N.b N.s' N.b' N.w, ⟨fun ba oa e => ?_, key⟩, B.gen.other hg (fun g e => by injection e with e; omega), only_more B.grown hg (fun g e => by injection e with e; omega)⟩
  rcases B.arr with ⟨h1, _⟩ | ⟨ba', z, h1, _, _, _, _, _, _, h8, _⟩
  · rw [show (a : Option Addr) = none from h1] at e; cases e
  · have e' : (a : Option Addr) = some ⟨ba, oa, none⟩ := e
    rw [h1] at e'
    injection e' with e'
    injection e' with e'
    omega
set_option maxRecDepth 20000 in
set_option maxHeartbeats 12800000 in
theorem program_any (p : Nat) (w : World) (hD : Dice w p) : Calls Try.prog 13 #[.pointer (some ⟨p, 0, none⟩)] w (DrewP w p) := by
  have hp := hD.lt
  have R0 : Blk (w.alloc (.cells #[.int .i64 0, .slice none 0 0, .slice none 0 0, .int .i64 0, .slice none 0 0, .slice none 0 0] 28)) w.heap.size 28 [.int .i64 0, .slice none 0 0, .slice none 0 0, .int .i64 0, .slice none 0 0, .slice none 0 0] := Blk.new w _ _
  have g0 : w.grownBy (w.alloc (.cells #[.int .i64 0, .slice none 0 0, .slice none 0 0, .int .i64 0, .slice none 0 0, .slice none 0 0] 28)) (some p) := only_alloc (World.grownBy.refl _ _) _
  go_enter Try.func13, Try.ntmps13
  go_wp2_with fail
  refine (diceBelow_any p _ 2 (hD.alloc _) (by omega) (by omega)).mono ?_
  rintro e w1 ⟨x, hx0, hx1, rfl, D1, g1⟩
  have R1 := R0.gen g1 (by omega)
  have GR1 := only_trans g0 g1
  clear R0 g0 g1
  go_wp2_with fail
  refine (diceBelow_any p _ 3 D1 (by omega) (by omega)).mono ?_
  rintro e w2 ⟨l, hl0, hl1, rfl, D2, g2⟩
  have R2 := R1.gen g2 (by omega)
  have GR2 := only_trans GR1 g2
  have z2 := R2.lt
  clear R1 GR1 g2 D1
  go_wp2_with fail
  refine (diceBelow_any p _ 3 (D2.alloc _) (by omega) (by omega)).mono ?_
  rintro e w3 ⟨s, hs0, hs1, rfl, D3, g3⟩
  have R3 := (R2.alloc _).gen g3 (by omega)
  have L3 := (Blk.new w2 80 [.int .i64 l, .int .i64 0]).gen g3 (by omega)
  have GR3 := only_trans (only_alloc GR2 _) g3
  clear R2 GR2 g3 D2
  go_wp2_with fail
  refine (diceBelow_any p _ 3 D3 (by omega) (by omega)).mono ?_
  rintro e w4 ⟨b, hb0, hb1, rfl, D4, g4⟩
  have R4 := R3.gen g4 (by omega)
  have L4 := L3.gen g4 (by omega)
  have GR4 := only_trans GR3 g4
  clear R3 L3 GR3 g4 D3
  go_wp2_with fail
  refine (diceBelow_any p _ 4 D4 (by omega) (by omega)).mono ?_
  rintro e w5 ⟨s', hs0', hs1', rfl, D5, g5⟩
  have R5 := R4.gen g5 (by omega)
  have L5 := L4.gen g5 (by omega)
  have GR5 := only_trans GR4 g5
  clear R4 L4 GR4 g5 D4
  go_wp2_with fail
  refine (diceBelow_any p _ 3 D5 (by omega) (by omega)).mono ?_
  rintro e w6 ⟨b', hb0', hb1', rfl, D6, g6⟩
  have R6 := R5.gen g6 (by omega)
  have L6 := L5.gen g6 (by omega)
  have GR6 := only_trans GR5 g6
  have z6 := R6.lt
  have zl := L6.lt
  clear R5 L5 GR5 g6 D5
  obtain ⟨wa, HW⟩ : ∃ wa, Hid (wa = (w6.alloc (.cells #[.int .i64 (1 + s), .int .i64 b, .int .i64 s', .int .i64 b'] 80)).alloc (.cells #[.int .i64 (2 + x), .slice (some ⟨w2.heap.size, 0, none⟩) 1 1, .slice (some ⟨w6.heap.size, 0, none⟩) 2 2, .int .i64 2, .slice none 0 0, .slice none 0 0] 28)) := ⟨_, rfl⟩
  have S6 : Blk wa w6.heap.size 80 [.int .i64 (1 + s), .int .i64 b, .int .i64 s', .int .i64 b'] := by rw [HW.out]; exact (Blk.new w6 _ _).alloc _
  have P6 : Blk wa (w6.heap.size + 1) 28 [.int .i64 (2 + x), .slice (some ⟨w2.heap.size, 0, none⟩) 1 1, .slice (some ⟨w6.heap.size, 0, none⟩) 2 2, .int .i64 2, .slice none 0 0, .slice none 0 0] := by
    rw [HW.out]
    have := Blk.new (w6.alloc (.cells #[.int .i64 (1 + s), .int .i64 b, .int .i64 s', .int .i64 b'] 80)) 28 [.int .i64 (2 + x), .slice (some ⟨w2.heap.size, 0, none⟩) 1 1, .slice (some ⟨w6.heap.size, 0, none⟩) 2 2, .int .i64 2, .slice none 0 0, .slice none 0 0]
    simpa using this
  have B : PBx w wa p w2.heap.size w6.heap.size (w6.heap.size + 1) l (1 + s) b s' b' none 0 0 [] [.int .i64 (2 + x), .slice (some ⟨w2.heap.size, 0, none⟩) 1 1, .slice (some ⟨w6.heap.size, 0, none⟩) 2 2, .int .i64 2, .slice none 0 0, .slice none 0 0] :=
    ⟨by rw [HW.out]; exact (R6.alloc _).alloc _, by rw [HW.out]; exact (L6.alloc _).alloc _, S6, .inl ⟨rfl, rfl, rfl, rfl⟩, P6, by rw [HW.out]; exact (D6.alloc _).alloc _, by rw [HW.out]; exact only_alloc (only_alloc GR6 _) _, hp, by omega, by omega, by omega, by omega, by omega⟩
  have N : Nums x l (1 + s) b s' b' := ⟨⟨by omega, by omega⟩, ⟨hl0, by omega⟩, ⟨by omega, by omega⟩, ⟨hb0, by omega⟩, ⟨hs0', by omega⟩, ⟨hb0', by omega⟩⟩
  clear R6 L6 GR6 D6 S6 P6
  go_wp2_with fail
  rw [← HW.out]
  refine (diceBelow_any p _ 2 B.gen (by omega) (by omega)).mono ?_
  rintro e w7 ⟨y, hy0, hy1, rfl, D7, g7⟩
  replace B := B.step D7 g7
  clear HW D7 g7
  go_upto_if 27 with fail
  go_cut [] (fun wx => ∃ (a : Option Addr) (A c : Nat) (zs : List Int), PBx w wx p w2.heap.size w6.heap.size (w6.heap.size + 1) l (1 + s) b s' b' a A c zs [.int .i64 (2 + x), .slice (some ⟨w2.heap.size, 0, none⟩) 1 1, .slice (some ⟨w6.heap.size, 0, none⟩) 2 2, .int .i64 2, .slice a A c, .slice none 0 0])
  case first =>
    by_cases hy : y = 0
    · subst hy
      go_wp2_with fail
      refine (diceBelow_any p _ 3 B.gen (by omega) (by omega)).mono ?_
      rintro e w8 ⟨z, hz0, hz1, rfl, D8, g8⟩
      replace B := B.step D8 g8
      have hB8 := B.prog.lt
      have B1 := B.alloc (.cells #[.int .i64 (1 + z)] 2)
      have B2 := (B.set 4 (.slice (some ⟨w8.heap.size, 0, none⟩) 1 1)).alloc (.cells #[.int .i64 (1 + z)] 2)
      have t4 := B1.prog.cell (j := 4) rfl
      have f4 := B1.prog.frozen 4
      clear B D8 g8
      go_wp2_with fail
      go_meet
      refine ⟨some ⟨w8.heap.size, 0, none⟩, 1, 1, [1 + z], ⟨B2.res, B2.lows, B2.secrets, .inr ⟨w8.heap.size, 1 + z, rfl, rfl, rfl, rfl, by omega, by omega, ?_, by omega, by omega⟩, B2.prog, B2.gen, B2.grown, B2.old, B2.o1, B2.o2, B2.o3, B2.n1, B2.n2⟩⟩
      have := Blk.new (w8.setCell ⟨w6.heap.size + 1, 4, none⟩ (.slice (some ⟨w8.heap.size, 0, none⟩) 1 1)) 2 [.int .i64 (1 + z)]
      simpa using this
    · have hyy : (y == 0) = false := by simpa using hy
      go_wp2_with fail
      go_meet
      exact ⟨none, 0, 0, [], B⟩
  case rest =>
    clear B
    obtain ⟨a, A, c, zs, B⟩ := hcut
    have hA1 := B.arr.ints.2.2.1
    have HDE : Hid (∀ (w' : World) (ab : Option Addr) (nb cb : Nat), Dice w' p → Calls Try.prog 18 #[.pointer (some ⟨p, 0, none⟩), .agg #[.int .i64 (2 + x), .slice (some ⟨w2.heap.size, 0, none⟩) 1 1, .slice (some ⟨w6.heap.size, 0, none⟩) 2 2, .int .i64 2, .slice a A c, .slice ab nb cb], .int .i64 4, .int .i64 2] w' (DrewS w' p (4 * 36))) := Lib.hid (fun w' ab nb cb h => deeds_2 ⟨2 + x, (some ⟨w2.heap.size, 0, none⟩, 1, 1), (some ⟨w6.heap.size, 0, none⟩, 2, 2), 2, (a, A, c), (ab, nb, cb), []⟩ A p 4 w' h ⟨rfl, rfl, rfl, rfl, hA1⟩ (by omega) (by omega))
    have HPO : Hid (∀ (w' : World) (ab : Option Addr) (nb cb : Nat) (rs : List SRow) (P : Prg), ProgAt w' ⟨2 + x, (some ⟨w2.heap.size, 0, none⟩, 1, 1), (some ⟨w6.heap.size, 0, none⟩, 2, 2), 2, (a, A, c), (ab, nb, cb), rs⟩ P → Calls Try.prog 21 #[.agg #[.int .i64 (2 + x), .slice (some ⟨w2.heap.size, 0, none⟩) 1 1, .slice (some ⟨w6.heap.size, 0, none⟩) 2 2, .int .i64 2, .slice a A c, .slice ab nb cb]] w' fun e w'' => e = .returned (.bool (codeB P == 0)) ∧ Below w'.heap.size w' w'') := Lib.hid (fun w' ab nb cb rs P h => specProgOk_any ⟨2 + x, (some ⟨w2.heap.size, 0, none⟩, 1, 1), (some ⟨w6.heap.size, 0, none⟩, 2, 2), 2, (a, A, c), (ab, nb, cb), rs⟩ P w' h)
    go_wp2
    go_loopw [4] (fun iv wr => ∃ (k nb cb : Nat) (ab : Option Addr), k ≤ 8 ∧ iv = .int .i64 (k : Int) ∧ PBx w wr p w2.heap.size w6.heap.size (w6.heap.size + 1) l (1 + s) b s' b' a A c zs [.int .i64 (2 + x), .slice (some ⟨w2.heap.size, 0, none⟩) 1 1, .slice (some ⟨w6.heap.size, 0, none⟩) 2 2, .int .i64 2, .slice a A c, .slice ab nb cb]) (fun iv _ => 8 - (intOf iv).toNat)
    case atStart => exact ⟨0, 0, 0, none, by omega, rfl, B⟩
    case round =>
      clear B
      obtain ⟨k, nb, cb, ab, hk, rfl, B⟩ := hrel
      have hlt := B.prog.lt
      by_cases hk8 : k < 8
      case neg =>
        obtain rfl : k = 8 := by omega
        go_wp2_with fail
        refine (variable_any 1 _ (inTm1 (by omega) (by omega))).mono ?_
        rintro e w9 ⟨rfl, ho9, hb9⟩
        replace B := B.below hb9
        have hs9 := hb9.size
        have E9 : OwnS (w9.alloc (.cells #[.int .i64 6, .int .i64 0, .slice none 0 0, .slice (some ⟨wr.heap.size, 0, none⟩) 1 1] 46)) wr.heap.size (some ⟨w9.heap.size, 0, none⟩) 1 1 [⟨6, 0, (none, 0, 0), (some ⟨wr.heap.size, 0, none⟩, 1, 1)⟩] [⟨6, 0, [], [(1, 1)]⟩] := by
          refine ⟨World.ownsRow_lit w9 #[.int .i64 6, .int .i64 0, .slice none 0 0, .slice (some ⟨wr.heap.size, 0, none⟩) 1 1] 1 hs9 (by unfold maxLen; omega) rfl, by omega, rfl, fun i hi => ?_⟩
          obtain rfl : i = 0 := by omega
          exact ⟨rfl, rfl, in64s (by simp [stAt]) (by simp [stAt]), in64s (by simp [stAt]) (by simp [stAt]), ownT_nil _ _, ho9.alloc _⟩
        have B1 := B.alloc (.cells #[.int .i64 6, .int .i64 0, .slice none 0 0, .slice (some ⟨wr.heap.size, 0, none⟩) 1 1] 46)
        have f5 := B1.prog.frozen 5
        have t5 := B1.prog.cell (j := 5) rfl
        have B2 := B1.set 5 (.slice (some ⟨w9.heap.size, 0, none⟩) 1 1)
        have E10 := (E9.old hlt (grown_set _ (w6.heap.size + 1) 5 (.slice (some ⟨w9.heap.size, 0, none⟩) 1 1))).base (B' := w.heap.size + 1) (by have := B.o3; omega)
        have hok : codeB ⟨2 + x, [(l, 0)], [(1 + s, b), (s', b')], 2, zs, [⟨6, 0, [], [(1, 1)]⟩]⟩ = 0 := last_ok (B.drawn N.l N.s N.b N.s' N.b' N.w) rfl
        clear B B1 E9 ho9 hb9
        go_upto_region 11 with fail
        obtain ⟨wb, HW⟩ : ∃ wb, Hid (wb = (w9.alloc (.cells #[.int .i64 6, .int .i64 0, .slice none 0 0, .slice (some ⟨wr.heap.size, 0, none⟩) 1 1] 46)).setCell ⟨w6.heap.size + 1, 5, none⟩ (.slice (some ⟨w9.heap.size, 0, none⟩) 1 1)) := ⟨_, rfl⟩
        rw [← HW.out]
        rw [← HW.out] at B2 E10
        clear HW t5 f5
        have a0 := B2.res.cell (j := 0) rfl
        have z0 := B2.res.frozen 0
        have e0 := B2.prog.cell (j := 0) rfl
        have a1 := B2.res.cell (j := 1) rfl
        have z1 := B2.res.frozen 1
        have e1 := B2.prog.cell (j := 1) rfl
        have a2 := B2.res.cell (j := 2) rfl
        have z2 := B2.res.frozen 2
        have e2 := B2.prog.cell (j := 2) rfl
        have a3 := B2.res.cell (j := 3) rfl
        have z3 := B2.res.frozen 3
        have e3 := B2.prog.cell (j := 3) rfl
        have a4 := B2.res.cell (j := 4) rfl
        have z4 := B2.res.frozen 4
        have e4 := B2.prog.cell (j := 4) rfl
        have a5 := B2.res.cell (j := 5) rfl
        have z5 := B2.res.frozen 5
        have e5 := B2.prog.cell (j := 5) rfl
        go_wp2
        refine bodyPost_ret (v := .agg #[.int .i64 (2 + x), .slice (some ⟨w2.heap.size, 0, none⟩) 1 1, .slice (some ⟨w6.heap.size, 0, none⟩) 2 2, .int .i64 2, .slice a A c, .slice (some ⟨w9.heap.size, 0, none⟩) 1 1]) (by simp [results, Try.results13, go_sem, a0, a1, a2, a3, a4, a5]) rfl ?_
        exact drewP_of B2 N E10 hok _ _ _ _ _ _
      have hk8' : decide ((k : Int) < 8) = true := by simp; omega
      have t0 := B.prog.cell (j := 0) rfl
      have t1 := B.prog.cell (j := 1) rfl
      have t2 := B.prog.cell (j := 2) rfl
      have t3 := B.prog.cell (j := 3) rfl
      have t4 := B.prog.cell (j := 4) rfl
      have t5 := B.prog.cell (j := 5) rfl
      go_wp2_with fail
      refine (HDE.out _ ab nb cb B.gen).mono ?_
      rintro e w9 ⟨g, n, cc, rfl, hn1, hn2, ⟨rs, ss, S9⟩, D9, g9⟩
      replace B := B.step D9 g9
      clear D9 g9 t0 t1 t2 t3 t4 t5
      have f5 := B.prog.frozen 5
      have t0 := B.prog.cell (j := 0) rfl
      have t1 := B.prog.cell (j := 1) rfl
      have t2 := B.prog.cell (j := 2) rfl
      have t3 := B.prog.cell (j := 3) rfl
      have t4 := B.prog.cell (j := 4) rfl
      have t5 := B.prog.cell (j := 5) rfl
      have B2 := B.set 5 (.slice (some ⟨g, 0, none⟩) n cc)
      have S10 := (S9.old hlt (grown_set _ (w6.heap.size + 1) 5 (.slice (some ⟨g, 0, none⟩) n cc))).base (B' := w.heap.size + 1) (by have := B.o3; omega)
      obtain ⟨wb, HW⟩ : ∃ wb, Hid (wb = w9.setCell ⟨w6.heap.size + 1, 5, none⟩ (.slice (some ⟨g, 0, none⟩) n cc)) := ⟨_, rfl⟩
      rw [← HW.out] at B2 S10
      clear B S9
      go_wp2_with fail
      rw [← HW.out]
      refine (HPO.out wb (some ⟨g, 0, none⟩) n cc rs ⟨2 + x, [(l, 0)], [(1 + s, b), (s', b')], 2, zs, ss⟩ (B2.progAt N.l N.s N.b N.s' N.b' N.w S10.reads)).mono ?_
      rintro e w10 ⟨rfl, hb10⟩
      replace B2 := B2.below hb10
      replace S10 := S10.below hb10
      clear HW t0 t1 t2 t3 t4 t5 f5 hb10
      cases hz : (codeB ⟨2 + x, [(l, 0)], [(1 + s, b), (s', b')], 2, zs, ss⟩ == 0) with
      | true =>
        have hok : codeB ⟨2 + x, [(l, 0)], [(1 + s, b), (s', b')], 2, zs, ss⟩ = 0 := by simpa using hz
        have a0 := B2.res.cell (j := 0) rfl
        have z0 := B2.res.frozen 0
        have e0 := B2.prog.cell (j := 0) rfl
        have a1 := B2.res.cell (j := 1) rfl
        have z1 := B2.res.frozen 1
        have e1 := B2.prog.cell (j := 1) rfl
        have a2 := B2.res.cell (j := 2) rfl
        have z2 := B2.res.frozen 2
        have e2 := B2.prog.cell (j := 2) rfl
        have a3 := B2.res.cell (j := 3) rfl
        have z3 := B2.res.frozen 3
        have e3 := B2.prog.cell (j := 3) rfl
        have a4 := B2.res.cell (j := 4) rfl
        have z4 := B2.res.frozen 4
        have e4 := B2.prog.cell (j := 4) rfl
        have a5 := B2.res.cell (j := 5) rfl
        have z5 := B2.res.frozen 5
        have e5 := B2.prog.cell (j := 5) rfl
        go_wp2
        refine bodyPost_ret (v := .agg #[.int .i64 (2 + x), .slice (some ⟨w2.heap.size, 0, none⟩) 1 1, .slice (some ⟨w6.heap.size, 0, none⟩) 2 2, .int .i64 2, .slice a A c, .slice (some ⟨g, 0, none⟩) n cc]) (by simp [results, Try.results13, go_sem, a0, a1, a2, a3, a4, a5]) rfl ?_
        exact drewP_of B2 N S10 hok _ _ _ _ _ _
      | false =>
        go_wp2
        go_roundw
        case rel => exact ⟨k + 1, n, cc, _, by omega, by go_num, B2⟩
        case measure => simp [intOf]; omega
end Go.Proofs.Ytmooecbdpfhnlaa
