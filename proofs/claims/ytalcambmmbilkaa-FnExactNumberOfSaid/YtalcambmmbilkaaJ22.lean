/- Joined texts of this proof (InRound, BoolCopies, BitMath, ConcatIn, ImplBits, ImplNum), in build order. -/
import Derived.Test.YtalcambmmbilkaaJ21
import Derived.StillTailTactics
import Derived.Test.YtalcambmmbilkaaJ13
import Derived.Test.YtalcambmmbilkaaJ20
import Derived.Test.YtalcambmmbilkaaJ16
import Derived.Test.YtalcambmmbilkaaJ7
import Derived.Test.YtalcambmmbilkaaJ3
import Derived.Test.YtalcambmmbilkaaJ19
/- A region that draws its order, within a round of a range over a function: its reads in the text's order, its last step behind them. -/
namespace Go.Proofs.Ytalcambmmbilkaa
open Go.RowKit Go.Shelf

section
variable {P : Program} {ops : Array Oper} {Q : Exit → Act → World → Prop}
theorem opIn_of {i l n : Nat} {K K' : Act → World → Prop} (hd : ∀ (j : Nat) (o : Oper), ops[j]? = some o → ∀ c, o.op ≠ .defer c) (hQ : ¬ LetsOut Q) (hK : ∀ a w, K a w → K' a w) {a : Act} {w : World} (h : wpOp P ops Q i K a w) :
    wpOpIn (Fence.wide.inRound l) n P ops Q i K' a w := by
  unfold wpOp at h
  unfold wpOpIn
  cases ho : ops[i]? with
  | none => simp only [ho] at h ⊢; exact hK _ _ h
  | some o =>
    simp only [ho] at h ⊢
    by_cases hw : Region.wanted o (yielded ops a.tmps) = true
    · rw [if_pos hw] at h ⊢
      rcases h with h | ⟨_, h⟩
      case inr => exact absurd h hQ
      refine ⟨fun _ _ => trivial, ?_⟩
      rw [Oper.semAt_eq _ _ _ (hd i o ho)]
      unfold Oper.wp at h
      generalize (execOp a.eval o).run P w = r at h ⊢
      cases r with
      | ok nx w' =>
        cases nx with
        | value v => exact hK _ _ h
        | skip => exact hK _ _ h
        | defer d => exact hK _ _ h
        | enter f args =>
          refine ⟨fun e => by simp [Fence.wide] at e, CallsIn.inRound l (callsIn_wide.2 (Calls.mono h fun e w'' he => ?_))⟩
          cases e with
          | returned v => exact hK _ _ he
          | panicked c => exact he
          | outgrown => exact he
        | row row args =>
          exact ⟨fun e => by simp [Fence.wide] at e, fun c cs _ => let ⟨v, w'', hr, hs⟩ := h c cs; ⟨v, w'', hK _ _ hr, stepsIn_wide.2 hs⟩⟩
        | _ => exact h.elim
      | halt hl w' =>
        cases hl with
        | panic v => exact h
        | _ => exact h.elim
    · rw [if_neg hw] at h ⊢
      exact ⟨fun _ _ => trivial, hK _ _ h⟩
theorem anyIn_of {l n : Nat} {md : Region.Mode} (hd : ∀ (j : Nat) (o : Oper), ops[j]? = some o → ∀ c, o.op ≠ .defer c) (hQ : ¬ LetsOut Q) : ∀ (fuel : Nat) (listed : Array Bool) (a : Act) (w : World), wpAny P md ops Q fuel listed a w → wpAnyIn (Fence.wide.inRound l) n P md ops Q fuel listed a w
  | 0, _, _, _, h => h
  | fuel + 1, _, _, _, h => ⟨h.1, fun i hi => opIn_of hd hQ (fun a w => anyIn_of hd hQ fuel _ a w) (h.2 i hi)⟩
end
/-- The region's first n operations read; the others follow in a row. -/
theorem inRound_tail {P : Program} {id l m : Nat} {Q : Exit → Act → World → Prop} {a : Act} {w : World} {L : List Oper} (n : Nat) (hm : P.follows .mixedOrders = true) (hB : Region.lexTailB .any L.toArray n = true)
    (hd : (L.all fun o => match o.op with | .defer _ => false | _ => true) = true) (hQ : ¬ LetsOut Q)
    (h : wpStill P L.toArray { w with drawn := w.drawn + 1 } (fun a' => wpList P L.toArray Q (L.drop n) a' { w with drawn := w.drawn + 1 }) (L.take n) a) : (Code.region id L.toArray true).wpIn (Fence.wide.inRound l) m P Q a w := by
  refine wpIn_region_any hm (anyIn_of (fun j o ho c e => ?_) hQ _ _ _ _ ?_)
  · have hmem : o ∈ L := by have := Array.mem_of_getElem? ho; simpa using this
    have := List.all_eq_true.1 hd o hmem
    rw [e] at this
    cases this
  · simp only [Region.lexTailB, Bool.and_eq_true, decide_eq_true_eq] at hB
    obtain ⟨⟨⟨⟨b1, b2⟩, b3⟩, b4⟩, b5⟩ := hB
    have hlt : n < L.length := by simpa using b2
    have hh : (L.take n).length = n := by rw [List.length_take]; omega
    have ht : (L.drop n).length = L.toArray.size - n := by simp
    have H := wpAnyL_lex (md := .any) (g := L.toArray.size - n) b1 b3 b4 b2 (L.take n) 0 (Array.replicate L.toArray.size false) a (fun j hj => by rw [hh] at hj; simp [hj]) (by rw [Nat.zero_add, hh])
      ⟨by simp, fun j oj _ hl => (by rw [getD_replicate_false] at hl; cases hl), fun t _ ht' => Go.getD_in (by simpa using ht') (getD_replicate_false _ _)⟩ (by rw [hh]; exact b5) h
    have R := wpAny_of_head (Q' := Q) (g := L.toArray.size - n) (fun listed a' hL => by
      have := wpAny_of_seq (md := .any) (Q' := Q) (L.drop n) n listed a' { w with drawn := w.drawn + 1 } (fun j => by simp [List.getElem?_drop]) (by rw [ht]; exact hL.1) hL.2
      rwa [ht] at this) _ _ _ H
    rw [hh, show n + (L.toArray.size - n) = L.toArray.size by omega] at R
    exact R
end Go.Proofs.Ytalcambmmbilkaa
/- Slices of bools: words; one more put behind; the laws' own helpers on them (eqBoolS, markBoolS, heldBoolS, toBoolS). -/
namespace Go.Proofs.Ytalcambmmbilkaa
open Go.RowKit

def bAt (bs : List Bool) (i : Nat) : Bool := bs.getD i false
/-- The slice '.slice a n c' reads as the bools bs. -/
def Bools (w : World) (a : Option Addr) (n : Nat) (bs : List Bool) : Prop :=
  bs.length = n ∧ n ≤ 1048576 ∧ (0 < n → ∃ b o, a = some ⟨b, o, none⟩ ∧ b < w.heap.size ∧ ∀ i, i < n → w.cell? ⟨b, o + i, none⟩ = some (.bool (bAt bs i)))
theorem Bools.at_ {w : World} {a : Option Addr} {n : Nat} {bs : List Bool} {k : Nat} (h : Bools w a n bs) (hk : k < n) :
    ∃ b o z, a = some ⟨b, o, none⟩ ∧ b < w.heap.size ∧ Hid (z = bAt bs k) ∧ w.cell? ⟨b, o + k, none⟩ = some (.bool z) := by
  obtain ⟨hl, _, hc⟩ := h
  obtain ⟨b, o, rfl, hb, hcell⟩ := hc (by omega)
  exact ⟨b, o, _, rfl, hb, Lib.hid rfl, hcell k hk⟩
theorem Bools.below {w w' : World} {a : Option Addr} {n : Nat} {bs : List Bool} (h : Bools w a n bs) (hb : Below w.heap.size w w') : Bools w' a n bs := by
  obtain ⟨hl, hn, hc⟩ := h
  refine ⟨hl, hn, fun hp => ?_⟩
  obtain ⟨b, o, rfl, hbl, hcell⟩ := hc hp
  exact ⟨b, o, rfl, Nat.lt_of_lt_of_le hbl hb.size, fun i hi => (hb.cell (by exact hbl)).trans (hcell i hi)⟩
/-- .. of the call's own, from block B on. -/
def OwnB (w : World) (B : Nat) (a : Option Addr) (n c : Nat) (bs : List Bool) : Prop := w.ownsRow B 4 1 (.slice a n c) n (bs.map Value.bool) ∧ n ≤ 1048576
section
variable {w w' : World} {B : Nat} {a : Option Addr} {n c : Nat} {bs : List Bool} {row : Option Nat}
theorem OwnB.len (h : OwnB w B a n c bs) : bs.length = n := by have := h.1.1; simpa using this
theorem OwnB.reads (h : OwnB w B a n c bs) : Bools w a n bs := by
  have hlen := h.len
  obtain ⟨ho, hn⟩ := h
  refine ⟨hlen, hn, fun hp => ?_⟩
  rcases ho.2 with ⟨_, h0⟩ | ⟨g, cap, cur, e, _, hh, _⟩
  · exact absurd hp (by omega)
  · have ea : a = some ⟨g, 0, none⟩ := by injection e
    subst ea
    refine ⟨g, 0, rfl, (ho.lt g rfl).2, fun i hi => ?_⟩
    rw [Nat.zero_add, ho.cellAt i (by omega)]
    simp [bAt, List.getD_eq_getElem?_getD, List.getElem?_eq_getElem (show i < bs.length by omega)]
theorem OwnB.below (h : OwnB w B a n c bs) (hb : Below w.heap.size w w') : OwnB w' B a n c bs :=
  ⟨h.1.kept (row := none) ⟨hb.os, hb.tape, hb.output, hb.size, fun k hk _ => hb.block k hk⟩ (by cases a <;> simp [Value.ownBlock]), h.2⟩
theorem OwnB.base {B' : Nat} (h : OwnB w B a n c bs) (hB : B' ≤ B) : OwnB w B' a n c bs := by
  refine ⟨⟨h.1.1, ?_⟩, h.2⟩
  rcases h.1.2 with hn | ⟨g, cap, cur, e, hb, r⟩
  · exact .inl hn
  · exact .inr ⟨g, cap, cur, e, by omega, r⟩
theorem OwnB.alloc (h : OwnB w B a n c bs) (o : Obj) : OwnB (w.alloc o) B a n c bs := ⟨h.1.alloc o, h.2⟩
theorem OwnB.block (h : OwnB w B a n c bs) : ∀ g, (Value.slice a n c).ownBlock = some g → B ≤ g ∧ g < w.heap.size := h.1.lt
theorem OwnB.span {lo hi : Nat} (h : OwnB w B a n c bs) (hs : Span lo hi w w') (hB : hi ≤ B) : OwnB w' B a n c bs := ⟨ownsRow_span h.1 hs (fun g hg => .inr (Nat.le_trans hB (h.block g hg).1)), h.2⟩
theorem OwnB.inside {s : Sl} (h : OwnB w B s.1 s.2.1 s.2.2 bs) : SlIn B w.heap.size s := fun g hg => h.block g hg
theorem ownB_nil (w : World) (B : Nat) : OwnB w B none 0 0 [] := ⟨World.ownsRow_nil _ _ _ _, by omega⟩
theorem ownB_empty (w : World) (B : Nat) (hB : B ≤ w.heap.size) : OwnB (w.alloc (.cells #[] 4)) B (some ⟨w.heap.size, 0, none⟩) 0 0 [] :=
  ⟨World.ownsRow_lit w #[] 0 hB (by unfold maxLen; omega) rfl, by omega⟩
end
/-- What a function that makes a slice of the bools bs leaves. -/
def MadeB (w : World) (bs : List Bool) (e : Ending) (w' : World) : Prop :=
  ∃ a n c, e = .returned (.slice a n c) ∧ OwnB w' w.heap.size a n c bs ∧ Below w.heap.size w w'
theorem info_bool : (Try.prog.info? 4).map (fun i => (i.zero, i.size, i.bytes)) = some (some (.bool false), 1, 1) := by kernel_rfl
section
variable {w : World} {B g n cap : Nat} {bs : List Bool}
theorem ownB_cell (h : w.ownsRow B 4 1 (.slice (some ⟨g, 0, none⟩) n cap) n (bs.map Value.bool)) {k : Nat} (hk : k < n) : w.cell? ⟨g, k, none⟩ = some (.bool (bAt bs k)) := by
  have hl : bs.length = n := by have := h.1; simpa using this
  rw [h.cellAt k (by omega)]
  simp [bAt, List.getD_eq_getElem?_getD, List.getElem?_eq_getElem (show k < bs.length by omega)]
theorem ownB_put (h : w.ownsRow B 4 1 (.slice (some ⟨g, 0, none⟩) n cap) n (bs.map Value.bool)) (k : Nat) (z : Bool) :
    (w.setCell ⟨g, k, none⟩ (.bool z)).ownsRow B 4 1 (.slice (some ⟨g, 0, none⟩) n cap) n ((bs.set k z).map Value.bool) := by
  rw [List.map_set]; exact (h.stored k _).1
end
theorem wpList_pushB {ops : Array Oper} {rest : List Oper} {o : Oper} {ac : Act} {Q : Exit → Act → World → Prop} (w : World) (hgd : o.guard = none) (s x : Operand)
    (ho : o.op = .call { callee := .builtin .append, args := #[s, x], argTypes := #[51, 51] })
    (B : Nat) (a : Option Addr) (n c : Nat) (bs : List Bool) (hs : ac.eval s = .slice a n c) (hown : OwnB w B a n c bs)
    (g : Nat) (z : Bool) (hx : ac.eval x = .slice (some ⟨g, 0, none⟩) 1 1) (hc : w.cell? ⟨g, 0, none⟩ = some (.bool z)) (hn : n < 1048576) (hB : B ≤ w.heap.size)
    (h : ∀ a1 c1 w', OwnB w' B a1 (n + 1) c1 (bs ++ [z]) → w.grownBy w' (Value.slice a n c).ownBlock → wpList Try.prog ops Q rest (ac.put o.dst (.slice a1 (n + 1) c1)) w') : wpList Try.prog ops Q (o :: rest) ac w := by
  obtain ⟨i0, hi, hz0, hz1, hz2⟩ := info_parts info_bool
  refine wpList_append_own w hgd s x 51 ho B 4 i0 (.bool false) 1 1 Try.underlying51 hi hz0 hz1 hz2 rfl (by omega) (.slice a n c) n (bs.map Value.bool) hs hown.1
    ⟨g, 0, none⟩ 1 1 [.bool z] hx rfl ?_ ?_ ?_ ?_ hB ?_
  · intro j u hj
    match j, hj with
    | 0, hj => simp at hj; subst hj; simpa [Addr.add] using hc
  · intro u hu; simp at hu; subst hu; rfl
  · unfold maxLen; omega
  · omega
  · intro v' w' h1 h2 _
    have hf : ∃ a1 c1, v' = .slice a1 (n + 1) c1 := by
      rcases h1.2 with ⟨_, h0⟩ | ⟨g', cap, cur, e, _⟩
      · omega
      · exact ⟨_, _, e⟩
    obtain ⟨a1, c1, rfl⟩ := hf
    exact h a1 c1 w' ⟨by simpa using h1, by omega⟩ h2
/-- The first k are alike. -/
def EqB (xs ys : List Bool) (k : Nat) : Prop := ∀ i, i < k → bAt xs i = bAt ys i
theorem EqB.zero (xs ys : List Bool) : EqB xs ys 0 := fun i hi => absurd hi (by omega)
theorem EqB.succ {xs ys : List Bool} {k : Nat} {x y : Bool} (h : EqB xs ys k) (hx : Hid (x = bAt xs k)) (hy : Hid (y = bAt ys k)) (e : x = y) : EqB xs ys (k + 1) := by
  intro i hi
  rcases Nat.lt_or_ge i k with hlt | hge
  · exact h i hlt
  · have : i = k := by omega
    subst this; rw [← hx.out, ← hy.out]; exact e
/-- Marks. -/
def mB (k : Nat) : Bool := (k : Int) % 3 == 0
def marksB (k n : Nat) : List Bool := (List.range n).map (fun i : Nat => mB (k + i))
theorem marksB_len (k n : Nat) : (marksB k n).length = n := by simp [marksB]
theorem marksB_at (k n i : Nat) (h : i < n) : bAt (marksB k n) i = mB (k + i) := by simp [marksB, bAt, List.getD_eq_getElem?_getD, h]
def MarkB (bs : List Bool) (k j : Nat) : List Bool := marksB k j ++ bs.drop j
theorem markB_zero (bs : List Bool) (k : Nat) : MarkB bs k 0 = bs := by simp [MarkB, marksB]
theorem markB_all {bs : List Bool} {n : Nat} (k : Nat) (h : bs.length = n) : MarkB bs k n = marksB k n := by subst h; simp [MarkB]
theorem markB_succ {bs : List Bool} {n j : Nat} (k : Nat) (h : bs.length = n) (hj : j < n) : (MarkB bs k j).set j (mB (k + j)) = MarkB bs k (j + 1) := by
  subst h
  apply List.ext_getElem?
  intro i
  unfold MarkB marksB
  rw [List.getElem?_set]
  by_cases hi : j = i
  · subst hi
    have h1 : j < ((List.range j).map (fun i : Nat => mB (k + i)) ++ bs.drop j).length := by simp; omega
    rw [if_pos rfl, if_pos h1, List.getElem?_append_left (by simp)]
    simp
  · rw [if_neg hi]
    simp only [List.getElem?_append, List.length_map, List.length_range, List.getElem?_map, List.getElem?_drop]
    by_cases h1 : i < j
    · rw [if_pos h1, if_pos (show i < j + 1 by omega), List.getElem?_range h1, List.getElem?_range (show i < j + 1 by omega)]
    · rw [if_neg h1, if_neg (show ¬ i < j + 1 by omega), show j + (i - j) = j + 1 + (i - (j + 1)) by omega]
set_option maxHeartbeats 800000 in
theorem eqBoolS_same (a b : Option Addr) (n m c d : Nat) (xs : List Bool) (w : World) (hx : Bools w a n xs) (hy : Bools w b m xs) :
    Calls Try.prog 45 #[.slice a n c, .slice b m d] w fun e w' => e = .returned (.bool true) ∧ Below w.heap.size w w' := by
  obtain rfl : n = m := by rw [← hx.1, ← hy.1]
  have hbd := hx.2.1
  have hne0 : ((n : Int) != (n : Int)) = false := by simp
  go_enter Try.func45, Try.ntmps45
  go_wp2
  go_loopw [5] (fun i wr => ∃ k : Nat, k ≤ n ∧ i = .int .i64 k ∧ Below w.heap.size w wr) (fun i _ => n - (intOf i).toNat)
  case atStart => exact ⟨0, Nat.zero_le _, rfl, Below.refl _ _⟩
  case round =>
    obtain ⟨k, hk, rfl, hbel⟩ := hrel
    by_cases hlt : k < n
    · obtain ⟨b1, o1, x, rfl, hb1, hxk, hc1⟩ := (hx.below hbel).at_ hlt
      obtain ⟨b2, o2, y, rfl, hb2, hyk, hc2⟩ := (hy.below hbel).at_ hlt
      obtain rfl : x = y := by rw [hxk.out, hyk.out]
      have hxx : (x != x) = false := by cases x <;> rfl
      clear hxk hyk
      go_wp2
      go_quiet (fail)
      rename_i nq
      have HB := Lib.hid (hbel.trans ((show Below wr.heap.size wr (wr.drewN nq) from ⟨rfl, rfl, rfl, Nat.le_refl _, fun _ _ => rfl⟩).mono hbel.size))
      clear hbel
      go_wp2
      go_roundw
      case rel => exact ⟨k + 1, by omega, by go_num, HB.out⟩
      case measure => simp [intOf]; omega
    · obtain rfl : n = k := by omega
      go_wp2
      go_ret
      exact ⟨rfl, hbel⟩
set_option maxHeartbeats 800000 in
theorem markBoolS_any (a : Option Addr) (n c : Nat) (bs : List Bool) (k : Nat) (w : World) (B : Nat) (h : OwnB w B a n c bs) (hk : k ≤ 4194304) :
    Calls Try.prog 46 #[.slice a n c, .int .i64 (k : Int)] w fun e w' => e = .returned (.int .i64 ((k + n : Nat) : Int)) ∧ OwnB w' B a n c (marksB k n) ∧ w.grownBy w' (Value.slice a n c).ownBlock := by
  have HL := Lib.hid h.len
  have hbd := h.2
  go_enter Try.func46, Try.ntmps46
  go_wp2
  go_loopw [1, 5] (fun q i wr => ∃ j : Nat, j ≤ n ∧ i = .int .i64 j ∧ q = .int .i64 ((k + j : Nat) : Int) ∧ wr.ownsRow B 4 1 (.slice a n c) n ((MarkB bs k j).map Value.bool) ∧ w.grownBy wr (Value.slice a n c).ownBlock) (fun _ i _ => n - (intOf i).toNat)
  case atStart => exact ⟨0, Nat.zero_le _, rfl, rfl, by rw [markB_zero]; exact h.1, World.grownBy.refl _ _⟩
  case round =>
    obtain ⟨j, hj, rfl, rfl, hown, hgr⟩ := hrel
    by_cases hlt : j < n
    · obtain ⟨g, rfl⟩ : ∃ g, a = some ⟨g, 0, none⟩ := by
        rcases hown.2 with ⟨_, h0⟩ | ⟨g, cap, cur, e, _⟩
        · omega
        · exact ⟨g, by injection e⟩
      have hc2 := ownB_cell hown hlt
      generalize bAt (MarkB bs k j) j = y at hc2
      have hf2 := hown.frozenAt j
      have HO2 := ownB_put hown j (mB (k + j))
      rw [markB_succ k HL.out hlt] at HO2
      have hgr2 := (hown.stored j (.bool (mB (k + j)))).2
      have HG := Lib.hid (show w.grownBy (wr.setCell ⟨g, j, none⟩ (.bool (mB (k + j)))) (some g) from
        ⟨hgr2.os.trans hgr.os, hgr2.tape.trans hgr.tape, hgr2.output.trans hgr.output, Nat.le_trans hgr.size hgr2.size,
          fun b hb hne => (hgr2.block b (Nat.lt_of_lt_of_le hb hgr.size) hne).trans (hgr.block b hb hne)⟩)
      have HO3 := Lib.hid HO2
      clear hown hgr hgr2 HO2
      go_wp2
      go_roundw
      case rel => exact ⟨j + 1, by omega, by go_num, by go_num, HO3.out, HG.out⟩
      case measure => simp [intOf]; omega
    · obtain rfl : n = j := by omega
      go_wp2
      go_ret
      rw [markB_all k HL.out] at hown
      exact ⟨rfl, ⟨hown, hbd⟩, hgr⟩
set_option maxHeartbeats 800000 in
theorem heldBoolS_any (a : Option Addr) (n c : Nat) (k : Nat) (w : World) (h : Bools w a n (marksB k n)) (hk : k ≤ 4194304) :
    Calls Try.prog 47 #[.slice a n c, .int .i64 (k : Int)] w fun e w' => e = .returned (.int .i64 ((k + n : Nat) : Int)) ∧ Below w.heap.size w w' := by
  have hbd := h.2.1
  go_enter Try.func47, Try.ntmps47
  go_wp2
  go_loopw [1, 5] (fun q i wr => ∃ j : Nat, j ≤ n ∧ i = .int .i64 j ∧ q = .int .i64 ((k + j : Nat) : Int) ∧ Below w.heap.size w wr) (fun _ i _ => n - (intOf i).toNat)
  case atStart => exact ⟨0, Nat.zero_le _, rfl, rfl, Below.refl _ _⟩
  case round =>
    obtain ⟨j, hj, rfl, rfl, hbel⟩ := hrel
    by_cases hlt : j < n
    · obtain ⟨b, o, z, rfl, hb, hz, hc⟩ := (h.below hbel).at_ hlt
      have hz2 : z = mB (k + j) := by rw [hz.out, marksB_at _ _ _ hlt]
      subst hz2
      clear hz
      have hxx : (mB (k + j) != mB (k + j)) = false := by cases mB (k + j) <;> rfl
      unfold mB at hc hxx
      go_wp2
      go_roundw
      case rel => exact ⟨j + 1, by omega, by go_num, by go_num, hbel⟩
      case measure => simp [intOf]; omega
    · obtain rfl : n = j := by omega
      go_wp2
      go_ret
      exact ⟨rfl, hbel⟩
end Go.Proofs.Ytalcambmmbilkaa
/- The bits of an input: plain mathematics. -/
namespace Go.Proofs.Ytalcambmmbilkaa
open Go.RowKit

/-- The bit of z that counts 2 to the k. -/
def bitZ (z : Int) (k : Nat) : Bool := z / ((2 ^ k : Nat) : Int) % 2 == 1
/-- The first i of the b bits of z, the highest one first. -/
def hiTo (z : Int) (b i : Nat) : List Bool := (List.range i).map (fun j => bitZ z (b - 1 - j))
theorem hiTo_zero (z : Int) (b : Nat) : hiTo z b 0 = [] := rfl
theorem hiTo_succ (z : Int) (b i : Nat) : hiTo z b (i + 1) = hiTo z b i ++ [bitZ z (b - 1 - i)] := by simp [hiTo, List.range_succ]
theorem hiTo_len (z : Int) (b i : Nat) : (hiTo z b i).length = i := by simp [hiTo]
/-- The bits of the first k. -/
def inBits (ms zs : List Int) : Nat → List Bool
  | 0 => []
  | k + 1 => inBits ms zs k ++ hiTo (zs.getD k 0) (bitsN (ms.getD k 0).toNat) (bitsN (ms.getD k 0).toNat)
theorem bits8 {m : Int} (h0 : 0 ≤ m) (h1 : m ≤ 255) : bitsN m.toNat ≤ 8 := bitsN_le 8 _ (by omega)
theorem inBits_len {ms zs : List Int} (h : MaxOk ms) : ∀ k, k ≤ ms.length → (inBits ms zs k).length ≤ 8 * k
  | 0, _ => by simp [inBits]
  | k + 1, hk => by
    have := inBits_len (zs := zs) h k (by omega)
    obtain ⟨h1, h2⟩ := h.2 k (by omega)
    have := bits8 h1 h2
    simp only [inBits, List.length_append, hiTo_len]
    omega
/-- The unit of the i-th bit. -/
def unitN (b i : Nat) : Nat := 2 ^ (b - 1) / 2 ^ i
theorem unitN_zero (b : Nat) : unitN b 0 = 2 ^ (b - 1) := by simp [unitN]
theorem unitN_succ (b i : Nat) : unitN b (i + 1) = unitN b i / 2 := by rw [unitN, unitN, Nat.pow_succ, Nat.div_div_eq_div_mul]
theorem unitN_at {b i : Nat} (h : i < b) : unitN b i = 2 ^ (b - 1 - i) := by
  rw [unitN, Nat.pow_div (by omega) (by omega)]
theorem unitN_le {b i : Nat} (h : b ≤ 8) : unitN b i ≤ 128 := by
  have h1 : unitN b i ≤ 2 ^ (b - 1) := Nat.div_le_self _ _
  have h2 : 2 ^ (b - 1) ≤ 2 ^ 7 := Nat.pow_le_pow_right (by omega) (by omega)
  have h3 : 2 ^ 7 = 128 := by decide
  omega
theorem unitN_pos {b i : Nat} (h : i < b) : 0 < unitN b i := by rw [unitN_at h]; exact Nat.pow_pos (by omega)
/-- What InputBits tells. -/
noncomputable def bitsB (p : Prg) (ls ss : List Int) : List Bool := if startB p ls ss = true then inBits (maxesP p) (ls ++ ss) (maxesP p).length else []
theorem bitsB_len (p : Prg) (ls ss : List Int) : (bitsB p ls ss).length ≤ 48 := by
  unfold bitsB
  by_cases h : startB p ls ss = true
  · rw [if_pos h]
    have hm := code_max (startB_ok h)
    have := inBits_len (zs := ls ++ ss) hm _ (Nat.le_refl _)
    have := hm.1
    omega
  · rw [if_neg h]; simp
end Go.Proofs.Ytalcambmmbilkaa
/- The contracts of the library's slices.Grow (onto nothing) and slices.Concat at Inputs, and of the program's inputsOf. -/
namespace Go.Proofs.Ytalcambmmbilkaa
open Go.RowKit

theorem ownI_nil (w : World) (B : Nat) : OwnI w B none 0 0 [] := ⟨World.ownsRow_nil _ _ _ _, by omega, fun z hz => by simp at hz⟩
theorem run_append_nothingI (w : World) (ty : TypeId) (v : Value) (B n : Nat) (xs : List Value) (hown : w.ownsRow B 79 2 v n xs) (c : Nat) : (Builtin.append_ #[27, 27] ty #[v, .slice none 0 c]).run Try.prog w = .ok v w := by
  obtain ⟨i0, hi, hz0, hz1, hz2⟩ := info_parts info_input
  rcases hown.2 with ⟨rfl, rfl⟩ | ⟨g, cap, cur, rfl, _, _, hnc, _⟩
  · simp [Builtin.append_, run_underlying Try.underlying27, sizeOf, typeInfo, hi, Builtin.lenOf, Builtin.firstCells]
  · simp [Builtin.append_, run_underlying Try.underlying27, sizeOf, typeInfo, hi, Builtin.lenOf, Builtin.firstCells, hnc, storeCells]
set_option maxRecDepth 100000 in
/-- 'append(out, xs...)' of Inputs: out a row of the call's own, xs whatever slice of them. -/
theorem wpList_concatI {ops : Array Oper} {rest : List Oper} {o : Oper} {ac : Act} {Q : Exit → Act → World → Prop} (w : World) (hgd : o.guard = none) (s x : Operand)
    (ho : o.op = .call { callee := .builtin .append, args := #[s, x], argTypes := #[27, 27] })
    (B : Nat) (a : Option Addr) (n c : Nat) (ts : List Tm) (hs : ac.eval s = .slice a n c) (hown : OwnI w B a n c ts)
    (a2 : Option Addr) (m c2 : Nat) (us : List Tm) (hx : ac.eval x = .slice a2 m c2) (hi2 : Terms w a2 m us) (hn : n + m ≤ 1048576) (hB : B ≤ w.heap.size)
    (h : ∀ a1 c1 w', OwnI w' B a1 (n + m) c1 (ts ++ us) → w.grownBy w' (Value.slice a n c).ownBlock → wpList Try.prog ops Q rest (ac.put o.dst (.slice a1 (n + m) c1)) w') : wpList Try.prog ops Q (o :: rest) ac w := by
  have hin : ∀ y ∈ ts ++ us, InTm y := fun y hy => by
    rcases List.mem_append.1 hy with hy | hy
    · exact hown.2.2 y hy
    · exact hi2.2.2.1 y hy
  cases a2 with
  | none =>
    have hm : m = 0 := by
      rcases Nat.eq_zero_or_pos m with h0 | h0
      · exact h0
      · obtain ⟨b, o', e, _⟩ := hi2.2.2.2 h0
        cases e
    subst hm
    have hys : us = [] := List.eq_nil_of_length_eq_zero hi2.1
    subst hys
    refine wpList_plain hgd fun K hK' => ?_
    have hrun := run_append_nothingI w o.type (.slice a n c) B n _ hown.1 c2
    unfold Oper.wp
    simp [execOp, ho, resolve, invoke, builtin, hs, hx, hrun, Result.andThen]
    exact hK' _ _ (by simpa using h a c w (by simpa using hown) (World.grownBy.refl _ _))
  | some ad =>
    obtain ⟨i0, hi, hz0, hz1, hz2⟩ := info_parts info_input
    have hl := hi2.1
    refine wpList_append_own w hgd s x 27 ho B 79 i0 (.agg #[.int .i64 0, .int .i64 0]) 2 16 Try.underlying27 hi hz0 hz1 hz2 rfl (by omega) (.slice a n c) n (flatV ts) hs hown.1
      ad m c2 (flatV us) hx (by rw [flatV_len, hl]) ?_ (flatV_one us) ?_ ?_ hB ?_
    · intro j u hj
      have hjl : j < (flatV us).length := (List.getElem?_eq_some_iff.1 hj).1
      rw [flatV_len] at hjl
      obtain ⟨b, off, e, _, hc⟩ := hi2.2.2.2 (by omega)
      injection e with e
      subst e
      exact terms_news hi2 j u hj
    · unfold maxLen; omega
    · omega
    · intro v' w' h1 h2 _
      have hf : ∃ a1 c1, v' = .slice a1 (n + m) c1 := by
        rcases h1.2 with ⟨e, h0⟩ | ⟨g', cap, cur, e, _⟩
        · exact ⟨none, 0, by rw [e, h0]⟩
        · exact ⟨_, _, e⟩
      obtain ⟨a1, c1, rfl⟩ := hf
      exact h a1 c1 w' ⟨by rw [flatV_append]; exact h1, hn, hin⟩ h2
/-- Of Inputs: an append into the call's own row keeps what is below. -/
theorem below_pushI {w v w' : World} {B : Nat} {a : Option Addr} {n c : Nat} {ts : List Tm} (hb : Below B w v) (hown : OwnI v B a n c ts) (hB : B ≤ v.heap.size) (hg : v.grownBy w' (Value.slice a n c).ownBlock) : Below B w w' :=
  hb.grown hg hB (fun k hk => (hown.block k hk).1)
set_option maxHeartbeats 800000 in
theorem grow_nilI (n : Nat) (w : World) (hn : n ≤ 1048576) :
    Calls Try.prog 119 #[.slice none 0 0, .int .i64 (n : Int)] w fun e w' => ∃ a c, e = .returned (.slice a 0 c) ∧ OwnI w' w.heap.size a 0 c [] ∧ Below w.heap.size w w' := by
  obtain ⟨i0, hi, hz0, hz1, hz2⟩ := info_parts info_input
  by_cases h0 : n = 0
  · subst h0
    clear hi hz0 hz1 hz2
    go_enter Try.func119, Try.ntmps119
    go_wp2
    go_ret
    exact ⟨_, _, rfl, ownI_nil _ _, Below.refl _ _⟩
  · have hpos : decide ((n : Int) > 0) = true := by simp; omega
    have hneg : decide ((n : Int) < 0) = false := by simp
    have HRUN : Hid (∀ ty, (Builtin.append_ #[27, 3] ty #[.slice none 0 0, .int .i64 (n : Int)]).run Try.prog w = .ok (.slice (some ⟨w.heap.size, 0, none⟩) n (grownCap w n 0 79)) (w.drew.alloc (.cells (Builtin.zeroCells (Value.agg #[.int .i64 0, .int .i64 0]).cells n ++ Builtin.zeroCells (Value.agg #[.int .i64 0, .int .i64 0]).cells (grownCap w n 0 79 - n)) 79))) := Lib.hid (fun ty => Go.Lib.run_append_nil_zeros w _ _ ty 79 i0 (.agg #[.int .i64 0, .int .i64 0]) .i64 .i64 Try.underlying27 under_int hi hz0 n (by omega) (by rw [hz1]; omega) (by omega) (by rw [hz2]; omega))
    have hge := grownCap_ge w n 0 79
    have hle := grownCap_le_maxLen w n 0 79 (by unfold maxLen; omega)
    have HSZ : Hid ((Builtin.zeroCells (Value.agg #[.int .i64 0, .int .i64 0]).cells n ++ Builtin.zeroCells (Value.agg #[.int .i64 0, .int .i64 0]).cells (grownCap w n 0 79 - n)).size = grownCap w n 0 79 * 2) := Lib.hid (by simp [Builtin.zeroCells, Value.cells]; omega)
    obtain ⟨cs, HCS⟩ : ∃ cs : Array Value, Hid (Builtin.zeroCells (Value.agg #[.int .i64 0, .int .i64 0]).cells n ++ Builtin.zeroCells (Value.agg #[.int .i64 0, .int .i64 0]).cells (grownCap w n 0 79 - n) = cs) := ⟨_, rfl⟩
    obtain ⟨cap, HCAP⟩ : ∃ cap, Hid (grownCap w n 0 79 = cap) := ⟨_, rfl⟩
    rw [HCS.out] at HRUN HSZ
    rw [HCAP.out] at HRUN HSZ hge hle
    clear hi hz0 hz1 hz2 HCS HCAP
    go_enter Try.func119, Try.ntmps119
    go_wp2_with (at_builtin; refine Go.Lib.wpList_append_run _ rfl _ _ 27 3 rfl (.slice none 0 0) (.int .i64 (n : Int)) rfl rfl _ _ (HRUN.out _) ?_)
    go_ret
    have hb : Below w.heap.size w (w.drew.alloc (.cells cs 79)) := (show Below w.heap.size w w.drew from ⟨rfl, rfl, rfl, Nat.le_refl _, fun _ _ => rfl⟩).alloc (Nat.le_refl _) _
    refine ⟨_, _, rfl, ⟨⟨rfl, .inr ⟨w.heap.size, cap, cs, rfl, Nat.le_refl _, ?_, by omega, hle, by rw [HSZ.out], by simp [flatV]⟩⟩, by omega, fun z hz => by simp at hz⟩, hb⟩
    exact World.alloc_heap_new w.drew _
/-- The first k, one behind the other. -/
def flatT (tss : List (List Tm)) : Nat → List Tm
  | 0 => []
  | k + 1 => flatT tss k ++ tsAt tss k
theorem flatT_mono (tss : List (List Tm)) {i j : Nat} (h : i ≤ j) : (flatT tss i).length ≤ (flatT tss j).length := by
  induction j with
  | zero => obtain rfl : i = 0 := by omega
            exact Nat.le_refl _
  | succ j ih =>
    rcases Nat.lt_or_ge i (j + 1) with h' | h'
    · have := ih (by omega); simp only [flatT, List.length_append]; omega
    · obtain rfl : i = j + 1 := by omega
      exact Nat.le_refl _
set_option maxRecDepth 20000 in
set_option maxHeartbeats 1600000 in
theorem concatI_any (a : Option Addr) (n c : Nat) (rs : List Sl) (tss : List (List Tm)) (w : World) (h : TermsSS w a n rs tss) (hlen : (flatT tss n).length ≤ 1000000) (hn : n ≤ 1000) :
    Calls Try.prog 94 #[.slice a n c] w (MadeI w (flatT tss n)) := by
  go_enter Try.func94, Try.ntmps94
  go_wp2
  go_loop [3, 11] (fun q i => ∃ k : Nat, k ≤ n ∧ i = .int .i64 (k : Int) ∧ q = .int .i64 (((flatT tss k).length : Nat) : Int)) (fun _ i => n - (intOf i).toNat)
  case atStart => exact ⟨0, Nat.zero_le _, rfl, rfl⟩
  case round =>
    obtain ⟨k, hk, rfl, rfl⟩ := hrel
    by_cases hlt : k < n
    · obtain ⟨b, o, a1, n1, c1, rfl, hb, hsl, hc, hI⟩ := h.at_ hlt
      have hm := flatT_mono tss (show k + 1 ≤ n by omega)
      have he : (flatT tss (k + 1)).length = (flatT tss k).length + n1 := by rw [flatT, List.length_append, hI.1]
      obtain ⟨L, HL⟩ : ∃ L : Nat, Hid ((flatT tss k).length = L) := ⟨_, rfl⟩
      rw [HL.out] at he ⊢
      have hb2 : L + n1 ≤ 1000000 := by omega
      have hneg : decide ((L : Int) + (n1 : Int) < 0) = false := by simp; omega
      have HE := Lib.hid he
      clear hm he hI
      go_wp2
      go_round
      case rel => exact ⟨k + 1, by omega, by go_num, by rw [HE.out]; go_num⟩
      case measure => simp [intOf]; omega
    · obtain rfl : n = k := by omega
      obtain ⟨L, HL⟩ : ∃ L : Nat, Hid ((flatT tss n).length = L) := ⟨_, rfl⟩
      rw [HL.out] at hlen ⊢
      go_wp2_with fail
      refine (grow_nilI L _ (by omega)).mono ?_
      rintro e w1 ⟨ga, gc, rfl, hown, hb1⟩
      go_wp2
      go_loopw [6, 27] (fun s i wr => ∃ (k m d : Nat) (sa : Option Addr), k ≤ n ∧ i = .int .i64 (k : Int) ∧ s = .slice sa m d ∧ OwnI wr w.heap.size sa m d (flatT tss k) ∧ Below w.heap.size w wr) (fun _ i _ => n - (intOf i).toNat)
      case atStart => exact ⟨0, 0, gc, ga, Nat.zero_le _, rfl, rfl, hown, hb1⟩
      case round =>
        clear hown hb1
        obtain ⟨k, m, d, sa, hk2, rfl, rfl, hown, hbel⟩ := hrel
        by_cases hlt : k < n
        · obtain ⟨b, o, a1, n1, c1, rfl, hb, hsl, hc, hI⟩ := (h.below hbel).at_ hlt
          have hm := flatT_mono tss (show k + 1 ≤ n by omega)
          have he : (flatT tss (k + 1)).length = (flatT tss k).length + n1 := by rw [flatT, List.length_append, hI.1]
          have hml := hown.len
          have hsum : m + n1 ≤ 1048576 := by have := HL.out; omega
          have hB := hbel.size
          have HI := Lib.hid hI
          have HO := Lib.hid hown
          clear hm he hml
          go_wp2_with (at_builtin; refine wpList_concatI _ rfl _ _ rfl w.heap.size _ _ _ (flatT tss k) rfl HO.out _ _ _ (tsAt tss k) rfl HI.out hsum hB ?_)
          intro a8 c8 w8 hown8 hg8
          have hb8 := below_pushI hbel HO.out hB hg8
          have HO8 : Hid (OwnI w8 w.heap.size a8 (m + n1) c8 (flatT tss (k + 1))) := Lib.hid hown8
          clear hown8 hg8 hown HO HI hI hbel hB
          go_wp2
          go_roundw
          case rel => exact ⟨k + 1, m + n1, c8, a8, by omega, by go_num, rfl, HO8.out, hb8⟩
          case measure => simp [intOf]; omega
        · obtain rfl : n = k := by omega
          go_wp2
          go_ret
          exact ⟨_, _, _, rfl, hown, hbel⟩
theorem termsSS_two {w : World} {b : Nat} {t : TypeId} {x y : Sl} {ts us : List Tm} (hB : Blk w b t [slV x, slV y]) (h1 : Terms w x.1 x.2.1 ts) (h2 : Terms w y.1 y.2.1 us) : TermsSS w (some ⟨b, 0, none⟩) 2 [x, y] [ts, us] := by
  refine ⟨rfl, rfl, fun _ => ⟨b, 0, rfl, hB.lt, fun i hi => ?_⟩, fun i hi => ?_⟩
  · match i, hi with
    | 0, _ => exact hB.cell (j := 0) rfl
    | 1, _ => exact hB.cell (j := 1) rfl
  · match i, hi with
    | 0, _ => exact h1
    | 1, _ => exact h2
theorem flatT_two (ts us : List Tm) : flatT [ts, us] 2 = ts ++ us := rfl
set_option maxHeartbeats 800000 in
theorem inputsOf_any (r : PRow) (p : Prg) (w : World) (h : ProgAt w r p) (hl : p.lows.length + p.secrets.length ≤ 1000) :
    Calls Try.prog 56 #[progV r] w (MadeI w (p.lows ++ p.secrets)) := by
  obtain ⟨wd, ⟨a1, n1, c1⟩, ⟨a2, n2, c2⟩, tp, ⟨a3, n3, c3⟩, ⟨a4, n4, c4⟩, rows⟩ := r
  show Calls Try.prog 56 #[.agg #[.int .i64 wd, .slice a1 n1 c1, .slice a2 n2 c2, .int .i64 tp, .slice a3 n3 c3, .slice a4 n4 c4]] w _
  have h1 := Lib.hid h.lows
  have h2 := Lib.hid h.secrets
  simp only [] at h1 h2
  have HL : Hid ((flatT [p.lows, p.secrets] 2).length ≤ 1000000) := Lib.hid (by rw [flatT_two, List.length_append]; omega)
  clear h hl
  obtain ⟨wa, HW⟩ : ∃ wa, Hid (wa = (w.alloc (.cells #[.int .i64 wd, .slice a1 n1 c1, .slice a2 n2 c2, .int .i64 tp, .slice a3 n3 c3, .slice a4 n4 c4] 31)).alloc (.cells #[.slice a1 n1 c1, .slice a2 n2 c2] 27)) := ⟨_, rfl⟩
  have HB : Below w.heap.size w wa := by rw [HW.out]; exact ((Below.refl _ _).alloc (Nat.le_refl _) _).alloc (by simp) _
  have X : Blk wa (w.heap.size + 1) 27 [slV (a1, n1, c1), slV (a2, n2, c2)] := by
    rw [HW.out]
    simpa [slV] using Blk.new (w.alloc (.cells #[.int .i64 wd, .slice a1 n1 c1, .slice a2 n2 c2, .int .i64 tp, .slice a3 n3 c3, .slice a4 n4 c4] 31)) 27 [slV (a1, n1, c1), slV (a2, n2, c2)]
  have HT := Lib.hid (termsSS_two X (h1.out.below (Nat.le_refl _) HB) (h2.out.below (Nat.le_refl _) HB))
  clear X h1 h2
  go_enter Try.func56, Try.ntmps56
  go_wp2_with fail
  rw [← HW.out]
  refine (concatI_any _ 2 _ _ _ _ HT.out HL.out (by omega)).mono ?_
  rintro e w1 ⟨sa, sn, sc, rfl, ho, hb1⟩
  rw [flatT_two] at ho
  have HB1 := HB.trans (hb1.mono HB.size)
  have HO := Lib.hid (ho.base HB.size)
  clear ho hb1 HT HL HW
  go_wp2
  go_ret
  exact ⟨_, _, _, rfl, HO.out, HB1⟩
end Go.Proofs.Ytalcambmmbilkaa
/- The contract of the program's InputBits. -/
namespace Go.Proofs.Ytalcambmmbilkaa
open Go.RowKit

theorem implStart_no (r : PRow) (p : Prg) (a a' : Option Addr) (n c n' c' : Nat) (ls ss : List Int) (w : World) (h : ProgAt w r p) (hcap : r.body.2.1 ≤ r.body.2.2) (h1 : Ints w a n ls) (h2 : Ints w a' n' ss) (h0 : startB p ls ss = false) :
    Hid (∀ w', Below w.heap.size w w' → Calls Try.prog 33 #[progV r, .slice a n c, .slice a' n' c'] w' fun e w'' => e = .returned (.tuple #[.agg #[.slice none 0 0, .slice none 0 0], .bool false]) ∧ Below w'.heap.size w' w'') := Lib.hid (fun w' hb => implStartOf_no r p a a' n c n' c' ls ss w' (h.below hb) hcap (h1.below hb) (h2.below hb) h0)
theorem implStart_yes (r : PRow) (p : Prg) (a a' : Option Addr) (n c n' c' : Nat) (ls ss : List Int) (w : World) (h : ProgAt w r p) (hcap : r.body.2.1 ≤ r.body.2.2) (h1 : Ints w a n ls) (h2 : Ints w a' n' ss) (h0 : startB p ls ss = true) :
    Hid (∀ w', Below w.heap.size w w' → Calls Try.prog 33 #[progV r, .slice a n c, .slice a' n' c'] w' fun e w'' => ∃ er : ERow, e = .returned (.tuple #[envV er, .bool true]) ∧ EnvMem w'' w'.heap.size er (none, 0, 0) (startQ p ls ss) ∧ Below w'.heap.size w' w'') := Lib.hid (fun w' hb => implStartOf_yes r p a a' n c n' c' ls ss w' (h.below hb) hcap (h1.below hb) (h2.below hb) h0)
theorem bit_low (z : Int) (j : Nat) : (bits .and .i64 (z / 2 ^ j) 1 == 1) = bitZ z j := by
  have h := and_pow (z / 2 ^ j) 1 (by omega)
  have e1 : (((2 ^ 1 : Nat) : Int) - 1) = 1 := by decide
  have e2 : ((2 ^ 1 : Nat) : Int) = 2 := by decide
  rw [e1, e2] at h
  have e3 : ((2 ^ j : Nat) : Int) = (2 : Int) ^ j := by push_cast; rfl
  rw [h, bitZ, e3]
set_option maxRecDepth 20000 in
set_option maxHeartbeats 3200000 in
theorem implInputBits_any (r : PRow) (p : Prg) (a a' : Option Addr) (n c n' c' : Nat) (ls ss : List Int) (w : World) (h : ProgAt w r p) (hcap : r.body.2.1 ≤ r.body.2.2) (h1 : Ints w a n ls) (h2 : Ints w a' n' ss) :
    Calls Try.prog 28 #[progV r, .slice a n c, .slice a' n' c'] w (MadeB w (bitsB p ls ss)) := by
  cases h0 : startB p ls ss with
  | false =>
    have HS := implStart_no r p a a' n c n' c' ls ss w h hcap h1 h2 h0
    rw [bitsB, if_neg (by rw [h0]; decide)]
    clear h h1 h2 h0 hcap
    obtain ⟨wd, ⟨a1, n1, c1⟩, ⟨a2, n2, c2⟩, tp, ⟨a3, n3, c3⟩, ⟨a4, n4, c4⟩, rows⟩ := r
    simp only [progV, slV] at HS
    show Calls Try.prog 28 #[.agg #[.int .i64 wd, .slice a1 n1 c1, .slice a2 n2 c2, .int .i64 tp, .slice a3 n3 c3, .slice a4 n4 c4], .slice a n c, .slice a' n' c'] w _
    obtain ⟨wa, HW⟩ : ∃ wa, Hid (wa = w.alloc (.cells #[.int .i64 wd, .slice a1 n1 c1, .slice a2 n2 c2, .int .i64 tp, .slice a3 n3 c3, .slice a4 n4 c4] 31)) := ⟨_, rfl⟩
    have HB : Below w.heap.size w wa := by rw [HW.out]; exact (Below.refl _ _).alloc (Nat.le_refl _) _
    go_enter Try.func28, Try.ntmps28
    go_wp2_with fail
    rw [← HW.out]
    refine (HS.out _ HB).mono ?_
    rintro e w1 ⟨rfl, hb1⟩
    have HF := Lib.hid ((HB.trans (hb1.mono HB.size)).alloc (HB.trans (hb1.mono HB.size)).size (.cells #[.slice none 0 0, .slice none 0 0] 60))
    clear HB hb1 HS HW
    go_wp2
    go_ret
    exact ⟨_, _, _, rfl, ownB_nil _ _, HF.out⟩
  | true =>
    have HS := implStart_yes r p a a' n c n' c' ls ss w h hcap h1 h2 h0
    have hc0 := startB_ok h0
    obtain ⟨hL1, hL2, _, _⟩ := code_inputs hc0
    obtain ⟨hzl, hzi⟩ := start_in h0
    have HM : Hid (∀ w', Below w.heap.size w w' → Calls Try.prog 56 #[progV r] w' (MadeI w' (p.lows ++ p.secrets))) := Lib.hid (fun w' hw => inputsOf_any r p w' (h.below hw) (by omega))
    have HMX := Lib.hid (code_max hc0)
    have HZI := Lib.hid hzi
    rw [bitsB, if_pos h0]
    have hL6 : (maxesP p).length ≤ 6 := (code_max hc0).1
    have HZV : Hid (∀ k, k < (maxesP p).length → (startQ p ls ss).vars.getD k 0 = (ls ++ ss).getD k 0) := Lib.hid (fun k hk => by rw [startQ]; simp only []; exact getD_app_left (by omega))
    have HLV : Hid ((maxesP p).length ≤ (startQ p ls ss).vars.length) := Lib.hid (by rw [← hzl, startQ]; simp only [List.length_append]; omega)
    have HMV : Hid (∀ k, k < (maxesP p).length → (tmAt (p.lows ++ p.secrets) k).1 = (maxesP p).getD k 0) := Lib.hid (fun k hk => by rw [maxesP, maxesL_getD (by rw [maxesP_len] at hk; simpa using hk)])
    have HTL : Hid ((p.lows ++ p.secrets).length = (maxesP p).length) := Lib.hid (by rw [maxesP_len]; simp)
    clear h h1 h2 h0 hc0 hL1 hL2 hzl hzi hcap
    obtain ⟨ms, HMS⟩ : ∃ ms, Hid (maxesP p = ms) := ⟨_, Lib.hid rfl⟩
    obtain ⟨zs, HZS⟩ : ∃ zs, Hid (ls ++ ss = zs) := ⟨_, Lib.hid rfl⟩
    obtain ⟨ts, HTS⟩ : ∃ ts, Hid (p.lows ++ p.secrets = ts) := ⟨_, Lib.hid rfl⟩
    rw [HMS.out] at HMX HZI HZV HMV HTL HLV hL6 ⊢
    rw [HZS.out] at HZI HZV ⊢
    rw [HTS.out] at HM HMV HTL
    clear HMS HZS HTS
    obtain ⟨L, HLE⟩ : ∃ L, Hid (ms.length = L) := ⟨_, rfl⟩
    rw [HLE.out] at HZI HZV HMV HTL HLV hL6 ⊢
    obtain ⟨wd, ⟨a1, n1, c1⟩, ⟨a2, n2, c2⟩, tp, ⟨a3, n3, c3⟩, ⟨a4, n4, c4⟩, rows⟩ := r
    simp only [progV, slV] at HS HM
    show Calls Try.prog 28 #[.agg #[.int .i64 wd, .slice a1 n1 c1, .slice a2 n2 c2, .int .i64 tp, .slice a3 n3 c3, .slice a4 n4 c4], .slice a n c, .slice a' n' c'] w _
    obtain ⟨wa, HW⟩ : ∃ wa, Hid (wa = w.alloc (.cells #[.int .i64 wd, .slice a1 n1 c1, .slice a2 n2 c2, .int .i64 tp, .slice a3 n3 c3, .slice a4 n4 c4] 31)) := ⟨_, rfl⟩
    have B0 : Blk wa w.heap.size 31 [.int .i64 wd, .slice a1 n1 c1, .slice a2 n2 c2, .int .i64 tp, .slice a3 n3 c3, .slice a4 n4 c4] := by rw [HW.out]; exact Blk.new w _ _
    have HB : Below w.heap.size w wa := by rw [HW.out]; exact (Below.refl _ _).alloc (Nat.le_refl _) _
    go_enter Try.func28, Try.ntmps28
    go_wp2_with fail
    rw [← HW.out]
    refine (HS.out _ HB).mono ?_
    rintro e w1 ⟨⟨⟨va, vn, vc⟩, ⟨ca, cn, cc⟩, rws⟩, rfl, hm, hb1⟩
    simp only [envV, slV]
    obtain ⟨wb, HWB⟩ : ∃ wb, Hid (wb = w1.alloc (.cells #[.slice va vn vc, .slice ca cn cc] 60)) := ⟨_, rfl⟩
    have hbw : Below w1.heap.size w1 wb := by rw [HWB.out]; exact (Below.refl _ _).alloc (Nat.le_refl _) _
    have E1 : Blk wb w1.heap.size 60 [.slice va vn vc, .slice ca cn cc] := by rw [HWB.out]; exact Blk.new w1 _ _
    have HB1 := (HB.trans (hb1.mono HB.size)).trans (hbw.mono (HB.trans (hb1.mono HB.size)).size)
    have B1 := (B0.below hb1 B0.lt).below hbw (B0.below hb1 B0.lt).lt
    have hv := (hm.below hbw).vars
    have t0 := B1.cell (j := 0) rfl
    have t1 := B1.cell (j := 1) rfl
    have t2 := B1.cell (j := 2) rfl
    have t3 := B1.cell (j := 3) rfl
    have t4 := B1.cell (j := 4) rfl
    have t5 := B1.cell (j := 5) rfl
    rw [HWB.out] at t0 t1 t2 t3 t4 t5
    clear HB hb1 HS HW hbw B0 B1 hm
    go_wp2_with fail
    rw [← HWB.out]
    obtain ⟨k7, HK7⟩ : ∃ k7, Hid (w1.heap.size = k7) := ⟨_, rfl⟩
    rw [HK7.out] at E1 ⊢
    refine (HM.out _ HB1).mono ?_
    rintro e w2 ⟨ia, im, ic, rfl, hoi, hb2⟩
    have him : im = L := by rw [← hoi.len, HTL.out]
    subst him
    have HB2 := Lib.hid (HB1.trans (hb2.mono HB1.size))
    have HEV := Lib.hid (E1.below hb2 E1.lt)
    have HVV := Lib.hid (hv.below hb2).ints
    have HTT := Lib.hid hoi.terms
    clear t0 t1 t2 t3 t4 t5 HWB HK7 HM HB1 hv E1 hoi hb2
    go_wp2_with fail
    go_loopw [9, 25] (fun o i wr => ∃ (k m : Nat) (a : Option Addr) (c : Nat), k ≤ im ∧ i = .int .i64 (k : Int) ∧ o = .slice a m c ∧ OwnB wr w2.heap.size a m c (inBits ms zs k) ∧ Below w2.heap.size w2 wr) (fun _ i _ => im - (intOf i).toNat)
    case atStart => exact ⟨0, 0, _, _, Nat.zero_le _, rfl, rfl, ownB_nil _ _, Below.refl _ _⟩
    case round =>
      obtain ⟨k, mm, oa, oc, hk, rfl, rfl, hown, hbel⟩ := hrel
      by_cases hlt : k < im
      · obtain ⟨b1, o1, x, y, rfl, hbl1, hx, hin1, hin2, hc1, hc2⟩ := (HTT.out.below (Nat.le_refl _) hbel).at_ hlt
        have e0 := (HEV.out.below hbel HEV.out.lt).cell (j := 0) rfl
        have hxm := HMV.out k hlt
        rw [hx.out] at hxm
        simp only [] at hxm
        obtain ⟨m1, m2⟩ := HMX.out.2 k (by rw [HLE.out]; exact hlt)
        obtain ⟨z1, z2⟩ := HZI.out k hlt
        rw [← hxm] at m1 m2 z2
        have hb8 := bits8 m1 m2
        have hmm : mm ≤ 48 := by have := hown.len; have := inBits_len (zs := zs) HMX.out k (by rw [HLE.out]; omega); omega
        have HNX : Hid (inBits ms zs (k + 1) = inBits ms zs k ++ hiTo (zs.getD k 0) (bitsN x.toNat) (bitsN x.toNat)) := Lib.hid (by rw [inBits, ← hxm])
        obtain ⟨z, HZZ⟩ : ∃ z, Hid (zs.getD k 0 = z) := ⟨_, rfl⟩
        rw [HZZ.out] at z1 z2 HNX
        obtain ⟨b, HBN⟩ : ∃ b, Hid (bitsN x.toNat = b) := ⟨_, rfl⟩
        rw [HBN.out] at hb8 HNX
        have HL6 : Hid (∀ w', Calls Try.prog 62 #[.int .u64 x] w' fun e w'' => e = .returned (.int .i64 (b : Int)) ∧ w' = w'') := Lib.hid (fun w' => by rw [← HBN.out]; exact len64_any x w' m1 (by omega))
        have HOW := Lib.hid hown
        have HBE := Lib.hid hbel
        clear hown hbel hx hxm hin1 hin2 HBN
        go_wp2_with fail
        refine (HL6.out _).mono ?_
        rintro e w11 ⟨rfl, rfl⟩
        go_wp2_with fail
        obtain ⟨wo, HWO⟩ : ∃ wo, Hid (wo = wr.alloc (.cells #[.int .i64 x, .int .i64 y] 79)) := ⟨_, rfl⟩
        rw [← HWO.out]
        have hbo : Below wr.heap.size wr wo := by rw [HWO.out]; exact (Below.refl _ _).alloc (Nat.le_refl _) _
        have HRE : Hid (OwnB wo w2.heap.size oa mm oc (inBits ms zs k ++ hiTo z b 0)) := Lib.hid (by rw [hiTo_zero, List.append_nil]; exact HOW.out.below hbo)
        have HBO := Lib.hid (HBE.out.trans (hbo.mono HBE.out.size))
        clear hbo HWO HOW HBE e0 hc1 hc2
        go_loopw [9, 12] (fun o q wx => ∃ (i j : Nat) (a : Option Addr) (c : Nat), i + j = b ∧ q = .int .i64 ((j : Int) - 1) ∧ o = .slice a (mm + i) c ∧ Hid (OwnB wx w2.heap.size a (mm + i) c (inBits ms zs k ++ hiTo z b i)) ∧ Hid (Below w2.heap.size w2 wx)) (fun _ q _ => (intOf q + 1).toNat)
        case atStart => exact ⟨0, b, oa, oc, by omega, rfl, rfl, HRE, HBO⟩
        case round =>
          clear HRE HBO
          obtain ⟨i, j, pa, pc, hij, rfl, rfl, HPO, HPB⟩ := hrel
          rcases j with _ | j
          · obtain rfl : i = b := by omega
            have hoo := HPO.out
            rw [← HNX.out] at hoo
            have HOO := Lib.hid hoo
            have hneg : decide ((0 : Int) ≤ -1) = false := rfl
            clear HPO hoo
            go_wp2
            go_roundw
            case rel => exact ⟨k + 1, _, _, _, by omega, by go_num, rfl, HOO.out, HPB.out⟩
            case measure => simp [intOf]; omega
          · have ej : (((j + 1 : Nat) : Int) - 1) = (j : Int) := by omega
            rw [ej]
            have e0 := (HEV.out.below HPB.out HEV.out.lt).cell (j := 0) rfl
            have hvl : (startQ p ls ss).vars.length = vn := HVV.out.1
            have hkv : k < vn := by have := HLV.out; omega
            obtain ⟨b3, o3, z3, rfl, hbl3, hz3, _, hc3⟩ := (HVV.out.below HPB.out).at_ hkv
            have ez : z3 = z := by rw [hz3.out, HZV.out k hlt, HZZ.out]
            subst ez
            have HBT : Hid (hiTo z3 b (i + 1) = hiTo z3 b i ++ [bits .and .i64 (z3 / 2 ^ j) 1 == 1]) := Lib.hid (by rw [hiTo_succ, bit_low, show b - 1 - i = j by omega])
            have hBs := HPB.out.size
            have hon := HPO.out.alloc (.cells #[.bool (bits .and .i64 (z3 / 2 ^ j) 1 == 1)] 4)
            have hj8 : j < 8 := by omega
            clear ej hz3 hvl
            go_wp2_with (at_builtin; refine wpList_pushB _ rfl _ _ rfl w2.heap.size pa (mm + i) pc _ rfl hon _ (bits .and .i64 (z3 / 2 ^ j) 1 == 1) rfl (by simp) (by omega) (by simp; omega) ?_)
            intro a8 c8 w8 hown8 hg8
            rw [← HBT.out] at hown8
            have HO8 : Hid (OwnB w8 w2.heap.size a8 (mm + (i + 1)) c8 (inBits ms zs k ++ hiTo z3 b (i + 1))) := Lib.hid hown8
            have HB8 : Hid (Below w2.heap.size w2 w8) := Lib.hid ((HPB.out.alloc hBs _).grown hg8 (by simp; omega) (fun k hk => (hon.block k hk).1))
            clear hown8 hg8 hon HPO HPB hc3 hBs e0
            go_wp2
            go_roundw
            case rel => exact ⟨i + 1, j, a8, c8, by omega, rfl, rfl, HO8, HB8⟩
            case measure => simp [intOf]
      · obtain rfl : k = im := by omega
        have HF := Lib.hid (HB2.out.trans (hbel.mono HB2.out.size))
        have HO := Lib.hid (hown.base HB2.out.size)
        clear hbel hown
        go_wp2
        go_ret
        exact ⟨_, _, _, rfl, HO.out, HF.out⟩
end Go.Proofs.Ytalcambmmbilkaa
/- The contract of the program's NumberOf. -/
namespace Go.Proofs.Ytalcambmmbilkaa
open Go.RowKit Go.Shelf
attribute [local go_sem] Oper.semAt_some

/-- The number, place by place. -/
def foldN (ms zs : List Int) {L : Nat} (pre : List { j : Nat // j < L }) : Int := pre.foldl (fun q x => q * (ms.getD x.1 0 + 1) + zs.getD x.1 0) 0
theorem foldN_snoc (ms zs : List Int) {L : Nat} (pre : List { j : Nat // j < L }) (x : { j : Nat // j < L }) : foldN ms zs (pre ++ [x]) = foldN ms zs pre * (ms.getD x.1 0 + 1) + zs.getD x.1 0 := by simp [foldN]
theorem foldN_back {ms zs : List Int} {L : Nat} (hL : ms.length = L) : ∀ k, k ≤ L → foldN ms zs (backTo L k) = numFrom ms zs k
  | 0, _ => rfl
  | k + 1, h => by rw [backTo_succ (by omega), foldN_snoc, foldN_back hL k (by omega), numFrom, hL]
theorem foldN_in {ms zs : List Int} {L : Nat} (hL : ms.length = L) (hm : MaxOk ms) (hz : ∀ i, i < L → 0 ≤ zs.getD i 0 ∧ zs.getD i 0 ≤ ms.getD i 0) (pre : List { j : Nat // j < L }) : 0 ≤ foldN ms zs pre ∧ foldN ms zs pre < ((256 ^ pre.length : Nat) : Int) := by
  have : ∀ r : List { j : Nat // j < L }, 0 ≤ foldN ms zs r.reverse ∧ foldN ms zs r.reverse < ((256 ^ r.length : Nat) : Int) := by
    intro r
    induction r with
    | nil => simp [foldN]
    | cons x r ih =>
      rw [List.reverse_cons, foldN_snoc, List.length_cons]
      obtain ⟨h1, h2⟩ := ih
      obtain ⟨h3, h4⟩ := hm.2 x.1 (by rw [hL]; exact x.2)
      obtain ⟨h5, h6⟩ := hz x.1 x.2
      generalize foldN ms zs r.reverse = c at h1 h2 ⊢
      generalize ms.getD x.1 0 = m at h3 h4 h6 ⊢
      generalize zs.getD x.1 0 = z at h5 h6 ⊢
      have e1 : c * (m + 1) ≤ c * 256 := Int.mul_le_mul_of_nonneg_left (by omega) h1
      have e0 : 0 ≤ c * (m + 1) := Int.mul_nonneg h1 (by omega)
      rw [Nat.pow_succ, Int.natCast_mul]
      generalize ((256 ^ r.length : Nat) : Int) = t at h2 ⊢
      generalize c * (m + 1) = q at e0 e1 ⊢
      show 0 ≤ q + z ∧ q + z < t * 256
      omega
  have h := this pre.reverse
  rwa [List.reverse_reverse, List.length_reverse] at h
theorem foldN_small {ms zs : List Int} {L : Nat} (hL : ms.length = L) (hm : MaxOk ms) (hz : ∀ i, i < L → 0 ≤ zs.getD i 0 ∧ zs.getD i 0 ≤ ms.getD i 0) (pre : List { j : Nat // j < L }) (hp : pre.length < 6) : 0 ≤ foldN ms zs pre ∧ foldN ms zs pre < 1099511627776 := by
  obtain ⟨h1, h2⟩ := foldN_in hL hm hz pre
  have hp' : 256 ^ pre.length ≤ 256 ^ 5 := Nat.pow_le_pow_right (by omega) (by omega)
  have hq : ((256 ^ pre.length : Nat) : Int) ≤ ((256 ^ 5 : Nat) : Int) := Int.ofNat_le.2 hp'
  have he : ((256 ^ 5 : Nat) : Int) = 1099511627776 := by decide
  exact ⟨h1, by omega⟩
theorem ownSame {w w' : World} {B : Nat} {a : Option Addr} {n c : Nat} {zs : List Int} (h : Own w B a n c zs) (hs : ∀ g, (Value.slice a n c).ownBlock = some g → w'.heap[g]? = w.heap[g]?) : Own w' B a n c zs := by
  refine ⟨⟨h.1.1, ?_⟩, h.2⟩
  rcases h.1.2 with hn | ⟨g, cap, cur, e, hb, hg, r⟩
  · exact .inl hn
  · exact .inr ⟨g, cap, cur, e, hb, (hs g (by rw [e]; rfl)).trans hg, r⟩
set_option maxRecDepth 100000 in
set_option maxHeartbeats 4000000 in
theorem implNumberOf_any (r : PRow) (p : Prg) (a a' : Option Addr) (n c n' c' : Nat) (ls ss : List Int) (w : World) (h : ProgAt w r p) (hcap : r.body.2.1 ≤ r.body.2.2) (h1 : Ints w a n ls) (h2 : Ints w a' n' ss) :
    Calls Try.prog 27 #[progV r, .slice a n c, .slice a' n' c'] w fun e w' => e = .returned (.int .i64 (numB p ls ss)) ∧ Below w.heap.size w w' := by
  cases h0 : startB p ls ss with
  | false =>
    have HS := implStart_no r p a a' n c n' c' ls ss w h hcap h1 h2 h0
    rw [numB, if_neg (by rw [h0]; decide)]
    clear h h1 h2 h0 hcap
    obtain ⟨wd, ⟨a1, n1, c1⟩, ⟨a2, n2, c2⟩, tp, ⟨a3, n3, c3⟩, ⟨a4, n4, c4⟩, rows⟩ := r
    simp only [progV, slV] at HS
    show Calls Try.prog 27 #[.agg #[.int .i64 wd, .slice a1 n1 c1, .slice a2 n2 c2, .int .i64 tp, .slice a3 n3 c3, .slice a4 n4 c4], .slice a n c, .slice a' n' c'] w _
    obtain ⟨wa, HW⟩ : ∃ wa, Hid (wa = w.alloc (.cells #[.int .i64 wd, .slice a1 n1 c1, .slice a2 n2 c2, .int .i64 tp, .slice a3 n3 c3, .slice a4 n4 c4] 31)) := ⟨_, rfl⟩
    have HB : Below w.heap.size w wa := by rw [HW.out]; exact (Below.refl _ _).alloc (Nat.le_refl _) _
    go_enter Try.func27, Try.ntmps27
    go_wp2_with fail
    rw [← HW.out]
    refine (HS.out _ HB).mono ?_
    rintro e w1 ⟨rfl, hb1⟩
    have HF := Lib.hid ((HB.trans (hb1.mono HB.size)).alloc (HB.trans (hb1.mono HB.size)).size (.cells #[.slice none 0 0, .slice none 0 0] 60))
    clear HB hb1 HS HW
    go_wp2
    go_ret
    exact ⟨rfl, HF.out⟩
  | true =>
    have HS := implStart_yes r p a a' n c n' c' ls ss w h hcap h1 h2 h0
    have hc0 := startB_ok h0
    obtain ⟨hL1, hL2, _, _⟩ := code_inputs hc0
    obtain ⟨hzl, hzi⟩ := start_in h0
    have HM : Hid (∀ w', Below w.heap.size w w' → Calls Try.prog 56 #[progV r] w' (MadeI w' (p.lows ++ p.secrets))) := Lib.hid (fun w' hw => inputsOf_any r p w' (h.below hw) (by omega))
    have HMX := Lib.hid (code_max hc0)
    have HZI := Lib.hid hzi
    rw [numB, if_pos h0]
    have hL6 : (maxesP p).length ≤ 6 := (code_max hc0).1
    have HZV : Hid (∀ k, k < (maxesP p).length → (startQ p ls ss).vars.getD k 0 = (ls ++ ss).getD k 0) := Lib.hid (fun k hk => by rw [startQ]; simp only []; exact getD_app_left (by omega))
    have HLV : Hid ((maxesP p).length ≤ (startQ p ls ss).vars.length) := Lib.hid (by rw [← hzl, startQ]; simp only [List.length_append]; omega)
    have HMV : Hid (∀ k, k < (maxesP p).length → (tmAt (p.lows ++ p.secrets) k).1 = (maxesP p).getD k 0) := Lib.hid (fun k hk => by rw [maxesP, maxesL_getD (by rw [maxesP_len] at hk; simpa using hk)])
    have HTL : Hid ((p.lows ++ p.secrets).length = (maxesP p).length) := Lib.hid (by rw [maxesP_len]; simp)
    clear h h1 h2 h0 hc0 hL1 hL2 hzl hzi hcap
    obtain ⟨ms, HMS⟩ : ∃ ms, Hid (maxesP p = ms) := ⟨_, Lib.hid rfl⟩
    obtain ⟨zs, HZS⟩ : ∃ zs, Hid (ls ++ ss = zs) := ⟨_, Lib.hid rfl⟩
    obtain ⟨ts, HTS⟩ : ∃ ts, Hid (p.lows ++ p.secrets = ts) := ⟨_, Lib.hid rfl⟩
    rw [HMS.out] at HMX HZI HZV HMV HTL HLV hL6 ⊢
    rw [HZS.out] at HZI HZV ⊢
    rw [HTS.out] at HM HMV HTL
    clear HMS HZS HTS
    obtain ⟨L, HLE⟩ : ∃ L, Hid (ms.length = L) := ⟨_, rfl⟩
    rw [HLE.out] at HZI HZV HMV HTL HLV hL6 ⊢
    obtain ⟨wd, ⟨a1, n1, c1⟩, ⟨a2, n2, c2⟩, tp, ⟨a3, n3, c3⟩, ⟨a4, n4, c4⟩, rows⟩ := r
    simp only [progV, slV] at HS HM
    show Calls Try.prog 27 #[.agg #[.int .i64 wd, .slice a1 n1 c1, .slice a2 n2 c2, .int .i64 tp, .slice a3 n3 c3, .slice a4 n4 c4], .slice a n c, .slice a' n' c'] w _
    obtain ⟨wa, HW⟩ : ∃ wa, Hid (wa = w.alloc (.cells #[.int .i64 wd, .slice a1 n1 c1, .slice a2 n2 c2, .int .i64 tp, .slice a3 n3 c3, .slice a4 n4 c4] 31)) := ⟨_, rfl⟩
    have B0 : Blk wa w.heap.size 31 [.int .i64 wd, .slice a1 n1 c1, .slice a2 n2 c2, .int .i64 tp, .slice a3 n3 c3, .slice a4 n4 c4] := by rw [HW.out]; exact Blk.new w _ _
    have HB : Below w.heap.size w wa := by rw [HW.out]; exact (Below.refl _ _).alloc (Nat.le_refl _) _
    refine (callsIn_wide (n := 6)).1 ?_
    refine callsIn_of_wp_marks Try.func27 rfl trivial ?_ rfl
    simp only [Try.ntmps27, List.size_toArray, List.length_cons, List.length_nil, Nat.reduceAdd, Nat.reduceSub, Array.replicate_succ, Array.replicate_zero, List.push_toArray, List.append_toArray, List.nil_append, List.cons_append]
    gi_wp2_with fail
    rw [← HW.out]
    refine ⟨trivial, (callsIn_wide.2 (HS.out _ HB)).mono ?_⟩
    rintro e w1 ⟨⟨⟨va, vn, vc⟩, ⟨ca, cn, cc⟩, rws⟩, rfl, hm, hb1⟩
    simp only [envV, slV]
    obtain ⟨wb, HWB⟩ : ∃ wb, Hid (wb = (w1.alloc (.cells #[.slice va vn vc, .slice ca cn cc] 60)).alloc (.cells #[.int .i64 0] 2)) := ⟨_, rfl⟩
    have hbw : Below w1.heap.size w1 wb := by rw [HWB.out]; exact ((Below.refl _ _).alloc (Nat.le_refl _) _).alloc (by simp) _
    have E1 : Blk wb w1.heap.size 60 [.slice va vn vc, .slice ca cn cc] := by rw [HWB.out]; exact (Blk.new w1 _ _).alloc _
    have N1 : Blk wb (w1.heap.size + 1) 2 [.int .i64 0] := by rw [HWB.out]; simpa using Blk.new (w1.alloc (.cells #[.slice va vn vc, .slice ca cn cc] 60)) 2 [.int .i64 0]
    have HB1 := (HB.trans (hb1.mono HB.size)).trans (hbw.mono (HB.trans (hb1.mono HB.size)).size)
    have B1 := (B0.below hb1 B0.lt).below hbw (B0.below hb1 B0.lt).lt
    have hv := (hm.below hbw).vars
    have t0 := B1.cell (j := 0) rfl
    have t1 := B1.cell (j := 1) rfl
    have t2 := B1.cell (j := 2) rfl
    have t3 := B1.cell (j := 3) rfl
    have t4 := B1.cell (j := 4) rfl
    have t5 := B1.cell (j := 5) rfl
    rw [HWB.out] at t0 t1 t2 t3 t4 t5
    have hlw : w.heap.size ≤ w1.heap.size := (HB.trans (hb1.mono HB.size)).size
    obtain ⟨k7, HK7⟩ : ∃ k7, Hid (w1.heap.size = k7) := ⟨_, rfl⟩
    rw [HK7.out] at E1 N1 hlw
    have hvb : ∀ g, (Value.slice va vn vc).ownBlock = some g → g < k7 := fun g hg => by have := (hm.vars.block g hg).2; rw [HK7.out] at this; exact this
    clear HB hb1 HS HW hbw B0 B1 hm
    gi_wp2_with fail
    rw [← HWB.out, HK7.out]
    refine ⟨trivial, (callsIn_wide.2 (HM.out _ HB1)).mono ?_⟩
    rintro e w2 ⟨ia, im, ic, rfl, hoi, hb2⟩
    gi_wp2_with fail
    refine ⟨trivial, (backward_in _ ia im ic _).mono ?_⟩
    rintro e w3 ⟨rfl, rfl⟩
    gi_wp2_with fail
    have him : L = im := by rw [← hoi.len, HTL.out]
    subst him
    obtain ⟨W0, HW0⟩ : ∃ W0, Hid (W0 = w2.alloc (.cells #[.slice ia L ic] 27)) := ⟨_, rfl⟩
    have hb0 : Below w2.heap.size w2 W0 := by rw [HW0.out]; exact (Below.refl _ _).alloc (Nat.le_refl _) _
    have HBX : Blk W0 w2.heap.size 27 [.slice ia L ic] := by rw [HW0.out]; exact Blk.new w2 _ _
    have HOI := Lib.hid (hoi.below hb0)
    have hkb : k7 + 1 < wb.heap.size := N1.lt
    have hkw : wb.heap.size ≤ w2.heap.size := hb2.size
    have HEV := Lib.hid ((E1.below hb2 E1.lt).below hb0 (E1.below hb2 E1.lt).lt)
    have HN0 := Lib.hid ((N1.below hb2 N1.lt).below hb0 (N1.below hb2 N1.lt).lt)
    have HVV := Lib.hid ((hv.below hb2).below hb0)
    have HBE : Below w.heap.size w W0 := (HB1.trans (hb2.mono HB1.size)).trans (hb0.mono (HB1.trans (hb2.mono HB1.size)).size)
    rw [← HW0.out]
    obtain ⟨bs, HBS⟩ : ∃ bs, Hid (w2.heap.size = bs) := ⟨_, rfl⟩
    rw [HBS.out] at HBX hkw ⊢
    have hbsz : bs < W0.heap.size := HBX.lt
    clear hoi hb0 HW0 E1 N1 hv hb2 HB1 HM t0 t1 t2 t3 t4 t5 HWB HK7 HTL
    refine wpIn_rangeFunc_ownH (α := { j : Nat // j < L }) rfl (by omega) (gf := 97) (lb := #[.pointer (some ⟨bs, 0, none⟩)]) rfl trivial (enters_of Try.func97 (by kernel_rfl) rfl)
      (backward_stops 5 (by omega) bs L ic ia ts (KeepBut W0.heap.size (k7 + 1)) (KeepBut.refl _ _) (fun h k => h.trans k) W0
        (fun W W' hW hk => Blk.cell (show Blk W' bs 27 [.slice ia L ic] from ((hk.block bs hbsz (by omega)).trans (hW.block bs hbsz)).trans HBX) (j := 0) rfl)
        (fun W W' hW hk => (ownI_same (HOI.out.below hW) (fun g hg => hk.block g (by have := (HOI.out.block g hg).2; omega) (by have := (HOI.out.block g hg).1; omega))).terms))
      (fun h k => h.trans k) (fun W l o o' hl _ _ _ => KeepBut.put W o' hl) (Below.refl _ _) (fun _ => rfl)
      (fun pre W => Blk W (k7 + 1) 2 [.int .i64 (foldN ms zs pre)] ∧ KeepBut W0.heap.size (k7 + 1) W0 W)
      (fun _ _ _ => False)
      (fun s A B row hs hg hr => ⟨(hg.block (k7 + 1) hs.1.lt (fun e => by have := (hr _ e.symm).1; omega)).trans hs.1, hg.os.trans hs.2.os, hg.tape.trans hs.2.tape, hg.output.trans hs.2.output, Nat.le_trans hs.2.size hg.size, fun k hk hne => (hg.block k (Nat.lt_of_lt_of_le hk hs.2.size) (fun e => by have := (hr _ e.symm).1; omega)).trans (hs.2.block k hk hne)⟩)
      (fun _ _ _ _ _ hs _ _ => hs)
      ⟨HN0.out, KeepBut.refl _ _ _⟩
      (fun x act W => ∃ Bx, W0.heap.size ≤ Bx ∧ Blk W Bx 79 [.int .i64 (tmAt ts x.1).1, .int .i64 (tmAt ts x.1).2] ∧ act = { tmps := #[.agg #[.int .i64 wd, .slice a1 n1 c1, .slice a2 n2 c2, .int .i64 tp, .slice a3 n3 c3, .slice a4 n4 c4], .slice a n c, .slice a' n' c', .pointer (some ⟨w.heap.size, 0, none⟩), undef, undef, .int .i64 0, .pointer (some ⟨k7, 0, none⟩), .bool true, .pointer (some ⟨k7 + 1, 0, none⟩), .int .i64 (x.1 : Int), .pointer (some ⟨Bx, 0, none⟩), .tuple #[.agg #[.slice va vn vc, .slice ca cn cc], .bool true], .agg #[.int .i64 wd, .slice a1 n1 c1, .slice a2 n2 c2, .int .i64 tp, .slice a3 n3 c3, .slice a4 n4 c4], .slice a n c, .slice a' n' c', .tuple #[.agg #[.slice va vn vc, .slice ca cn cc], .bool true], .agg #[.slice va vn vc, .slice ca cn cc], .bool true, .bool true, .bool false, .agg #[.int .i64 wd, .slice a1 n1 c1, .slice a2 n2 c2, .int .i64 tp, .slice a3 n3 c3, .slice a4 n4 c4], .slice ia L ic, .func (.func 97) #[] #[.pointer (some ⟨bs, 0, none⟩)], .int .i64 (x.1 : Int), .agg #[.int .i64 (tmAt ts x.1).1, .int .i64 (tmAt ts x.1).2], undef, undef, undef, undef, undef, undef, undef, undef, undef, undef, undef, undef], defers := [] })
      (fun x a' _ X Y row hs hg hr => by
        obtain ⟨Bx, h1, h2, h3⟩ := hs
        refine ⟨Bx, h1, (hg.block Bx h2.lt (fun e => ?_)).trans h2, h3⟩
        obtain ⟨_, o, ho, hc⟩ := hr _ e.symm
        rw [show X.heap[Bx]? = _ from h2] at ho
        injection ho with ho
        subst ho
        cases hc)
      ?assign ?body ?done ?stop
    case assign =>
      rintro l pre x W K ⟨hn9, hk9⟩ hK
      simp only [encB]
      gi_wp2
      exact hK _ _ ((KeepsOthers.alloc _ _).from _) (KeepBut.of_below ((Below.refl _ W).alloc hk9.size _)) ⟨hn9.alloc _, hk9.trans (KeepBut.of_below ((Below.refl _ W).alloc hk9.size _))⟩ ⟨W.heap.size, hk9.size, Blk.new W 79 [.int .i64 (tmAt ts x.1).1, .int .i64 (tmAt ts x.1).2], rfl⟩
    case body =>
      rintro l pre ⟨j, hj⟩ act W hl _ ⟨hn9, hk9⟩ ⟨Bx, hBx, bX, rfl⟩ hlt
      simp only [] at bX hlt ⊢
      have hv : Own W wa.heap.size va vn vc (startQ p ls ss).vars := ownSame HVV.out (fun g hg => hk9.block g (by have := hvb g hg; omega) (by have := hvb g hg; omega))
      have e7 : Blk W k7 60 [.slice va vn vc, .slice ca cn cc] := (hk9.block k7 (by omega) (by omega)).trans HEV.out
      have hjv : j < vn := by have := HLV.out; have := HVV.out.len; omega
      obtain ⟨b3, o3, z, rfl, hbl3, hz3, _, hc3⟩ := hv.ints.at_ hjv
      have ez : z = zs.getD j 0 := by rw [hz3.out, HZV.out j hj]
      have em : (tmAt ts j).1 = ms.getD j 0 := HMV.out j hj
      obtain ⟨m1, m2⟩ := HMX.out.2 j (by rw [HLE.out]; exact hj)
      obtain ⟨z1, z2⟩ := HZI.out j hj
      obtain ⟨q1, q2⟩ := foldN_small HLE.out HMX.out HZI.out pre (by omega)
      have HST : Hid (foldN ms zs (pre ++ [⟨j, hj⟩]) = foldN ms zs pre * (ms.getD j 0 + 1) + zs.getD j 0) := Lib.hid (foldN_snoc ms zs pre ⟨j, hj⟩)
      rw [em] at bX ⊢
      rw [← ez] at z1 z2 HST
      obtain ⟨m, HM2⟩ : ∃ m, Hid (ms.getD j 0 = m) := ⟨_, rfl⟩
      rw [HM2.out] at m1 m2 z2 HST bX ⊢
      obtain ⟨Q, HQ⟩ : ∃ Q, Hid (foldN ms zs pre = Q) := ⟨_, rfl⟩
      rw [HQ.out] at q1 q2 HST hn9
      have hq3 : 0 ≤ Q * (m + 1) := Int.mul_nonneg q1 (by omega)
      have hq4 : Q * (m + 1) ≤ Q * 256 := Int.mul_le_mul_of_nonneg_left (by omega) q1
      have hq5 : Q * (m + 1) ≤ 281474976710656 := by omega
      have c9 := hn9.cell (j := 0) rfl
      have f9 := hn9.frozen 0
      have cx := bX.cell (j := 0) rfl
      have c7 := e7.cell (j := 0) rfl
      have HN9 := Lib.hid (hn9.set (j := 0) (.int .i64 (Q * (m + 1) + z)))
      have HK9 := Lib.hid hk9
      clear hq4 ez em hz3 hv e7 hn9 hk9
      gi_wp2
      refine inRound_tail 11 (by kernel_rfl) (by kernel_rfl) (by kernel_rfl) (fun h => by obtain ⟨_, _, h⟩ := h; exact h) ?_
      simp only [List.take_succ_cons, List.take_zero, List.drop_succ_cons, List.drop_zero]
      repeat still_step
      refine wpStill_nil ?_
      go_wp2
      have hset0 := KeepBut.set (n₀ := W0.heap.size) (b := k7 + 1) (j := 0) W (.int .i64 (Q * (m + 1) + z))
      have hset : KeepBut W0.heap.size (k7 + 1) W ((W.setCell ⟨k7 + 1, 0, none⟩ (.int .i64 (Q * (m + 1) + z))).drew) := ⟨hset0.os, hset0.tape, hset0.output, hset0.size, hset0.block⟩
      have hkf := (KeepsOthers.setCell W ⟨k7 + 1, 0, none⟩ (.int .i64 (Q * (m + 1) + z))).from W0.heap.size
      refine ⟨⟨hkf.size, hkf.same⟩, hset, ?_, HK9.out.trans hset⟩
      rw [HST.out]
      exact HN9.out
    case done =>
      rintro D ys W hD rfl ⟨hn9, hk9⟩ hK
      have c9 := hn9.cell (j := 0) rfl
      rw [foldN_back HLE.out L (Nat.le_refl _)] at c9
      have HF := Lib.hid (show Below w.heap.size w W from ⟨hk9.os.trans HBE.os, hk9.tape.trans HBE.tape, hk9.output.trans HBE.output, Nat.le_trans HBE.size hk9.size, fun k hk => (hk9.block k (by omega) (by omega)).trans (HBE.block k hk)⟩)
      have hDB : w.heap.size ≤ D := by omega
      gi_wp2
      refine ⟨by simp, .inl ⟨_, _, rfl, run_takeDeferred hK, ?_⟩⟩
      refine ⟨_, results_tmp rfl _ _ _, rfl, HF.out.trans ⟨rfl, rfl, rfl, by simp, fun k hk => World.putObj_heap_other (by omega)⟩⟩
    case stop =>
      rintro D c pre W _ _ h _
      exact h.elim
end Go.Proofs.Ytalcambmmbilkaa
