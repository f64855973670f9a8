/- Slices of bools: words; one more put behind; the laws' own helpers on them (eqBoolS, markBoolS, heldBoolS, toBoolS). -/
import Derived.Test.YtmooecbdpfhnlaaGreatJ13
namespace Go.Proofs.YtmooecbdpfhnlaaGreat
open Go.RowKit

def bAt (bs : List Bool) (i : Nat) : Bool := bs.getD i false
/-- The slice '.slice a n c' reads as the bools bs. -/
def Bools (w : World) (a : Option Addr) (n : Nat) (bs : List Bool) : Prop :=
  bs.length = n ∧ n ≤ 1048576 ∧ (0 < n → ∃ b o, a = some ⟨b, o, none⟩ ∧ b < w.heap.size ∧ ∀ i, i < n → w.cell? ⟨b, o + i, none⟩ = some (.bool (bAt bs i)))
theorem Bools.at_ {w : World} {a : Option Addr} {n : Nat} {bs : List Bool} {k : Nat} (h : Bools w a n bs) (hk : k < n) :
    ∃ b o z, a = some ⟨b, o, none⟩ ∧ b < w.heap.size ∧ Hid (z = bAt bs k) ∧ w.cell? ⟨b, o + k, none⟩ = some (.bool z) := by
  obtain ⟨hl, _, hc⟩ := h
  obtain ⟨b, o, rfl, hb, hcell⟩ := hc (by omega)
  exact ⟨b, o, _, rfl, hb, Lib.hid rfl, hcell k hk⟩
theorem Bools.below {w w' : World} {a : Option Addr} {n : Nat} {bs : List Bool} (h : Bools w a n bs) (hb : Below w.heap.size w w') : Bools w' a n bs := by
  obtain ⟨hl, hn, hc⟩ := h
  refine ⟨hl, hn, fun hp => ?_⟩
  obtain ⟨b, o, rfl, hbl, hcell⟩ := hc hp
  exact ⟨b, o, rfl, Nat.lt_of_lt_of_le hbl hb.size, fun i hi => (hb.cell (by exact hbl)).trans (hcell i hi)⟩
/-- .. of the call's own, from block B on. -/
def OwnB (w : World) (B : Nat) (a : Option Addr) (n c : Nat) (bs : List Bool) : Prop := w.ownsRow B 4 1 (.slice a n c) n (bs.map Value.bool) ∧ n ≤ 1048576
section
variable {w w' : World} {B : Nat} {a : Option Addr} {n c : Nat} {bs : List Bool} {row : Option Nat}
theorem OwnB.len (h : OwnB w B a n c bs) : bs.length = n := by have := h.1.1; simpa using this
theorem OwnB.reads (h : OwnB w B a n c bs) : Bools w a n bs := by
  have hlen := h.len
  obtain ⟨ho, hn⟩ := h
  refine ⟨hlen, hn, fun hp => ?_⟩
  rcases ho.2 with ⟨_, h0⟩ | ⟨g, cap, cur, e, _, hh, _⟩
  · exact absurd hp (by omega)
  · have ea : a = some ⟨g, 0, none⟩ := by injection e
    subst ea
    refine ⟨g, 0, rfl, (ho.lt g rfl).2, fun i hi => ?_⟩
    rw [Nat.zero_add, ho.cellAt i (by omega)]
    simp [bAt, List.getD_eq_getElem?_getD, List.getElem?_eq_getElem (show i < bs.length by omega)]
theorem OwnB.below (h : OwnB w B a n c bs) (hb : Below w.heap.size w w') : OwnB w' B a n c bs :=
  ⟨h.1.kept (row := none) ⟨hb.os, hb.tape, hb.output, hb.size, fun k hk _ => hb.block k hk⟩ (by cases a <;> simp [Value.ownBlock]), h.2⟩
theorem OwnB.base {B' : Nat} (h : OwnB w B a n c bs) (hB : B' ≤ B) : OwnB w B' a n c bs := by
  refine ⟨⟨h.1.1, ?_⟩, h.2⟩
  rcases h.1.2 with hn | ⟨g, cap, cur, e, hb, r⟩
  · exact .inl hn
  · exact .inr ⟨g, cap, cur, e, by omega, r⟩
theorem OwnB.alloc (h : OwnB w B a n c bs) (o : Obj) : OwnB (w.alloc o) B a n c bs := ⟨h.1.alloc o, h.2⟩
theorem OwnB.block (h : OwnB w B a n c bs) : ∀ g, (Value.slice a n c).ownBlock = some g → B ≤ g ∧ g < w.heap.size := h.1.lt
theorem OwnB.span {lo hi : Nat} (h : OwnB w B a n c bs) (hs : Span lo hi w w') (hB : hi ≤ B) : OwnB w' B a n c bs := ⟨ownsRow_span h.1 hs (fun g hg => .inr (Nat.le_trans hB (h.block g hg).1)), h.2⟩
theorem OwnB.inside {s : Sl} (h : OwnB w B s.1 s.2.1 s.2.2 bs) : SlIn B w.heap.size s := fun g hg => h.block g hg
theorem ownB_nil (w : World) (B : Nat) : OwnB w B none 0 0 [] := ⟨World.ownsRow_nil _ _ _ _, by omega⟩
theorem ownB_empty (w : World) (B : Nat) (hB : B ≤ w.heap.size) : OwnB (w.alloc (.cells #[] 4)) B (some ⟨w.heap.size, 0, none⟩) 0 0 [] :=
  ⟨World.ownsRow_lit w #[] 0 hB (by unfold maxLen; omega) rfl, by omega⟩
end
/-- What a function that makes a slice of the bools bs leaves. -/
def MadeB (w : World) (bs : List Bool) (e : Ending) (w' : World) : Prop :=
  ∃ a n c, e = .returned (.slice a n c) ∧ OwnB w' w.heap.size a n c bs ∧ Below w.heap.size w w'
theorem info_bool : (Tryz.prog.info? 4).map (fun i => (i.zero, i.size, i.bytes)) = some (some (.bool false), 1, 1) := by kernel_rfl
section
variable {w : World} {B g n cap : Nat} {bs : List Bool}
theorem ownB_cell (h : w.ownsRow B 4 1 (.slice (some ⟨g, 0, none⟩) n cap) n (bs.map Value.bool)) {k : Nat} (hk : k < n) : w.cell? ⟨g, k, none⟩ = some (.bool (bAt bs k)) := by
  have hl : bs.length = n := by have := h.1; simpa using this
  rw [h.cellAt k (by omega)]
  simp [bAt, List.getD_eq_getElem?_getD, List.getElem?_eq_getElem (show k < bs.length by omega)]
theorem ownB_put (h : w.ownsRow B 4 1 (.slice (some ⟨g, 0, none⟩) n cap) n (bs.map Value.bool)) (k : Nat) (z : Bool) :
    (w.setCell ⟨g, k, none⟩ (.bool z)).ownsRow B 4 1 (.slice (some ⟨g, 0, none⟩) n cap) n ((bs.set k z).map Value.bool) := by
  rw [List.map_set]; exact (h.stored k _).1
end
theorem wpList_pushB {ops : Array Oper} {rest : List Oper} {o : Oper} {ac : Act} {Q : Exit → Act → World → Prop} (w : World) (hgd : o.guard = none) (s x : Operand)
    (ho : o.op = .call { callee := .builtin .append, args := #[s, x], argTypes := #[39, 39] })
    (B : Nat) (a : Option Addr) (n c : Nat) (bs : List Bool) (hs : ac.eval s = .slice a n c) (hown : OwnB w B a n c bs)
    (g : Nat) (z : Bool) (hx : ac.eval x = .slice (some ⟨g, 0, none⟩) 1 1) (hc : w.cell? ⟨g, 0, none⟩ = some (.bool z)) (hn : n < 1048576) (hB : B ≤ w.heap.size)
    (h : ∀ a1 c1 w', OwnB w' B a1 (n + 1) c1 (bs ++ [z]) → w.grownBy w' (Value.slice a n c).ownBlock → wpList Tryz.prog ops Q rest (ac.put o.dst (.slice a1 (n + 1) c1)) w') : wpList Tryz.prog ops Q (o :: rest) ac w := by
  obtain ⟨i0, hi, hz0, hz1, hz2⟩ := info_parts info_bool
  refine wpList_append_own w hgd s x 39 ho B 4 i0 (.bool false) 1 1 Tryz.underlying39 hi hz0 hz1 hz2 rfl (by omega) (.slice a n c) n (bs.map Value.bool) hs hown.1
    ⟨g, 0, none⟩ 1 1 [.bool z] hx rfl ?_ ?_ ?_ ?_ hB ?_
  · intro j u hj
    match j, hj with
    | 0, hj => simp at hj; subst hj; simpa [Addr.add] using hc
  · intro u hu; simp at hu; subst hu; rfl
  · unfold maxLen; omega
  · omega
  · intro v' w' h1 h2 _
    have hf : ∃ a1 c1, v' = .slice a1 (n + 1) c1 := by
      rcases h1.2 with ⟨_, h0⟩ | ⟨g', cap, cur, e, _⟩
      · omega
      · exact ⟨_, _, e⟩
    obtain ⟨a1, c1, rfl⟩ := hf
    exact h a1 c1 w' ⟨by simpa using h1, by omega⟩ h2
/-- The first k are alike. -/
def EqB (xs ys : List Bool) (k : Nat) : Prop := ∀ i, i < k → bAt xs i = bAt ys i
theorem EqB.zero (xs ys : List Bool) : EqB xs ys 0 := fun i hi => absurd hi (by omega)
theorem EqB.succ {xs ys : List Bool} {k : Nat} {x y : Bool} (h : EqB xs ys k) (hx : Hid (x = bAt xs k)) (hy : Hid (y = bAt ys k)) (e : x = y) : EqB xs ys (k + 1) := by
  intro i hi
  rcases Nat.lt_or_ge i k with hlt | hge
  · exact h i hlt
  · have : i = k := by omega
    subst this; rw [← hx.out, ← hy.out]; exact e
/-- Marks. -/
def mB (k : Nat) : Bool := (k : Int) % 3 == 0
def marksB (k n : Nat) : List Bool := (List.range n).map (fun i : Nat => mB (k + i))
theorem marksB_len (k n : Nat) : (marksB k n).length = n := by simp [marksB]
theorem marksB_at (k n i : Nat) (h : i < n) : bAt (marksB k n) i = mB (k + i) := by simp [marksB, bAt, List.getD_eq_getElem?_getD, h]
def MarkB (bs : List Bool) (k j : Nat) : List Bool := marksB k j ++ bs.drop j
theorem markB_zero (bs : List Bool) (k : Nat) : MarkB bs k 0 = bs := by simp [MarkB, marksB]
theorem markB_all {bs : List Bool} {n : Nat} (k : Nat) (h : bs.length = n) : MarkB bs k n = marksB k n := by subst h; simp [MarkB]
theorem markB_succ {bs : List Bool} {n j : Nat} (k : Nat) (h : bs.length = n) (hj : j < n) : (MarkB bs k j).set j (mB (k + j)) = MarkB bs k (j + 1) := by
  subst h
  apply List.ext_getElem?
  intro i
  unfold MarkB marksB
  rw [List.getElem?_set]
  by_cases hi : j = i
  · subst hi
    have h1 : j < ((List.range j).map (fun i : Nat => mB (k + i)) ++ bs.drop j).length := by simp; omega
    rw [if_pos rfl, if_pos h1, List.getElem?_append_left (by simp)]
    simp
  · rw [if_neg hi]
    simp only [List.getElem?_append, List.length_map, List.length_range, List.getElem?_map, List.getElem?_drop]
    by_cases h1 : i < j
    · rw [if_pos h1, if_pos (show i < j + 1 by omega), List.getElem?_range h1, List.getElem?_range (show i < j + 1 by omega)]
    · rw [if_neg h1, if_neg (show ¬ i < j + 1 by omega), show j + (i - j) = j + 1 + (i - (j + 1)) by omega]
set_option maxHeartbeats 800000 in
theorem eqBoolS_same (a b : Option Addr) (n m c d : Nat) (xs : List Bool) (w : World) (hx : Bools w a n xs) (hy : Bools w b m xs) :
    Calls Tryz.prog 39 #[.slice a n c, .slice b m d] w fun e w' => e = .returned (.bool true) ∧ Below w.heap.size w w' := by
  obtain rfl : n = m := by rw [← hx.1, ← hy.1]
  have hbd := hx.2.1
  have hne0 : ((n : Int) != (n : Int)) = false := by simp
  go_enter Tryz.func39, Tryz.ntmps39
  go_wp2
  go_loopw [5] (fun i wr => ∃ k : Nat, k ≤ n ∧ i = .int .i64 k ∧ Below w.heap.size w wr) (fun i _ => n - (intOf i).toNat)
  case atStart => exact ⟨0, Nat.zero_le _, rfl, Below.refl _ _⟩
  case round =>
    obtain ⟨k, hk, rfl, hbel⟩ := hrel
    by_cases hlt : k < n
    · obtain ⟨b1, o1, x, rfl, hb1, hxk, hc1⟩ := (hx.below hbel).at_ hlt
      obtain ⟨b2, o2, y, rfl, hb2, hyk, hc2⟩ := (hy.below hbel).at_ hlt
      obtain rfl : x = y := by rw [hxk.out, hyk.out]
      have hxx : (x != x) = false := by cases x <;> rfl
      clear hxk hyk
      go_wp2
      go_quiet (fail)
      rename_i nq
      have HB := Lib.hid (hbel.trans ((show Below wr.heap.size wr (wr.drewN nq) from ⟨rfl, rfl, rfl, Nat.le_refl _, fun _ _ => rfl⟩).mono hbel.size))
      clear hbel
      go_wp2
      go_roundw
      case rel => exact ⟨k + 1, by omega, by go_num, HB.out⟩
      case measure => simp [intOf]; omega
    · obtain rfl : n = k := by omega
      go_wp2
      go_ret
      exact ⟨rfl, hbel⟩
set_option maxHeartbeats 800000 in
theorem markBoolS_any (a : Option Addr) (n c : Nat) (bs : List Bool) (k : Nat) (w : World) (B : Nat) (h : OwnB w B a n c bs) (hk : k ≤ 4194304) :
    Calls Tryz.prog 42 #[.slice a n c, .int .i64 (k : Int)] w fun e w' => e = .returned (.int .i64 ((k + n : Nat) : Int)) ∧ OwnB w' B a n c (marksB k n) ∧ w.grownBy w' (Value.slice a n c).ownBlock := by
  have HL := Lib.hid h.len
  have hbd := h.2
  go_enter Tryz.func42, Tryz.ntmps42
  go_wp2
  go_loopw [1, 5] (fun q i wr => ∃ j : Nat, j ≤ n ∧ i = .int .i64 j ∧ q = .int .i64 ((k + j : Nat) : Int) ∧ wr.ownsRow B 4 1 (.slice a n c) n ((MarkB bs k j).map Value.bool) ∧ w.grownBy wr (Value.slice a n c).ownBlock) (fun _ i _ => n - (intOf i).toNat)
  case atStart => exact ⟨0, Nat.zero_le _, rfl, rfl, by rw [markB_zero]; exact h.1, World.grownBy.refl _ _⟩
  case round =>
    obtain ⟨j, hj, rfl, rfl, hown, hgr⟩ := hrel
    by_cases hlt : j < n
    · obtain ⟨g, rfl⟩ : ∃ g, a = some ⟨g, 0, none⟩ := by
        rcases hown.2 with ⟨_, h0⟩ | ⟨g, cap, cur, e, _⟩
        · omega
        · exact ⟨g, by injection e⟩
      have hc2 := ownB_cell hown hlt
      generalize bAt (MarkB bs k j) j = y at hc2
      have hf2 := hown.frozenAt j
      have HO2 := ownB_put hown j (mB (k + j))
      rw [markB_succ k HL.out hlt] at HO2
      have hgr2 := (hown.stored j (.bool (mB (k + j)))).2
      have HG := Lib.hid (show w.grownBy (wr.setCell ⟨g, j, none⟩ (.bool (mB (k + j)))) (some g) from
        ⟨hgr2.os.trans hgr.os, hgr2.tape.trans hgr.tape, hgr2.output.trans hgr.output, Nat.le_trans hgr.size hgr2.size,
          fun b hb hne => (hgr2.block b (Nat.lt_of_lt_of_le hb hgr.size) hne).trans (hgr.block b hb hne)⟩)
      have HO3 := Lib.hid HO2
      clear hown hgr hgr2 HO2
      go_wp2
      go_roundw
      case rel => exact ⟨j + 1, by omega, by go_num, by go_num, HO3.out, HG.out⟩
      case measure => simp [intOf]; omega
    · obtain rfl : n = j := by omega
      go_wp2
      go_ret
      rw [markB_all k HL.out] at hown
      exact ⟨rfl, ⟨hown, hbd⟩, hgr⟩
end Go.Proofs.YtmooecbdpfhnlaaGreat
