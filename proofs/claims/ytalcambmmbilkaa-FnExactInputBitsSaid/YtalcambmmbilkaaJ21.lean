/- Joined texts of this proof (BoolCopies, BitMath, SpecBits, ConcatIn, ImplBits, BoolAns), in build order. -/
import Derived.Test.YtalcambmmbilkaaJ13
import Derived.Test.YtalcambmmbilkaaJ20
import Derived.Test.YtalcambmmbilkaaJ16
import Derived.Test.YtalcambmmbilkaaJ7
import Derived.Test.YtalcambmmbilkaaJ3
import Derived.Test.YtalcambmmbilkaaJ19
/- Slices of bools: words; one more put behind; the laws' own helpers on them (eqBoolS, markBoolS, heldBoolS, toBoolS). -/
namespace Go.Proofs.Ytalcambmmbilkaa
open Go.RowKit

def bAt (bs : List Bool) (i : Nat) : Bool := bs.getD i false
/-- The slice '.slice a n c' reads as the bools bs. -/
def Bools (w : World) (a : Option Addr) (n : Nat) (bs : List Bool) : Prop :=
  bs.length = n ∧ n ≤ 1048576 ∧ (0 < n → ∃ b o, a = some ⟨b, o, none⟩ ∧ b < w.heap.size ∧ ∀ i, i < n → w.cell? ⟨b, o + i, none⟩ = some (.bool (bAt bs i)))
theorem Bools.at_ {w : World} {a : Option Addr} {n : Nat} {bs : List Bool} {k : Nat} (h : Bools w a n bs) (hk : k < n) :
    ∃ b o z, a = some ⟨b, o, none⟩ ∧ b < w.heap.size ∧ Hid (z = bAt bs k) ∧ w.cell? ⟨b, o + k, none⟩ = some (.bool z) := by
  obtain ⟨hl, _, hc⟩ := h
  obtain ⟨b, o, rfl, hb, hcell⟩ := hc (by omega)
  exact ⟨b, o, _, rfl, hb, Lib.hid rfl, hcell k hk⟩
theorem Bools.below {w w' : World} {a : Option Addr} {n : Nat} {bs : List Bool} (h : Bools w a n bs) (hb : Below w.heap.size w w') : Bools w' a n bs := by
  obtain ⟨hl, hn, hc⟩ := h
  refine ⟨hl, hn, fun hp => ?_⟩
  obtain ⟨b, o, rfl, hbl, hcell⟩ := hc hp
  exact ⟨b, o, rfl, Nat.lt_of_lt_of_le hbl hb.size, fun i hi => (hb.cell (by exact hbl)).trans (hcell i hi)⟩
/-- .. of the call's own, from block B on. -/
def OwnB (w : World) (B : Nat) (a : Option Addr) (n c : Nat) (bs : List Bool) : Prop := w.ownsRow B 4 1 (.slice a n c) n (bs.map Value.bool) ∧ n ≤ 1048576
section
variable {w w' : World} {B : Nat} {a : Option Addr} {n c : Nat} {bs : List Bool} {row : Option Nat}
theorem OwnB.len (h : OwnB w B a n c bs) : bs.length = n := by have := h.1.1; simpa using this
theorem OwnB.reads (h : OwnB w B a n c bs) : Bools w a n bs := by
  have hlen := h.len
  obtain ⟨ho, hn⟩ := h
  refine ⟨hlen, hn, fun hp => ?_⟩
  rcases ho.2 with ⟨_, h0⟩ | ⟨g, cap, cur, e, _, hh, _⟩
  · exact absurd hp (by omega)
  · have ea : a = some ⟨g, 0, none⟩ := by injection e
    subst ea
    refine ⟨g, 0, rfl, (ho.lt g rfl).2, fun i hi => ?_⟩
    rw [Nat.zero_add, ho.cellAt i (by omega)]
    simp [bAt, List.getD_eq_getElem?_getD, List.getElem?_eq_getElem (show i < bs.length by omega)]
theorem OwnB.below (h : OwnB w B a n c bs) (hb : Below w.heap.size w w') : OwnB w' B a n c bs :=
  ⟨h.1.kept (row := none) ⟨hb.os, hb.tape, hb.output, hb.size, fun k hk _ => hb.block k hk⟩ (by cases a <;> simp [Value.ownBlock]), h.2⟩
theorem OwnB.base {B' : Nat} (h : OwnB w B a n c bs) (hB : B' ≤ B) : OwnB w B' a n c bs := by
  refine ⟨⟨h.1.1, ?_⟩, h.2⟩
  rcases h.1.2 with hn | ⟨g, cap, cur, e, hb, r⟩
  · exact .inl hn
  · exact .inr ⟨g, cap, cur, e, by omega, r⟩
theorem OwnB.alloc (h : OwnB w B a n c bs) (o : Obj) : OwnB (w.alloc o) B a n c bs := ⟨h.1.alloc o, h.2⟩
theorem OwnB.block (h : OwnB w B a n c bs) : ∀ g, (Value.slice a n c).ownBlock = some g → B ≤ g ∧ g < w.heap.size := h.1.lt
theorem OwnB.span {lo hi : Nat} (h : OwnB w B a n c bs) (hs : Span lo hi w w') (hB : hi ≤ B) : OwnB w' B a n c bs := ⟨ownsRow_span h.1 hs (fun g hg => .inr (Nat.le_trans hB (h.block g hg).1)), h.2⟩
theorem OwnB.inside {s : Sl} (h : OwnB w B s.1 s.2.1 s.2.2 bs) : SlIn B w.heap.size s := fun g hg => h.block g hg
theorem ownB_nil (w : World) (B : Nat) : OwnB w B none 0 0 [] := ⟨World.ownsRow_nil _ _ _ _, by omega⟩
theorem ownB_empty (w : World) (B : Nat) (hB : B ≤ w.heap.size) : OwnB (w.alloc (.cells #[] 4)) B (some ⟨w.heap.size, 0, none⟩) 0 0 [] :=
  ⟨World.ownsRow_lit w #[] 0 hB (by unfold maxLen; omega) rfl, by omega⟩
end
/-- What a function that makes a slice of the bools bs leaves. -/
def MadeB (w : World) (bs : List Bool) (e : Ending) (w' : World) : Prop :=
  ∃ a n c, e = .returned (.slice a n c) ∧ OwnB w' w.heap.size a n c bs ∧ Below w.heap.size w w'
theorem info_bool : (Try.prog.info? 4).map (fun i => (i.zero, i.size, i.bytes)) = some (some (.bool false), 1, 1) := by kernel_rfl
section
variable {w : World} {B g n cap : Nat} {bs : List Bool}
theorem ownB_cell (h : w.ownsRow B 4 1 (.slice (some ⟨g, 0, none⟩) n cap) n (bs.map Value.bool)) {k : Nat} (hk : k < n) : w.cell? ⟨g, k, none⟩ = some (.bool (bAt bs k)) := by
  have hl : bs.length = n := by have := h.1; simpa using this
  rw [h.cellAt k (by omega)]
  simp [bAt, List.getD_eq_getElem?_getD, List.getElem?_eq_getElem (show k < bs.length by omega)]
theorem ownB_put (h : w.ownsRow B 4 1 (.slice (some ⟨g, 0, none⟩) n cap) n (bs.map Value.bool)) (k : Nat) (z : Bool) :
    (w.setCell ⟨g, k, none⟩ (.bool z)).ownsRow B 4 1 (.slice (some ⟨g, 0, none⟩) n cap) n ((bs.set k z).map Value.bool) := by
  rw [List.map_set]; exact (h.stored k _).1
end
theorem wpList_pushB {ops : Array Oper} {rest : List Oper} {o : Oper} {ac : Act} {Q : Exit → Act → World → Prop} (w : World) (hgd : o.guard = none) (s x : Operand)
    (ho : o.op = .call { callee := .builtin .append, args := #[s, x], argTypes := #[51, 51] })
    (B : Nat) (a : Option Addr) (n c : Nat) (bs : List Bool) (hs : ac.eval s = .slice a n c) (hown : OwnB w B a n c bs)
    (g : Nat) (z : Bool) (hx : ac.eval x = .slice (some ⟨g, 0, none⟩) 1 1) (hc : w.cell? ⟨g, 0, none⟩ = some (.bool z)) (hn : n < 1048576) (hB : B ≤ w.heap.size)
    (h : ∀ a1 c1 w', OwnB w' B a1 (n + 1) c1 (bs ++ [z]) → w.grownBy w' (Value.slice a n c).ownBlock → wpList Try.prog ops Q rest (ac.put o.dst (.slice a1 (n + 1) c1)) w') : wpList Try.prog ops Q (o :: rest) ac w := by
  obtain ⟨i0, hi, hz0, hz1, hz2⟩ := info_parts info_bool
  refine wpList_append_own w hgd s x 51 ho B 4 i0 (.bool false) 1 1 Try.underlying51 hi hz0 hz1 hz2 rfl (by omega) (.slice a n c) n (bs.map Value.bool) hs hown.1
    ⟨g, 0, none⟩ 1 1 [.bool z] hx rfl ?_ ?_ ?_ ?_ hB ?_
  · intro j u hj
    match j, hj with
    | 0, hj => simp at hj; subst hj; simpa [Addr.add] using hc
  · intro u hu; simp at hu; subst hu; rfl
  · unfold maxLen; omega
  · omega
  · intro v' w' h1 h2 _
    have hf : ∃ a1 c1, v' = .slice a1 (n + 1) c1 := by
      rcases h1.2 with ⟨_, h0⟩ | ⟨g', cap, cur, e, _⟩
      · omega
      · exact ⟨_, _, e⟩
    obtain ⟨a1, c1, rfl⟩ := hf
    exact h a1 c1 w' ⟨by simpa using h1, by omega⟩ h2
/-- The first k are alike. -/
def EqB (xs ys : List Bool) (k : Nat) : Prop := ∀ i, i < k → bAt xs i = bAt ys i
theorem EqB.zero (xs ys : List Bool) : EqB xs ys 0 := fun i hi => absurd hi (by omega)
theorem EqB.succ {xs ys : List Bool} {k : Nat} {x y : Bool} (h : EqB xs ys k) (hx : Hid (x = bAt xs k)) (hy : Hid (y = bAt ys k)) (e : x = y) : EqB xs ys (k + 1) := by
  intro i hi
  rcases Nat.lt_or_ge i k with hlt | hge
  · exact h i hlt
  · have : i = k := by omega
    subst this; rw [← hx.out, ← hy.out]; exact e
/-- Marks. -/
def mB (k : Nat) : Bool := (k : Int) % 3 == 0
def marksB (k n : Nat) : List Bool := (List.range n).map (fun i : Nat => mB (k + i))
theorem marksB_len (k n : Nat) : (marksB k n).length = n := by simp [marksB]
theorem marksB_at (k n i : Nat) (h : i < n) : bAt (marksB k n) i = mB (k + i) := by simp [marksB, bAt, List.getD_eq_getElem?_getD, h]
def MarkB (bs : List Bool) (k j : Nat) : List Bool := marksB k j ++ bs.drop j
theorem markB_zero (bs : List Bool) (k : Nat) : MarkB bs k 0 = bs := by simp [MarkB, marksB]
theorem markB_all {bs : List Bool} {n : Nat} (k : Nat) (h : bs.length = n) : MarkB bs k n = marksB k n := by subst h; simp [MarkB]
theorem markB_succ {bs : List Bool} {n j : Nat} (k : Nat) (h : bs.length = n) (hj : j < n) : (MarkB bs k j).set j (mB (k + j)) = MarkB bs k (j + 1) := by
  subst h
  apply List.ext_getElem?
  intro i
  unfold MarkB marksB
  rw [List.getElem?_set]
  by_cases hi : j = i
  · subst hi
    have h1 : j < ((List.range j).map (fun i : Nat => mB (k + i)) ++ bs.drop j).length := by simp; omega
    rw [if_pos rfl, if_pos h1, List.getElem?_append_left (by simp)]
    simp
  · rw [if_neg hi]
    simp only [List.getElem?_append, List.length_map, List.length_range, List.getElem?_map, List.getElem?_drop]
    by_cases h1 : i < j
    · rw [if_pos h1, if_pos (show i < j + 1 by omega), List.getElem?_range h1, List.getElem?_range (show i < j + 1 by omega)]
    · rw [if_neg h1, if_neg (show ¬ i < j + 1 by omega), show j + (i - j) = j + 1 + (i - (j + 1)) by omega]
set_option maxHeartbeats 800000 in
theorem eqBoolS_same (a b : Option Addr) (n m c d : Nat) (xs : List Bool) (w : World) (hx : Bools w a n xs) (hy : Bools w b m xs) :
    Calls Try.prog 45 #[.slice a n c, .slice b m d] w fun e w' => e = .returned (.bool true) ∧ Below w.heap.size w w' := by
  obtain rfl : n = m := by rw [← hx.1, ← hy.1]
  have hbd := hx.2.1
  have hne0 : ((n : Int) != (n : Int)) = false := by simp
  go_enter Try.func45, Try.ntmps45
  go_wp2
  go_loopw [5] (fun i wr => ∃ k : Nat, k ≤ n ∧ i = .int .i64 k ∧ Below w.heap.size w wr) (fun i _ => n - (intOf i).toNat)
  case atStart => exact ⟨0, Nat.zero_le _, rfl, Below.refl _ _⟩
  case round =>
    obtain ⟨k, hk, rfl, hbel⟩ := hrel
    by_cases hlt : k < n
    · obtain ⟨b1, o1, x, rfl, hb1, hxk, hc1⟩ := (hx.below hbel).at_ hlt
      obtain ⟨b2, o2, y, rfl, hb2, hyk, hc2⟩ := (hy.below hbel).at_ hlt
      obtain rfl : x = y := by rw [hxk.out, hyk.out]
      have hxx : (x != x) = false := by cases x <;> rfl
      clear hxk hyk
      go_wp2
      go_quiet (fail)
      rename_i nq
      have HB := Lib.hid (hbel.trans ((show Below wr.heap.size wr (wr.drewN nq) from ⟨rfl, rfl, rfl, Nat.le_refl _, fun _ _ => rfl⟩).mono hbel.size))
      clear hbel
      go_wp2
      go_roundw
      case rel => exact ⟨k + 1, by omega, by go_num, HB.out⟩
      case measure => simp [intOf]; omega
    · obtain rfl : n = k := by omega
      go_wp2
      go_ret
      exact ⟨rfl, hbel⟩
set_option maxHeartbeats 800000 in
theorem markBoolS_any (a : Option Addr) (n c : Nat) (bs : List Bool) (k : Nat) (w : World) (B : Nat) (h : OwnB w B a n c bs) (hk : k ≤ 4194304) :
    Calls Try.prog 46 #[.slice a n c, .int .i64 (k : Int)] w fun e w' => e = .returned (.int .i64 ((k + n : Nat) : Int)) ∧ OwnB w' B a n c (marksB k n) ∧ w.grownBy w' (Value.slice a n c).ownBlock := by
  have HL := Lib.hid h.len
  have hbd := h.2
  go_enter Try.func46, Try.ntmps46
  go_wp2
  go_loopw [1, 5] (fun q i wr => ∃ j : Nat, j ≤ n ∧ i = .int .i64 j ∧ q = .int .i64 ((k + j : Nat) : Int) ∧ wr.ownsRow B 4 1 (.slice a n c) n ((MarkB bs k j).map Value.bool) ∧ w.grownBy wr (Value.slice a n c).ownBlock) (fun _ i _ => n - (intOf i).toNat)
  case atStart => exact ⟨0, Nat.zero_le _, rfl, rfl, by rw [markB_zero]; exact h.1, World.grownBy.refl _ _⟩
  case round =>
    obtain ⟨j, hj, rfl, rfl, hown, hgr⟩ := hrel
    by_cases hlt : j < n
    · obtain ⟨g, rfl⟩ : ∃ g, a = some ⟨g, 0, none⟩ := by
        rcases hown.2 with ⟨_, h0⟩ | ⟨g, cap, cur, e, _⟩
        · omega
        · exact ⟨g, by injection e⟩
      have hc2 := ownB_cell hown hlt
      generalize bAt (MarkB bs k j) j = y at hc2
      have hf2 := hown.frozenAt j
      have HO2 := ownB_put hown j (mB (k + j))
      rw [markB_succ k HL.out hlt] at HO2
      have hgr2 := (hown.stored j (.bool (mB (k + j)))).2
      have HG := Lib.hid (show w.grownBy (wr.setCell ⟨g, j, none⟩ (.bool (mB (k + j)))) (some g) from
        ⟨hgr2.os.trans hgr.os, hgr2.tape.trans hgr.tape, hgr2.output.trans hgr.output, Nat.le_trans hgr.size hgr2.size,
          fun b hb hne => (hgr2.block b (Nat.lt_of_lt_of_le hb hgr.size) hne).trans (hgr.block b hb hne)⟩)
      have HO3 := Lib.hid HO2
      clear hown hgr hgr2 HO2
      go_wp2
      go_roundw
      case rel => exact ⟨j + 1, by omega, by go_num, by go_num, HO3.out, HG.out⟩
      case measure => simp [intOf]; omega
    · obtain rfl : n = j := by omega
      go_wp2
      go_ret
      rw [markB_all k HL.out] at hown
      exact ⟨rfl, ⟨hown, hbd⟩, hgr⟩
set_option maxHeartbeats 800000 in
theorem heldBoolS_any (a : Option Addr) (n c : Nat) (k : Nat) (w : World) (h : Bools w a n (marksB k n)) (hk : k ≤ 4194304) :
    Calls Try.prog 47 #[.slice a n c, .int .i64 (k : Int)] w fun e w' => e = .returned (.int .i64 ((k + n : Nat) : Int)) ∧ Below w.heap.size w w' := by
  have hbd := h.2.1
  go_enter Try.func47, Try.ntmps47
  go_wp2
  go_loopw [1, 5] (fun q i wr => ∃ j : Nat, j ≤ n ∧ i = .int .i64 j ∧ q = .int .i64 ((k + j : Nat) : Int) ∧ Below w.heap.size w wr) (fun _ i _ => n - (intOf i).toNat)
  case atStart => exact ⟨0, Nat.zero_le _, rfl, rfl, Below.refl _ _⟩
  case round =>
    obtain ⟨j, hj, rfl, rfl, hbel⟩ := hrel
    by_cases hlt : j < n
    · obtain ⟨b, o, z, rfl, hb, hz, hc⟩ := (h.below hbel).at_ hlt
      have hz2 : z = mB (k + j) := by rw [hz.out, marksB_at _ _ _ hlt]
      subst hz2
      clear hz
      have hxx : (mB (k + j) != mB (k + j)) = false := by cases mB (k + j) <;> rfl
      unfold mB at hc hxx
      go_wp2
      go_roundw
      case rel => exact ⟨j + 1, by omega, by go_num, by go_num, hbel⟩
      case measure => simp [intOf]; omega
    · obtain rfl : n = j := by omega
      go_wp2
      go_ret
      exact ⟨rfl, hbel⟩
end Go.Proofs.Ytalcambmmbilkaa
/- The bits of an input: plain mathematics. -/
namespace Go.Proofs.Ytalcambmmbilkaa
open Go.RowKit

/-- The bit of z that counts 2 to the k. -/
def bitZ (z : Int) (k : Nat) : Bool := z / ((2 ^ k : Nat) : Int) % 2 == 1
/-- The first i of the b bits of z, the highest one first. -/
def hiTo (z : Int) (b i : Nat) : List Bool := (List.range i).map (fun j => bitZ z (b - 1 - j))
theorem hiTo_zero (z : Int) (b : Nat) : hiTo z b 0 = [] := rfl
theorem hiTo_succ (z : Int) (b i : Nat) : hiTo z b (i + 1) = hiTo z b i ++ [bitZ z (b - 1 - i)] := by simp [hiTo, List.range_succ]
theorem hiTo_len (z : Int) (b i : Nat) : (hiTo z b i).length = i := by simp [hiTo]
/-- The bits of the first k. -/
def inBits (ms zs : List Int) : Nat → List Bool
  | 0 => []
  | k + 1 => inBits ms zs k ++ hiTo (zs.getD k 0) (bitsN (ms.getD k 0).toNat) (bitsN (ms.getD k 0).toNat)
theorem bits8 {m : Int} (h0 : 0 ≤ m) (h1 : m ≤ 255) : bitsN m.toNat ≤ 8 := bitsN_le 8 _ (by omega)
theorem inBits_len {ms zs : List Int} (h : MaxOk ms) : ∀ k, k ≤ ms.length → (inBits ms zs k).length ≤ 8 * k
  | 0, _ => by simp [inBits]
  | k + 1, hk => by
    have := inBits_len (zs := zs) h k (by omega)
    obtain ⟨h1, h2⟩ := h.2 k (by omega)
    have := bits8 h1 h2
    simp only [inBits, List.length_append, hiTo_len]
    omega
/-- The unit of the i-th bit. -/
def unitN (b i : Nat) : Nat := 2 ^ (b - 1) / 2 ^ i
theorem unitN_zero (b : Nat) : unitN b 0 = 2 ^ (b - 1) := by simp [unitN]
theorem unitN_succ (b i : Nat) : unitN b (i + 1) = unitN b i / 2 := by rw [unitN, unitN, Nat.pow_succ, Nat.div_div_eq_div_mul]
theorem unitN_at {b i : Nat} (h : i < b) : unitN b i = 2 ^ (b - 1 - i) := by
  rw [unitN, Nat.pow_div (by omega) (by omega)]
theorem unitN_le {b i : Nat} (h : b ≤ 8) : unitN b i ≤ 128 := by
  have h1 : unitN b i ≤ 2 ^ (b - 1) := Nat.div_le_self _ _
  have h2 : 2 ^ (b - 1) ≤ 2 ^ 7 := Nat.pow_le_pow_right (by omega) (by omega)
  have h3 : 2 ^ 7 = 128 := by decide
  omega
theorem unitN_pos {b i : Nat} (h : i < b) : 0 < unitN b i := by rw [unitN_at h]; exact Nat.pow_pos (by omega)
/-- What InputBits tells. -/
noncomputable def bitsB (p : Prg) (ls ss : List Int) : List Bool := if startB p ls ss = true then inBits (maxesP p) (ls ++ ss) (maxesP p).length else []
theorem bitsB_len (p : Prg) (ls ss : List Int) : (bitsB p ls ss).length ≤ 48 := by
  unfold bitsB
  by_cases h : startB p ls ss = true
  · rw [if_pos h]
    have hm := code_max (startB_ok h)
    have := inBits_len (zs := ls ++ ss) hm _ (Nat.le_refl _)
    have := hm.1
    omega
  · rw [if_neg h]; simp
end Go.Proofs.Ytalcambmmbilkaa
/- The contract of the model's InputBits. -/
namespace Go.Proofs.Ytalcambmmbilkaa
open Go.RowKit

theorem OwnB.keep {w w' : World} {B : Nat} {a : Option Addr} {n c : Nat} {bs : List Bool} {row : Option Nat} (h : OwnB w B a n c bs) (hg : w.grownBy w' row) (hr : ∀ g, (Value.slice a n c).ownBlock = some g → row ≠ some g) : OwnB w' B a n c bs := by
  refine ⟨h.1.kept hg ?_, h.2⟩
  cases hv : (Value.slice a n c).ownBlock with
  | none => exact .inl rfl
  | some g => exact .inr fun e => hr g hv e.symm
set_option maxRecDepth 20000 in
set_option maxHeartbeats 3200000 in
theorem specInputBits_any (r : PRow) (p : Prg) (a a' : Option Addr) (n c n' c' : Nat) (ls ss : List Int) (w : World) (h : ProgAt w r p) (h1 : Ints w a n ls) (h2 : Ints w a' n' ss) :
    Calls Try.prog 44 #[progV r, .slice a n c, .slice a' n' c'] w (MadeB w (bitsB p ls ss)) := by
  cases h0 : startB p ls ss with
  | false =>
    have HS := specStart_no r p a a' n c n' c' ls ss w h h1 h2 h0
    rw [bitsB, if_neg (by rw [h0]; decide)]
    clear h h1 h2 h0
    obtain ⟨wd, ⟨a1, n1, c1⟩, ⟨a2, n2, c2⟩, tp, ⟨a3, n3, c3⟩, ⟨a4, n4, c4⟩, rows⟩ := r
    simp only [progV, slV] at HS
    show Calls Try.prog 44 #[.agg #[.int .i64 wd, .slice a1 n1 c1, .slice a2 n2 c2, .int .i64 tp, .slice a3 n3 c3, .slice a4 n4 c4], .slice a n c, .slice a' n' c'] w _
    obtain ⟨wa, HW⟩ : ∃ wa, Hid (wa = (w.alloc (.cells #[.int .i64 wd, .slice a1 n1 c1, .slice a2 n2 c2, .int .i64 tp, .slice a3 n3 c3, .slice a4 n4 c4] 31)).alloc (.cells #[] 4)) := ⟨_, rfl⟩
    have HB : Below w.heap.size w wa := by rw [HW.out]; exact ((Below.refl _ _).alloc (Nat.le_refl _) _).alloc (by simp) _
    have HO0 : Hid (OwnB wa w.heap.size (some ⟨w.heap.size + 1, 0, none⟩) 0 0 []) := Lib.hid (by rw [HW.out]; simpa using ownB_empty (w.alloc (.cells #[.int .i64 wd, .slice a1 n1 c1, .slice a2 n2 c2, .int .i64 tp, .slice a3 n3 c3, .slice a4 n4 c4] 31)) w.heap.size (by simp))
    go_enter Try.func44, Try.ntmps44
    go_wp2_with fail
    rw [← HW.out]
    refine (HS.out _ HB).mono ?_
    rintro e w1 ⟨rfl, hb1⟩
    have HF := Lib.hid ((HB.trans (hb1.mono HB.size)).alloc (HB.trans (hb1.mono HB.size)).size (.cells #[.slice none 0 0, .slice none 0 0] 60))
    have HOO := Lib.hid ((HO0.out.below hb1).alloc (.cells #[.slice none 0 0, .slice none 0 0] 60))
    clear HB hb1 HS HW
    go_wp2
    go_ret
    exact ⟨_, _, _, rfl, HOO.out, HF.out⟩
  | true =>
    have HS := specStart_yes r p a a' n c n' c' ls ss w h h1 h2 h0
    have hc0 := startB_ok h0
    obtain ⟨hL1, hL2, _, _⟩ := code_inputs hc0
    obtain ⟨hzl, hzi⟩ := start_in h0
    have HM : Hid (∀ w', Below w.heap.size w w' → Calls Try.prog 53 #[progV r] w' (MadeInts w' (maxesP p))) := Lib.hid (fun w' hw => l7Maxes_any r p w' (h.below hw) hL1 hL2)
    have HI1 := Lib.hid h1
    have HI2 := Lib.hid h2
    have HMX := Lib.hid (code_max hc0)
    have HZI := Lib.hid hzi
    have HZL := Lib.hid hzl
    have hn6 : n + n' ≤ 6 := by have := hzl; rw [List.length_append, h1.1, h2.1] at this; have := (code_max hc0).1; omega
    rw [bitsB, if_pos h0]
    have HLL : Hid ((maxesP p).length = n + n') := Lib.hid (by rw [← hzl, List.length_append, h1.1, h2.1])
    clear h h1 h2 h0 hc0 hL1 hL2 hzl hzi
    obtain ⟨ms, HMS⟩ : ∃ ms, Hid (maxesP p = ms) := ⟨_, Lib.hid rfl⟩
    rw [HMS.out] at HM HMX HZI HZL HLL ⊢
    clear HMS
    obtain ⟨L, HLE⟩ : ∃ L, Hid (n + n' = L) := ⟨_, rfl⟩
    have hn6' : n + n' ≤ 6 := hn6
    rw [HLE.out] at HLL hn6
    rw [HLL.out]
    obtain ⟨wd, ⟨a1, n1, c1⟩, ⟨a2, n2, c2⟩, tp, ⟨a3, n3, c3⟩, ⟨a4, n4, c4⟩, rows⟩ := r
    simp only [progV, slV] at HS HM
    show Calls Try.prog 44 #[.agg #[.int .i64 wd, .slice a1 n1 c1, .slice a2 n2 c2, .int .i64 tp, .slice a3 n3 c3, .slice a4 n4 c4], .slice a n c, .slice a' n' c'] w _
    obtain ⟨wa, HW⟩ : ∃ wa, Hid (wa = (w.alloc (.cells #[.int .i64 wd, .slice a1 n1 c1, .slice a2 n2 c2, .int .i64 tp, .slice a3 n3 c3, .slice a4 n4 c4] 31)).alloc (.cells #[] 4)) := ⟨_, rfl⟩
    have B0 : Blk wa w.heap.size 31 [.int .i64 wd, .slice a1 n1 c1, .slice a2 n2 c2, .int .i64 tp, .slice a3 n3 c3, .slice a4 n4 c4] := by rw [HW.out]; exact (Blk.new w _ _).alloc _
    have HB : Below w.heap.size w wa := by rw [HW.out]; exact ((Below.refl _ _).alloc (Nat.le_refl _) _).alloc (by simp) _
    have HO0 : Hid (OwnB wa w.heap.size (some ⟨w.heap.size + 1, 0, none⟩) 0 0 []) := Lib.hid (by rw [HW.out]; simpa using ownB_empty (w.alloc (.cells #[.int .i64 wd, .slice a1 n1 c1, .slice a2 n2 c2, .int .i64 tp, .slice a3 n3 c3, .slice a4 n4 c4] 31)) w.heap.size (by simp))
    go_enter Try.func44, Try.ntmps44
    go_wp2_with fail
    rw [← HW.out]
    refine (HS.out _ HB).mono ?_
    rintro e w1 ⟨⟨⟨va, vn, vc⟩, ⟨ca, cn, cc⟩, rws⟩, rfl, hm, hb1⟩
    simp only [envV, slV]
    clear hm
    obtain ⟨wb, HWB⟩ : ∃ wb, Hid (wb = w1.alloc (.cells #[.slice va vn vc, .slice ca cn cc] 60)) := ⟨_, rfl⟩
    have hbw : Below w1.heap.size w1 wb := by rw [HWB.out]; exact (Below.refl _ _).alloc (Nat.le_refl _) _
    have HB1 := (HB.trans (hb1.mono HB.size)).trans (hbw.mono (HB.trans (hb1.mono HB.size)).size)
    have B1 := (B0.below hb1 B0.lt).below hbw (B0.below hb1 B0.lt).lt
    obtain ⟨wc, HWC⟩ : ∃ wc, Hid (wc = wb.alloc (.cells #[] 2)) := ⟨_, rfl⟩
    have ho0 : Own wc w.heap.size (some ⟨wb.heap.size, 0, none⟩) 0 0 [] := by rw [HWC.out]; exact own_empty wb _ HB1.size
    have hbc : Below wb.heap.size wb wc := by rw [HWC.out]; exact (Below.refl _ _).alloc (Nat.le_refl _) _
    have HB2 := HB1.trans (hbc.mono HB1.size)
    have B2 := B1.below hbc B1.lt
    have hi1 := HI1.out.below HB2
    have hbsz := HB2.size
    have HSZ := Lib.hid (show w1.heap.size + 1 = wb.heap.size by rw [HWB.out]; simp)
    have HOB := Lib.hid ((HO0.out.below hb1).below hbw |>.below hbc)
    clear HB hb1 HS HW hbw B0 B1 HB1 hbc HO0
    go_wp2_with (at_builtin; rw [HSZ.out, ← HWB.out, ← HWC.out]; refine wpList_concat _ rfl _ _ rfl w.heap.size _ _ _ [] rfl ho0 _ _ _ ls rfl hi1 (by omega) hbsz ?_)
    intro a8 c8 w8 ho8 hg8
    have HB3 := below_push HB2 ho0 hbsz hg8
    have B3 := blk_stay B2 hg8 (fun e => blk_apart B2 ho0.1 (by decide) _ e rfl)
    have hi2 := HI2.out.below HB3
    have HOB2 : Hid (OwnB w8 w.heap.size (some ⟨w.heap.size + 1, 0, none⟩) 0 0 []) := Lib.hid (HOB.out.keep hg8 (fun g hgg e => own_kinds HOB.out.1 ho0.1 (by decide) hgg e))
    have hbsz3 := HB3.size
    have ho8 : Own w8 w.heap.size a8 n c8 ls := by simpa using ho8
    clear ho0 hg8 hi1 hbsz HB2 B2 HWB HWC
    go_wp2_with (at_builtin; refine wpList_concat _ rfl _ _ rfl w.heap.size a8 n c8 ls rfl ho8 _ _ _ ss rfl hi2 (by omega) hbsz3 ?_)
    intro a9 c9 w9 ho9 hg9
    have HB4 := below_push HB3 ho8 hbsz3 hg9
    have B4 := blk_stay B3 hg9 (fun e => blk_apart B3 ho8.1 (by decide) _ e rfl)
    have t0 := B4.cell (j := 0) rfl
    have t1 := B4.cell (j := 1) rfl
    have t2 := B4.cell (j := 2) rfl
    have t3 := B4.cell (j := 3) rfl
    have t4 := B4.cell (j := 4) rfl
    have t5 := B4.cell (j := 5) rfl
    have HO9 := Lib.hid ho9
    have HOB3 : Hid (OwnB w9 w.heap.size (some ⟨w.heap.size + 1, 0, none⟩) 0 0 []) := Lib.hid (HOB2.out.keep hg9 (fun g hgg e => own_kinds HOB2.out.1 ho8.1 (by decide) hgg e))
    clear ho8 hg9 hi2 hbsz3 HB3 B3 ho9
    go_wp2_with fail
    refine (HM.out _ HB4).mono ?_
    rintro e w10 ⟨ma, mn, mc, rfl, hom, hb10⟩
    have HOZ := HO9.out.below hb10
    have HB5 := HB4.trans (hb10.mono HB4.size)
    have HOB4 := Lib.hid (HOB3.out.below hb10)
    have hmn : L = mn := by rw [← hom.len, HLL.out]
    rw [HLE.out] at HOZ
    subst hmn
    rw [HLE.out]
    obtain ⟨Y, HY⟩ : ∃ Y, Hid (w9.heap.size = Y) := ⟨_, rfl⟩
    rw [HY.out] at hom
    have HOM := Lib.hid hom
    have HOZ := Lib.hid HOZ
    clear hom hb10 HB4 B4 t0 t1 t2 t3 t4 t5 HO9 HM HZL
    go_wp2_with fail
    go_loopw [7, 12] (fun o i wr => ∃ (k m : Nat) (a : Option Addr) (c : Nat), k ≤ L ∧ i = .int .i64 (k : Int) ∧ o = .slice a m c ∧ OwnB wr w.heap.size a m c (inBits ms (ls ++ ss) k) ∧ Below w.heap.size w wr ∧ Own wr Y ma L mc ms ∧ Own wr w.heap.size a9 L c9 (ls ++ ss)) (fun _ i _ => L - (intOf i).toNat)
    case atStart => exact ⟨0, 0, _, _, Nat.zero_le _, rfl, rfl, HOB4.out, HB5, HOM.out, HOZ.out⟩
    case round =>
      clear HB5 HOB4 HOM HOZ
      obtain ⟨k, mm, oa, oc, hk, rfl, rfl, hown, hbel, hom, hoz⟩ := hrel
      by_cases hlt : k < L
      · obtain ⟨b1, o1, m, rfl, hbl1, hm, hin1, hc1⟩ := hom.ints.at_ hlt
        obtain ⟨b2, o2, z, rfl, hbl2, hz, hin2, hc2⟩ := hoz.ints.at_ hlt
        obtain ⟨m1, m2⟩ := HMX.out.2 k (by rw [HLL.out]; exact hlt)
        obtain ⟨z1, z2⟩ := HZI.out k (by rw [HLL.out]; exact hlt)
        rw [← hm.out] at m1 m2 z2
        rw [← hz.out] at z1 z2
        have hb8 := bits8 m1 m2
        have hmm : mm ≤ 48 := by have := hown.len; have := inBits_len (zs := ls ++ ss) HMX.out k (by rw [HLL.out]; omega); omega
        have HNX : Hid (inBits ms (ls ++ ss) (k + 1) = inBits ms (ls ++ ss) k ++ hiTo z (bitsN m.toNat) (bitsN m.toNat)) := Lib.hid (by rw [inBits, ← hm.out, ← hz.out])
        have hl3 := l3Bits_any m
        obtain ⟨b, HBN⟩ : ∃ b, Hid (bitsN m.toNat = b) := ⟨_, rfl⟩
        rw [HBN.out] at hb8 HNX
        have HL3 : Hid (∀ w', Calls Try.prog 79 #[.int .i64 m] w' fun e w'' => e = .returned (.int .i64 (b : Int)) ∧ w' = w'') := Lib.hid (fun w' => by rw [← HBN.out]; exact hl3 w' hin1)
        obtain ⟨c0, hc0, hbc⟩ : ∃ c0 : Nat, c0 ≤ 1 ∧ b = b - 1 + c0 := by
          rcases Nat.eq_zero_or_pos b with h | h
          · exact ⟨0, by omega, by omega⟩
          · exact ⟨1, by omega, by omega⟩
        have HBC := Lib.hid hbc
        have HOW := Lib.hid hown
        have HBE := Lib.hid hbel
        have HOM := Lib.hid hom
        have HOZ := Lib.hid hoz
        have HZZ := Lib.hid hz.out
        clear hbc hown hbel hom hoz hm hz hin1 hin2 hl3 HBN
        go_wp2_with fail
        refine (HL3.out _).mono ?_
        rintro e w11 ⟨rfl, rfl⟩
        go_wp2_with fail
        go_loopw [13, 14] (fun u q wx => ∃ i j U : Nat, i + j = b - 1 ∧ Hid (2 ^ i = U) ∧ u = .int .i64 (U : Int) ∧ q = .int .i64 ((j + c0 : Nat) : Int) ∧ wr = wx) (fun _ q _ => (intOf q).toNat)
        case atStart => exact ⟨0, b - 1, 1, by omega, Lib.hid rfl, rfl, by congr 1; have := HBC.out; omega, rfl⟩
        case round =>
          obtain ⟨i, j, U, hij, HU, rfl, rfl, rfl⟩ := hrel
          rcases j with _ | j
          · simp only [Nat.zero_add]
            have hno2 : ¬ ((1 : Int) < (c0 : Int)) := by omega
            have HUN : Hid (U = unitN b 0) := Lib.hid (by rw [unitN_zero, ← HU.out]; congr 1)
            clear HU hij
            go_wp2_with fail
            refine (HL3.out _).mono ?_
            rintro e w11 ⟨rfl, rfl⟩
            have HRE : Hid (OwnB wr w.heap.size oa mm oc (inBits ms (ls ++ ss) k ++ hiTo z b 0)) := Lib.hid (by rw [hiTo_zero, List.append_nil]; exact HOW.out)
            go_wp2_with fail
            go_loopw [7, 13, 15] (fun o u q wx => ∃ (i j V : Nat) (a : Option Addr) (c : Nat), i + j = b ∧ V = unitN b i ∧ u = .int .i64 (V : Int) ∧ q = .int .i64 (j : Int) ∧ o = .slice a (mm + i) c ∧ Hid (OwnB wx w.heap.size a (mm + i) c (inBits ms (ls ++ ss) k ++ hiTo z b i)) ∧ Hid (Below w.heap.size w wx) ∧ Hid (Own wx Y (some ⟨b1, o1, none⟩) L mc ms) ∧ Hid (Own wx w.heap.size (some ⟨b2, o2, none⟩) L c9 (ls ++ ss))) (fun _ _ q _ => (intOf q).toNat)
            case atStart => exact ⟨0, b, U, oa, oc, by omega, HUN.out, rfl, rfl, rfl, HRE, HBE, HOM, HOZ⟩
            case round =>
              clear HUN HRE HOW HBE HOM HOZ hc1 hc2 hno2
              obtain ⟨i, j, V, pa, pc, hij, hV, rfl, rfl, rfl, HPO, HPB, HPM, HPZ⟩ := hrel
              rcases j with _ | j
              · obtain rfl : i = b := by omega
                have hoo := HPO.out
                rw [← HNX.out] at hoo
                have HOO := Lib.hid hoo
                clear HPO hV hoo
                go_wp2
                go_roundw
                case rel => exact ⟨k + 1, _, _, _, by omega, by go_num, rfl, HOO.out, HPB.out, HPM.out, HPZ.out⟩
                case measure => simp [intOf]; omega
              · have hib : i < b := by omega
                have hV0 : 0 < V := by rw [hV]; exact unitN_pos hib
                have hV8 : V ≤ 128 := by rw [hV]; exact unitN_le hb8
                have HBT : Hid (hiTo z b (i + 1) = hiTo z b i ++ [z / (V : Int) % 2 == 1]) := Lib.hid (by rw [hiTo_succ, bitZ, ← unitN_at hib, ← hV])
                have HVS : Hid (V / 2 = unitN b (i + 1)) := Lib.hid (by rw [unitN_succ, ← hV])
                obtain ⟨b3, o3, z3, e3, hbl3, hz3, _, hc3⟩ := HPZ.out.ints.at_ hlt
                have ez : z3 = z := by rw [hz3.out, HZZ.out]
                injection e3 with e3
                injection e3 with e31 e32
                subst ez e31 e32
                have hBs := HPB.out.size
                have hon := HPO.out.alloc (.cells #[.bool (z3 / (V : Int) % 2 == 1)] 4)
                have hVne : (V : Int) ≠ 0 := by omega
                have hq0 : 0 ≤ z3 / (V : Int) := Int.ediv_nonneg z1 (by omega)
                clear hz3 hV
                go_wp2_with (at_builtin; refine wpList_pushB _ rfl _ _ rfl w.heap.size pa (mm + i) pc _ rfl hon _ (z3 / (V : Int) % 2 == 1) rfl (by simp) (by omega) (by simp; omega) ?_)
                intro a8 c8 w8 hown8 hg8
                rw [← HBT.out] at hown8
                have HO8 : Hid (OwnB w8 w.heap.size a8 (mm + (i + 1)) c8 (inBits ms (ls ++ ss) k ++ hiTo z3 b (i + 1))) := Lib.hid hown8
                have HB8 : Hid (Below w.heap.size w w8) := Lib.hid ((HPB.out.alloc hBs _).grown hg8 (by simp; omega) (fun k hk => (hon.block k hk).1))
                have HM8 := Lib.hid ((HPM.out.alloc (.cells #[.bool (z3 / (V : Int) % 2 == 1)] 4)).keep hg8 (fun g hgg e => own_kinds (HPM.out.alloc _).1 hon.1 (by decide) hgg e))
                have HZ8 := Lib.hid ((HPZ.out.alloc (.cells #[.bool (z3 / (V : Int) % 2 == 1)] 4)).keep hg8 (fun g hgg e => own_kinds (HPZ.out.alloc _).1 hon.1 (by decide) hgg e))
                clear hown8 hg8 hon HPO HPB HPM HPZ hq0 hVne hc3 hBs
                go_wp2
                go_roundw
                case rel => exact ⟨i + 1, j, V / 2, a8, c8, by omega, HVS.out, by go_num, by go_num, rfl, HO8, HB8, HM8, HZ8⟩
                case measure => simp [intOf]
          · have hc1' : c0 = 1 := by have := HBC.out; omega
            subst hc1'
            have hU8 : U ≤ 128 := by
              rw [← HU.out]
              have : 2 ^ i ≤ 2 ^ 7 := Nat.pow_le_pow_right (by omega) (by omega)
              have h3 : 2 ^ 7 = 128 := by decide
              omega
            have HU2 : Hid (2 ^ (i + 1) = U * 2) := Lib.hid (by rw [Nat.pow_succ, HU.out])
            go_wp2
            go_roundw
            case rel => exact ⟨i + 1, j, U * 2, by omega, HU2, by go_num, by go_num, by first | rfl | trivial⟩
            case measure => simp [intOf]; omega
      · obtain rfl : k = L := by omega
        have HF := Lib.hid hbel
        have HO := Lib.hid hown
        clear hbel hown
        go_wp2
        go_ret
        exact ⟨_, _, _, rfl, HO.out, HF.out⟩
end Go.Proofs.Ytalcambmmbilkaa
/- The contracts of the library's slices.Grow (onto nothing) and slices.Concat at Inputs, and of the program's inputsOf. -/
namespace Go.Proofs.Ytalcambmmbilkaa
open Go.RowKit

theorem ownI_nil (w : World) (B : Nat) : OwnI w B none 0 0 [] := ⟨World.ownsRow_nil _ _ _ _, by omega, fun z hz => by simp at hz⟩
theorem run_append_nothingI (w : World) (ty : TypeId) (v : Value) (B n : Nat) (xs : List Value) (hown : w.ownsRow B 79 2 v n xs) (c : Nat) : (Builtin.append_ #[27, 27] ty #[v, .slice none 0 c]).run Try.prog w = .ok v w := by
  obtain ⟨i0, hi, hz0, hz1, hz2⟩ := info_parts info_input
  rcases hown.2 with ⟨rfl, rfl⟩ | ⟨g, cap, cur, rfl, _, _, hnc, _⟩
  · simp [Builtin.append_, run_underlying Try.underlying27, sizeOf, typeInfo, hi, Builtin.lenOf, Builtin.firstCells]
  · simp [Builtin.append_, run_underlying Try.underlying27, sizeOf, typeInfo, hi, Builtin.lenOf, Builtin.firstCells, hnc, storeCells]
set_option maxRecDepth 100000 in
/-- 'append(out, xs...)' of Inputs: out a row of the call's own, xs whatever slice of them. -/
theorem wpList_concatI {ops : Array Oper} {rest : List Oper} {o : Oper} {ac : Act} {Q : Exit → Act → World → Prop} (w : World) (hgd : o.guard = none) (s x : Operand)
    (ho : o.op = .call { callee := .builtin .append, args := #[s, x], argTypes := #[27, 27] })
    (B : Nat) (a : Option Addr) (n c : Nat) (ts : List Tm) (hs : ac.eval s = .slice a n c) (hown : OwnI w B a n c ts)
    (a2 : Option Addr) (m c2 : Nat) (us : List Tm) (hx : ac.eval x = .slice a2 m c2) (hi2 : Terms w a2 m us) (hn : n + m ≤ 1048576) (hB : B ≤ w.heap.size)
    (h : ∀ a1 c1 w', OwnI w' B a1 (n + m) c1 (ts ++ us) → w.grownBy w' (Value.slice a n c).ownBlock → wpList Try.prog ops Q rest (ac.put o.dst (.slice a1 (n + m) c1)) w') : wpList Try.prog ops Q (o :: rest) ac w := by
  have hin : ∀ y ∈ ts ++ us, InTm y := fun y hy => by
    rcases List.mem_append.1 hy with hy | hy
    · exact hown.2.2 y hy
    · exact hi2.2.2.1 y hy
  cases a2 with
  | none =>
    have hm : m = 0 := by
      rcases Nat.eq_zero_or_pos m with h0 | h0
      · exact h0
      · obtain ⟨b, o', e, _⟩ := hi2.2.2.2 h0
        cases e
    subst hm
    have hys : us = [] := List.eq_nil_of_length_eq_zero hi2.1
    subst hys
    refine wpList_plain hgd fun K hK' => ?_
    have hrun := run_append_nothingI w o.type (.slice a n c) B n _ hown.1 c2
    unfold Oper.wp
    simp [execOp, ho, resolve, invoke, builtin, hs, hx, hrun, Result.andThen]
    exact hK' _ _ (by simpa using h a c w (by simpa using hown) (World.grownBy.refl _ _))
  | some ad =>
    obtain ⟨i0, hi, hz0, hz1, hz2⟩ := info_parts info_input
    have hl := hi2.1
    refine wpList_append_own w hgd s x 27 ho B 79 i0 (.agg #[.int .i64 0, .int .i64 0]) 2 16 Try.underlying27 hi hz0 hz1 hz2 rfl (by omega) (.slice a n c) n (flatV ts) hs hown.1
      ad m c2 (flatV us) hx (by rw [flatV_len, hl]) ?_ (flatV_one us) ?_ ?_ hB ?_
    · intro j u hj
      have hjl : j < (flatV us).length := (List.getElem?_eq_some_iff.1 hj).1
      rw [flatV_len] at hjl
      obtain ⟨b, off, e, _, hc⟩ := hi2.2.2.2 (by omega)
      injection e with e
      subst e
      exact terms_news hi2 j u hj
    · unfold maxLen; omega
    · omega
    · intro v' w' h1 h2 _
      have hf : ∃ a1 c1, v' = .slice a1 (n + m) c1 := by
        rcases h1.2 with ⟨e, h0⟩ | ⟨g', cap, cur, e, _⟩
        · exact ⟨none, 0, by rw [e, h0]⟩
        · exact ⟨_, _, e⟩
      obtain ⟨a1, c1, rfl⟩ := hf
      exact h a1 c1 w' ⟨by rw [flatV_append]; exact h1, hn, hin⟩ h2
/-- Of Inputs: an append into the call's own row keeps what is below. -/
theorem below_pushI {w v w' : World} {B : Nat} {a : Option Addr} {n c : Nat} {ts : List Tm} (hb : Below B w v) (hown : OwnI v B a n c ts) (hB : B ≤ v.heap.size) (hg : v.grownBy w' (Value.slice a n c).ownBlock) : Below B w w' :=
  hb.grown hg hB (fun k hk => (hown.block k hk).1)
set_option maxHeartbeats 800000 in
theorem grow_nilI (n : Nat) (w : World) (hn : n ≤ 1048576) :
    Calls Try.prog 119 #[.slice none 0 0, .int .i64 (n : Int)] w fun e w' => ∃ a c, e = .returned (.slice a 0 c) ∧ OwnI w' w.heap.size a 0 c [] ∧ Below w.heap.size w w' := by
  obtain ⟨i0, hi, hz0, hz1, hz2⟩ := info_parts info_input
  by_cases h0 : n = 0
  · subst h0
    clear hi hz0 hz1 hz2
    go_enter Try.func119, Try.ntmps119
    go_wp2
    go_ret
    exact ⟨_, _, rfl, ownI_nil _ _, Below.refl _ _⟩
  · have hpos : decide ((n : Int) > 0) = true := by simp; omega
    have hneg : decide ((n : Int) < 0) = false := by simp
    have HRUN : Hid (∀ ty, (Builtin.append_ #[27, 3] ty #[.slice none 0 0, .int .i64 (n : Int)]).run Try.prog w = .ok (.slice (some ⟨w.heap.size, 0, none⟩) n (grownCap w n 0 79)) (w.drew.alloc (.cells (Builtin.zeroCells (Value.agg #[.int .i64 0, .int .i64 0]).cells n ++ Builtin.zeroCells (Value.agg #[.int .i64 0, .int .i64 0]).cells (grownCap w n 0 79 - n)) 79))) := Lib.hid (fun ty => Go.Lib.run_append_nil_zeros w _ _ ty 79 i0 (.agg #[.int .i64 0, .int .i64 0]) .i64 .i64 Try.underlying27 under_int hi hz0 n (by omega) (by rw [hz1]; omega) (by omega) (by rw [hz2]; omega))
    have hge := grownCap_ge w n 0 79
    have hle := grownCap_le_maxLen w n 0 79 (by unfold maxLen; omega)
    have HSZ : Hid ((Builtin.zeroCells (Value.agg #[.int .i64 0, .int .i64 0]).cells n ++ Builtin.zeroCells (Value.agg #[.int .i64 0, .int .i64 0]).cells (grownCap w n 0 79 - n)).size = grownCap w n 0 79 * 2) := Lib.hid (by simp [Builtin.zeroCells, Value.cells]; omega)
    obtain ⟨cs, HCS⟩ : ∃ cs : Array Value, Hid (Builtin.zeroCells (Value.agg #[.int .i64 0, .int .i64 0]).cells n ++ Builtin.zeroCells (Value.agg #[.int .i64 0, .int .i64 0]).cells (grownCap w n 0 79 - n) = cs) := ⟨_, rfl⟩
    obtain ⟨cap, HCAP⟩ : ∃ cap, Hid (grownCap w n 0 79 = cap) := ⟨_, rfl⟩
    rw [HCS.out] at HRUN HSZ
    rw [HCAP.out] at HRUN HSZ hge hle
    clear hi hz0 hz1 hz2 HCS HCAP
    go_enter Try.func119, Try.ntmps119
    go_wp2_with (at_builtin; refine Go.Lib.wpList_append_run _ rfl _ _ 27 3 rfl (.slice none 0 0) (.int .i64 (n : Int)) rfl rfl _ _ (HRUN.out _) ?_)
    go_ret
    have hb : Below w.heap.size w (w.drew.alloc (.cells cs 79)) := (show Below w.heap.size w w.drew from ⟨rfl, rfl, rfl, Nat.le_refl _, fun _ _ => rfl⟩).alloc (Nat.le_refl _) _
    refine ⟨_, _, rfl, ⟨⟨rfl, .inr ⟨w.heap.size, cap, cs, rfl, Nat.le_refl _, ?_, by omega, hle, by rw [HSZ.out], by simp [flatV]⟩⟩, by omega, fun z hz => by simp at hz⟩, hb⟩
    exact World.alloc_heap_new w.drew _
/-- The first k, one behind the other. -/
def flatT (tss : List (List Tm)) : Nat → List Tm
  | 0 => []
  | k + 1 => flatT tss k ++ tsAt tss k
theorem flatT_mono (tss : List (List Tm)) {i j : Nat} (h : i ≤ j) : (flatT tss i).length ≤ (flatT tss j).length := by
  induction j with
  | zero => obtain rfl : i = 0 := by omega
            exact Nat.le_refl _
  | succ j ih =>
    rcases Nat.lt_or_ge i (j + 1) with h' | h'
    · have := ih (by omega); simp only [flatT, List.length_append]; omega
    · obtain rfl : i = j + 1 := by omega
      exact Nat.le_refl _
set_option maxRecDepth 20000 in
set_option maxHeartbeats 1600000 in
theorem concatI_any (a : Option Addr) (n c : Nat) (rs : List Sl) (tss : List (List Tm)) (w : World) (h : TermsSS w a n rs tss) (hlen : (flatT tss n).length ≤ 1000000) (hn : n ≤ 1000) :
    Calls Try.prog 94 #[.slice a n c] w (MadeI w (flatT tss n)) := by
  go_enter Try.func94, Try.ntmps94
  go_wp2
  go_loop [3, 11] (fun q i => ∃ k : Nat, k ≤ n ∧ i = .int .i64 (k : Int) ∧ q = .int .i64 (((flatT tss k).length : Nat) : Int)) (fun _ i => n - (intOf i).toNat)
  case atStart => exact ⟨0, Nat.zero_le _, rfl, rfl⟩
  case round =>
    obtain ⟨k, hk, rfl, rfl⟩ := hrel
    by_cases hlt : k < n
    · obtain ⟨b, o, a1, n1, c1, rfl, hb, hsl, hc, hI⟩ := h.at_ hlt
      have hm := flatT_mono tss (show k + 1 ≤ n by omega)
      have he : (flatT tss (k + 1)).length = (flatT tss k).length + n1 := by rw [flatT, List.length_append, hI.1]
      obtain ⟨L, HL⟩ : ∃ L : Nat, Hid ((flatT tss k).length = L) := ⟨_, rfl⟩
      rw [HL.out] at he ⊢
      have hb2 : L + n1 ≤ 1000000 := by omega
      have hneg : decide ((L : Int) + (n1 : Int) < 0) = false := by simp; omega
      have HE := Lib.hid he
      clear hm he hI
      go_wp2
      go_round
      case rel => exact ⟨k + 1, by omega, by go_num, by rw [HE.out]; go_num⟩
      case measure => simp [intOf]; omega
    · obtain rfl : n = k := by omega
      obtain ⟨L, HL⟩ : ∃ L : Nat, Hid ((flatT tss n).length = L) := ⟨_, rfl⟩
      rw [HL.out] at hlen ⊢
      go_wp2_with fail
      refine (grow_nilI L _ (by omega)).mono ?_
      rintro e w1 ⟨ga, gc, rfl, hown, hb1⟩
      go_wp2
      go_loopw [6, 27] (fun s i wr => ∃ (k m d : Nat) (sa : Option Addr), k ≤ n ∧ i = .int .i64 (k : Int) ∧ s = .slice sa m d ∧ OwnI wr w.heap.size sa m d (flatT tss k) ∧ Below w.heap.size w wr) (fun _ i _ => n - (intOf i).toNat)
      case atStart => exact ⟨0, 0, gc, ga, Nat.zero_le _, rfl, rfl, hown, hb1⟩
      case round =>
        clear hown hb1
        obtain ⟨k, m, d, sa, hk2, rfl, rfl, hown, hbel⟩ := hrel
        by_cases hlt : k < n
        · obtain ⟨b, o, a1, n1, c1, rfl, hb, hsl, hc, hI⟩ := (h.below hbel).at_ hlt
          have hm := flatT_mono tss (show k + 1 ≤ n by omega)
          have he : (flatT tss (k + 1)).length = (flatT tss k).length + n1 := by rw [flatT, List.length_append, hI.1]
          have hml := hown.len
          have hsum : m + n1 ≤ 1048576 := by have := HL.out; omega
          have hB := hbel.size
          have HI := Lib.hid hI
          have HO := Lib.hid hown
          clear hm he hml
          go_wp2_with (at_builtin; refine wpList_concatI _ rfl _ _ rfl w.heap.size _ _ _ (flatT tss k) rfl HO.out _ _ _ (tsAt tss k) rfl HI.out hsum hB ?_)
          intro a8 c8 w8 hown8 hg8
          have hb8 := below_pushI hbel HO.out hB hg8
          have HO8 : Hid (OwnI w8 w.heap.size a8 (m + n1) c8 (flatT tss (k + 1))) := Lib.hid hown8
          clear hown8 hg8 hown HO HI hI hbel hB
          go_wp2
          go_roundw
          case rel => exact ⟨k + 1, m + n1, c8, a8, by omega, by go_num, rfl, HO8.out, hb8⟩
          case measure => simp [intOf]; omega
        · obtain rfl : n = k := by omega
          go_wp2
          go_ret
          exact ⟨_, _, _, rfl, hown, hbel⟩
theorem termsSS_two {w : World} {b : Nat} {t : TypeId} {x y : Sl} {ts us : List Tm} (hB : Blk w b t [slV x, slV y]) (h1 : Terms w x.1 x.2.1 ts) (h2 : Terms w y.1 y.2.1 us) : TermsSS w (some ⟨b, 0, none⟩) 2 [x, y] [ts, us] := by
  refine ⟨rfl, rfl, fun _ => ⟨b, 0, rfl, hB.lt, fun i hi => ?_⟩, fun i hi => ?_⟩
  · match i, hi with
    | 0, _ => exact hB.cell (j := 0) rfl
    | 1, _ => exact hB.cell (j := 1) rfl
  · match i, hi with
    | 0, _ => exact h1
    | 1, _ => exact h2
theorem flatT_two (ts us : List Tm) : flatT [ts, us] 2 = ts ++ us := rfl
set_option maxHeartbeats 800000 in
theorem inputsOf_any (r : PRow) (p : Prg) (w : World) (h : ProgAt w r p) (hl : p.lows.length + p.secrets.length ≤ 1000) :
    Calls Try.prog 56 #[progV r] w (MadeI w (p.lows ++ p.secrets)) := by
  obtain ⟨wd, ⟨a1, n1, c1⟩, ⟨a2, n2, c2⟩, tp, ⟨a3, n3, c3⟩, ⟨a4, n4, c4⟩, rows⟩ := r
  show Calls Try.prog 56 #[.agg #[.int .i64 wd, .slice a1 n1 c1, .slice a2 n2 c2, .int .i64 tp, .slice a3 n3 c3, .slice a4 n4 c4]] w _
  have h1 := Lib.hid h.lows
  have h2 := Lib.hid h.secrets
  simp only [] at h1 h2
  have HL : Hid ((flatT [p.lows, p.secrets] 2).length ≤ 1000000) := Lib.hid (by rw [flatT_two, List.length_append]; omega)
  clear h hl
  obtain ⟨wa, HW⟩ : ∃ wa, Hid (wa = (w.alloc (.cells #[.int .i64 wd, .slice a1 n1 c1, .slice a2 n2 c2, .int .i64 tp, .slice a3 n3 c3, .slice a4 n4 c4] 31)).alloc (.cells #[.slice a1 n1 c1, .slice a2 n2 c2] 27)) := ⟨_, rfl⟩
  have HB : Below w.heap.size w wa := by rw [HW.out]; exact ((Below.refl _ _).alloc (Nat.le_refl _) _).alloc (by simp) _
  have X : Blk wa (w.heap.size + 1) 27 [slV (a1, n1, c1), slV (a2, n2, c2)] := by
    rw [HW.out]
    simpa [slV] using Blk.new (w.alloc (.cells #[.int .i64 wd, .slice a1 n1 c1, .slice a2 n2 c2, .int .i64 tp, .slice a3 n3 c3, .slice a4 n4 c4] 31)) 27 [slV (a1, n1, c1), slV (a2, n2, c2)]
  have HT := Lib.hid (termsSS_two X (h1.out.below (Nat.le_refl _) HB) (h2.out.below (Nat.le_refl _) HB))
  clear X h1 h2
  go_enter Try.func56, Try.ntmps56
  go_wp2_with fail
  rw [← HW.out]
  refine (concatI_any _ 2 _ _ _ _ HT.out HL.out (by omega)).mono ?_
  rintro e w1 ⟨sa, sn, sc, rfl, ho, hb1⟩
  rw [flatT_two] at ho
  have HB1 := HB.trans (hb1.mono HB.size)
  have HO := Lib.hid (ho.base HB.size)
  clear ho hb1 HT HL HW
  go_wp2
  go_ret
  exact ⟨_, _, _, rfl, HO.out, HB1⟩
end Go.Proofs.Ytalcambmmbilkaa
/- The contract of the program's InputBits. -/
namespace Go.Proofs.Ytalcambmmbilkaa
open Go.RowKit

theorem implStart_no (r : PRow) (p : Prg) (a a' : Option Addr) (n c n' c' : Nat) (ls ss : List Int) (w : World) (h : ProgAt w r p) (hcap : r.body.2.1 ≤ r.body.2.2) (h1 : Ints w a n ls) (h2 : Ints w a' n' ss) (h0 : startB p ls ss = false) :
    Hid (∀ w', Below w.heap.size w w' → Calls Try.prog 33 #[progV r, .slice a n c, .slice a' n' c'] w' fun e w'' => e = .returned (.tuple #[.agg #[.slice none 0 0, .slice none 0 0], .bool false]) ∧ Below w'.heap.size w' w'') := Lib.hid (fun w' hb => implStartOf_no r p a a' n c n' c' ls ss w' (h.below hb) hcap (h1.below hb) (h2.below hb) h0)
theorem implStart_yes (r : PRow) (p : Prg) (a a' : Option Addr) (n c n' c' : Nat) (ls ss : List Int) (w : World) (h : ProgAt w r p) (hcap : r.body.2.1 ≤ r.body.2.2) (h1 : Ints w a n ls) (h2 : Ints w a' n' ss) (h0 : startB p ls ss = true) :
    Hid (∀ w', Below w.heap.size w w' → Calls Try.prog 33 #[progV r, .slice a n c, .slice a' n' c'] w' fun e w'' => ∃ er : ERow, e = .returned (.tuple #[envV er, .bool true]) ∧ EnvMem w'' w'.heap.size er (none, 0, 0) (startQ p ls ss) ∧ Below w'.heap.size w' w'') := Lib.hid (fun w' hb => implStartOf_yes r p a a' n c n' c' ls ss w' (h.below hb) hcap (h1.below hb) (h2.below hb) h0)
theorem bit_low (z : Int) (j : Nat) : (bits .and .i64 (z / 2 ^ j) 1 == 1) = bitZ z j := by
  have h := and_pow (z / 2 ^ j) 1 (by omega)
  have e1 : (((2 ^ 1 : Nat) : Int) - 1) = 1 := by decide
  have e2 : ((2 ^ 1 : Nat) : Int) = 2 := by decide
  rw [e1, e2] at h
  have e3 : ((2 ^ j : Nat) : Int) = (2 : Int) ^ j := by push_cast; rfl
  rw [h, bitZ, e3]
set_option maxRecDepth 20000 in
set_option maxHeartbeats 3200000 in
theorem implInputBits_any (r : PRow) (p : Prg) (a a' : Option Addr) (n c n' c' : Nat) (ls ss : List Int) (w : World) (h : ProgAt w r p) (hcap : r.body.2.1 ≤ r.body.2.2) (h1 : Ints w a n ls) (h2 : Ints w a' n' ss) :
    Calls Try.prog 28 #[progV r, .slice a n c, .slice a' n' c'] w (MadeB w (bitsB p ls ss)) := by
  cases h0 : startB p ls ss with
  | false =>
    have HS := implStart_no r p a a' n c n' c' ls ss w h hcap h1 h2 h0
    rw [bitsB, if_neg (by rw [h0]; decide)]
    clear h h1 h2 h0 hcap
    obtain ⟨wd, ⟨a1, n1, c1⟩, ⟨a2, n2, c2⟩, tp, ⟨a3, n3, c3⟩, ⟨a4, n4, c4⟩, rows⟩ := r
    simp only [progV, slV] at HS
    show Calls Try.prog 28 #[.agg #[.int .i64 wd, .slice a1 n1 c1, .slice a2 n2 c2, .int .i64 tp, .slice a3 n3 c3, .slice a4 n4 c4], .slice a n c, .slice a' n' c'] w _
    obtain ⟨wa, HW⟩ : ∃ wa, Hid (wa = w.alloc (.cells #[.int .i64 wd, .slice a1 n1 c1, .slice a2 n2 c2, .int .i64 tp, .slice a3 n3 c3, .slice a4 n4 c4] 31)) := ⟨_, rfl⟩
    have HB : Below w.heap.size w wa := by rw [HW.out]; exact (Below.refl _ _).alloc (Nat.le_refl _) _
    go_enter Try.func28, Try.ntmps28
    go_wp2_with fail
    rw [← HW.out]
    refine (HS.out _ HB).mono ?_
    rintro e w1 ⟨rfl, hb1⟩
    have HF := Lib.hid ((HB.trans (hb1.mono HB.size)).alloc (HB.trans (hb1.mono HB.size)).size (.cells #[.slice none 0 0, .slice none 0 0] 60))
    clear HB hb1 HS HW
    go_wp2
    go_ret
    exact ⟨_, _, _, rfl, ownB_nil _ _, HF.out⟩
  | true =>
    have HS := implStart_yes r p a a' n c n' c' ls ss w h hcap h1 h2 h0
    have hc0 := startB_ok h0
    obtain ⟨hL1, hL2, _, _⟩ := code_inputs hc0
    obtain ⟨hzl, hzi⟩ := start_in h0
    have HM : Hid (∀ w', Below w.heap.size w w' → Calls Try.prog 56 #[progV r] w' (MadeI w' (p.lows ++ p.secrets))) := Lib.hid (fun w' hw => inputsOf_any r p w' (h.below hw) (by omega))
    have HMX := Lib.hid (code_max hc0)
    have HZI := Lib.hid hzi
    rw [bitsB, if_pos h0]
    have hL6 : (maxesP p).length ≤ 6 := (code_max hc0).1
    have HZV : Hid (∀ k, k < (maxesP p).length → (startQ p ls ss).vars.getD k 0 = (ls ++ ss).getD k 0) := Lib.hid (fun k hk => by rw [startQ]; simp only []; exact getD_app_left (by omega))
    have HLV : Hid ((maxesP p).length ≤ (startQ p ls ss).vars.length) := Lib.hid (by rw [← hzl, startQ]; simp only [List.length_append]; omega)
    have HMV : Hid (∀ k, k < (maxesP p).length → (tmAt (p.lows ++ p.secrets) k).1 = (maxesP p).getD k 0) := Lib.hid (fun k hk => by rw [maxesP, maxesL_getD (by rw [maxesP_len] at hk; simpa using hk)])
    have HTL : Hid ((p.lows ++ p.secrets).length = (maxesP p).length) := Lib.hid (by rw [maxesP_len]; simp)
    clear h h1 h2 h0 hc0 hL1 hL2 hzl hzi hcap
    obtain ⟨ms, HMS⟩ : ∃ ms, Hid (maxesP p = ms) := ⟨_, Lib.hid rfl⟩
    obtain ⟨zs, HZS⟩ : ∃ zs, Hid (ls ++ ss = zs) := ⟨_, Lib.hid rfl⟩
    obtain ⟨ts, HTS⟩ : ∃ ts, Hid (p.lows ++ p.secrets = ts) := ⟨_, Lib.hid rfl⟩
    rw [HMS.out] at HMX HZI HZV HMV HTL HLV hL6 ⊢
    rw [HZS.out] at HZI HZV ⊢
    rw [HTS.out] at HM HMV HTL
    clear HMS HZS HTS
    obtain ⟨L, HLE⟩ : ∃ L, Hid (ms.length = L) := ⟨_, rfl⟩
    rw [HLE.out] at HZI HZV HMV HTL HLV hL6 ⊢
    obtain ⟨wd, ⟨a1, n1, c1⟩, ⟨a2, n2, c2⟩, tp, ⟨a3, n3, c3⟩, ⟨a4, n4, c4⟩, rows⟩ := r
    simp only [progV, slV] at HS HM
    show Calls Try.prog 28 #[.agg #[.int .i64 wd, .slice a1 n1 c1, .slice a2 n2 c2, .int .i64 tp, .slice a3 n3 c3, .slice a4 n4 c4], .slice a n c, .slice a' n' c'] w _
    obtain ⟨wa, HW⟩ : ∃ wa, Hid (wa = w.alloc (.cells #[.int .i64 wd, .slice a1 n1 c1, .slice a2 n2 c2, .int .i64 tp, .slice a3 n3 c3, .slice a4 n4 c4] 31)) := ⟨_, rfl⟩
    have B0 : Blk wa w.heap.size 31 [.int .i64 wd, .slice a1 n1 c1, .slice a2 n2 c2, .int .i64 tp, .slice a3 n3 c3, .slice a4 n4 c4] := by rw [HW.out]; exact Blk.new w _ _
    have HB : Below w.heap.size w wa := by rw [HW.out]; exact (Below.refl _ _).alloc (Nat.le_refl _) _
    go_enter Try.func28, Try.ntmps28
    go_wp2_with fail
    rw [← HW.out]
    refine (HS.out _ HB).mono ?_
    rintro e w1 ⟨⟨⟨va, vn, vc⟩, ⟨ca, cn, cc⟩, rws⟩, rfl, hm, hb1⟩
    simp only [envV, slV]
    obtain ⟨wb, HWB⟩ : ∃ wb, Hid (wb = w1.alloc (.cells #[.slice va vn vc, .slice ca cn cc] 60)) := ⟨_, rfl⟩
    have hbw : Below w1.heap.size w1 wb := by rw [HWB.out]; exact (Below.refl _ _).alloc (Nat.le_refl _) _
    have E1 : Blk wb w1.heap.size 60 [.slice va vn vc, .slice ca cn cc] := by rw [HWB.out]; exact Blk.new w1 _ _
    have HB1 := (HB.trans (hb1.mono HB.size)).trans (hbw.mono (HB.trans (hb1.mono HB.size)).size)
    have B1 := (B0.below hb1 B0.lt).below hbw (B0.below hb1 B0.lt).lt
    have hv := (hm.below hbw).vars
    have t0 := B1.cell (j := 0) rfl
    have t1 := B1.cell (j := 1) rfl
    have t2 := B1.cell (j := 2) rfl
    have t3 := B1.cell (j := 3) rfl
    have t4 := B1.cell (j := 4) rfl
    have t5 := B1.cell (j := 5) rfl
    rw [HWB.out] at t0 t1 t2 t3 t4 t5
    clear HB hb1 HS HW hbw B0 B1 hm
    go_wp2_with fail
    rw [← HWB.out]
    obtain ⟨k7, HK7⟩ : ∃ k7, Hid (w1.heap.size = k7) := ⟨_, rfl⟩
    rw [HK7.out] at E1 ⊢
    refine (HM.out _ HB1).mono ?_
    rintro e w2 ⟨ia, im, ic, rfl, hoi, hb2⟩
    have him : im = L := by rw [← hoi.len, HTL.out]
    subst him
    have HB2 := Lib.hid (HB1.trans (hb2.mono HB1.size))
    have HEV := Lib.hid (E1.below hb2 E1.lt)
    have HVV := Lib.hid (hv.below hb2).ints
    have HTT := Lib.hid hoi.terms
    clear t0 t1 t2 t3 t4 t5 HWB HK7 HM HB1 hv E1 hoi hb2
    go_wp2_with fail
    go_loopw [9, 25] (fun o i wr => ∃ (k m : Nat) (a : Option Addr) (c : Nat), k ≤ im ∧ i = .int .i64 (k : Int) ∧ o = .slice a m c ∧ OwnB wr w2.heap.size a m c (inBits ms zs k) ∧ Below w2.heap.size w2 wr) (fun _ i _ => im - (intOf i).toNat)
    case atStart => exact ⟨0, 0, _, _, Nat.zero_le _, rfl, rfl, ownB_nil _ _, Below.refl _ _⟩
    case round =>
      obtain ⟨k, mm, oa, oc, hk, rfl, rfl, hown, hbel⟩ := hrel
      by_cases hlt : k < im
      · obtain ⟨b1, o1, x, y, rfl, hbl1, hx, hin1, hin2, hc1, hc2⟩ := (HTT.out.below (Nat.le_refl _) hbel).at_ hlt
        have e0 := (HEV.out.below hbel HEV.out.lt).cell (j := 0) rfl
        have hxm := HMV.out k hlt
        rw [hx.out] at hxm
        simp only [] at hxm
        obtain ⟨m1, m2⟩ := HMX.out.2 k (by rw [HLE.out]; exact hlt)
        obtain ⟨z1, z2⟩ := HZI.out k hlt
        rw [← hxm] at m1 m2 z2
        have hb8 := bits8 m1 m2
        have hmm : mm ≤ 48 := by have := hown.len; have := inBits_len (zs := zs) HMX.out k (by rw [HLE.out]; omega); omega
        have HNX : Hid (inBits ms zs (k + 1) = inBits ms zs k ++ hiTo (zs.getD k 0) (bitsN x.toNat) (bitsN x.toNat)) := Lib.hid (by rw [inBits, ← hxm])
        obtain ⟨z, HZZ⟩ : ∃ z, Hid (zs.getD k 0 = z) := ⟨_, rfl⟩
        rw [HZZ.out] at z1 z2 HNX
        obtain ⟨b, HBN⟩ : ∃ b, Hid (bitsN x.toNat = b) := ⟨_, rfl⟩
        rw [HBN.out] at hb8 HNX
        have HL6 : Hid (∀ w', Calls Try.prog 62 #[.int .u64 x] w' fun e w'' => e = .returned (.int .i64 (b : Int)) ∧ w' = w'') := Lib.hid (fun w' => by rw [← HBN.out]; exact len64_any x w' m1 (by omega))
        have HOW := Lib.hid hown
        have HBE := Lib.hid hbel
        clear hown hbel hx hxm hin1 hin2 HBN
        go_wp2_with fail
        refine (HL6.out _).mono ?_
        rintro e w11 ⟨rfl, rfl⟩
        go_wp2_with fail
        obtain ⟨wo, HWO⟩ : ∃ wo, Hid (wo = wr.alloc (.cells #[.int .i64 x, .int .i64 y] 79)) := ⟨_, rfl⟩
        rw [← HWO.out]
        have hbo : Below wr.heap.size wr wo := by rw [HWO.out]; exact (Below.refl _ _).alloc (Nat.le_refl _) _
        have HRE : Hid (OwnB wo w2.heap.size oa mm oc (inBits ms zs k ++ hiTo z b 0)) := Lib.hid (by rw [hiTo_zero, List.append_nil]; exact HOW.out.below hbo)
        have HBO := Lib.hid (HBE.out.trans (hbo.mono HBE.out.size))
        clear hbo HWO HOW HBE e0 hc1 hc2
        go_loopw [9, 12] (fun o q wx => ∃ (i j : Nat) (a : Option Addr) (c : Nat), i + j = b ∧ q = .int .i64 ((j : Int) - 1) ∧ o = .slice a (mm + i) c ∧ Hid (OwnB wx w2.heap.size a (mm + i) c (inBits ms zs k ++ hiTo z b i)) ∧ Hid (Below w2.heap.size w2 wx)) (fun _ q _ => (intOf q + 1).toNat)
        case atStart => exact ⟨0, b, oa, oc, by omega, rfl, rfl, HRE, HBO⟩
        case round =>
          clear HRE HBO
          obtain ⟨i, j, pa, pc, hij, rfl, rfl, HPO, HPB⟩ := hrel
          rcases j with _ | j
          · obtain rfl : i = b := by omega
            have hoo := HPO.out
            rw [← HNX.out] at hoo
            have HOO := Lib.hid hoo
            have hneg : decide ((0 : Int) ≤ -1) = false := rfl
            clear HPO hoo
            go_wp2
            go_roundw
            case rel => exact ⟨k + 1, _, _, _, by omega, by go_num, rfl, HOO.out, HPB.out⟩
            case measure => simp [intOf]; omega
          · have ej : (((j + 1 : Nat) : Int) - 1) = (j : Int) := by omega
            rw [ej]
            have e0 := (HEV.out.below HPB.out HEV.out.lt).cell (j := 0) rfl
            have hvl : (startQ p ls ss).vars.length = vn := HVV.out.1
            have hkv : k < vn := by have := HLV.out; omega
            obtain ⟨b3, o3, z3, rfl, hbl3, hz3, _, hc3⟩ := (HVV.out.below HPB.out).at_ hkv
            have ez : z3 = z := by rw [hz3.out, HZV.out k hlt, HZZ.out]
            subst ez
            have HBT : Hid (hiTo z3 b (i + 1) = hiTo z3 b i ++ [bits .and .i64 (z3 / 2 ^ j) 1 == 1]) := Lib.hid (by rw [hiTo_succ, bit_low, show b - 1 - i = j by omega])
            have hBs := HPB.out.size
            have hon := HPO.out.alloc (.cells #[.bool (bits .and .i64 (z3 / 2 ^ j) 1 == 1)] 4)
            have hj8 : j < 8 := by omega
            clear ej hz3 hvl
            go_wp2_with (at_builtin; refine wpList_pushB _ rfl _ _ rfl w2.heap.size pa (mm + i) pc _ rfl hon _ (bits .and .i64 (z3 / 2 ^ j) 1 == 1) rfl (by simp) (by omega) (by simp; omega) ?_)
            intro a8 c8 w8 hown8 hg8
            rw [← HBT.out] at hown8
            have HO8 : Hid (OwnB w8 w2.heap.size a8 (mm + (i + 1)) c8 (inBits ms zs k ++ hiTo z3 b (i + 1))) := Lib.hid hown8
            have HB8 : Hid (Below w2.heap.size w2 w8) := Lib.hid ((HPB.out.alloc hBs _).grown hg8 (by simp; omega) (fun k hk => (hon.block k hk).1))
            clear hown8 hg8 hon HPO HPB hc3 hBs e0
            go_wp2
            go_roundw
            case rel => exact ⟨i + 1, j, a8, c8, by omega, rfl, rfl, HO8, HB8⟩
            case measure => simp [intOf]
      · obtain rfl : k = im := by omega
        have HF := Lib.hid (HB2.out.trans (hbel.mono HB2.out.size))
        have HO := Lib.hid (hown.base HB2.out.size)
        clear hbel hown
        go_wp2
        go_ret
        exact ⟨_, _, _, rfl, HO.out, HF.out⟩
end Go.Proofs.Ytalcambmmbilkaa
/- Slices of bools as answers of a law. -/
namespace Go.Proofs.Ytalcambmmbilkaa
open Go.RowKit

def AnsB (w : World) (bs : List Bool) (e : Ending) (w' : World) : Prop :=
  Below w.heap.size w w' ∧ ∃ s : Sl, e = .returned (slV s) ∧ OwnB w' w.heap.size s.1 s.2.1 s.2.2 bs
theorem ansB_of {w : World} {bs : List Bool} {e : Ending} {w' : World} (h : MadeB w bs e w') : AnsB w bs e w' := by
  obtain ⟨a, n, c, he, ho, hb⟩ := h
  exact ⟨hb, (a, n, c), he, ho⟩
theorem markBoolS_ans (s : Sl) (bs : List Bool) (k : Nat) (w : World) (B : Nat) (h : OwnB w B s.1 s.2.1 s.2.2 bs) (hk : k ≤ 1000) (_ : bs.length ≤ 1000) {lo hi : Nat} (hin : SlIn lo hi s) :
    Calls Try.prog 46 #[slV s, .int .i64 (k : Int)] w fun e w' => e = .returned (.int .i64 ((k + bs.length : Nat) : Int)) ∧ OwnB w' B s.1 s.2.1 s.2.2 (marksB k bs.length) ∧ Span lo hi w w' := by
  have hl := h.len
  rw [hl]
  exact (markBoolS_any s.1 s.2.1 s.2.2 bs k w B h (by omega)).mono (fun e w' ⟨h1, h2, h3⟩ => ⟨h1, h2, Span.of_grown h3 (fun g e => hin g e)⟩)
theorem heldBoolS_ans (s : Sl) (bs : List Bool) (k : Nat) (w : World) (h : Bools w s.1 s.2.1 (marksB k bs.length)) (hk : k ≤ 1000) (_ : bs.length ≤ 1000) :
    Calls Try.prog 47 #[slV s, .int .i64 (k : Int)] w fun e w' => e = .returned (.int .i64 ((k + bs.length : Nat) : Int)) ∧ Below w.heap.size w w' := by
  have hl : bs.length = s.2.1 := by have := h.1; rwa [marksB_len] at this
  rw [hl] at h ⊢
  exact heldBoolS_any s.1 s.2.1 s.2.2 k w h (by omega)
end Go.Proofs.Ytalcambmmbilkaa
