/- Joined texts of this proof (BoolCopies, BitMath, BitsBack, SpecNum, ImplBits, ImplNum), in build order. -/
import Derived.Test.YtflojbjeloilaaaJ10
import Derived.Test.YtflojbjeloilaaaJ22
import Derived.Test.YtflojbjeloilaaaJ26
import Derived.Test.YtflojbjeloilaaaJ21
import Derived.Test.YtflojbjeloilaaaJ23
import Derived.Test.YtflojbjeloilaaaJ25
/- Slices of bools: words; one more put behind; the laws' own helpers on them (eqBoolS, markBoolS, heldBoolS, toBoolS). -/
namespace Go.Proofs.Ytflojbjeloilaaa
open Go.RowKit

def bAt (bs : List Bool) (i : Nat) : Bool := bs.getD i false
/-- The slice '.slice a n c' reads as the bools bs. -/
def Bools (w : World) (a : Option Addr) (n : Nat) (bs : List Bool) : Prop :=
  bs.length = n ∧ n ≤ 1048576 ∧ (0 < n → ∃ b o, a = some ⟨b, o, none⟩ ∧ b < w.heap.size ∧ ∀ i, i < n → w.cell? ⟨b, o + i, none⟩ = some (.bool (bAt bs i)))
theorem Bools.at_ {w : World} {a : Option Addr} {n : Nat} {bs : List Bool} {k : Nat} (h : Bools w a n bs) (hk : k < n) :
    ∃ b o z, a = some ⟨b, o, none⟩ ∧ b < w.heap.size ∧ Hid (z = bAt bs k) ∧ w.cell? ⟨b, o + k, none⟩ = some (.bool z) := by
  obtain ⟨hl, _, hc⟩ := h
  obtain ⟨b, o, rfl, hb, hcell⟩ := hc (by omega)
  exact ⟨b, o, _, rfl, hb, Lib.hid rfl, hcell k hk⟩
theorem Bools.below {w w' : World} {a : Option Addr} {n : Nat} {bs : List Bool} (h : Bools w a n bs) (hb : Below w.heap.size w w') : Bools w' a n bs := by
  obtain ⟨hl, hn, hc⟩ := h
  refine ⟨hl, hn, fun hp => ?_⟩
  obtain ⟨b, o, rfl, hbl, hcell⟩ := hc hp
  exact ⟨b, o, rfl, Nat.lt_of_lt_of_le hbl hb.size, fun i hi => (hb.cell (by exact hbl)).trans (hcell i hi)⟩
/-- .. of the call's own, from block B on. -/
def OwnB (w : World) (B : Nat) (a : Option Addr) (n c : Nat) (bs : List Bool) : Prop := w.ownsRow B 4 1 (.slice a n c) n (bs.map Value.bool) ∧ n ≤ 1048576
section
variable {w w' : World} {B : Nat} {a : Option Addr} {n c : Nat} {bs : List Bool} {row : Option Nat}
theorem OwnB.len (h : OwnB w B a n c bs) : bs.length = n := by have := h.1.1; simpa using this
theorem OwnB.reads (h : OwnB w B a n c bs) : Bools w a n bs := by
  have hlen := h.len
  obtain ⟨ho, hn⟩ := h
  refine ⟨hlen, hn, fun hp => ?_⟩
  rcases ho.2 with ⟨_, h0⟩ | ⟨g, cap, cur, e, _, hh, _⟩
  · exact absurd hp (by omega)
  · have ea : a = some ⟨g, 0, none⟩ := by injection e
    subst ea
    refine ⟨g, 0, rfl, (ho.lt g rfl).2, fun i hi => ?_⟩
    rw [Nat.zero_add, ho.cellAt i (by omega)]
    simp [bAt, List.getD_eq_getElem?_getD, List.getElem?_eq_getElem (show i < bs.length by omega)]
theorem OwnB.below (h : OwnB w B a n c bs) (hb : Below w.heap.size w w') : OwnB w' B a n c bs :=
  ⟨h.1.kept (row := none) ⟨hb.os, hb.tape, hb.output, hb.size, fun k hk _ => hb.block k hk⟩ (by cases a <;> simp [Value.ownBlock]), h.2⟩
theorem OwnB.base {B' : Nat} (h : OwnB w B a n c bs) (hB : B' ≤ B) : OwnB w B' a n c bs := by
  refine ⟨⟨h.1.1, ?_⟩, h.2⟩
  rcases h.1.2 with hn | ⟨g, cap, cur, e, hb, r⟩
  · exact .inl hn
  · exact .inr ⟨g, cap, cur, e, by omega, r⟩
theorem OwnB.alloc (h : OwnB w B a n c bs) (o : Obj) : OwnB (w.alloc o) B a n c bs := ⟨h.1.alloc o, h.2⟩
theorem OwnB.block (h : OwnB w B a n c bs) : ∀ g, (Value.slice a n c).ownBlock = some g → B ≤ g ∧ g < w.heap.size := h.1.lt
theorem OwnB.span {lo hi : Nat} (h : OwnB w B a n c bs) (hs : Span lo hi w w') (hB : hi ≤ B) : OwnB w' B a n c bs := ⟨ownsRow_span h.1 hs (fun g hg => .inr (Nat.le_trans hB (h.block g hg).1)), h.2⟩
theorem OwnB.inside {s : Sl} (h : OwnB w B s.1 s.2.1 s.2.2 bs) : SlIn B w.heap.size s := fun g hg => h.block g hg
theorem ownB_nil (w : World) (B : Nat) : OwnB w B none 0 0 [] := ⟨World.ownsRow_nil _ _ _ _, by omega⟩
theorem ownB_empty (w : World) (B : Nat) (hB : B ≤ w.heap.size) : OwnB (w.alloc (.cells #[] 4)) B (some ⟨w.heap.size, 0, none⟩) 0 0 [] :=
  ⟨World.ownsRow_lit w #[] 0 hB (by unfold maxLen; omega) rfl, by omega⟩
end
/-- What a function that makes a slice of the bools bs leaves. -/
def MadeB (w : World) (bs : List Bool) (e : Ending) (w' : World) : Prop :=
  ∃ a n c, e = .returned (.slice a n c) ∧ OwnB w' w.heap.size a n c bs ∧ Below w.heap.size w w'
theorem info_bool : (Try.prog.info? 4).map (fun i => (i.zero, i.size, i.bytes)) = some (some (.bool false), 1, 1) := by kernel_rfl
section
variable {w : World} {B g n cap : Nat} {bs : List Bool}
theorem ownB_cell (h : w.ownsRow B 4 1 (.slice (some ⟨g, 0, none⟩) n cap) n (bs.map Value.bool)) {k : Nat} (hk : k < n) : w.cell? ⟨g, k, none⟩ = some (.bool (bAt bs k)) := by
  have hl : bs.length = n := by have := h.1; simpa using this
  rw [h.cellAt k (by omega)]
  simp [bAt, List.getD_eq_getElem?_getD, List.getElem?_eq_getElem (show k < bs.length by omega)]
theorem ownB_put (h : w.ownsRow B 4 1 (.slice (some ⟨g, 0, none⟩) n cap) n (bs.map Value.bool)) (k : Nat) (z : Bool) :
    (w.setCell ⟨g, k, none⟩ (.bool z)).ownsRow B 4 1 (.slice (some ⟨g, 0, none⟩) n cap) n ((bs.set k z).map Value.bool) := by
  rw [List.map_set]; exact (h.stored k _).1
end
theorem wpList_pushB {ops : Array Oper} {rest : List Oper} {o : Oper} {ac : Act} {Q : Exit → Act → World → Prop} (w : World) (hgd : o.guard = none) (s x : Operand)
    (ho : o.op = .call { callee := .builtin .append, args := #[s, x], argTypes := #[52, 52] })
    (B : Nat) (a : Option Addr) (n c : Nat) (bs : List Bool) (hs : ac.eval s = .slice a n c) (hown : OwnB w B a n c bs)
    (g : Nat) (z : Bool) (hx : ac.eval x = .slice (some ⟨g, 0, none⟩) 1 1) (hc : w.cell? ⟨g, 0, none⟩ = some (.bool z)) (hn : n < 1048576) (hB : B ≤ w.heap.size)
    (h : ∀ a1 c1 w', OwnB w' B a1 (n + 1) c1 (bs ++ [z]) → w.grownBy w' (Value.slice a n c).ownBlock → wpList Try.prog ops Q rest (ac.put o.dst (.slice a1 (n + 1) c1)) w') : wpList Try.prog ops Q (o :: rest) ac w := by
  obtain ⟨i0, hi, hz0, hz1, hz2⟩ := info_parts info_bool
  refine wpList_append_own w hgd s x 52 ho B 4 i0 (.bool false) 1 1 Try.underlying52 hi hz0 hz1 hz2 rfl (by omega) (.slice a n c) n (bs.map Value.bool) hs hown.1
    ⟨g, 0, none⟩ 1 1 [.bool z] hx rfl ?_ ?_ ?_ ?_ hB ?_
  · intro j u hj
    match j, hj with
    | 0, hj => simp at hj; subst hj; simpa [Addr.add] using hc
  · intro u hu; simp at hu; subst hu; rfl
  · unfold maxLen; omega
  · omega
  · intro v' w' h1 h2 _
    have hf : ∃ a1 c1, v' = .slice a1 (n + 1) c1 := by
      rcases h1.2 with ⟨_, h0⟩ | ⟨g', cap, cur, e, _⟩
      · omega
      · exact ⟨_, _, e⟩
    obtain ⟨a1, c1, rfl⟩ := hf
    exact h a1 c1 w' ⟨by simpa using h1, by omega⟩ h2
/-- The first k are alike. -/
def EqB (xs ys : List Bool) (k : Nat) : Prop := ∀ i, i < k → bAt xs i = bAt ys i
theorem EqB.zero (xs ys : List Bool) : EqB xs ys 0 := fun i hi => absurd hi (by omega)
theorem EqB.succ {xs ys : List Bool} {k : Nat} {x y : Bool} (h : EqB xs ys k) (hx : Hid (x = bAt xs k)) (hy : Hid (y = bAt ys k)) (e : x = y) : EqB xs ys (k + 1) := by
  intro i hi
  rcases Nat.lt_or_ge i k with hlt | hge
  · exact h i hlt
  · have : i = k := by omega
    subst this; rw [← hx.out, ← hy.out]; exact e
/-- Marks. -/
def mB (k : Nat) : Bool := (k : Int) % 3 == 0
def marksB (k n : Nat) : List Bool := (List.range n).map (fun i : Nat => mB (k + i))
theorem marksB_len (k n : Nat) : (marksB k n).length = n := by simp [marksB]
theorem marksB_at (k n i : Nat) (h : i < n) : bAt (marksB k n) i = mB (k + i) := by simp [marksB, bAt, List.getD_eq_getElem?_getD, h]
def MarkB (bs : List Bool) (k j : Nat) : List Bool := marksB k j ++ bs.drop j
theorem markB_zero (bs : List Bool) (k : Nat) : MarkB bs k 0 = bs := by simp [MarkB, marksB]
theorem markB_all {bs : List Bool} {n : Nat} (k : Nat) (h : bs.length = n) : MarkB bs k n = marksB k n := by subst h; simp [MarkB]
theorem markB_succ {bs : List Bool} {n j : Nat} (k : Nat) (h : bs.length = n) (hj : j < n) : (MarkB bs k j).set j (mB (k + j)) = MarkB bs k (j + 1) := by
  subst h
  apply List.ext_getElem?
  intro i
  unfold MarkB marksB
  rw [List.getElem?_set]
  by_cases hi : j = i
  · subst hi
    have h1 : j < ((List.range j).map (fun i : Nat => mB (k + i)) ++ bs.drop j).length := by simp; omega
    rw [if_pos rfl, if_pos h1, List.getElem?_append_left (by simp)]
    simp
  · rw [if_neg hi]
    simp only [List.getElem?_append, List.length_map, List.length_range, List.getElem?_map, List.getElem?_drop]
    by_cases h1 : i < j
    · rw [if_pos h1, if_pos (show i < j + 1 by omega), List.getElem?_range h1, List.getElem?_range (show i < j + 1 by omega)]
    · rw [if_neg h1, if_neg (show ¬ i < j + 1 by omega), show j + (i - j) = j + 1 + (i - (j + 1)) by omega]
end Go.Proofs.Ytflojbjeloilaaa
/- The bits of an input: plain mathematics. -/
namespace Go.Proofs.Ytflojbjeloilaaa
open Go.RowKit

/-- The bit of z that counts 2 to the k. -/
def bitZ (z : Int) (k : Nat) : Bool := z / ((2 ^ k : Nat) : Int) % 2 == 1
/-- The first i of the b bits of z, the highest one first. -/
def hiTo (z : Int) (b i : Nat) : List Bool := (List.range i).map (fun j => bitZ z (b - 1 - j))
theorem hiTo_zero (z : Int) (b : Nat) : hiTo z b 0 = [] := rfl
theorem hiTo_succ (z : Int) (b i : Nat) : hiTo z b (i + 1) = hiTo z b i ++ [bitZ z (b - 1 - i)] := by simp [hiTo, List.range_succ]
theorem hiTo_len (z : Int) (b i : Nat) : (hiTo z b i).length = i := by simp [hiTo]
/-- The bits of the first k. -/
def inBits (ms zs : List Int) : Nat → List Bool
  | 0 => []
  | k + 1 => inBits ms zs k ++ hiTo (zs.getD k 0) (bitsN (ms.getD k 0).toNat) (bitsN (ms.getD k 0).toNat)
theorem bits8 {m : Int} (h0 : 0 ≤ m) (h1 : m ≤ 255) : bitsN m.toNat ≤ 8 := bitsN_le 8 _ (by omega)
theorem inBits_len {ms zs : List Int} (h : MaxOk ms) : ∀ k, k ≤ ms.length → (inBits ms zs k).length ≤ 8 * k
  | 0, _ => by simp [inBits]
  | k + 1, hk => by
    have := inBits_len (zs := zs) h k (by omega)
    obtain ⟨h1, h2⟩ := h.2 k (by omega)
    have := bits8 h1 h2
    simp only [inBits, List.length_append, hiTo_len]
    omega
/-- The unit of the i-th bit. -/
def unitN (b i : Nat) : Nat := 2 ^ (b - 1) / 2 ^ i
theorem unitN_zero (b : Nat) : unitN b 0 = 2 ^ (b - 1) := by simp [unitN]
theorem unitN_succ (b i : Nat) : unitN b (i + 1) = unitN b i / 2 := by rw [unitN, unitN, Nat.pow_succ, Nat.div_div_eq_div_mul]
theorem unitN_at {b i : Nat} (h : i < b) : unitN b i = 2 ^ (b - 1 - i) := by
  rw [unitN, Nat.pow_div (by omega) (by omega)]
theorem unitN_le {b i : Nat} (h : b ≤ 8) : unitN b i ≤ 128 := by
  have h1 : unitN b i ≤ 2 ^ (b - 1) := Nat.div_le_self _ _
  have h2 : 2 ^ (b - 1) ≤ 2 ^ 7 := Nat.pow_le_pow_right (by omega) (by omega)
  have h3 : 2 ^ 7 = 128 := by decide
  omega
theorem unitN_pos {b i : Nat} (h : i < b) : 0 < unitN b i := by rw [unitN_at h]; exact Nat.pow_pos (by omega)
/-- What InputBits tells. -/
noncomputable def bitsB (p : Prg) (ls ss : List Int) : List Bool := if startB p ls ss = true then inBits (maxesP p) (ls ++ ss) (maxesP p).length else []
theorem bitsB_len (p : Prg) (ls ss : List Int) : (bitsB p ls ss).length ≤ 48 := by
  unfold bitsB
  by_cases h : startB p ls ss = true
  · rw [if_pos h]
    have hm := code_max (startB_ok h)
    have := inBits_len (zs := ls ++ ss) hm _ (Nat.le_refl _)
    have := hm.1
    omega
  · rw [if_neg h]; simp
end Go.Proofs.Ytflojbjeloilaaa
/- The bits of an input tell it: plain mathematics. -/
namespace Go.Proofs.Ytflojbjeloilaaa
open Go.RowKit

theorem bitsN_lt : ∀ n : Nat, n < 2 ^ bitsN n := by
  intro n
  induction n using Nat.strongRecOn with
  | ind n ih =>
    rcases Nat.eq_zero_or_pos n with h | h
    · subst h; rw [bitsN_zero]; decide
    · rw [bitsN_pos h, Nat.pow_succ]
      have := ih (n / 2) (by omega)
      omega
theorem bit_eq {z y : Int} (hz : 0 ≤ z) (hy : 0 ≤ y) : ∀ b : Nat, z < ((2 ^ b : Nat) : Int) → y < ((2 ^ b : Nat) : Int) → (∀ k, k < b → bitZ z k = bitZ y k) → z = y := by
  intro b
  induction b generalizing z y with
  | zero => intro h1 h2 _; simp at h1 h2; omega
  | succ b ih =>
    intro h1 h2 h
    have p : ((2 ^ (b + 1) : Nat) : Int) = ((2 ^ b : Nat) : Int) * 2 := by rw [Nat.pow_succ, Int.natCast_mul]; rfl
    rw [p] at h1 h2
    have e := ih (z := z / 2) (y := y / 2) (by omega) (by omega) (by omega) (by omega) (fun k hk => by
      have := h (k + 1) (by omega)
      have q : ((2 ^ (k + 1) : Nat) : Int) = 2 * ((2 ^ k : Nat) : Int) := by rw [Nat.pow_succ, Int.natCast_mul, Int.mul_comm]; rfl
      simp only [bitZ] at this ⊢
      rw [q, ← Int.ediv_ediv_of_nonneg (by omega), ← Int.ediv_ediv_of_nonneg (by omega)] at this
      exact this)
    have h0 := h 0 (by omega)
    simp only [bitZ, Nat.pow_zero] at h0
    have h0' : (z / 1 % 2 == 1) = (y / 1 % 2 == 1) := h0
    rw [Int.ediv_one, Int.ediv_one, Bool.eq_iff_iff, beq_iff_eq, beq_iff_eq] at h0'
    omega
theorem hiTo_eq {z y : Int} {b : Nat} (h : hiTo z b b = hiTo y b b) : ∀ k, k < b → bitZ z k = bitZ y k := by
  intro k hk
  have := congrArg (fun l => l[b - 1 - k]?) h
  simp only [hiTo, List.getElem?_map] at this
  rw [List.getElem?_range (by omega)] at this
  simp only [Option.map_some, Option.some.injEq] at this
  rwa [show b - 1 - (b - 1 - k) = k by omega] at this
theorem inBits_eq {ms zs ys : List Int} (hz : ∀ i, i < ms.length → 0 ≤ zs.getD i 0 ∧ zs.getD i 0 ≤ ms.getD i 0) (hy : ∀ i, i < ms.length → 0 ≤ ys.getD i 0 ∧ ys.getD i 0 ≤ ms.getD i 0) :
    ∀ k, k ≤ ms.length → inBits ms zs k = inBits ms ys k → ∀ i, i < k → zs.getD i 0 = ys.getD i 0
  | 0, _, _, i, hi => absurd hi (by omega)
  | k + 1, hk, h, i, hi => by
    rw [inBits, inBits] at h
    have hl : (inBits ms zs k).length = (inBits ms ys k).length := by
      have := congrArg List.length h
      simp only [List.length_append, hiTo_len] at this
      omega
    obtain ⟨h1, h2⟩ := List.append_inj h hl
    rcases Nat.lt_or_ge i k with hlt | hge
    · exact inBits_eq hz hy k (by omega) h1 i hlt
    · obtain rfl : i = k := by omega
      obtain ⟨a1, a2⟩ := hz i (by omega)
      obtain ⟨b1, b2⟩ := hy i (by omega)
      have hb := bitsN_lt (ms.getD i 0).toNat
      have hb' : ms.getD i 0 < ((2 ^ bitsN (ms.getD i 0).toNat : Nat) : Int) := by omega
      exact bit_eq a1 b1 _ (by omega) (by omega) (hiTo_eq h2)
/-- Inputs of the same bits have the same number. -/
theorem bits_at {p : Prg} {n m : Int} (hn : atOk p n = true) (hm : atOk p m = true) (h : bitsB p (atL p n) (atS p n) = bitsB p (atL p m) (atS p m)) : n = m := by
  have hz : codeB p = 0 := by simp [atOk] at hn; exact hn.1
  have hN : 0 ≤ n ∧ n < prodL (maxesP p) := by simp [atOk] at hn; exact hn.2
  have hM : 0 ≤ m ∧ m < prodL (maxesP p) := by simp [atOk] at hm; exact hm.2
  have hw := fun x hx => (wide_of_max hz x hx).1
  rw [bitsB, bitsB, if_pos (at_start hn), if_pos (at_start hm), at_app hn, at_app hm] at h
  have he := inBits_eq (digs_le hw n) (digs_le hw m) _ (Nat.le_refl _) h
  have hd : digs (maxesP p) n = digs (maxesP p) m := by
    apply List.ext_getElem (by rw [digs_len, digs_len])
    intro i h1 h2
    have := he i (by rw [digs_len] at h1; exact h1)
    simpa [List.getD_eq_getElem?_getD, List.getElem?_eq_getElem h1, List.getElem?_eq_getElem h2] using this
  rw [← numFrom_digs hw hN.1 hN.2, ← numFrom_digs hw hM.1 hM.2, hd]
theorem inBits_all {p : Prg} (zs : List Int) : ∀ k, k ≤ (maxesP p).length → (inBits (maxesP p) zs k).length = bitsTo (p.lows ++ p.secrets) k
  | 0, _ => rfl
  | k + 1, hk => by
    rw [inBits, List.length_append, inBits_all zs k (by omega), hiTo_len, bitsTo]
    rw [maxesP, maxesL_getD (by rw [maxesP, maxesL_len] at hk; omega)]
theorem bits_count {p : Prg} {n : Int} (hn : atOk p n = true) : ((bitsB p (atL p n) (atS p n)).length : Int) = bitsInB p := by
  have hz : codeB p = 0 := by simp [atOk] at hn; exact hn.1
  rw [bitsB, if_pos (at_start hn), inBits_all _ _ (Nat.le_refl _), bitsInB, if_pos hz, ← bitsTo_app, maxesP_len, List.length_append]
/-- A right program has at most 2 to the 10 inputs. -/
theorem count_bits {p : Prg} (hz : codeB p = 0) : ∀ k, k ≤ (maxesP p).length → countTo (maxesP p) k ≤ ((2 ^ bitsTo (p.lows ++ p.secrets) k : Nat) : Int)
  | 0, _ => by simp [countTo, bitsTo]
  | k + 1, hk => by
    have h1 := count_bits hz k (by omega)
    have h0 := (countTo_pos (code_max hz) k (by omega)).1
    obtain ⟨m0, m1⟩ := (code_max hz).2 k (by omega)
    have e : (maxesP p).getD k 0 = (tmAt (p.lows ++ p.secrets) k).1 := by rw [maxesP, maxesL_getD (by rw [maxesP, maxesL_len] at hk; omega)]
    have hb := bitsN_lt ((maxesP p).getD k 0).toNat
    have hb' : (maxesP p).getD k 0 + 1 ≤ ((2 ^ bitsN ((maxesP p).getD k 0).toNat : Nat) : Int) := by omega
    rw [countTo, bitsTo, ← e, Nat.pow_add, Int.natCast_mul]
    exact Int.mul_le_mul h1 hb' (by omega) (by omega)
theorem prod_bits {p : Prg} (hz : codeB p = 0) : prodL (maxesP p) ≤ 1024 := by
  have h := count_bits hz _ (Nat.le_refl _)
  rw [countTo_prod] at h
  obtain ⟨_, _, _, hb⟩ := code_inputs hz
  rw [maxesP_len, ← List.length_append, bitsTo_app] at h
  have hp : 2 ^ (bitsTo p.lows p.lows.length + bitsTo p.secrets p.secrets.length) ≤ 2 ^ 10 := Nat.pow_le_pow_right (by omega) hb
  have he : 2 ^ 10 = 1024 := by decide
  omega
theorem grow_of {w w' : World} {row : Option Nat} (h : Below w.heap.size w w') : w.grownBy w' row := ⟨h.os, h.tape, h.output, h.size, fun k hk _ => h.block k hk⟩
end Go.Proofs.Ytflojbjeloilaaa
/- The contract of the model's NumberOf. -/
namespace Go.Proofs.Ytflojbjeloilaaa
open Go.RowKit

/-- The model's StartOf, from world to world. -/
theorem specStart_no (r : PRow) (p : Prg) (a a' : Option Addr) (n c n' c' : Nat) (ls ss : List Int) (w : World) (h : ProgAt w r p) (h1 : Ints w a n ls) (h2 : Ints w a' n' ss) (h0 : startB p ls ss = false) :
    Hid (∀ w', Below w.heap.size w w' → Calls Try.prog 79 #[progV r, .slice a n c, .slice a' n' c'] w' fun e w'' => e = .returned (.tuple #[.agg #[.slice none 0 0, .slice none 0 0], .bool false]) ∧ Below w'.heap.size w' w'') := Lib.hid (fun w' hb => (specStartOf_any r p a a' n c n' c' ls ss w' (h.below hb) (h1.below hb) (h2.below hb)).mono (fun e w'' hh => by
      obtain ⟨hb, ⟨hx, _⟩ | ⟨_, he⟩⟩ := hh
      · rw [h0] at hx; cases hx
      · exact ⟨he, hb⟩))
theorem specStart_yes (r : PRow) (p : Prg) (a a' : Option Addr) (n c n' c' : Nat) (ls ss : List Int) (w : World) (h : ProgAt w r p) (h1 : Ints w a n ls) (h2 : Ints w a' n' ss) (h0 : startB p ls ss = true) :
    Hid (∀ w', Below w.heap.size w w' → Calls Try.prog 79 #[progV r, .slice a n c, .slice a' n' c'] w' fun e w'' => ∃ er : ERow, e = .returned (.tuple #[envV er, .bool true]) ∧ EnvMem w'' w'.heap.size er (none, 0, 0) (startQ p ls ss) ∧ Below w'.heap.size w' w'') := Lib.hid (fun w' hb => (specStartOf_any r p a a' n c n' c' ls ss w' (h.below hb) (h1.below hb) (h2.below hb)).mono (fun e w'' hh => by
      obtain ⟨hb, ⟨_, er, he, hm⟩ | ⟨hx, _⟩⟩ := hh
      · exact ⟨er, he, hm, hb⟩
      · rw [h0] at hx; cases hx))
end Go.Proofs.Ytflojbjeloilaaa
/- The contract of the program's InputBits. -/
namespace Go.Proofs.Ytflojbjeloilaaa
open Go.RowKit

theorem implStart_no (r : PRow) (p : Prg) (a a' : Option Addr) (n c n' c' : Nat) (ls ss : List Int) (w : World) (h : ProgAt w r p) (hcap : r.body.2.1 ≤ r.body.2.2) (h1 : Ints w a n ls) (h2 : Ints w a' n' ss) (h0 : startB p ls ss = false) :
    Hid (∀ w', Below w.heap.size w w' → Calls Try.prog 50 #[progV r, .slice a n c, .slice a' n' c'] w' fun e w'' => e = .returned (.tuple #[.agg #[.slice none 0 0, .slice none 0 0], .bool false]) ∧ Below w'.heap.size w' w'') := Lib.hid (fun w' hb => implStartOf_no r p a a' n c n' c' ls ss w' (h.below hb) hcap (h1.below hb) (h2.below hb) h0)
theorem implStart_yes (r : PRow) (p : Prg) (a a' : Option Addr) (n c n' c' : Nat) (ls ss : List Int) (w : World) (h : ProgAt w r p) (hcap : r.body.2.1 ≤ r.body.2.2) (h1 : Ints w a n ls) (h2 : Ints w a' n' ss) (h0 : startB p ls ss = true) :
    Hid (∀ w', Below w.heap.size w w' → Calls Try.prog 50 #[progV r, .slice a n c, .slice a' n' c'] w' fun e w'' => ∃ er : ERow, e = .returned (.tuple #[envV er, .bool true]) ∧ EnvMem w'' w'.heap.size er (none, 0, 0) (startQ p ls ss) ∧ Below w'.heap.size w' w'') := Lib.hid (fun w' hb => implStartOf_yes r p a a' n c n' c' ls ss w' (h.below hb) hcap (h1.below hb) (h2.below hb) h0)
theorem bit_low (z : Int) (j : Nat) : (bits .and .i64 (z / 2 ^ j) 1 == 1) = bitZ z j := by
  have h := and_pow (z / 2 ^ j) 1 (by omega)
  have e1 : (((2 ^ 1 : Nat) : Int) - 1) = 1 := by decide
  have e2 : ((2 ^ 1 : Nat) : Int) = 2 := by decide
  rw [e1, e2] at h
  have e3 : ((2 ^ j : Nat) : Int) = (2 : Int) ^ j := by push_cast; rfl
  rw [h, bitZ, e3]
set_option maxRecDepth 20000 in
set_option maxHeartbeats 3200000 in
theorem implInputBits_any (r : PRow) (p : Prg) (a a' : Option Addr) (n c n' c' : Nat) (ls ss : List Int) (w : World) (h : ProgAt w r p) (hcap : r.body.2.1 ≤ r.body.2.2) (h1 : Ints w a n ls) (h2 : Ints w a' n' ss) :
    Calls Try.prog 28 #[progV r, .slice a n c, .slice a' n' c'] w (MadeB w (bitsB p ls ss)) := by
  cases h0 : startB p ls ss with
  | false =>
    have HS := implStart_no r p a a' n c n' c' ls ss w h hcap h1 h2 h0
    rw [bitsB, if_neg (by rw [h0]; decide)]
    clear h h1 h2 h0 hcap
    obtain ⟨wd, ⟨a1, n1, c1⟩, ⟨a2, n2, c2⟩, tp, ⟨a3, n3, c3⟩, ⟨a4, n4, c4⟩, rows⟩ := r
    simp only [progV, slV] at HS
    show Calls Try.prog 28 #[.agg #[.int .i64 wd, .slice a1 n1 c1, .slice a2 n2 c2, .int .i64 tp, .slice a3 n3 c3, .slice a4 n4 c4], .slice a n c, .slice a' n' c'] w _
    obtain ⟨wa, HW⟩ : ∃ wa, Hid (wa = w.alloc (.cells #[.int .i64 wd, .slice a1 n1 c1, .slice a2 n2 c2, .int .i64 tp, .slice a3 n3 c3, .slice a4 n4 c4] 28)) := ⟨_, rfl⟩
    have HB : Below w.heap.size w wa := by rw [HW.out]; exact (Below.refl _ _).alloc (Nat.le_refl _) _
    go_enter Try.func28, Try.ntmps28
    go_wp2_with fail
    rw [← HW.out]
    refine (HS.out _ HB).mono ?_
    rintro e w1 ⟨rfl, hb1⟩
    have HF := Lib.hid ((HB.trans (hb1.mono HB.size)).alloc (HB.trans (hb1.mono HB.size)).size (.cells #[.slice none 0 0, .slice none 0 0] 74))
    clear HB hb1 HS HW
    go_wp2
    go_ret
    exact ⟨_, _, _, rfl, ownB_nil _ _, HF.out⟩
  | true =>
    have HS := implStart_yes r p a a' n c n' c' ls ss w h hcap h1 h2 h0
    have hc0 := startB_ok h0
    obtain ⟨hL1, hL2, _, _⟩ := code_inputs hc0
    obtain ⟨hzl, hzi⟩ := start_in h0
    have HM : Hid (∀ w', Below w.heap.size w w' → Calls Try.prog 53 #[progV r] w' (MadeI w' (p.lows ++ p.secrets))) := Lib.hid (fun w' hw => inputsOf_any r p w' (h.below hw) (by omega))
    have HMX := Lib.hid (code_max hc0)
    have HZI := Lib.hid hzi
    rw [bitsB, if_pos h0]
    have hL6 : (maxesP p).length ≤ 6 := (code_max hc0).1
    have HZV : Hid (∀ k, k < (maxesP p).length → (startQ p ls ss).vars.getD k 0 = (ls ++ ss).getD k 0) := Lib.hid (fun k hk => by rw [startQ]; simp only []; exact getD_app_left (by omega))
    have HLV : Hid ((maxesP p).length ≤ (startQ p ls ss).vars.length) := Lib.hid (by rw [← hzl, startQ]; simp only [List.length_append]; omega)
    have HMV : Hid (∀ k, k < (maxesP p).length → (tmAt (p.lows ++ p.secrets) k).1 = (maxesP p).getD k 0) := Lib.hid (fun k hk => by rw [maxesP, maxesL_getD (by rw [maxesP_len] at hk; simpa using hk)])
    have HTL : Hid ((p.lows ++ p.secrets).length = (maxesP p).length) := Lib.hid (by rw [maxesP_len]; simp)
    clear h h1 h2 h0 hc0 hL1 hL2 hzl hzi hcap
    obtain ⟨ms, HMS⟩ : ∃ ms, Hid (maxesP p = ms) := ⟨_, Lib.hid rfl⟩
    obtain ⟨zs, HZS⟩ : ∃ zs, Hid (ls ++ ss = zs) := ⟨_, Lib.hid rfl⟩
    obtain ⟨ts, HTS⟩ : ∃ ts, Hid (p.lows ++ p.secrets = ts) := ⟨_, Lib.hid rfl⟩
    rw [HMS.out] at HMX HZI HZV HMV HTL HLV hL6 ⊢
    rw [HZS.out] at HZI HZV ⊢
    rw [HTS.out] at HM HMV HTL
    clear HMS HZS HTS
    obtain ⟨L, HLE⟩ : ∃ L, Hid (ms.length = L) := ⟨_, rfl⟩
    rw [HLE.out] at HZI HZV HMV HTL HLV hL6 ⊢
    obtain ⟨wd, ⟨a1, n1, c1⟩, ⟨a2, n2, c2⟩, tp, ⟨a3, n3, c3⟩, ⟨a4, n4, c4⟩, rows⟩ := r
    simp only [progV, slV] at HS HM
    show Calls Try.prog 28 #[.agg #[.int .i64 wd, .slice a1 n1 c1, .slice a2 n2 c2, .int .i64 tp, .slice a3 n3 c3, .slice a4 n4 c4], .slice a n c, .slice a' n' c'] w _
    obtain ⟨wa, HW⟩ : ∃ wa, Hid (wa = w.alloc (.cells #[.int .i64 wd, .slice a1 n1 c1, .slice a2 n2 c2, .int .i64 tp, .slice a3 n3 c3, .slice a4 n4 c4] 28)) := ⟨_, rfl⟩
    have B0 : Blk wa w.heap.size 28 [.int .i64 wd, .slice a1 n1 c1, .slice a2 n2 c2, .int .i64 tp, .slice a3 n3 c3, .slice a4 n4 c4] := by rw [HW.out]; exact Blk.new w _ _
    have HB : Below w.heap.size w wa := by rw [HW.out]; exact (Below.refl _ _).alloc (Nat.le_refl _) _
    go_enter Try.func28, Try.ntmps28
    go_wp2_with fail
    rw [← HW.out]
    refine (HS.out _ HB).mono ?_
    rintro e w1 ⟨⟨⟨va, vn, vc⟩, ⟨ca, cn, cc⟩, rws⟩, rfl, hm, hb1⟩
    simp only [envV, slV]
    obtain ⟨wb, HWB⟩ : ∃ wb, Hid (wb = w1.alloc (.cells #[.slice va vn vc, .slice ca cn cc] 74)) := ⟨_, rfl⟩
    have hbw : Below w1.heap.size w1 wb := by rw [HWB.out]; exact (Below.refl _ _).alloc (Nat.le_refl _) _
    have E1 : Blk wb w1.heap.size 74 [.slice va vn vc, .slice ca cn cc] := by rw [HWB.out]; exact Blk.new w1 _ _
    have HB1 := (HB.trans (hb1.mono HB.size)).trans (hbw.mono (HB.trans (hb1.mono HB.size)).size)
    have B1 := (B0.below hb1 B0.lt).below hbw (B0.below hb1 B0.lt).lt
    have hv := (hm.below hbw).vars
    have t0 := B1.cell (j := 0) rfl
    have t1 := B1.cell (j := 1) rfl
    have t2 := B1.cell (j := 2) rfl
    have t3 := B1.cell (j := 3) rfl
    have t4 := B1.cell (j := 4) rfl
    have t5 := B1.cell (j := 5) rfl
    rw [HWB.out] at t0 t1 t2 t3 t4 t5
    clear HB hb1 HS HW hbw B0 B1 hm
    go_wp2_with fail
    rw [← HWB.out]
    obtain ⟨k7, HK7⟩ : ∃ k7, Hid (w1.heap.size = k7) := ⟨_, rfl⟩
    rw [HK7.out] at E1 ⊢
    refine (HM.out _ HB1).mono ?_
    rintro e w2 ⟨ia, im, ic, rfl, hoi, hb2⟩
    have him : im = L := by rw [← hoi.len, HTL.out]
    subst him
    have HB2 := Lib.hid (HB1.trans (hb2.mono HB1.size))
    have HEV := Lib.hid (E1.below hb2 E1.lt)
    have HVV := Lib.hid (hv.below hb2).ints
    have HTT := Lib.hid hoi.terms
    clear t0 t1 t2 t3 t4 t5 HWB HK7 HM HB1 hv E1 hoi hb2
    go_wp2_with fail
    go_loopw [9, 25] (fun o i wr => ∃ (k m : Nat) (a : Option Addr) (c : Nat), k ≤ im ∧ i = .int .i64 (k : Int) ∧ o = .slice a m c ∧ OwnB wr w2.heap.size a m c (inBits ms zs k) ∧ Below w2.heap.size w2 wr) (fun _ i _ => im - (intOf i).toNat)
    case atStart => exact ⟨0, 0, _, _, Nat.zero_le _, rfl, rfl, ownB_nil _ _, Below.refl _ _⟩
    case round =>
      obtain ⟨k, mm, oa, oc, hk, rfl, rfl, hown, hbel⟩ := hrel
      by_cases hlt : k < im
      · obtain ⟨b1, o1, x, y, rfl, hbl1, hx, hin1, hin2, hc1, hc2⟩ := (HTT.out.below (Nat.le_refl _) hbel).at_ hlt
        have e0 := (HEV.out.below hbel HEV.out.lt).cell (j := 0) rfl
        have hxm := HMV.out k hlt
        rw [hx.out] at hxm
        simp only [] at hxm
        obtain ⟨m1, m2⟩ := HMX.out.2 k (by rw [HLE.out]; exact hlt)
        obtain ⟨z1, z2⟩ := HZI.out k hlt
        rw [← hxm] at m1 m2 z2
        have hb8 := bits8 m1 m2
        have hmm : mm ≤ 48 := by have := hown.len; have := inBits_len (zs := zs) HMX.out k (by rw [HLE.out]; omega); omega
        have HNX : Hid (inBits ms zs (k + 1) = inBits ms zs k ++ hiTo (zs.getD k 0) (bitsN x.toNat) (bitsN x.toNat)) := Lib.hid (by rw [inBits, ← hxm])
        obtain ⟨z, HZZ⟩ : ∃ z, Hid (zs.getD k 0 = z) := ⟨_, rfl⟩
        rw [HZZ.out] at z1 z2 HNX
        obtain ⟨b, HBN⟩ : ∃ b, Hid (bitsN x.toNat = b) := ⟨_, rfl⟩
        rw [HBN.out] at hb8 HNX
        have HL6 : Hid (∀ w', Calls Try.prog 58 #[.int .u64 x] w' fun e w'' => e = .returned (.int .i64 (b : Int)) ∧ w' = w'') := Lib.hid (fun w' => by rw [← HBN.out]; exact len64_any x w' m1 (by omega))
        have HOW := Lib.hid hown
        have HBE := Lib.hid hbel
        clear hown hbel hx hxm hin1 hin2 HBN
        go_wp2_with fail
        refine (HL6.out _).mono ?_
        rintro e w11 ⟨rfl, rfl⟩
        go_wp2_with fail
        obtain ⟨wo, HWO⟩ : ∃ wo, Hid (wo = wr.alloc (.cells #[.int .i64 x, .int .i64 y] 64)) := ⟨_, rfl⟩
        rw [← HWO.out]
        have hbo : Below wr.heap.size wr wo := by rw [HWO.out]; exact (Below.refl _ _).alloc (Nat.le_refl _) _
        have HRE : Hid (OwnB wo w2.heap.size oa mm oc (inBits ms zs k ++ hiTo z b 0)) := Lib.hid (by rw [hiTo_zero, List.append_nil]; exact HOW.out.below hbo)
        have HBO := Lib.hid (HBE.out.trans (hbo.mono HBE.out.size))
        clear hbo HWO HOW HBE e0 hc1 hc2
        go_loopw [9, 12] (fun o q wx => ∃ (i j : Nat) (a : Option Addr) (c : Nat), i + j = b ∧ q = .int .i64 ((j : Int) - 1) ∧ o = .slice a (mm + i) c ∧ Hid (OwnB wx w2.heap.size a (mm + i) c (inBits ms zs k ++ hiTo z b i)) ∧ Hid (Below w2.heap.size w2 wx)) (fun _ q _ => (intOf q + 1).toNat)
        case atStart => exact ⟨0, b, oa, oc, by omega, rfl, rfl, HRE, HBO⟩
        case round =>
          clear HRE HBO
          obtain ⟨i, j, pa, pc, hij, rfl, rfl, HPO, HPB⟩ := hrel
          rcases j with _ | j
          · obtain rfl : i = b := by omega
            have hoo := HPO.out
            rw [← HNX.out] at hoo
            have HOO := Lib.hid hoo
            have hneg : decide ((0 : Int) ≤ -1) = false := rfl
            clear HPO hoo
            go_wp2
            go_roundw
            case rel => exact ⟨k + 1, _, _, _, by omega, by go_num, rfl, HOO.out, HPB.out⟩
            case measure => simp [intOf]; omega
          · have ej : (((j + 1 : Nat) : Int) - 1) = (j : Int) := by omega
            rw [ej]
            have e0 := (HEV.out.below HPB.out HEV.out.lt).cell (j := 0) rfl
            have hvl : (startQ p ls ss).vars.length = vn := HVV.out.1
            have hkv : k < vn := by have := HLV.out; omega
            obtain ⟨b3, o3, z3, rfl, hbl3, hz3, _, hc3⟩ := (HVV.out.below HPB.out).at_ hkv
            have ez : z3 = z := by rw [hz3.out, HZV.out k hlt, HZZ.out]
            subst ez
            have HBT : Hid (hiTo z3 b (i + 1) = hiTo z3 b i ++ [bits .and .i64 (z3 / 2 ^ j) 1 == 1]) := Lib.hid (by rw [hiTo_succ, bit_low, show b - 1 - i = j by omega])
            have hBs := HPB.out.size
            have hon := HPO.out.alloc (.cells #[.bool (bits .and .i64 (z3 / 2 ^ j) 1 == 1)] 4)
            have hj8 : j < 8 := by omega
            clear ej hz3 hvl
            go_wp2_with (at_builtin; refine wpList_pushB _ rfl _ _ rfl w2.heap.size pa (mm + i) pc _ rfl hon _ (bits .and .i64 (z3 / 2 ^ j) 1 == 1) rfl (by simp) (by omega) (by simp; omega) ?_)
            intro a8 c8 w8 hown8 hg8
            rw [← HBT.out] at hown8
            have HO8 : Hid (OwnB w8 w2.heap.size a8 (mm + (i + 1)) c8 (inBits ms zs k ++ hiTo z3 b (i + 1))) := Lib.hid hown8
            have HB8 : Hid (Below w2.heap.size w2 w8) := Lib.hid ((HPB.out.alloc hBs _).grown hg8 (by simp; omega) (fun k hk => (hon.block k hk).1))
            clear hown8 hg8 hon HPO HPB hc3 hBs e0
            go_wp2
            go_roundw
            case rel => exact ⟨i + 1, j, a8, c8, by omega, rfl, rfl, HO8, HB8⟩
            case measure => simp [intOf]
      · obtain rfl : k = im := by omega
        have HF := Lib.hid (HB2.out.trans (hbel.mono HB2.out.size))
        have HO := Lib.hid (hown.base HB2.out.size)
        clear hbel hown
        go_wp2
        go_ret
        exact ⟨_, _, _, rfl, HO.out, HF.out⟩
end Go.Proofs.Ytflojbjeloilaaa
/- The contract of the program's NumberOf. -/
namespace Go.Proofs.Ytflojbjeloilaaa
open Go.RowKit Go.Shelf
attribute [local go_sem] Oper.semAt_some

/-- The number, place by place. -/
def foldN (ms zs : List Int) {L : Nat} (pre : List { j : Nat // j < L }) : Int := pre.foldl (fun q x => q * (ms.getD x.1 0 + 1) + zs.getD x.1 0) 0
theorem foldN_snoc (ms zs : List Int) {L : Nat} (pre : List { j : Nat // j < L }) (x : { j : Nat // j < L }) : foldN ms zs (pre ++ [x]) = foldN ms zs pre * (ms.getD x.1 0 + 1) + zs.getD x.1 0 := by simp [foldN]
theorem foldN_back {ms zs : List Int} {L : Nat} (hL : ms.length = L) : ∀ k, k ≤ L → foldN ms zs (backTo L k) = numFrom ms zs k
  | 0, _ => rfl
  | k + 1, h => by rw [backTo_succ (by omega), foldN_snoc, foldN_back hL k (by omega), numFrom, hL]
theorem foldN_in {ms zs : List Int} {L : Nat} (hL : ms.length = L) (hm : MaxOk ms) (hz : ∀ i, i < L → 0 ≤ zs.getD i 0 ∧ zs.getD i 0 ≤ ms.getD i 0) (pre : List { j : Nat // j < L }) : 0 ≤ foldN ms zs pre ∧ foldN ms zs pre < ((256 ^ pre.length : Nat) : Int) := by
  have : ∀ r : List { j : Nat // j < L }, 0 ≤ foldN ms zs r.reverse ∧ foldN ms zs r.reverse < ((256 ^ r.length : Nat) : Int) := by
    intro r
    induction r with
    | nil => simp [foldN]
    | cons x r ih =>
      rw [List.reverse_cons, foldN_snoc, List.length_cons]
      obtain ⟨h1, h2⟩ := ih
      obtain ⟨h3, h4⟩ := hm.2 x.1 (by rw [hL]; exact x.2)
      obtain ⟨h5, h6⟩ := hz x.1 x.2
      generalize foldN ms zs r.reverse = c at h1 h2 ⊢
      generalize ms.getD x.1 0 = m at h3 h4 h6 ⊢
      generalize zs.getD x.1 0 = z at h5 h6 ⊢
      have e1 : c * (m + 1) ≤ c * 256 := Int.mul_le_mul_of_nonneg_left (by omega) h1
      have e0 : 0 ≤ c * (m + 1) := Int.mul_nonneg h1 (by omega)
      rw [Nat.pow_succ, Int.natCast_mul]
      generalize ((256 ^ r.length : Nat) : Int) = t at h2 ⊢
      generalize c * (m + 1) = q at e0 e1 ⊢
      show 0 ≤ q + z ∧ q + z < t * 256
      omega
  have h := this pre.reverse
  rwa [List.reverse_reverse, List.length_reverse] at h
theorem foldN_small {ms zs : List Int} {L : Nat} (hL : ms.length = L) (hm : MaxOk ms) (hz : ∀ i, i < L → 0 ≤ zs.getD i 0 ∧ zs.getD i 0 ≤ ms.getD i 0) (pre : List { j : Nat // j < L }) (hp : pre.length < 6) : 0 ≤ foldN ms zs pre ∧ foldN ms zs pre < 1099511627776 := by
  obtain ⟨h1, h2⟩ := foldN_in hL hm hz pre
  have hp' : 256 ^ pre.length ≤ 256 ^ 5 := Nat.pow_le_pow_right (by omega) (by omega)
  have hq : ((256 ^ pre.length : Nat) : Int) ≤ ((256 ^ 5 : Nat) : Int) := Int.ofNat_le.2 hp'
  have he : ((256 ^ 5 : Nat) : Int) = 1099511627776 := by decide
  exact ⟨h1, by omega⟩
theorem ownSame {w w' : World} {B : Nat} {a : Option Addr} {n c : Nat} {zs : List Int} (h : Own w B a n c zs) (hs : ∀ g, (Value.slice a n c).ownBlock = some g → w'.heap[g]? = w.heap[g]?) : Own w' B a n c zs := by
  refine ⟨⟨h.1.1, ?_⟩, h.2⟩
  rcases h.1.2 with hn | ⟨g, cap, cur, e, hb, hg, r⟩
  · exact .inl hn
  · exact .inr ⟨g, cap, cur, e, hb, (hs g (by rw [e]; rfl)).trans hg, r⟩
set_option maxRecDepth 100000 in
set_option maxHeartbeats 4000000 in
theorem implNumberOf_any (r : PRow) (p : Prg) (a a' : Option Addr) (n c n' c' : Nat) (ls ss : List Int) (w : World) (h : ProgAt w r p) (hcap : r.body.2.1 ≤ r.body.2.2) (h1 : Ints w a n ls) (h2 : Ints w a' n' ss) :
    Calls Try.prog 27 #[progV r, .slice a n c, .slice a' n' c'] w fun e w' => e = .returned (.int .i64 (numB p ls ss)) ∧ Below w.heap.size w w' := by
  cases h0 : startB p ls ss with
  | false =>
    have HS := implStart_no r p a a' n c n' c' ls ss w h hcap h1 h2 h0
    rw [numB, if_neg (by rw [h0]; decide)]
    clear h h1 h2 h0 hcap
    obtain ⟨wd, ⟨a1, n1, c1⟩, ⟨a2, n2, c2⟩, tp, ⟨a3, n3, c3⟩, ⟨a4, n4, c4⟩, rows⟩ := r
    simp only [progV, slV] at HS
    show Calls Try.prog 27 #[.agg #[.int .i64 wd, .slice a1 n1 c1, .slice a2 n2 c2, .int .i64 tp, .slice a3 n3 c3, .slice a4 n4 c4], .slice a n c, .slice a' n' c'] w _
    obtain ⟨wa, HW⟩ : ∃ wa, Hid (wa = w.alloc (.cells #[.int .i64 wd, .slice a1 n1 c1, .slice a2 n2 c2, .int .i64 tp, .slice a3 n3 c3, .slice a4 n4 c4] 28)) := ⟨_, rfl⟩
    have HB : Below w.heap.size w wa := by rw [HW.out]; exact (Below.refl _ _).alloc (Nat.le_refl _) _
    go_enter Try.func27, Try.ntmps27
    go_wp2_with fail
    rw [← HW.out]
    refine (HS.out _ HB).mono ?_
    rintro e w1 ⟨rfl, hb1⟩
    have HF := Lib.hid ((HB.trans (hb1.mono HB.size)).alloc (HB.trans (hb1.mono HB.size)).size (.cells #[.slice none 0 0, .slice none 0 0] 74))
    clear HB hb1 HS HW
    go_wp2
    go_ret
    exact ⟨rfl, HF.out⟩
  | true =>
    have HS := implStart_yes r p a a' n c n' c' ls ss w h hcap h1 h2 h0
    have hc0 := startB_ok h0
    obtain ⟨hL1, hL2, _, _⟩ := code_inputs hc0
    obtain ⟨hzl, hzi⟩ := start_in h0
    have HM : Hid (∀ w', Below w.heap.size w w' → Calls Try.prog 53 #[progV r] w' (MadeI w' (p.lows ++ p.secrets))) := Lib.hid (fun w' hw => inputsOf_any r p w' (h.below hw) (by omega))
    have HMX := Lib.hid (code_max hc0)
    have HZI := Lib.hid hzi
    rw [numB, if_pos h0]
    have hL6 : (maxesP p).length ≤ 6 := (code_max hc0).1
    have HZV : Hid (∀ k, k < (maxesP p).length → (startQ p ls ss).vars.getD k 0 = (ls ++ ss).getD k 0) := Lib.hid (fun k hk => by rw [startQ]; simp only []; exact getD_app_left (by omega))
    have HLV : Hid ((maxesP p).length ≤ (startQ p ls ss).vars.length) := Lib.hid (by rw [← hzl, startQ]; simp only [List.length_append]; omega)
    have HMV : Hid (∀ k, k < (maxesP p).length → (tmAt (p.lows ++ p.secrets) k).1 = (maxesP p).getD k 0) := Lib.hid (fun k hk => by rw [maxesP, maxesL_getD (by rw [maxesP_len] at hk; simpa using hk)])
    have HTL : Hid ((p.lows ++ p.secrets).length = (maxesP p).length) := Lib.hid (by rw [maxesP_len]; simp)
    clear h h1 h2 h0 hc0 hL1 hL2 hzl hzi hcap
    obtain ⟨ms, HMS⟩ : ∃ ms, Hid (maxesP p = ms) := ⟨_, Lib.hid rfl⟩
    obtain ⟨zs, HZS⟩ : ∃ zs, Hid (ls ++ ss = zs) := ⟨_, Lib.hid rfl⟩
    obtain ⟨ts, HTS⟩ : ∃ ts, Hid (p.lows ++ p.secrets = ts) := ⟨_, Lib.hid rfl⟩
    rw [HMS.out] at HMX HZI HZV HMV HTL HLV hL6 ⊢
    rw [HZS.out] at HZI HZV ⊢
    rw [HTS.out] at HM HMV HTL
    clear HMS HZS HTS
    obtain ⟨L, HLE⟩ : ∃ L, Hid (ms.length = L) := ⟨_, rfl⟩
    rw [HLE.out] at HZI HZV HMV HTL HLV hL6 ⊢
    obtain ⟨wd, ⟨a1, n1, c1⟩, ⟨a2, n2, c2⟩, tp, ⟨a3, n3, c3⟩, ⟨a4, n4, c4⟩, rows⟩ := r
    simp only [progV, slV] at HS HM
    show Calls Try.prog 27 #[.agg #[.int .i64 wd, .slice a1 n1 c1, .slice a2 n2 c2, .int .i64 tp, .slice a3 n3 c3, .slice a4 n4 c4], .slice a n c, .slice a' n' c'] w _
    obtain ⟨wa, HW⟩ : ∃ wa, Hid (wa = w.alloc (.cells #[.int .i64 wd, .slice a1 n1 c1, .slice a2 n2 c2, .int .i64 tp, .slice a3 n3 c3, .slice a4 n4 c4] 28)) := ⟨_, rfl⟩
    have B0 : Blk wa w.heap.size 28 [.int .i64 wd, .slice a1 n1 c1, .slice a2 n2 c2, .int .i64 tp, .slice a3 n3 c3, .slice a4 n4 c4] := by rw [HW.out]; exact Blk.new w _ _
    have HB : Below w.heap.size w wa := by rw [HW.out]; exact (Below.refl _ _).alloc (Nat.le_refl _) _
    refine (callsIn_wide (n := 6)).1 ?_
    refine callsIn_of_wp_marks Try.func27 rfl trivial ?_ rfl
    simp only [Try.ntmps27, List.size_toArray, List.length_cons, List.length_nil, Nat.reduceAdd, Nat.reduceSub, Array.replicate_succ, Array.replicate_zero, List.push_toArray, List.append_toArray, List.nil_append, List.cons_append]
    gi_wp2_with fail
    rw [← HW.out]
    refine ⟨trivial, (callsIn_wide.2 (HS.out _ HB)).mono ?_⟩
    rintro e w1 ⟨⟨⟨va, vn, vc⟩, ⟨ca, cn, cc⟩, rws⟩, rfl, hm, hb1⟩
    simp only [envV, slV]
    obtain ⟨wb, HWB⟩ : ∃ wb, Hid (wb = (w1.alloc (.cells #[.slice va vn vc, .slice ca cn cc] 74)).alloc (.cells #[.int .i64 0] 2)) := ⟨_, rfl⟩
    have hbw : Below w1.heap.size w1 wb := by rw [HWB.out]; exact ((Below.refl _ _).alloc (Nat.le_refl _) _).alloc (by simp) _
    have E1 : Blk wb w1.heap.size 74 [.slice va vn vc, .slice ca cn cc] := by rw [HWB.out]; exact (Blk.new w1 _ _).alloc _
    have N1 : Blk wb (w1.heap.size + 1) 2 [.int .i64 0] := by rw [HWB.out]; simpa using Blk.new (w1.alloc (.cells #[.slice va vn vc, .slice ca cn cc] 74)) 2 [.int .i64 0]
    have HB1 := (HB.trans (hb1.mono HB.size)).trans (hbw.mono (HB.trans (hb1.mono HB.size)).size)
    have B1 := (B0.below hb1 B0.lt).below hbw (B0.below hb1 B0.lt).lt
    have hv := (hm.below hbw).vars
    have t0 := B1.cell (j := 0) rfl
    have t1 := B1.cell (j := 1) rfl
    have t2 := B1.cell (j := 2) rfl
    have t3 := B1.cell (j := 3) rfl
    have t4 := B1.cell (j := 4) rfl
    have t5 := B1.cell (j := 5) rfl
    rw [HWB.out] at t0 t1 t2 t3 t4 t5
    have hlw : w.heap.size ≤ w1.heap.size := (HB.trans (hb1.mono HB.size)).size
    obtain ⟨k7, HK7⟩ : ∃ k7, Hid (w1.heap.size = k7) := ⟨_, rfl⟩
    rw [HK7.out] at E1 N1 hlw
    have hvb : ∀ g, (Value.slice va vn vc).ownBlock = some g → g < k7 := fun g hg => by have := (hm.vars.block g hg).2; rw [HK7.out] at this; exact this
    clear HB hb1 HS HW hbw B0 B1 hm
    gi_wp2_with fail
    rw [← HWB.out, HK7.out]
    refine ⟨trivial, (callsIn_wide.2 (HM.out _ HB1)).mono ?_⟩
    rintro e w2 ⟨ia, im, ic, rfl, hoi, hb2⟩
    gi_wp2_with fail
    refine ⟨trivial, (backward_in _ ia im ic _).mono ?_⟩
    rintro e w3 ⟨rfl, rfl⟩
    gi_wp2_with fail
    have him : L = im := by rw [← hoi.len, HTL.out]
    subst him
    obtain ⟨W0, HW0⟩ : ∃ W0, Hid (W0 = w2.alloc (.cells #[.slice ia L ic] 24)) := ⟨_, rfl⟩
    have hb0 : Below w2.heap.size w2 W0 := by rw [HW0.out]; exact (Below.refl _ _).alloc (Nat.le_refl _) _
    have HBX : Blk W0 w2.heap.size 24 [.slice ia L ic] := by rw [HW0.out]; exact Blk.new w2 _ _
    have HOI := Lib.hid (hoi.below hb0)
    have hkb : k7 + 1 < wb.heap.size := N1.lt
    have hkw : wb.heap.size ≤ w2.heap.size := hb2.size
    have HEV := Lib.hid ((E1.below hb2 E1.lt).below hb0 (E1.below hb2 E1.lt).lt)
    have HN0 := Lib.hid ((N1.below hb2 N1.lt).below hb0 (N1.below hb2 N1.lt).lt)
    have HVV := Lib.hid ((hv.below hb2).below hb0)
    have HBE : Below w.heap.size w W0 := (HB1.trans (hb2.mono HB1.size)).trans (hb0.mono (HB1.trans (hb2.mono HB1.size)).size)
    rw [← HW0.out]
    obtain ⟨bs, HBS⟩ : ∃ bs, Hid (w2.heap.size = bs) := ⟨_, rfl⟩
    rw [HBS.out] at HBX hkw ⊢
    have hbsz : bs < W0.heap.size := HBX.lt
    clear hoi hb0 HW0 E1 N1 hv hb2 HB1 HM t0 t1 t2 t3 t4 t5 HWB HK7 HTL
    refine wpIn_rangeFunc_ownH (α := { j : Nat // j < L }) rfl (by omega) (gf := 89) (lb := #[.pointer (some ⟨bs, 0, none⟩)]) rfl trivial (enters_of Try.func89 (by kernel_rfl) rfl)
      (backward_stops 5 (by omega) bs L ic ia ts (KeepBut W0.heap.size (k7 + 1)) (KeepBut.refl _ _) (fun h k => h.trans k) W0
        (fun W W' hW hk => Blk.cell (show Blk W' bs 24 [.slice ia L ic] from ((hk.block bs hbsz (by omega)).trans (hW.block bs hbsz)).trans HBX) (j := 0) rfl)
        (fun W W' hW hk => (ownI_same (HOI.out.below hW) (fun g hg => hk.block g (by have := (HOI.out.block g hg).2; omega) (by have := (HOI.out.block g hg).1; omega))).terms))
      (fun h k => h.trans k) (fun W l o o' hl _ _ _ => KeepBut.put W o' hl) (Below.refl _ _) (fun _ => rfl)
      (fun pre W => Blk W (k7 + 1) 2 [.int .i64 (foldN ms zs pre)] ∧ KeepBut W0.heap.size (k7 + 1) W0 W)
      (fun _ _ _ => False)
      (fun s A B row hs hg hr => ⟨(hg.block (k7 + 1) hs.1.lt (fun e => by have := (hr _ e.symm).1; omega)).trans hs.1, hg.os.trans hs.2.os, hg.tape.trans hs.2.tape, hg.output.trans hs.2.output, Nat.le_trans hs.2.size hg.size, fun k hk hne => (hg.block k (Nat.lt_of_lt_of_le hk hs.2.size) (fun e => by have := (hr _ e.symm).1; omega)).trans (hs.2.block k hk hne)⟩)
      (fun _ _ _ _ _ hs _ _ => hs)
      ⟨HN0.out, KeepBut.refl _ _ _⟩
      (fun x act W => ∃ Bx, W0.heap.size ≤ Bx ∧ Blk W Bx 64 [.int .i64 (tmAt ts x.1).1, .int .i64 (tmAt ts x.1).2] ∧ act = { tmps := #[.agg #[.int .i64 wd, .slice a1 n1 c1, .slice a2 n2 c2, .int .i64 tp, .slice a3 n3 c3, .slice a4 n4 c4], .slice a n c, .slice a' n' c', .pointer (some ⟨w.heap.size, 0, none⟩), undef, undef, .int .i64 0, .pointer (some ⟨k7, 0, none⟩), .bool true, .pointer (some ⟨k7 + 1, 0, none⟩), .int .i64 (x.1 : Int), .pointer (some ⟨Bx, 0, none⟩), .tuple #[.agg #[.slice va vn vc, .slice ca cn cc], .bool true], .agg #[.int .i64 wd, .slice a1 n1 c1, .slice a2 n2 c2, .int .i64 tp, .slice a3 n3 c3, .slice a4 n4 c4], .slice a n c, .slice a' n' c', .tuple #[.agg #[.slice va vn vc, .slice ca cn cc], .bool true], .agg #[.slice va vn vc, .slice ca cn cc], .bool true, .bool true, .bool false, .agg #[.int .i64 wd, .slice a1 n1 c1, .slice a2 n2 c2, .int .i64 tp, .slice a3 n3 c3, .slice a4 n4 c4], .slice ia L ic, .func (.func 89) #[] #[.pointer (some ⟨bs, 0, none⟩)], .int .i64 (x.1 : Int), .agg #[.int .i64 (tmAt ts x.1).1, .int .i64 (tmAt ts x.1).2], undef, undef, undef, undef, undef, undef, undef, undef, undef, undef, undef, undef], defers := [] })
      (fun x a' _ X Y row hs hg hr => by
        obtain ⟨Bx, h1, h2, h3⟩ := hs
        refine ⟨Bx, h1, (hg.block Bx h2.lt (fun e => ?_)).trans h2, h3⟩
        obtain ⟨_, o, ho, hc⟩ := hr _ e.symm
        rw [show X.heap[Bx]? = _ from h2] at ho
        injection ho with ho
        subst ho
        cases hc)
      ?assign ?body ?done ?stop
    case assign =>
      rintro l pre x W K ⟨hn9, hk9⟩ hK
      simp only [encB]
      gi_wp2
      exact hK _ _ ((KeepsOthers.alloc _ _).from _) (KeepBut.of_below ((Below.refl _ W).alloc hk9.size _)) ⟨hn9.alloc _, hk9.trans (KeepBut.of_below ((Below.refl _ W).alloc hk9.size _))⟩ ⟨W.heap.size, hk9.size, Blk.new W 64 [.int .i64 (tmAt ts x.1).1, .int .i64 (tmAt ts x.1).2], rfl⟩
    case body =>
      rintro l pre ⟨j, hj⟩ act W hl _ ⟨hn9, hk9⟩ ⟨Bx, hBx, bX, rfl⟩ hlt
      simp only [] at bX hlt ⊢
      have hv : Own W wa.heap.size va vn vc (startQ p ls ss).vars := ownSame HVV.out (fun g hg => hk9.block g (by have := hvb g hg; omega) (by have := hvb g hg; omega))
      have e7 : Blk W k7 74 [.slice va vn vc, .slice ca cn cc] := (hk9.block k7 (by omega) (by omega)).trans HEV.out
      have hjv : j < vn := by have := HLV.out; have := HVV.out.len; omega
      obtain ⟨b3, o3, z, rfl, hbl3, hz3, _, hc3⟩ := hv.ints.at_ hjv
      have ez : z = zs.getD j 0 := by rw [hz3.out, HZV.out j hj]
      have em : (tmAt ts j).1 = ms.getD j 0 := HMV.out j hj
      obtain ⟨m1, m2⟩ := HMX.out.2 j (by rw [HLE.out]; exact hj)
      obtain ⟨z1, z2⟩ := HZI.out j hj
      obtain ⟨q1, q2⟩ := foldN_small HLE.out HMX.out HZI.out pre (by omega)
      have HST : Hid (foldN ms zs (pre ++ [⟨j, hj⟩]) = foldN ms zs pre * (ms.getD j 0 + 1) + zs.getD j 0) := Lib.hid (foldN_snoc ms zs pre ⟨j, hj⟩)
      rw [em] at bX ⊢
      rw [← ez] at z1 z2 HST
      obtain ⟨m, HM2⟩ : ∃ m, Hid (ms.getD j 0 = m) := ⟨_, rfl⟩
      rw [HM2.out] at m1 m2 z2 HST bX ⊢
      obtain ⟨Q, HQ⟩ : ∃ Q, Hid (foldN ms zs pre = Q) := ⟨_, rfl⟩
      rw [HQ.out] at q1 q2 HST hn9
      have hq3 : 0 ≤ Q * (m + 1) := Int.mul_nonneg q1 (by omega)
      have hq4 : Q * (m + 1) ≤ Q * 256 := Int.mul_le_mul_of_nonneg_left (by omega) q1
      have hq5 : Q * (m + 1) ≤ 281474976710656 := by omega
      have c9 := hn9.cell (j := 0) rfl
      have f9 := hn9.frozen 0
      have cx := bX.cell (j := 0) rfl
      have c7 := e7.cell (j := 0) rfl
      have HN9 := Lib.hid (hn9.set (j := 0) (.int .i64 (Q * (m + 1) + z)))
      have HK9 := Lib.hid hk9
      clear hq4 ez em hz3 hv e7 hn9 hk9
      gi_wp2
      refine inRound_tail 11 (by kernel_rfl) (by kernel_rfl) (by kernel_rfl) (fun h => by obtain ⟨_, _, h⟩ := h; exact h) ?_
      simp only [List.take_succ_cons, List.take_zero, List.drop_succ_cons, List.drop_zero]
      repeat still_step
      refine wpStill_nil ?_
      go_wp2
      have hset0 := KeepBut.set (n₀ := W0.heap.size) (b := k7 + 1) (j := 0) W (.int .i64 (Q * (m + 1) + z))
      have hset : KeepBut W0.heap.size (k7 + 1) W ((W.setCell ⟨k7 + 1, 0, none⟩ (.int .i64 (Q * (m + 1) + z))).drew) := ⟨hset0.os, hset0.tape, hset0.output, hset0.size, hset0.block⟩
      have hkf := (KeepsOthers.setCell W ⟨k7 + 1, 0, none⟩ (.int .i64 (Q * (m + 1) + z))).from W0.heap.size
      refine ⟨⟨hkf.size, hkf.same⟩, hset, ?_, HK9.out.trans hset⟩
      rw [HST.out]
      exact HN9.out
    case done =>
      rintro D ys W hD rfl ⟨hn9, hk9⟩ hK
      have c9 := hn9.cell (j := 0) rfl
      rw [foldN_back HLE.out L (Nat.le_refl _)] at c9
      have HF := Lib.hid (show Below w.heap.size w W from ⟨hk9.os.trans HBE.os, hk9.tape.trans HBE.tape, hk9.output.trans HBE.output, Nat.le_trans HBE.size hk9.size, fun k hk => (hk9.block k (by omega) (by omega)).trans (HBE.block k hk)⟩)
      have hDB : w.heap.size ≤ D := by omega
      gi_wp2
      refine ⟨by simp, .inl ⟨_, _, rfl, run_takeDeferred hK, ?_⟩⟩
      refine ⟨_, results_tmp rfl _ _ _, rfl, HF.out.trans ⟨rfl, rfl, rfl, by simp, fun k hk => World.putObj_heap_other (by omega)⟩⟩
    case stop =>
      rintro D c pre W _ _ h _
      exact h.elim
end Go.Proofs.Ytflojbjeloilaaa
