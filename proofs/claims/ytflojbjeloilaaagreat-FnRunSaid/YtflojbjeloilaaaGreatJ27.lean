/- Joined texts of this proof (BoolCopies, BitMath, BitsBack, RunKeep, LawInputs), in build order. -/
import Derived.Test.YtflojbjeloilaaaGreatJ10
import Derived.Test.YtflojbjeloilaaaGreatJ22
import Derived.Test.YtflojbjeloilaaaGreatJ26
/- Slices of bools: words; one more put behind; the laws' own helpers on them (eqBoolS, markBoolS, heldBoolS, toBoolS). -/
namespace Go.Proofs.YtflojbjeloilaaaGreat
open Go.RowKit

def bAt (bs : List Bool) (i : Nat) : Bool := bs.getD i false
/-- The slice '.slice a n c' reads as the bools bs. -/
def Bools (w : World) (a : Option Addr) (n : Nat) (bs : List Bool) : Prop :=
  bs.length = n ∧ n ≤ 1048576 ∧ (0 < n → ∃ b o, a = some ⟨b, o, none⟩ ∧ b < w.heap.size ∧ ∀ i, i < n → w.cell? ⟨b, o + i, none⟩ = some (.bool (bAt bs i)))
theorem Bools.at_ {w : World} {a : Option Addr} {n : Nat} {bs : List Bool} {k : Nat} (h : Bools w a n bs) (hk : k < n) :
    ∃ b o z, a = some ⟨b, o, none⟩ ∧ b < w.heap.size ∧ Hid (z = bAt bs k) ∧ w.cell? ⟨b, o + k, none⟩ = some (.bool z) := by
  obtain ⟨hl, _, hc⟩ := h
  obtain ⟨b, o, rfl, hb, hcell⟩ := hc (by omega)
  exact ⟨b, o, _, rfl, hb, Lib.hid rfl, hcell k hk⟩
theorem Bools.below {w w' : World} {a : Option Addr} {n : Nat} {bs : List Bool} (h : Bools w a n bs) (hb : Below w.heap.size w w') : Bools w' a n bs := by
  obtain ⟨hl, hn, hc⟩ := h
  refine ⟨hl, hn, fun hp => ?_⟩
  obtain ⟨b, o, rfl, hbl, hcell⟩ := hc hp
  exact ⟨b, o, rfl, Nat.lt_of_lt_of_le hbl hb.size, fun i hi => (hb.cell (by exact hbl)).trans (hcell i hi)⟩
/-- .. of the call's own, from block B on. -/
def OwnB (w : World) (B : Nat) (a : Option Addr) (n c : Nat) (bs : List Bool) : Prop := w.ownsRow B 4 1 (.slice a n c) n (bs.map Value.bool) ∧ n ≤ 1048576
section
variable {w w' : World} {B : Nat} {a : Option Addr} {n c : Nat} {bs : List Bool} {row : Option Nat}
theorem OwnB.len (h : OwnB w B a n c bs) : bs.length = n := by have := h.1.1; simpa using this
theorem OwnB.reads (h : OwnB w B a n c bs) : Bools w a n bs := by
  have hlen := h.len
  obtain ⟨ho, hn⟩ := h
  refine ⟨hlen, hn, fun hp => ?_⟩
  rcases ho.2 with ⟨_, h0⟩ | ⟨g, cap, cur, e, _, hh, _⟩
  · exact absurd hp (by omega)
  · have ea : a = some ⟨g, 0, none⟩ := by injection e
    subst ea
    refine ⟨g, 0, rfl, (ho.lt g rfl).2, fun i hi => ?_⟩
    rw [Nat.zero_add, ho.cellAt i (by omega)]
    simp [bAt, List.getD_eq_getElem?_getD, List.getElem?_eq_getElem (show i < bs.length by omega)]
theorem OwnB.below (h : OwnB w B a n c bs) (hb : Below w.heap.size w w') : OwnB w' B a n c bs :=
  ⟨h.1.kept (row := none) ⟨hb.os, hb.tape, hb.output, hb.size, fun k hk _ => hb.block k hk⟩ (by cases a <;> simp [Value.ownBlock]), h.2⟩
theorem OwnB.base {B' : Nat} (h : OwnB w B a n c bs) (hB : B' ≤ B) : OwnB w B' a n c bs := by
  refine ⟨⟨h.1.1, ?_⟩, h.2⟩
  rcases h.1.2 with hn | ⟨g, cap, cur, e, hb, r⟩
  · exact .inl hn
  · exact .inr ⟨g, cap, cur, e, by omega, r⟩
theorem OwnB.alloc (h : OwnB w B a n c bs) (o : Obj) : OwnB (w.alloc o) B a n c bs := ⟨h.1.alloc o, h.2⟩
theorem OwnB.block (h : OwnB w B a n c bs) : ∀ g, (Value.slice a n c).ownBlock = some g → B ≤ g ∧ g < w.heap.size := h.1.lt
theorem OwnB.span {lo hi : Nat} (h : OwnB w B a n c bs) (hs : Span lo hi w w') (hB : hi ≤ B) : OwnB w' B a n c bs := ⟨ownsRow_span h.1 hs (fun g hg => .inr (Nat.le_trans hB (h.block g hg).1)), h.2⟩
theorem OwnB.inside {s : Sl} (h : OwnB w B s.1 s.2.1 s.2.2 bs) : SlIn B w.heap.size s := fun g hg => h.block g hg
theorem ownB_nil (w : World) (B : Nat) : OwnB w B none 0 0 [] := ⟨World.ownsRow_nil _ _ _ _, by omega⟩
theorem ownB_empty (w : World) (B : Nat) (hB : B ≤ w.heap.size) : OwnB (w.alloc (.cells #[] 4)) B (some ⟨w.heap.size, 0, none⟩) 0 0 [] :=
  ⟨World.ownsRow_lit w #[] 0 hB (by unfold maxLen; omega) rfl, by omega⟩
end
/-- What a function that makes a slice of the bools bs leaves. -/
def MadeB (w : World) (bs : List Bool) (e : Ending) (w' : World) : Prop :=
  ∃ a n c, e = .returned (.slice a n c) ∧ OwnB w' w.heap.size a n c bs ∧ Below w.heap.size w w'
theorem info_bool : (Tryz.prog.info? 4).map (fun i => (i.zero, i.size, i.bytes)) = some (some (.bool false), 1, 1) := by kernel_rfl
section
variable {w : World} {B g n cap : Nat} {bs : List Bool}
theorem ownB_cell (h : w.ownsRow B 4 1 (.slice (some ⟨g, 0, none⟩) n cap) n (bs.map Value.bool)) {k : Nat} (hk : k < n) : w.cell? ⟨g, k, none⟩ = some (.bool (bAt bs k)) := by
  have hl : bs.length = n := by have := h.1; simpa using this
  rw [h.cellAt k (by omega)]
  simp [bAt, List.getD_eq_getElem?_getD, List.getElem?_eq_getElem (show k < bs.length by omega)]
theorem ownB_put (h : w.ownsRow B 4 1 (.slice (some ⟨g, 0, none⟩) n cap) n (bs.map Value.bool)) (k : Nat) (z : Bool) :
    (w.setCell ⟨g, k, none⟩ (.bool z)).ownsRow B 4 1 (.slice (some ⟨g, 0, none⟩) n cap) n ((bs.set k z).map Value.bool) := by
  rw [List.map_set]; exact (h.stored k _).1
end
theorem wpList_pushB {ops : Array Oper} {rest : List Oper} {o : Oper} {ac : Act} {Q : Exit → Act → World → Prop} (w : World) (hgd : o.guard = none) (s x : Operand)
    (ho : o.op = .call { callee := .builtin .append, args := #[s, x], argTypes := #[49, 49] })
    (B : Nat) (a : Option Addr) (n c : Nat) (bs : List Bool) (hs : ac.eval s = .slice a n c) (hown : OwnB w B a n c bs)
    (g : Nat) (z : Bool) (hx : ac.eval x = .slice (some ⟨g, 0, none⟩) 1 1) (hc : w.cell? ⟨g, 0, none⟩ = some (.bool z)) (hn : n < 1048576) (hB : B ≤ w.heap.size)
    (h : ∀ a1 c1 w', OwnB w' B a1 (n + 1) c1 (bs ++ [z]) → w.grownBy w' (Value.slice a n c).ownBlock → wpList Tryz.prog ops Q rest (ac.put o.dst (.slice a1 (n + 1) c1)) w') : wpList Tryz.prog ops Q (o :: rest) ac w := by
  obtain ⟨i0, hi, hz0, hz1, hz2⟩ := info_parts info_bool
  refine wpList_append_own w hgd s x 49 ho B 4 i0 (.bool false) 1 1 Tryz.underlying49 hi hz0 hz1 hz2 rfl (by omega) (.slice a n c) n (bs.map Value.bool) hs hown.1
    ⟨g, 0, none⟩ 1 1 [.bool z] hx rfl ?_ ?_ ?_ ?_ hB ?_
  · intro j u hj
    match j, hj with
    | 0, hj => simp at hj; subst hj; simpa [Addr.add] using hc
  · intro u hu; simp at hu; subst hu; rfl
  · unfold maxLen; omega
  · omega
  · intro v' w' h1 h2 _
    have hf : ∃ a1 c1, v' = .slice a1 (n + 1) c1 := by
      rcases h1.2 with ⟨_, h0⟩ | ⟨g', cap, cur, e, _⟩
      · omega
      · exact ⟨_, _, e⟩
    obtain ⟨a1, c1, rfl⟩ := hf
    exact h a1 c1 w' ⟨by simpa using h1, by omega⟩ h2
/-- The first k are alike. -/
def EqB (xs ys : List Bool) (k : Nat) : Prop := ∀ i, i < k → bAt xs i = bAt ys i
theorem EqB.zero (xs ys : List Bool) : EqB xs ys 0 := fun i hi => absurd hi (by omega)
theorem EqB.succ {xs ys : List Bool} {k : Nat} {x y : Bool} (h : EqB xs ys k) (hx : Hid (x = bAt xs k)) (hy : Hid (y = bAt ys k)) (e : x = y) : EqB xs ys (k + 1) := by
  intro i hi
  rcases Nat.lt_or_ge i k with hlt | hge
  · exact h i hlt
  · have : i = k := by omega
    subst this; rw [← hx.out, ← hy.out]; exact e
/-- Marks. -/
def mB (k : Nat) : Bool := (k : Int) % 3 == 0
def marksB (k n : Nat) : List Bool := (List.range n).map (fun i : Nat => mB (k + i))
theorem marksB_len (k n : Nat) : (marksB k n).length = n := by simp [marksB]
theorem marksB_at (k n i : Nat) (h : i < n) : bAt (marksB k n) i = mB (k + i) := by simp [marksB, bAt, List.getD_eq_getElem?_getD, h]
def MarkB (bs : List Bool) (k j : Nat) : List Bool := marksB k j ++ bs.drop j
theorem markB_zero (bs : List Bool) (k : Nat) : MarkB bs k 0 = bs := by simp [MarkB, marksB]
theorem markB_all {bs : List Bool} {n : Nat} (k : Nat) (h : bs.length = n) : MarkB bs k n = marksB k n := by subst h; simp [MarkB]
theorem markB_succ {bs : List Bool} {n j : Nat} (k : Nat) (h : bs.length = n) (hj : j < n) : (MarkB bs k j).set j (mB (k + j)) = MarkB bs k (j + 1) := by
  subst h
  apply List.ext_getElem?
  intro i
  unfold MarkB marksB
  rw [List.getElem?_set]
  by_cases hi : j = i
  · subst hi
    have h1 : j < ((List.range j).map (fun i : Nat => mB (k + i)) ++ bs.drop j).length := by simp; omega
    rw [if_pos rfl, if_pos h1, List.getElem?_append_left (by simp)]
    simp
  · rw [if_neg hi]
    simp only [List.getElem?_append, List.length_map, List.length_range, List.getElem?_map, List.getElem?_drop]
    by_cases h1 : i < j
    · rw [if_pos h1, if_pos (show i < j + 1 by omega), List.getElem?_range h1, List.getElem?_range (show i < j + 1 by omega)]
    · rw [if_neg h1, if_neg (show ¬ i < j + 1 by omega), show j + (i - j) = j + 1 + (i - (j + 1)) by omega]
set_option maxHeartbeats 800000 in
theorem eqBoolS_same (a b : Option Addr) (n m c d : Nat) (xs : List Bool) (w : World) (hx : Bools w a n xs) (hy : Bools w b m xs) :
    Calls Tryz.prog 36 #[.slice a n c, .slice b m d] w fun e w' => e = .returned (.bool true) ∧ Below w.heap.size w w' := by
  obtain rfl : n = m := by rw [← hx.1, ← hy.1]
  have hbd := hx.2.1
  have hne0 : ((n : Int) != (n : Int)) = false := by simp
  go_enter Tryz.func36, Tryz.ntmps36
  go_wp2
  go_loopw [5] (fun i wr => ∃ k : Nat, k ≤ n ∧ i = .int .i64 k ∧ Below w.heap.size w wr) (fun i _ => n - (intOf i).toNat)
  case atStart => exact ⟨0, Nat.zero_le _, rfl, Below.refl _ _⟩
  case round =>
    obtain ⟨k, hk, rfl, hbel⟩ := hrel
    by_cases hlt : k < n
    · obtain ⟨b1, o1, x, rfl, hb1, hxk, hc1⟩ := (hx.below hbel).at_ hlt
      obtain ⟨b2, o2, y, rfl, hb2, hyk, hc2⟩ := (hy.below hbel).at_ hlt
      obtain rfl : x = y := by rw [hxk.out, hyk.out]
      have hxx : (x != x) = false := by cases x <;> rfl
      clear hxk hyk
      go_wp2
      go_quiet (fail)
      rename_i nq
      have HB := Lib.hid (hbel.trans ((show Below wr.heap.size wr (wr.drewN nq) from ⟨rfl, rfl, rfl, Nat.le_refl _, fun _ _ => rfl⟩).mono hbel.size))
      clear hbel
      go_wp2
      go_roundw
      case rel => exact ⟨k + 1, by omega, by go_num, HB.out⟩
      case measure => simp [intOf]; omega
    · obtain rfl : n = k := by omega
      go_wp2
      go_ret
      exact ⟨rfl, hbel⟩
set_option maxHeartbeats 800000 in
theorem markBoolS_any (a : Option Addr) (n c : Nat) (bs : List Bool) (k : Nat) (w : World) (B : Nat) (h : OwnB w B a n c bs) (hk : k ≤ 4194304) :
    Calls Tryz.prog 39 #[.slice a n c, .int .i64 (k : Int)] w fun e w' => e = .returned (.int .i64 ((k + n : Nat) : Int)) ∧ OwnB w' B a n c (marksB k n) ∧ w.grownBy w' (Value.slice a n c).ownBlock := by
  have HL := Lib.hid h.len
  have hbd := h.2
  go_enter Tryz.func39, Tryz.ntmps39
  go_wp2
  go_loopw [1, 5] (fun q i wr => ∃ j : Nat, j ≤ n ∧ i = .int .i64 j ∧ q = .int .i64 ((k + j : Nat) : Int) ∧ wr.ownsRow B 4 1 (.slice a n c) n ((MarkB bs k j).map Value.bool) ∧ w.grownBy wr (Value.slice a n c).ownBlock) (fun _ i _ => n - (intOf i).toNat)
  case atStart => exact ⟨0, Nat.zero_le _, rfl, rfl, by rw [markB_zero]; exact h.1, World.grownBy.refl _ _⟩
  case round =>
    obtain ⟨j, hj, rfl, rfl, hown, hgr⟩ := hrel
    by_cases hlt : j < n
    · obtain ⟨g, rfl⟩ : ∃ g, a = some ⟨g, 0, none⟩ := by
        rcases hown.2 with ⟨_, h0⟩ | ⟨g, cap, cur, e, _⟩
        · omega
        · exact ⟨g, by injection e⟩
      have hc2 := ownB_cell hown hlt
      generalize bAt (MarkB bs k j) j = y at hc2
      have hf2 := hown.frozenAt j
      have HO2 := ownB_put hown j (mB (k + j))
      rw [markB_succ k HL.out hlt] at HO2
      have hgr2 := (hown.stored j (.bool (mB (k + j)))).2
      have HG := Lib.hid (show w.grownBy (wr.setCell ⟨g, j, none⟩ (.bool (mB (k + j)))) (some g) from
        ⟨hgr2.os.trans hgr.os, hgr2.tape.trans hgr.tape, hgr2.output.trans hgr.output, Nat.le_trans hgr.size hgr2.size,
          fun b hb hne => (hgr2.block b (Nat.lt_of_lt_of_le hb hgr.size) hne).trans (hgr.block b hb hne)⟩)
      have HO3 := Lib.hid HO2
      clear hown hgr hgr2 HO2
      go_wp2
      go_roundw
      case rel => exact ⟨j + 1, by omega, by go_num, by go_num, HO3.out, HG.out⟩
      case measure => simp [intOf]; omega
    · obtain rfl : n = j := by omega
      go_wp2
      go_ret
      rw [markB_all k HL.out] at hown
      exact ⟨rfl, ⟨hown, hbd⟩, hgr⟩
end Go.Proofs.YtflojbjeloilaaaGreat
/- The bits of an input: plain mathematics. -/
namespace Go.Proofs.YtflojbjeloilaaaGreat
open Go.RowKit

/-- The bit of z that counts 2 to the k. -/
def bitZ (z : Int) (k : Nat) : Bool := z / ((2 ^ k : Nat) : Int) % 2 == 1
/-- The first i of the b bits of z, the highest one first. -/
def hiTo (z : Int) (b i : Nat) : List Bool := (List.range i).map (fun j => bitZ z (b - 1 - j))
theorem hiTo_zero (z : Int) (b : Nat) : hiTo z b 0 = [] := rfl
theorem hiTo_succ (z : Int) (b i : Nat) : hiTo z b (i + 1) = hiTo z b i ++ [bitZ z (b - 1 - i)] := by simp [hiTo, List.range_succ]
theorem hiTo_len (z : Int) (b i : Nat) : (hiTo z b i).length = i := by simp [hiTo]
/-- The bits of the first k. -/
def inBits (ms zs : List Int) : Nat → List Bool
  | 0 => []
  | k + 1 => inBits ms zs k ++ hiTo (zs.getD k 0) (bitsN (ms.getD k 0).toNat) (bitsN (ms.getD k 0).toNat)
theorem bits8 {m : Int} (h0 : 0 ≤ m) (h1 : m ≤ 255) : bitsN m.toNat ≤ 8 := bitsN_le 8 _ (by omega)
theorem inBits_len {ms zs : List Int} (h : MaxOk ms) : ∀ k, k ≤ ms.length → (inBits ms zs k).length ≤ 8 * k
  | 0, _ => by simp [inBits]
  | k + 1, hk => by
    have := inBits_len (zs := zs) h k (by omega)
    obtain ⟨h1, h2⟩ := h.2 k (by omega)
    have := bits8 h1 h2
    simp only [inBits, List.length_append, hiTo_len]
    omega
/-- The unit of the i-th bit. -/
def unitN (b i : Nat) : Nat := 2 ^ (b - 1) / 2 ^ i
theorem unitN_zero (b : Nat) : unitN b 0 = 2 ^ (b - 1) := by simp [unitN]
theorem unitN_succ (b i : Nat) : unitN b (i + 1) = unitN b i / 2 := by rw [unitN, unitN, Nat.pow_succ, Nat.div_div_eq_div_mul]
theorem unitN_at {b i : Nat} (h : i < b) : unitN b i = 2 ^ (b - 1 - i) := by
  rw [unitN, Nat.pow_div (by omega) (by omega)]
theorem unitN_le {b i : Nat} (h : b ≤ 8) : unitN b i ≤ 128 := by
  have h1 : unitN b i ≤ 2 ^ (b - 1) := Nat.div_le_self _ _
  have h2 : 2 ^ (b - 1) ≤ 2 ^ 7 := Nat.pow_le_pow_right (by omega) (by omega)
  have h3 : 2 ^ 7 = 128 := by decide
  omega
theorem unitN_pos {b i : Nat} (h : i < b) : 0 < unitN b i := by rw [unitN_at h]; exact Nat.pow_pos (by omega)
/-- What InputBits tells. -/
noncomputable def bitsB (p : Prg) (ls ss : List Int) : List Bool := if startB p ls ss = true then inBits (maxesP p) (ls ++ ss) (maxesP p).length else []
theorem bitsB_len (p : Prg) (ls ss : List Int) : (bitsB p ls ss).length ≤ 48 := by
  unfold bitsB
  by_cases h : startB p ls ss = true
  · rw [if_pos h]
    have hm := code_max (startB_ok h)
    have := inBits_len (zs := ls ++ ss) hm _ (Nat.le_refl _)
    have := hm.1
    omega
  · rw [if_neg h]; simp
end Go.Proofs.YtflojbjeloilaaaGreat
/- The bits of an input tell it: plain mathematics. -/
namespace Go.Proofs.YtflojbjeloilaaaGreat
open Go.RowKit

theorem bitsN_lt : ∀ n : Nat, n < 2 ^ bitsN n := by
  intro n
  induction n using Nat.strongRecOn with
  | ind n ih =>
    rcases Nat.eq_zero_or_pos n with h | h
    · subst h; rw [bitsN_zero]; decide
    · rw [bitsN_pos h, Nat.pow_succ]
      have := ih (n / 2) (by omega)
      omega
theorem bit_eq {z y : Int} (hz : 0 ≤ z) (hy : 0 ≤ y) : ∀ b : Nat, z < ((2 ^ b : Nat) : Int) → y < ((2 ^ b : Nat) : Int) → (∀ k, k < b → bitZ z k = bitZ y k) → z = y := by
  intro b
  induction b generalizing z y with
  | zero => intro h1 h2 _; simp at h1 h2; omega
  | succ b ih =>
    intro h1 h2 h
    have p : ((2 ^ (b + 1) : Nat) : Int) = ((2 ^ b : Nat) : Int) * 2 := by rw [Nat.pow_succ, Int.natCast_mul]; rfl
    rw [p] at h1 h2
    have e := ih (z := z / 2) (y := y / 2) (by omega) (by omega) (by omega) (by omega) (fun k hk => by
      have := h (k + 1) (by omega)
      have q : ((2 ^ (k + 1) : Nat) : Int) = 2 * ((2 ^ k : Nat) : Int) := by rw [Nat.pow_succ, Int.natCast_mul, Int.mul_comm]; rfl
      simp only [bitZ] at this ⊢
      rw [q, ← Int.ediv_ediv_of_nonneg (by omega), ← Int.ediv_ediv_of_nonneg (by omega)] at this
      exact this)
    have h0 := h 0 (by omega)
    simp only [bitZ, Nat.pow_zero] at h0
    have h0' : (z / 1 % 2 == 1) = (y / 1 % 2 == 1) := h0
    rw [Int.ediv_one, Int.ediv_one, Bool.eq_iff_iff, beq_iff_eq, beq_iff_eq] at h0'
    omega
theorem hiTo_eq {z y : Int} {b : Nat} (h : hiTo z b b = hiTo y b b) : ∀ k, k < b → bitZ z k = bitZ y k := by
  intro k hk
  have := congrArg (fun l => l[b - 1 - k]?) h
  simp only [hiTo, List.getElem?_map] at this
  rw [List.getElem?_range (by omega)] at this
  simp only [Option.map_some, Option.some.injEq] at this
  rwa [show b - 1 - (b - 1 - k) = k by omega] at this
theorem inBits_eq {ms zs ys : List Int} (hz : ∀ i, i < ms.length → 0 ≤ zs.getD i 0 ∧ zs.getD i 0 ≤ ms.getD i 0) (hy : ∀ i, i < ms.length → 0 ≤ ys.getD i 0 ∧ ys.getD i 0 ≤ ms.getD i 0) :
    ∀ k, k ≤ ms.length → inBits ms zs k = inBits ms ys k → ∀ i, i < k → zs.getD i 0 = ys.getD i 0
  | 0, _, _, i, hi => absurd hi (by omega)
  | k + 1, hk, h, i, hi => by
    rw [inBits, inBits] at h
    have hl : (inBits ms zs k).length = (inBits ms ys k).length := by
      have := congrArg List.length h
      simp only [List.length_append, hiTo_len] at this
      omega
    obtain ⟨h1, h2⟩ := List.append_inj h hl
    rcases Nat.lt_or_ge i k with hlt | hge
    · exact inBits_eq hz hy k (by omega) h1 i hlt
    · obtain rfl : i = k := by omega
      obtain ⟨a1, a2⟩ := hz i (by omega)
      obtain ⟨b1, b2⟩ := hy i (by omega)
      have hb := bitsN_lt (ms.getD i 0).toNat
      have hb' : ms.getD i 0 < ((2 ^ bitsN (ms.getD i 0).toNat : Nat) : Int) := by omega
      exact bit_eq a1 b1 _ (by omega) (by omega) (hiTo_eq h2)
/-- Inputs of the same bits have the same number. -/
theorem bits_at {p : Prg} {n m : Int} (hn : atOk p n = true) (hm : atOk p m = true) (h : bitsB p (atL p n) (atS p n) = bitsB p (atL p m) (atS p m)) : n = m := by
  have hz : codeB p = 0 := by simp [atOk] at hn; exact hn.1
  have hN : 0 ≤ n ∧ n < prodL (maxesP p) := by simp [atOk] at hn; exact hn.2
  have hM : 0 ≤ m ∧ m < prodL (maxesP p) := by simp [atOk] at hm; exact hm.2
  have hw := fun x hx => (wide_of_max hz x hx).1
  rw [bitsB, bitsB, if_pos (at_start hn), if_pos (at_start hm), at_app hn, at_app hm] at h
  have he := inBits_eq (digs_le hw n) (digs_le hw m) _ (Nat.le_refl _) h
  have hd : digs (maxesP p) n = digs (maxesP p) m := by
    apply List.ext_getElem (by rw [digs_len, digs_len])
    intro i h1 h2
    have := he i (by rw [digs_len] at h1; exact h1)
    simpa [List.getD_eq_getElem?_getD, List.getElem?_eq_getElem h1, List.getElem?_eq_getElem h2] using this
  rw [← numFrom_digs hw hN.1 hN.2, ← numFrom_digs hw hM.1 hM.2, hd]
theorem inBits_all {p : Prg} (zs : List Int) : ∀ k, k ≤ (maxesP p).length → (inBits (maxesP p) zs k).length = bitsTo (p.lows ++ p.secrets) k
  | 0, _ => rfl
  | k + 1, hk => by
    rw [inBits, List.length_append, inBits_all zs k (by omega), hiTo_len, bitsTo]
    rw [maxesP, maxesL_getD (by rw [maxesP, maxesL_len] at hk; omega)]
theorem bits_count {p : Prg} {n : Int} (hn : atOk p n = true) : ((bitsB p (atL p n) (atS p n)).length : Int) = bitsInB p := by
  have hz : codeB p = 0 := by simp [atOk] at hn; exact hn.1
  rw [bitsB, if_pos (at_start hn), inBits_all _ _ (Nat.le_refl _), bitsInB, if_pos hz, ← bitsTo_app, maxesP_len, List.length_append]
/-- A right program has at most 2 to the 10 inputs. -/
theorem count_bits {p : Prg} (hz : codeB p = 0) : ∀ k, k ≤ (maxesP p).length → countTo (maxesP p) k ≤ ((2 ^ bitsTo (p.lows ++ p.secrets) k : Nat) : Int)
  | 0, _ => by simp [countTo, bitsTo]
  | k + 1, hk => by
    have h1 := count_bits hz k (by omega)
    have h0 := (countTo_pos (code_max hz) k (by omega)).1
    obtain ⟨m0, m1⟩ := (code_max hz).2 k (by omega)
    have e : (maxesP p).getD k 0 = (tmAt (p.lows ++ p.secrets) k).1 := by rw [maxesP, maxesL_getD (by rw [maxesP, maxesL_len] at hk; omega)]
    have hb := bitsN_lt ((maxesP p).getD k 0).toNat
    have hb' : (maxesP p).getD k 0 + 1 ≤ ((2 ^ bitsN ((maxesP p).getD k 0).toNat : Nat) : Int) := by omega
    rw [countTo, bitsTo, ← e, Nat.pow_add, Int.natCast_mul]
    exact Int.mul_le_mul h1 hb' (by omega) (by omega)
theorem prod_bits {p : Prg} (hz : codeB p = 0) : prodL (maxesP p) ≤ 1024 := by
  have h := count_bits hz _ (Nat.le_refl _)
  rw [countTo_prod] at h
  obtain ⟨_, _, _, hb⟩ := code_inputs hz
  rw [maxesP_len, ← List.length_append, bitsTo_app] at h
  have hp : 2 ^ (bitsTo p.lows p.lows.length + bitsTo p.secrets p.secrets.length) ≤ 2 ^ 10 := Nat.pow_le_pow_right (by omega) hb
  have he : 2 ^ 10 = 1024 := by decide
  omega
theorem grow_of {w w' : World} {row : Option Nat} (h : Below w.heap.size w w') : w.grownBy w' row := ⟨h.os, h.tape, h.output, h.size, fun k hk _ => h.block k hk⟩
end Go.Proofs.YtflojbjeloilaaaGreat
/- The inputs stay as they are while a program runs; what a law asks of a run: plain mathematics. -/
namespace Go.Proofs.YtflojbjeloilaaaGreat
open Go.RowKit

theorem Basic.keepIn {p : Prg} {s : Stm} {q q' : Sta} {r : Rz} (h : Basic (2 ^ p.width.toNat) s q q' r) (hg : goodS p s) : ∀ i, i < p.lows.length + p.secrets.length → q'.vars.getD i 0 = q.vars.getD i 0 := by
  intro i hi
  cases h with
  | set h ht =>
    have := goodS_num hg
    rw [h] at this
    simp only [numOk, if_pos, Bool.and_eq_true, decide_eq_true_eq] at this
    show (q.vars.set s.n.toNat _).getD i 0 = _
    rw [List.getD_eq_getElem?_getD, List.getElem?_set_ne (by omega), List.getD_eq_getElem?_getD]
  | _ => rfl
theorem Runs.keepIn {p : Prg} {ss : List Stm} {m : Mode} {i j s : Nat} {q q' : Sta} {r : Rz} (h : Runs (2 ^ p.width.toNat) ss m i j s q q' r) (hg : ∀ i, i < ss.length → goodS p (stAt ss i)) : ∀ k, k < p.lows.length + p.secrets.length → q'.vars.getD k 0 = q.vars.getD k 0 := by
  induction h with
  | plain hi _ _ _ h => exact h.keepIn (hg _ hi)
  | nil | zero | ifT | if0 => exact fun _ _ => rfl
  | go _ _ ih1 ih2 => exact fun k hk => (ih2 k hk).trans (ih1 k hk)
  | again _ _ ih1 ih2 => exact fun k hk => (ih2 k hk).trans (ih1 k hk)
  | catch_ _ _ _ _ _ ih1 ih2 => exact fun k hk => (ih2 k hk).trans (ih1 k hk)
  | _ => assumption
/-- What a law asks of a run at an input. -/
structure RunFacts (p : Prg) (ls ss : List Int) (T : Nat) : Prop where
  startLen : (startR p ls ss).vars.length = T
  startLow : (startR p ls ss).vars.getD 0 0 = ls.getD 0 0
  startSec : (startR p ls ss).vars.getD 1 0 = ss.getD 0 0
  endLen : (afterR p ls ss).vars.length = T
  endSec : (afterR p ls ss).vars.getD 2 0 = ss.getD 1 0
  outs : ∀ z ∈ outR p ls ss, 0 ≤ z ∧ z < ((2 ^ p.width.toNat : Nat) : Int)
theorem run_facts {p : Prg} {ls ss : List Int} (h : startB p ls ss = true) (h1 : p.lows.length = 1) (h2 : p.secrets.length = 2) (ht : p.temps = 2) : RunFacts p ls ss 5 := by
  have h0 := h
  simp only [startB, Bool.and_eq_true] at h0
  obtain ⟨hc, ha, hb⟩ := h0
  have l1 := (areB_ok ha).1
  have l2 := (areB_ok hb).1
  rw [h1] at l1
  rw [h2] at l2
  obtain ⟨x, rfl⟩ : ∃ x, ls = [x] := by
    match ls, l1 with
    | [x], _ => exact ⟨x, rfl⟩
  obtain ⟨y, z, rfl⟩ : ∃ y z, ss = [y, z] := by
    match ss, l2 with
    | [y, z], _ => exact ⟨y, z, rfl⟩
  have e2 : p.temps.toNat = 2 := by omega
  have hs : (startR p [x] [y, z]).vars = [x, y, z, 0, 0] := by rw [startR, if_pos h, startQ, e2]; rfl
  have hq : (startQ p [x] [y, z]).vars = [x, y, z, 0, 0] := by rw [startQ, e2]; rfl
  have hok := runX_ok h
  obtain ⟨s, _, hr⟩ := runX_spec h
  have hk := hr.keepIn (code_good (startB_ok h)).1 2 (by omega)
  rw [hq] at hk
  have hv := (envB_ok hok.env).2.1
  simp only [envOf] at hv
  refine ⟨by rw [hs]; rfl, by rw [hs]; rfl, by rw [hs]; rfl, ?_, ?_, ?_⟩
  · show (runX p [x] [y, z]).1.vars.length = 5
    omega
  · show (runX p [x] [y, z]).1.vars.getD 2 0 = z
    exact hk
  · exact hok.outs
theorem start_lens {p : Prg} {ls ss : List Int} (h : startB p ls ss = true) : ls.length = p.lows.length ∧ ss.length = p.secrets.length := by
  simp only [startB, Bool.and_eq_true] at h
  exact ⟨(areB_ok h.2.1).1, (areB_ok h.2.2).1⟩
end Go.Proofs.YtflojbjeloilaaaGreat
/- The contract of the laws' own 'inputs'; places of slices, one by one. -/
namespace Go.Proofs.YtflojbjeloilaaaGreat
open Go.RowKit

theorem ints_one {w : World} {a : Option Addr} {n : Nat} {zs : List Int} (h : Ints w a n zs) {k : Nat} (hk : k < n) : ∃ b o, a = some ⟨b, o, none⟩ ∧ b < w.heap.size ∧ w.cell? ⟨b, o + k, none⟩ = some (.int .i64 (zs.getD k 0)) := by
  obtain ⟨b, o, e, hb, hc⟩ := h.2.2.2 (by omega)
  exact ⟨b, o, e, hb, hc k hk⟩
set_option maxHeartbeats 800000 in
theorem lawInputs_any (r : PRow) (p : Prg) (N : Int) (w : World) (h : ProgAt w r p) (hN : In64 N) :
    Calls Tryz.prog 14 #[progV r, .int .i64 N] w fun e w' => Below w.heap.size w w' ∧ ∃ s t : Sl, e = .returned (.tuple #[slV s, slV t]) ∧ Ints w' s.1 s.2.1 (atL p N) ∧ Ints w' t.1 t.2.1 (atS p N) := by
  have HP := Lib.hid h
  have HN := Lib.hid hN
  clear h hN
  obtain ⟨wd, ⟨a1, n1, c1⟩, ⟨a2, n2, c2⟩, tp, ⟨a3, n3, c3⟩, ⟨a4, n4, c4⟩, rows⟩ := r
  show Calls Tryz.prog 14 #[.agg #[.int .i64 wd, .slice a1 n1 c1, .slice a2 n2 c2, .int .i64 tp, .slice a3 n3 c3, .slice a4 n4 c4], .int .i64 N] w _
  obtain ⟨wa, HW⟩ : ∃ wa, Hid (wa = w.alloc (.cells #[.int .i64 wd, .slice a1 n1 c1, .slice a2 n2 c2, .int .i64 tp, .slice a3 n3 c3, .slice a4 n4 c4] 28)) := ⟨_, rfl⟩
  have HB : Below w.heap.size w wa := by rw [HW.out]; exact (Below.refl _ _).alloc (Nat.le_refl _) _
  have hp := HP.out.below HB
  have HBW := Lib.hid HB
  clear HB
  go_enter Tryz.func14, Tryz.ntmps14
  go_wp2_with fail
  rw [← HW.out]
  refine (specInputAt_ans ⟨wd, (a1, n1, c1), (a2, n2, c2), tp, (a3, n3, c3), (a4, n4, c4), rows⟩ p N _ hp HN.out).mono ?_
  rintro e w1 ⟨hb, ⟨e0a, e0n, e0c⟩, ⟨e1a, e1n, e1c⟩, rfl, hm0, hm1⟩
  simp only [slV]
  have HF := Lib.hid (HBW.out.trans (hb.mono HBW.out.size))
  have HM0 := Lib.hid hm0
  have HM1 := Lib.hid hm1
  clear hb hm0 hm1 hp HW
  go_wp2
  go_ret2
  exact ⟨HF.out, e0a, e0n, e0c, e1a, e1n, ⟨e1c, rfl⟩, HM0.out, HM1.out⟩
end Go.Proofs.YtflojbjeloilaaaGreat
