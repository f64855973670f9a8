/- Joined texts of this proof (MadeBool, ArgBools), in build order. -/
import Derived.Test.YtmooecbdpfhnlaaGreatJ14
import Derived.Deep.OwnRows
import Derived.Laws.Rows
import Derived.Test.YtmooecbdpfhnlaaGreatJ6
/- 'make([]bool, n)', and stores into it. -/
namespace Go.Proofs.YtmooecbdpfhnlaaGreat
open Go.RowKit

theorem make_bools (n : Nat) (h : n ≤ 1048576) (w : World) : (Instr.makeSlice 39 (.int .i64 (n : Int)) (.int .i64 (n : Int))).run Tryz.prog w = .ok (.slice (some ⟨w.heap.size, 0, none⟩) n n) (w.alloc (.cells (madeCells #[.bool false] n) 4)) :=
  run_make_row' 39 4 (.bool false) 1 Tryz.underlying39 info_bool rfl .i64 .i64 n (by omega) (by omega) w
theorem own_madeB (w : World) (n : Nat) (h : n ≤ 1048576) : OwnB (w.alloc (.cells (madeCells #[.bool false] n) 4)) w.heap.size (some ⟨w.heap.size, 0, none⟩) n n (List.replicate n false) := by
  have e : (madeCells #[Value.bool false] n).toList = (List.replicate n false).map Value.bool := by
    rw [toList_madeCells_one]; simp
  have hs : (madeCells #[Value.bool false] n).size = n := by rw [← Array.length_toList, e]; simp
  refine ⟨⟨by simp, .inr ⟨w.heap.size, n, madeCells #[.bool false] n, rfl, Nat.le_refl _, World.alloc_heap_new w _, Nat.le_refl _, by unfold maxLen; omega, by rw [hs, Nat.mul_one], ?_⟩⟩, h⟩
  rw [e, List.take_of_length_le (by simp)]
/-- A bool is written. -/
theorem OwnB.put {w : World} {B g n c k : Nat} {bs : List Bool} (h : OwnB w B (some ⟨g, 0, none⟩) n c bs) (z : Bool) : OwnB (w.setCell ⟨g, k, none⟩ (.bool z)) B (some ⟨g, 0, none⟩) n c (bs.set k z) := by
  refine ⟨?_, h.2⟩
  rw [List.map_set]; exact (h.1.stored k _).1
theorem OwnB.cellB {w : World} {B g n c k : Nat} {bs : List Bool} (h : OwnB w B (some ⟨g, 0, none⟩) n c bs) (hk : k < n) : w.cell? ⟨g, k, none⟩ = some (.bool (bAt bs k)) := by
  have hl := h.len
  rw [h.1.cellAt k (by omega)]
  simp [bAt, List.getD_eq_getElem?_getD, List.getElem?_eq_getElem (show k < bs.length by omega)]
theorem OwnB.frozenB {w : World} {B g n c k : Nat} {bs : List Bool} (h : OwnB w B (some ⟨g, 0, none⟩) n c bs) : w.frozen? ⟨g, k, none⟩ = false := by
  obtain ⟨c1, f1, e1⟩ := Go.Lib.ownsRow_kind h.1 g rfl
  rcases h.1.2 with ⟨e, _⟩ | ⟨g', cap, cur, e, _, hg, _⟩
  · cases e
  · injection e with e
    injection e with e
    injection e with e
    subst e
    simp [World.frozen?, hg]
theorem set_true (n j : Nat) (h : j < n) : (List.replicate j true ++ List.replicate (n - j) false).set j true = List.replicate (j + 1) true ++ List.replicate (n - (j + 1)) false := by
  apply List.ext_getElem?
  intro i
  rw [List.getElem?_set]
  simp only [List.length_append, List.length_replicate, List.getElem?_append, List.getElem?_replicate]
  by_cases hi : j = i
  · subst hi
    rw [if_pos rfl, if_pos (by omega), if_pos (by omega)]
    simp
  · rw [if_neg hi]
    by_cases h1 : i < j
    · simp [h1, show i < j + 1 by omega]
    · simp only [h1, show ¬ i < j + 1 by omega, if_false]
      by_cases h2 : i - j < n - j
      · simp [h2, show i - (j + 1) < n - (j + 1) by omega]
      · simp [h2, show ¬ i - (j + 1) < n - (j + 1) by omega]
end Go.Proofs.YtmooecbdpfhnlaaGreat
/- An argument of a law that is a slice of bools. -/
namespace Go.Proofs.YtmooecbdpfhnlaaGreat
open Go.RowKit

variable {H : Type} {enc : TypeId × Value → H} {w : World} {base : Nat} {spare : Nat → Bool} {held : Bool}
/-- Of no more than 2^20, it reads as such. -/
def ArgBools (w : World) (a : Option Addr) (len : Nat) : Prop := len ≤ maxLen ∧ (len ≤ 1048576 → ∃ bs, Bools w a len bs)
theorem argBools_cell {t : TypeId} {fuel : Nat} {V : Value} {x : DataW H × List MemPlace} (ht : Tryz.prog.underlying t = some (.slice 4)) (hC : Tryz.prog.cellsOf 4 = 1)
    (h : DataW.trod enc Tryz.prog w base spare held fuel t [V] = some x) : ∃ a len cap, V = .slice a len cap ∧ ArgBools w a len := by
  rcases Go.Deep.open_slice1 ht hC h with ⟨hcs, _⟩ | ⟨ad, l, c, m, n, VV, D, Pl, hcs, _, hl, hm, hmm, _, hx⟩
  · simp at hcs
    exact ⟨none, 0, 0, hcs, by omega, fun _ => ⟨[], rfl, by omega, fun h0 => absurd h0 (by omega)⟩⟩
  simp at hcs
  have hlm : l ≤ m := by rw [hmm]; split <;> omega
  refine ⟨some ad, l, c, hcs, by omega, fun hlen => ?_⟩
  have each : ∀ i, i < l → ∃ z : Bool, w.cell? (ad.add i) = some (.bool z) := by
    intro i hi
    obtain ⟨h1, h2⟩ := hx i (by omega)
    obtain ⟨n0, e0, _⟩ := DataW.trod_bool Tryz.underlying4 h2
    injection e0 with e0
    exact ⟨n0, by rw [← e0]; exact h1⟩
  obtain ⟨q, hq⟩ := Go.Deep.choose_lt each
  have hat : ∀ i, i < l → bAt ((List.range l).map q) i = q i := fun i hi => by simp [bAt, List.getD_eq_getElem?_getD, hi]
  refine ⟨(List.range l).map q, by simp, hlen, fun hp => ?_⟩
  obtain ⟨b, off, spot⟩ := ad
  have hspot : spot = none := by simpa [Addr.add] using World.cell?_spot (hq 0 hp)
  subst hspot
  refine ⟨b, off, rfl, World.block_lt_of_cell? w ⟨b, off + 0, none⟩ (by have := (hq 0 hp); rwa [Go.WideShapes.add_plain] at this), fun i hi => ?_⟩
  rw [hat i hi]
  have h1 := hq i hi
  rwa [Go.WideShapes.add_plain] at h1
theorem argBools_of {a : Option Addr} {len cap : Nat} {d : DataW H} {p : List MemPlace} (h : DataW.Trod enc Tryz.prog w base spare held 39 (.slice a len cap) d p) : ArgBools w a len := by
  obtain ⟨fuel, hf⟩ := h
  obtain ⟨a', l', c', e, ha⟩ := argBools_cell Tryz.underlying39 (by kernel_rfl) hf
  injection e with e1 e2 e3
  subst e1 e2
  exact ha
set_option maxHeartbeats 800000 in
theorem markBoolS_w (a : Option Addr) (n c : Nat) (bs : List Bool) (k : Nat) (w : World) (B : Nat) (h : OwnB w B a n c bs) (hk : k ≤ 1152921504606846976) :
    Calls Tryz.prog 42 #[.slice a n c, .int .i64 (k : Int)] w fun e w' => e = .returned (.int .i64 ((k + n : Nat) : Int)) ∧ OwnB w' B a n c (marksB k n) ∧ w.grownBy w' (Value.slice a n c).ownBlock := by
  have HL := Lib.hid h.len
  have hbd := h.2
  go_enter Tryz.func42, Tryz.ntmps42
  go_wp2
  go_loopw [1, 5] (fun q i wr => ∃ j : Nat, j ≤ n ∧ i = .int .i64 j ∧ q = .int .i64 ((k + j : Nat) : Int) ∧ wr.ownsRow B 4 1 (.slice a n c) n ((MarkB bs k j).map Value.bool) ∧ w.grownBy wr (Value.slice a n c).ownBlock) (fun _ i _ => n - (intOf i).toNat)
  case atStart => exact ⟨0, Nat.zero_le _, rfl, rfl, by rw [markB_zero]; exact h.1, World.grownBy.refl _ _⟩
  case round =>
    obtain ⟨j, hj, rfl, rfl, hown, hgr⟩ := hrel
    by_cases hlt : j < n
    · obtain ⟨g, rfl⟩ : ∃ g, a = some ⟨g, 0, none⟩ := by
        rcases hown.2 with ⟨_, h0⟩ | ⟨g, cap, cur, e, _⟩
        · omega
        · exact ⟨g, by injection e⟩
      have hc2 := ownB_cell hown hlt
      generalize bAt (MarkB bs k j) j = y at hc2
      have hf2 := hown.frozenAt j
      have HO2 := ownB_put hown j (mB (k + j))
      rw [markB_succ k HL.out hlt] at HO2
      have hgr2 := (hown.stored j (.bool (mB (k + j)))).2
      have HG := Lib.hid (show w.grownBy (wr.setCell ⟨g, j, none⟩ (.bool (mB (k + j)))) (some g) from
        ⟨hgr2.os.trans hgr.os, hgr2.tape.trans hgr.tape, hgr2.output.trans hgr.output, Nat.le_trans hgr.size hgr2.size,
          fun b hb hne => (hgr2.block b (Nat.lt_of_lt_of_le hb hgr.size) hne).trans (hgr.block b hb hne)⟩)
      have HO3 := Lib.hid HO2
      clear hown hgr hgr2 HO2
      go_wp2
      go_roundw
      case rel => exact ⟨j + 1, by omega, by go_num, by go_num, HO3.out, HG.out⟩
      case measure => simp [intOf]; omega
    · obtain rfl : n = j := by omega
      go_wp2
      go_ret
      rw [markB_all k HL.out] at hown
      exact ⟨rfl, ⟨hown, hbd⟩, hgr⟩
def copyB (bs : List Bool) (n k : Nat) : List Bool := bs.take k ++ List.replicate (n - k) false
theorem copyB_succ {bs : List Bool} {n k : Nat} {z : Bool} (hl : bs.length = n) (hk : k < n) (hz : Hid (z = bAt bs k)) : (copyB bs n k).set k z = copyB bs n (k + 1) := by
  have e : bs[k]? = some z := by rw [hz.out, bAt, List.getD_eq_getElem?_getD, List.getElem?_eq_getElem (by omega)]; simp
  unfold copyB
  apply List.ext_getElem?
  intro i
  rw [List.getElem?_set]
  simp only [List.length_append, List.length_take, List.length_replicate, List.getElem?_append, List.getElem?_replicate, List.getElem?_take]
  by_cases hi : k = i
  · subst hi
    rw [if_pos rfl, if_pos (by omega), if_pos (by omega), if_pos (by omega)]
    exact e.symm
  · rw [if_neg hi]
    by_cases h1 : i < k
    · rw [if_pos (by omega), if_pos h1, if_pos (by omega), if_pos (by omega)]
    · rw [if_neg (by omega), if_neg (show ¬ i < min (k + 1) bs.length by omega)]
      by_cases h2 : i - min k bs.length < n - k
      · rw [if_pos h2, if_pos (by omega)]
      · rw [if_neg h2, if_neg (by omega)]
set_option maxHeartbeats 800000 in
theorem toBoolS_any (a : Option Addr) (n c : Nat) (bs : List Bool) (w : World) (h : Bools w a n bs) :
    Calls Tryz.prog 35 #[.slice a n c] w (MadeB w bs) := by
  have HL := Lib.hid h.1
  have hbd := h.2.1
  have HI := Lib.hid h
  have hmk := fun w => make_bools n hbd w
  have HO0 := Lib.hid (own_madeB w n hbd)
  have hb0 : Below w.heap.size w (w.alloc (.cells (madeCells #[.bool false] n) 4)) := (Below.refl _ _).alloc (Nat.le_refl _) _
  have HBB := Lib.hid hb0
  clear h hb0
  go_enter Tryz.func35, Tryz.ntmps35
  go_wp2_with fail
  go_loopw [4] (fun i wr => ∃ k : Nat, k ≤ n ∧ i = .int .i64 (k : Int) ∧ OwnB wr w.heap.size (some ⟨w.heap.size, 0, none⟩) n n (copyB bs n k) ∧ Below w.heap.size w wr) (fun i _ => n - (intOf i).toNat)
  case atStart => exact ⟨0, Nat.zero_le _, rfl, by simpa [copyB] using HO0.out, HBB.out⟩
  case round =>
    clear HO0 HBB hmk
    obtain ⟨k, hk, rfl, hown, hbel⟩ := hrel
    by_cases hlt : k < n
    · obtain ⟨b, o, z, rfl, hb, hz, hc⟩ := (HI.out.below hbel).at_ hlt
      have hcell := hown.cellB hlt
      generalize bAt (copyB bs n k) k = y at hcell
      have hfr := hown.frozenB (k := k)
      have hput := hown.put (k := k) z
      rw [copyB_succ HL.out hlt hz] at hput
      have HP := Lib.hid hput
      have HB := Lib.hid (below_set hbel (b := w.heap.size) (j := k) (Nat.le_refl _) (.bool z))
      clear hput hown hbel hz hb
      go_wp2
      go_roundw
      case rel => exact ⟨k + 1, by omega, by go_num, HP.out, HB.out⟩
      case measure => simp [intOf]; omega
    · obtain rfl : n = k := by omega
      have e : copyB bs n n = bs := by unfold copyB; rw [Nat.sub_self, List.replicate_zero, List.append_nil, List.take_of_length_le (by have := HL.out; omega)]
      rw [e] at hown
      go_wp2
      go_ret
      exact ⟨_, _, _, rfl, hown, hbel⟩
end Go.Proofs.YtmooecbdpfhnlaaGreat
