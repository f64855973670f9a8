/- The contracts of the program's rising (slices.Sort, slices.Compact) and of its NamesIn. -/
import Derived.Test.YtbnpoliogldohaaGreatS26
import Derived.Test.YtbnpoliogldohaaGreatS24
import Derived.Test.YtbnpoliogldohaaGreatS27
import Derived.Sort.OwnSortedInts
import Derived.Lib.OwnBridge
namespace Go.Proofs.YtbnpoliogldohaaGreat
open Go.RowKit

theorem zero_i64 (w : World) : (zeroValue 2).run Tryz.prog w = .ok (.int .i64 0) w := by kernel_rfl
theorem compact0 (p : Option Addr) (c : Nat) (w : World) : Calls Tryz.prog 183 #[.slice p 0 c] w fun e w' => e = .returned (.slice p 0 c) ∧ w = w' := by
  go_enter Tryz.func183, Tryz.ntmps183
  go_wp2
  go_ret
  exact ⟨rfl, rfl⟩

/-- slices.Sort on a slice of numbers of the call's own. -/
theorem sort_any (B g n c : Nat) (zs : List Int) (w : World) (h : Own w B (some ⟨g, 0, none⟩) n c zs) :
    Calls Tryz.prog 182 #[.slice (some ⟨g, 0, none⟩) n c] w fun e w' => e = .returned (.tuple #[]) ∧ Own w' B (some ⟨g, 0, none⟩) n c (sortI zs) ∧ w.grownBy w' (some g) := by
  have hl := h.len
  subst hl
  have hbd := h.2.1
  rcases h.1.2 with ⟨e0, _⟩ | ⟨g', cap, cur, e0, hb, hg, hnc, hcm, hcs, htk⟩
  · cases e0
  · injection e0 with e1 _ e3
    injection e1 with e1
    injection e1 with e1
    subst e1 e3
    have hH := holds_of_blockI (ss := zs) hg (by rw [Nat.mul_one] at htk; exact htk)
    refine (Tryz.slices_Sort_int g 0 c zs w hH (Array.getElem?_eq_some_iff.1 hg).1 (by omega)).mono ?_
    rintro e w' ⟨rfl, q, os, rfl⟩
    exact ⟨rfl, ⟨ownsRow_sortedI (sortI_len zs) hb hg hnc hcm hcs, hbd, fun z hz => h.2.2 z (mem_sortI.1 hz)⟩, grownBy_sortedI _⟩

/-- slices.Compact on such a one. -/
theorem compact_any (B g n c : Nat) (zs : List Int) (w : World) (h : Own w B (some ⟨g, 0, none⟩) n c zs) (k : Nat) (hk : Hid ((Lib.compactUpTo zs.toArray n).length = k)) (hin : ∀ z ∈ Lib.compactUpTo zs.toArray n, In64 z) (hkn : k ≤ n) :
    Calls Tryz.prog 183 #[.slice (some ⟨g, 0, none⟩) n c] w fun e w' => e = .returned (.slice (some ⟨g, 0, none⟩) k c) ∧ Own w' B (some ⟨g, 0, none⟩) k c (Lib.compactUpTo zs.toArray n) ∧ w.grownBy w' (some g) := by
  have hl := h.len
  subst hl
  have hbd := h.2.1
  obtain ⟨g', cap, e0, _, _, hnc, hcm, _, hH⟩ := Lib.holds_of_ownsRow h.1 (by simp)
  injection e0 with e1 _ e3
  injection e1 with e1
  injection e1 with e1
  subst e1 e3
  have hcon := Tryz.slices_Compact (Value.int .i64) (fun _ => rfl) (EqlAt.intD _ _ .i64) (NeqAt.intD _ _ .i64) 0 zero_i64 g 0 c zs.toArray w hH (by simp; omega) (by simpa using hnc)
  simp only [List.size_toArray] at hcon
  refine hcon.mono ?_
  rintro e w' ⟨rfl, q, rfl⟩
  rw [hk.out]
  refine ⟨rfl, ⟨?_, by omega, hin⟩, ?_⟩
  · have := Lib.ownsRow_putRow (q := q) (k := k) (ys := Lib.compactUpTo zs.toArray zs.length ++ List.replicate (zs.length - k) 0) h.1 (by simp [hk.out]; omega) hkn
    rw [List.take_append_of_le_length (by rw [hk.out]; exact Nat.le_refl _), List.take_of_length_le (by rw [hk.out]; exact Nat.le_refl _)] at this
    exact this
  · have := grownBy_sortedI (w := w) (g := g) (n := q) (os := #[]) (Lib.compactUpTo zs.toArray zs.length ++ List.replicate (zs.length - k) 0).toArray
    rwa [Go.Sort.grow_empty] at this

/-- What rising leaves: in its own block, the numbers each once, rising. -/
def Rose (w : World) (B : Nat) (a : Option Addr) (n c : Nat) (zs : List Int) (e : Ending) (w' : World) : Prop :=
  ∃ k, e = .returned (.slice a k c) ∧ Own w' B a k c (riseL zs) ∧ w.grownBy w' (Value.slice a n c).ownBlock

set_option maxHeartbeats 400000 in
theorem rising_any (B : Nat) (a : Option Addr) (n c : Nat) (zs : List Int) (w : World) (h : Own w B a n c zs) :
    Calls Tryz.prog 125 #[.slice a n c] w (Rose w B a n c zs) := by
  have hl := h.len
  rcases Nat.eq_zero_or_pos n with h0 | h0
  · subst h0
    have hz : zs = [] := List.eq_nil_of_length_eq_zero hl
    subst hz
    go_enter Tryz.func125, Tryz.ntmps125
    go_wp2_with fail
    refine (Tryz.slices_Sort_int_none _ _ _).mono ?_
    rintro e w1 ⟨rfl, rfl⟩
    go_wp2_with fail
    refine (compact0 _ _ _).mono ?_
    rintro e w1 ⟨rfl, rfl⟩
    go_wp2_with fail
    go_ret
    exact ⟨0, rfl, h, World.grownBy.refl _ _⟩
  · obtain ⟨g, rfl⟩ : ∃ g, a = some ⟨g, 0, none⟩ := by
      rcases h.1.2 with ⟨_, h0'⟩ | ⟨g, cap, cur, e, _⟩
      · omega
      · exact ⟨g, by injection e⟩
    have HL := Lib.hid hl
    have hkn : (riseL zs).length ≤ n := by
      unfold riseL Lib.compactUpTo
      rw [List.length_map]
      have := List.length_filter_le (Lib.keeps (sortI zs).toArray) (List.range zs.length)
      rw [List.length_range] at this
      omega
    have hri := riseL_is zs
    obtain ⟨k, HK⟩ : ∃ k, Hid ((Lib.compactUpTo (sortI zs).toArray n).length = k) := ⟨_, rfl⟩
    have HR : Hid (Lib.compactUpTo (sortI zs).toArray n = riseL zs) := by show _ = _; unfold riseL; rw [HL.out]
    have hk2 : k ≤ n := by rw [← HK.out, HR.out]; exact hkn
    have hinR : ∀ z ∈ Lib.compactUpTo (sortI zs).toArray n, In64 z := fun z hz => h.2.2 z ((hri.2 z).1 (by rw [← HR.out]; exact hz))
    have HIN := Lib.hid hinR
    clear hri hkn hinR hl
    go_enter Tryz.func125, Tryz.ntmps125
    go_wp2_with fail
    refine (sort_any B g n c zs _ h).mono ?_
    rintro e w1 ⟨rfl, h1, hg1⟩
    go_wp2_with fail
    refine (compact_any B g n c (sortI zs) _ h1 k HK HIN.out hk2).mono ?_
    rintro e w2 ⟨rfl, h2, hg2⟩
    rw [HR.out] at h2
    have hg3 : w.grownBy w2 (some g) := ⟨hg2.os.trans hg1.os, hg2.tape.trans hg1.tape, hg2.output.trans hg1.output, Nat.le_trans hg1.size hg2.size, fun b hb hne => (hg2.block b (Nat.lt_of_lt_of_le hb hg1.size) hne).trans (hg1.block b hb hne)⟩
    clear hg1 hg2 h1
    go_wp2_with fail
    go_ret
    exact ⟨k, rfl, h2, hg3⟩

/-- What NamesIn answers for one Op (1: variables, 2: arrays). -/
def nmB (op : Int) (ts : List Tm) : List Int := if expB ts = true then riseL (namesOf op ts) else []
/-- What a NamesIn leaves. -/
def MadeN (w : World) (ts : List Tm) (e : Ending) (w' : World) : Prop :=
  ∃ r s : Sl, e = .returned (.tuple #[slV r, slV s]) ∧ Own2 w' w.heap.size r s (nmB 1 ts) (nmB 2 ts) ∧ Below w.heap.size w w'

set_option maxRecDepth 100000 in
set_option maxHeartbeats 800000 in
theorem namesIn_any (a : Option Addr) (n c : Nat) (ts : List Tm) (w : World) (h : Terms w a n ts) :
    Calls Tryz.prog 203 #[.slice a n c] w (MadeN w ts) := by
  have HL := Lib.hid h.1
  cases hok : expB ts with
  | false =>
    have HN1 : Hid (nmB 1 ts = []) := by show _ = _; unfold nmB; rw [hok]; rfl
    have HN2 : Hid (nmB 2 ts = []) := by show _ = _; unfold nmB; rw [hok]; rfl
    have HK := Lib.hid hok
    clear hok
    go_enter Tryz.func203, Tryz.ntmps203
    go_wp2_with fail
    refine (expOk_any _ _ _ ts _ h).mono ?_
    rintro e w1 ⟨rfl, hb1⟩
    rw [HK.out]
    go_wp2_with fail
    go_ret2
    exact ⟨(none, 0, 0), (none, 0, 0), rfl, by rw [HN1.out, HN2.out]; exact ⟨own_nil2 _ _, own_nil2 _ _, fun g hg => by simp [slV, Value.ownBlock] at hg⟩, hb1⟩
  | true =>
    have HK := Lib.hid hok
    have hle := ((expB_iff ts).1 hok).1
    have hn : n ≤ 3000 := by have := HL.out; omega
    have HX := Lib.hid ((expB_iff ts).1 hok).2
    obtain ⟨op, nn, kids, hstk, hts, hop, hkl, hkok⟩ := tree_of ((expB_iff ts).1 hok).2
    obtain ⟨T, hTe⟩ : ∃ T, T = Tr.node op nn kids := ⟨_, rfl⟩
    have hflat : T.flat = ts := by rw [hTe, Tr.flat, hts]
    have HS : Hid (stackOf ts = [T]) := by show _ = _; rw [hTe]; exact hstk
    have hTok : T.okT := by rw [hTe]; simp only [Tr.okT]; exact ⟨hop, hkl, hkok⟩
    have HN : ∀ op : Int, nmB op ts = riseL (T.pre op) := fun op => by
      unfold nmB
      rw [if_pos hok]
      exact riseL_congr (fun x => by rw [mem_namesOf, mem_pre, hflat])
    have HN1 := Lib.hid (HN 1)
    have HN2 := Lib.hid (HN 2)
    have hfl : T.flat.length ≤ 3000 := by rw [hflat]; exact hle
    clear hok hstk hts hop hle hkl hkok HN hflat
    clear hTe
    go_enter Tryz.func203, Tryz.ntmps203
    go_wp2_with fail
    refine (expOk_any _ _ _ ts _ h).mono ?_
    rintro e w1 ⟨rfl, hb1⟩
    rw [HK.out]
    go_wp2_with fail
    refine (treeOf_any _ _ _ ts _ _ (h.below (Nat.le_refl _) hb1) hn HX HS).mono ?_
    rintro e w2 ⟨u, z, rfl, hIT, hb2⟩
    have ht2 : Below w.heap.size w w2 := hb1.trans (hb2.mono hb1.size)
    clear hb1 hb2
    go_wp2_with fail
    refine (appendNames_any T _ _ hTok hIT hfl).mono ?_
    rintro e w3 ⟨⟨a3, n3, c3⟩, ⟨b3, m3, d3⟩, rfl, ho3, htw3⟩
    simp only [List.nil_append] at ho3
    have hb3 : Below w2.heap.size w2 w3 := htw3.below (Nat.le_refl _) (fun g hg => by simp [slV, Value.ownBlock] at hg) (fun g hg => by simp [slV, Value.ownBlock] at hg)
    have ht3 : Below w.heap.size w w3 := ht2.trans (hb3.mono ht2.size)
    have hs23 : w2.heap.size ≤ w3.heap.size := hb3.size
    clear htw3 hb3 hIT
    simp only [slV]
    go_wp2_with fail
    refine (rising_any w2.heap.size _ _ _ _ _ ho3.1).mono ?_
    rintro e w4 ⟨k4, rfl, ho4, hg4⟩
    have ho34 := ho3.left (r' := (a3, k4, c3)) (w' := w4) ⟨hg4, fun g hg => .inl (by rw [← hg]; exact own_block_len _ _ _ _ _)⟩ ho4
    have ht4 : Below w.heap.size w w4 := ht3.grown hg4 ht3.size (fun g hg => Nat.le_trans ht2.size (ho3.1.block g hg).1)
    clear ho4 hg4 ho3
    go_wp2_with fail
    refine (rising_any w2.heap.size _ _ _ _ _ ho34.2.1).mono ?_
    rintro e w5 ⟨k5, rfl, ho5, hg5⟩
    have ho35 := ho34.right (s' := (b3, k5, d3)) (w' := w5) ⟨hg5, fun g hg => .inl (by rw [← hg]; exact own_block_len _ _ _ _ _)⟩ ho5
    have ht5 : Below w.heap.size w w5 := ht4.grown hg5 ht4.size (fun g hg => Nat.le_trans ht2.size (ho34.2.1.block g hg).1)
    clear ho5 hg5 ho34
    go_wp2_with fail
    go_ret2
    refine ⟨(a3, k4, c3), (b3, k5, d3), rfl, ?_, ht5⟩
    rw [HN1.out, HN2.out]
    exact ⟨ho35.1.base ht2.size, ho35.2.1.base ht2.size, ho35.2.2⟩
end Go.Proofs.YtbnpoliogldohaaGreat
