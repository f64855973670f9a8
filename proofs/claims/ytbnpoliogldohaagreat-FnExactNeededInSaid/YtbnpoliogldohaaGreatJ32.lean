/- Joined texts of this proof (Rising, SpecNames, ImplMay), in build order. -/
import Derived.Test.YtbnpoliogldohaaGreatJ29
import Derived.Test.YtbnpoliogldohaaGreatJ30
import Derived.Test.YtbnpoliogldohaaGreatJ31
import Derived.Sort.OwnSortedInts
import Derived.Lib.OwnBridge
import Derived.Test.YtbnpoliogldohaaGreatJ1
import Derived.Test.YtbnpoliogldohaaGreatJ14
/- The contracts of the program's rising (slices.Sort, slices.Compact) and of its NamesIn. -/
namespace Go.Proofs.YtbnpoliogldohaaGreat
open Go.RowKit

theorem zero_i64 (w : World) : (zeroValue 2).run Tryz.prog w = .ok (.int .i64 0) w := by kernel_rfl
theorem compact0 (p : Option Addr) (c : Nat) (w : World) : Calls Tryz.prog 183 #[.slice p 0 c] w fun e w' => e = .returned (.slice p 0 c) ∧ w = w' := by
  go_enter Tryz.func183, Tryz.ntmps183
  go_wp2
  go_ret
  exact ⟨rfl, rfl⟩

/-- slices.Sort on a slice of numbers of the call's own. -/
theorem sort_any (B g n c : Nat) (zs : List Int) (w : World) (h : Own w B (some ⟨g, 0, none⟩) n c zs) :
    Calls Tryz.prog 182 #[.slice (some ⟨g, 0, none⟩) n c] w fun e w' => e = .returned (.tuple #[]) ∧ Own w' B (some ⟨g, 0, none⟩) n c (sortI zs) ∧ w.grownBy w' (some g) := by
  have hl := h.len
  subst hl
  have hbd := h.2.1
  rcases h.1.2 with ⟨e0, _⟩ | ⟨g', cap, cur, e0, hb, hg, hnc, hcm, hcs, htk⟩
  · cases e0
  · injection e0 with e1 _ e3
    injection e1 with e1
    injection e1 with e1
    subst e1 e3
    have hH := holds_of_blockI (ss := zs) hg (by rw [Nat.mul_one] at htk; exact htk)
    refine (Tryz.slices_Sort_int g 0 c zs w hH (Array.getElem?_eq_some_iff.1 hg).1 (by omega)).mono ?_
    rintro e w' ⟨rfl, q, os, rfl⟩
    exact ⟨rfl, ⟨ownsRow_sortedI (sortI_len zs) hb hg hnc hcm hcs, hbd, fun z hz => h.2.2 z (mem_sortI.1 hz)⟩, grownBy_sortedI _⟩

/-- slices.Compact on such a one. -/
theorem compact_any (B g n c : Nat) (zs : List Int) (w : World) (h : Own w B (some ⟨g, 0, none⟩) n c zs) (k : Nat) (hk : Hid ((Lib.compactUpTo zs.toArray n).length = k)) (hin : ∀ z ∈ Lib.compactUpTo zs.toArray n, In64 z) (hkn : k ≤ n) :
    Calls Tryz.prog 183 #[.slice (some ⟨g, 0, none⟩) n c] w fun e w' => e = .returned (.slice (some ⟨g, 0, none⟩) k c) ∧ Own w' B (some ⟨g, 0, none⟩) k c (Lib.compactUpTo zs.toArray n) ∧ w.grownBy w' (some g) := by
  have hl := h.len
  subst hl
  have hbd := h.2.1
  obtain ⟨g', cap, e0, _, _, hnc, hcm, _, hH⟩ := Lib.holds_of_ownsRow h.1 (by simp)
  injection e0 with e1 _ e3
  injection e1 with e1
  injection e1 with e1
  subst e1 e3
  have hcon := Tryz.slices_Compact (Value.int .i64) (fun _ => rfl) (EqlAt.intD _ _ .i64) (NeqAt.intD _ _ .i64) 0 zero_i64 g 0 c zs.toArray w hH (by simp; omega) (by simpa using hnc)
  simp only [List.size_toArray] at hcon
  refine hcon.mono ?_
  rintro e w' ⟨rfl, q, rfl⟩
  rw [hk.out]
  refine ⟨rfl, ⟨?_, by omega, hin⟩, ?_⟩
  · have := Lib.ownsRow_putRow (q := q) (k := k) (ys := Lib.compactUpTo zs.toArray zs.length ++ List.replicate (zs.length - k) 0) h.1 (by simp [hk.out]; omega) hkn
    rw [List.take_append_of_le_length (by rw [hk.out]; exact Nat.le_refl _), List.take_of_length_le (by rw [hk.out]; exact Nat.le_refl _)] at this
    exact this
  · have := grownBy_sortedI (w := w) (g := g) (n := q) (os := #[]) (Lib.compactUpTo zs.toArray zs.length ++ List.replicate (zs.length - k) 0).toArray
    rwa [Go.Sort.grow_empty] at this

/-- What rising leaves: in its own block, the numbers each once, rising. -/
def Rose (w : World) (B : Nat) (a : Option Addr) (n c : Nat) (zs : List Int) (e : Ending) (w' : World) : Prop :=
  ∃ k, e = .returned (.slice a k c) ∧ Own w' B a k c (riseL zs) ∧ w.grownBy w' (Value.slice a n c).ownBlock

set_option maxHeartbeats 400000 in
theorem rising_any (B : Nat) (a : Option Addr) (n c : Nat) (zs : List Int) (w : World) (h : Own w B a n c zs) :
    Calls Tryz.prog 125 #[.slice a n c] w (Rose w B a n c zs) := by
  have hl := h.len
  rcases Nat.eq_zero_or_pos n with h0 | h0
  · subst h0
    have hz : zs = [] := List.eq_nil_of_length_eq_zero hl
    subst hz
    go_enter Tryz.func125, Tryz.ntmps125
    go_wp2_with fail
    refine (Tryz.slices_Sort_int_none _ _ _).mono ?_
    rintro e w1 ⟨rfl, rfl⟩
    go_wp2_with fail
    refine (compact0 _ _ _).mono ?_
    rintro e w1 ⟨rfl, rfl⟩
    go_wp2_with fail
    go_ret
    exact ⟨0, rfl, h, World.grownBy.refl _ _⟩
  · obtain ⟨g, rfl⟩ : ∃ g, a = some ⟨g, 0, none⟩ := by
      rcases h.1.2 with ⟨_, h0'⟩ | ⟨g, cap, cur, e, _⟩
      · omega
      · exact ⟨g, by injection e⟩
    have HL := Lib.hid hl
    have hkn : (riseL zs).length ≤ n := by
      unfold riseL Lib.compactUpTo
      rw [List.length_map]
      have := List.length_filter_le (Lib.keeps (sortI zs).toArray) (List.range zs.length)
      rw [List.length_range] at this
      omega
    have hri := riseL_is zs
    obtain ⟨k, HK⟩ : ∃ k, Hid ((Lib.compactUpTo (sortI zs).toArray n).length = k) := ⟨_, rfl⟩
    have HR : Hid (Lib.compactUpTo (sortI zs).toArray n = riseL zs) := by show _ = _; unfold riseL; rw [HL.out]
    have hk2 : k ≤ n := by rw [← HK.out, HR.out]; exact hkn
    have hinR : ∀ z ∈ Lib.compactUpTo (sortI zs).toArray n, In64 z := fun z hz => h.2.2 z ((hri.2 z).1 (by rw [← HR.out]; exact hz))
    have HIN := Lib.hid hinR
    clear hri hkn hinR hl
    go_enter Tryz.func125, Tryz.ntmps125
    go_wp2_with fail
    refine (sort_any B g n c zs _ h).mono ?_
    rintro e w1 ⟨rfl, h1, hg1⟩
    go_wp2_with fail
    refine (compact_any B g n c (sortI zs) _ h1 k HK HIN.out hk2).mono ?_
    rintro e w2 ⟨rfl, h2, hg2⟩
    rw [HR.out] at h2
    have hg3 : w.grownBy w2 (some g) := ⟨hg2.os.trans hg1.os, hg2.tape.trans hg1.tape, hg2.output.trans hg1.output, Nat.le_trans hg1.size hg2.size, fun b hb hne => (hg2.block b (Nat.lt_of_lt_of_le hb hg1.size) hne).trans (hg1.block b hb hne)⟩
    clear hg1 hg2 h1
    go_wp2_with fail
    go_ret
    exact ⟨k, rfl, h2, hg3⟩

/-- What NamesIn answers for one Op (1: variables, 2: arrays). -/
def nmB (op : Int) (ts : List Tm) : List Int := if expB ts = true then riseL (namesOf op ts) else []
/-- What a NamesIn leaves. -/
def MadeN (w : World) (ts : List Tm) (e : Ending) (w' : World) : Prop :=
  ∃ r s : Sl, e = .returned (.tuple #[slV r, slV s]) ∧ Own2 w' w.heap.size r s (nmB 1 ts) (nmB 2 ts) ∧ Below w.heap.size w w'

set_option maxRecDepth 100000 in
set_option maxHeartbeats 800000 in
theorem namesIn_any (a : Option Addr) (n c : Nat) (ts : List Tm) (w : World) (h : Terms w a n ts) :
    Calls Tryz.prog 203 #[.slice a n c] w (MadeN w ts) := by
  have HL := Lib.hid h.1
  cases hok : expB ts with
  | false =>
    have HN1 : Hid (nmB 1 ts = []) := by show _ = _; unfold nmB; rw [hok]; rfl
    have HN2 : Hid (nmB 2 ts = []) := by show _ = _; unfold nmB; rw [hok]; rfl
    have HK := Lib.hid hok
    clear hok
    go_enter Tryz.func203, Tryz.ntmps203
    go_wp2_with fail
    refine (expOk_any _ _ _ ts _ h).mono ?_
    rintro e w1 ⟨rfl, hb1⟩
    rw [HK.out]
    go_wp2_with fail
    go_ret2
    exact ⟨(none, 0, 0), (none, 0, 0), rfl, by rw [HN1.out, HN2.out]; exact ⟨own_nil2 _ _, own_nil2 _ _, fun g hg => by simp [slV, Value.ownBlock] at hg⟩, hb1⟩
  | true =>
    have HK := Lib.hid hok
    have hle := ((expB_iff ts).1 hok).1
    have hn : n ≤ 3000 := by have := HL.out; omega
    have HX := Lib.hid ((expB_iff ts).1 hok).2
    obtain ⟨op, nn, kids, hstk, hts, hop, hkl, hkok⟩ := tree_of ((expB_iff ts).1 hok).2
    obtain ⟨T, hTe⟩ : ∃ T, T = Tr.node op nn kids := ⟨_, rfl⟩
    have hflat : T.flat = ts := by rw [hTe, Tr.flat, hts]
    have HS : Hid (stackOf ts = [T]) := by show _ = _; rw [hTe]; exact hstk
    have hTok : T.okT := by rw [hTe]; simp only [Tr.okT]; exact ⟨hop, hkl, hkok⟩
    have HN : ∀ op : Int, nmB op ts = riseL (T.pre op) := fun op => by
      unfold nmB
      rw [if_pos hok]
      exact riseL_congr (fun x => by rw [mem_namesOf, mem_pre, hflat])
    have HN1 := Lib.hid (HN 1)
    have HN2 := Lib.hid (HN 2)
    have hfl : T.flat.length ≤ 3000 := by rw [hflat]; exact hle
    clear hok hstk hts hop hle hkl hkok HN hflat
    clear hTe
    go_enter Tryz.func203, Tryz.ntmps203
    go_wp2_with fail
    refine (expOk_any _ _ _ ts _ h).mono ?_
    rintro e w1 ⟨rfl, hb1⟩
    rw [HK.out]
    go_wp2_with fail
    refine (treeOf_any _ _ _ ts _ _ (h.below (Nat.le_refl _) hb1) hn HX HS).mono ?_
    rintro e w2 ⟨u, z, rfl, hIT, hb2⟩
    have ht2 : Below w.heap.size w w2 := hb1.trans (hb2.mono hb1.size)
    clear hb1 hb2
    go_wp2_with fail
    refine (appendNames_any T _ _ hTok hIT hfl).mono ?_
    rintro e w3 ⟨⟨a3, n3, c3⟩, ⟨b3, m3, d3⟩, rfl, ho3, htw3⟩
    simp only [List.nil_append] at ho3
    have hb3 : Below w2.heap.size w2 w3 := htw3.below (Nat.le_refl _) (fun g hg => by simp [slV, Value.ownBlock] at hg) (fun g hg => by simp [slV, Value.ownBlock] at hg)
    have ht3 : Below w.heap.size w w3 := ht2.trans (hb3.mono ht2.size)
    have hs23 : w2.heap.size ≤ w3.heap.size := hb3.size
    clear htw3 hb3 hIT
    simp only [slV]
    go_wp2_with fail
    refine (rising_any w2.heap.size _ _ _ _ _ ho3.1).mono ?_
    rintro e w4 ⟨k4, rfl, ho4, hg4⟩
    have ho34 := ho3.left (r' := (a3, k4, c3)) (w' := w4) ⟨hg4, fun g hg => .inl (by rw [← hg]; exact own_block_len _ _ _ _ _)⟩ ho4
    have ht4 : Below w.heap.size w w4 := ht3.grown hg4 ht3.size (fun g hg => Nat.le_trans ht2.size (ho3.1.block g hg).1)
    clear ho4 hg4 ho3
    go_wp2_with fail
    refine (rising_any w2.heap.size _ _ _ _ _ ho34.2.1).mono ?_
    rintro e w5 ⟨k5, rfl, ho5, hg5⟩
    have ho35 := ho34.right (s' := (b3, k5, d3)) (w' := w5) ⟨hg5, fun g hg => .inl (by rw [← hg]; exact own_block_len _ _ _ _ _)⟩ ho5
    have ht5 : Below w.heap.size w w5 := ht4.grown hg5 ht4.size (fun g hg => Nat.le_trans ht2.size (ho34.2.1.block g hg).1)
    clear ho5 hg5 ho34
    go_wp2_with fail
    go_ret2
    refine ⟨(a3, k4, c3), (b3, k5, d3), rfl, ?_, ht5⟩
    rw [HN1.out, HN2.out]
    exact ⟨ho35.1.base ht2.size, ho35.2.1.base ht2.size, ho35.2.2⟩
end Go.Proofs.YtbnpoliogldohaaGreat
/- The contracts of the model's l2In, l2With and NamesIn. -/
namespace Go.Proofs.YtbnpoliogldohaaGreat
open Go.RowKit

/-- Not among the first k. -/
def NotTo (z : Int) (zs : List Int) (k : Nat) : Prop := ∀ i, i < k → zs.getD i 0 ≠ z
theorem NotTo.succ {z x : Int} {zs : List Int} {k : Nat} (h : NotTo z zs k) (hx : Hid (x = zs.getD k 0)) (hne : x ≠ z) : NotTo z zs (k + 1) := by
  intro i hi
  rcases Nat.lt_or_ge i k with hlt | hge
  · exact h i hlt
  · have : i = k := by omega
    subst this; rw [← hx.out]; exact hne
theorem notTo_all {z : Int} {zs : List Int} (h : NotTo z zs zs.length) : z ∉ zs := by
  intro hz
  obtain ⟨i, hi, rfl⟩ := List.getElem_of_mem hz
  exact h i hi (by rw [List.getD_eq_getElem?_getD, List.getElem?_eq_getElem hi]; rfl)

set_option maxHeartbeats 400000 in
theorem l2In_any (a : Option Addr) (n c : Nat) (zs : List Int) (z : Int) (w : World) (h : Ints w a n zs) :
    Calls Tryz.prog 59 #[.slice a n c, .int .i64 z] w fun e w' => e = .returned (.bool (decide (z ∈ zs))) ∧ w = w' := by
  have HL := Lib.hid h.1
  have hbd := h.2.1
  go_enter Tryz.func59, Tryz.ntmps59
  go_wp2
  go_loop [5] (fun i => ∃ k : Nat, k ≤ n ∧ i = .int .i64 k ∧ NotTo z zs k) (fun i => n - (intOf i).toNat)
  case atStart => exact ⟨0, Nat.zero_le _, rfl, fun i hi => absurd hi (by omega)⟩
  case round =>
    obtain ⟨k, hk, rfl, hg⟩ := hrel
    by_cases hlt : k < n
    · obtain ⟨b, o, x, rfl, hb, hx, hin, hc⟩ := h.at_ hlt
      by_cases he : x = z
      · subst he
        have HM : Hid (decide (x ∈ zs) = true) := by show _ = _; rw [decide_eq_true_eq, hx.out]; exact getD_mem (by rw [HL.out]; exact hlt)
        go_wp2
        go_ret
        exact ⟨ret_bool HM.out.symm, rfl⟩
      · have hne : (x == z) = false := by simpa using he
        have hg2 := hg.succ hx he
        clear he
        go_wp2
        go_round
        case rel => exact ⟨k + 1, by omega, by go_num, hg2⟩
        case measure => simp [intOf]; omega
    · obtain rfl : n = k := by omega
      have HM : Hid (decide (z ∈ zs) = false) := by show _ = _; rw [decide_eq_false_iff_not]; exact notTo_all (by rw [HL.out]; exact hg)
      go_wp2
      go_ret
      exact ⟨ret_bool HM.out.symm, rfl⟩

/-- How far the new list is. -/
def PutSt (z : Int) (l : List Int) (k : Nat) (put : Bool) (out : List Int) : Prop :=
  (put = true ∧ out ++ l.drop k = putI z l) ∨ (put = false ∧ out = l.take k ∧ putI z l = l.take k ++ putI z (l.drop k))
theorem drop_at {l : List Int} {k : Nat} {x : Int} (h : k < l.length) (hx : Hid (x = l.getD k 0)) : l.drop k = x :: l.drop (k + 1) := by
  rw [List.drop_eq_getElem_cons h, hx.out, List.getD_eq_getElem?_getD, List.getElem?_eq_getElem h]; rfl
theorem take_at {l : List Int} {k : Nat} {x : Int} (h : k < l.length) (hx : Hid (x = l.getD k 0)) : l.take (k + 1) = l.take k ++ [x] := by
  rw [List.take_succ_eq_append_getElem h, hx.out, List.getD_eq_getElem?_getD, List.getElem?_eq_getElem h]; rfl
theorem PutSt.start (z : Int) (l : List Int) : PutSt z l 0 false [] := .inr ⟨rfl, by simp, by simp⟩
theorem PutSt.keep {z x : Int} {l out : List Int} {k : Nat} (h : PutSt z l k true out) (hk : k < l.length) (hx : Hid (x = l.getD k 0)) : PutSt z l (k + 1) true (out ++ [x]) := by
  rcases h with ⟨_, h⟩ | ⟨h, _⟩
  · refine .inl ⟨rfl, ?_⟩
    rw [drop_at hk hx] at h
    rw [List.append_assoc]; exact h
  · cases h
theorem PutSt.wait {z x : Int} {l out : List Int} {k : Nat} (h : PutSt z l k false out) (hk : k < l.length) (hx : Hid (x = l.getD k 0)) (hge : ¬ z < x) : PutSt z l (k + 1) false (out ++ [x]) := by
  rcases h with ⟨h, _⟩ | ⟨_, h1, h2⟩
  · cases h
  · refine .inr ⟨rfl, by rw [take_at hk hx, h1], ?_⟩
    rw [h2, drop_at hk hx, take_at hk hx, putI, if_neg hge]
    simp
theorem PutSt.put {z x : Int} {l out : List Int} {k : Nat} (h : PutSt z l k false out) (hk : k < l.length) (hx : Hid (x = l.getD k 0)) (hlt : z < x) : PutSt z l (k + 1) true (out ++ [z, x]) := by
  rcases h with ⟨h, _⟩ | ⟨_, h1, h2⟩
  · cases h
  · refine .inl ⟨rfl, ?_⟩
    rw [h2, drop_at hk hx, putI, if_pos hlt, h1]
    simp
theorem PutSt.done_put {z : Int} {l out : List Int} {k : Nat} (h : PutSt z l k true out) (hk : l.length ≤ k) : out = putI z l := by
  rcases h with ⟨_, h⟩ | ⟨h, _⟩
  · rw [List.drop_of_length_le hk, List.append_nil] at h; exact h
  · cases h
theorem PutSt.done_wait {z : Int} {l out : List Int} {k : Nat} (h : PutSt z l k false out) (hk : l.length ≤ k) : out ++ [z] = putI z l := by
  rcases h with ⟨h, _⟩ | ⟨_, h1, h2⟩
  · cases h
  · rw [h2, h1, List.drop_of_length_le hk]; rfl
theorem PutSt.len {z : Int} {l out : List Int} {k : Nat} {put : Bool} (h : PutSt z l k put out) (hk : k ≤ l.length) : out.length ≤ l.length + 1 := by
  have hp : (putI z l).length = l.length + 1 := by
    clear h hk
    induction l with
    | nil => rfl
    | cons x r ih =>
      simp only [putI]
      split
      · rfl
      · simp [ih]
  rcases h with ⟨_, h⟩ | ⟨_, h, _⟩
  · have := congrArg List.length h
    rw [List.length_append, hp] at this
    omega
  · rw [h, List.length_take]; omega
theorem ints_news {w : World} {b o n : Nat} {zs : List Int} (h : Ints w (some ⟨b, o, none⟩) n zs) : ∀ j u, (zs.map (Value.int .i64))[j]? = some u → w.cell? ((⟨b, o, none⟩ : Addr).add j) = some u := by
  intro j u hj
  have hl := h.1
  have hjl : j < zs.length := by have := (List.getElem?_eq_some_iff.1 hj).1; simpa using this
  obtain ⟨b', o', e, _, hc⟩ := h.2.2.2 (by omega)
  injection e with e
  injection e with e1 e2
  subst e1 e2
  rw [Go.WideShapes.add_plain, hc j (by omega), ← hj]
  simp [List.getD_eq_getElem?_getD, hjl]
theorem own_empty2 (w : World) (B : Nat) (hB : B ≤ w.heap.size) : Own (w.alloc (.cells #[] 2)) B (some ⟨w.heap.size, 0, none⟩) 0 0 [] :=
  ⟨World.ownsRow_lit w #[] 0 hB (by unfold maxLen; omega) rfl, by omega, fun z hz => by simp at hz⟩

set_option maxHeartbeats 1600000 in
theorem l2With_any (g n c : Nat) (l : List Int) (z : Int) (w : World) (h : Ints w (some ⟨g, 0, none⟩) n l) (hg : g < w.heap.size) (hz : In64 z) (hn : n ≤ 3000) :
    Calls Tryz.prog 168 #[.slice (some ⟨g, 0, none⟩) n c, .int .i64 z] w (MadeInts w (withI l z)) := by
  have HL := Lib.hid h.1
  by_cases hm : z ∈ l
  · have HM := Lib.hid (decide_eq_true hm)
    have HW : Hid (withI l z = l) := by show _ = _; unfold withI; rw [if_pos hm]
    have HN : Hid (∀ (ob : Obj) j u, (l.map (Value.int .i64))[j]? = some u → (w.alloc ob).cell? ((⟨g, 0, none⟩ : Addr).add j) = some u) := fun ob j u hj => by
      have := ints_news h j u hj
      rw [Go.WideShapes.add_plain] at this ⊢
      rw [World.cell?_alloc_lt w ob _ hg]; exact this
    clear hm
    go_enter Tryz.func168, Tryz.ntmps168
    go_wp2_with fail
    refine (l2In_any _ _ _ l _ _ h).mono ?_
    rintro e w1 ⟨rfl, rfl⟩
    rw [HM.out]
    go_wp2_with (at_builtin; refine wpList_pushG _ rfl _ _ 25 2 (.int .i64 0) 1 8 rfl Tryz.underlying25 info_i64' rfl (by omega) w.heap.size _ 0 0 [] rfl (own_empty2 w _ (Nat.le_refl _)).1 ⟨g, 0, none⟩ n c (l.map (Value.int .i64)) rfl (by rw [List.length_map, HL.out]; omega) (HN.out _) (fun u hu => by obtain ⟨y, _, rfl⟩ := List.mem_map.1 hu; rfl) (by unfold maxLen; omega) (by omega) (by simp) ?_)
    intro a1 c1 w1 hown hgr
    have hb1 : Below w.heap.size w w1 := ((Below.refl _ _).alloc (Nat.le_refl _) _).grown hgr.1 (by simp) (fun k hk => by simp [Value.ownBlock] at hk; omega)
    have hown' : Own w1 w.heap.size a1 n c1 l := ⟨by simpa using hown, by omega, h.2.2.1⟩
    clear hown
    clear hgr
    go_wp2
    go_ret
    exact ⟨a1, n, c1, rfl, by rw [HW.out]; exact hown', hb1⟩
  · have HM := Lib.hid (decide_eq_false hm)
    have HW : Hid (withI l z = putI z l) := by show _ = _; unfold withI; rw [if_neg hm]
    clear hm
    go_enter Tryz.func168, Tryz.ntmps168
    go_wp2_with fail
    refine (l2In_any _ _ _ l _ _ h).mono ?_
    rintro e w1 ⟨rfl, rfl⟩
    rw [HM.out]
    go_wp2
    go_loopw [5, 6, 7] (fun ov pv i wr => ∃ (k : Nat) (put : Bool) (a1 : Option Addr) (n1 c1 : Nat) (out : List Int), k ≤ n ∧ i = .int .i64 k ∧ pv = .bool put ∧ ov = .slice a1 n1 c1 ∧ PutSt z l k put out ∧ Own wr w.heap.size a1 n1 c1 out ∧ Below w.heap.size w wr) (fun _ _ i _ => n - (intOf i).toNat)
    case atStart => exact ⟨0, false, _, _, _, [], Nat.zero_le _, rfl, rfl, rfl, PutSt.start _ _, own_empty2 w _ (Nat.le_refl _), (Below.refl _ _).alloc (Nat.le_refl _) _⟩
    case round =>
      obtain ⟨k, put, a1, n1, c1, out, hk, rfl, rfl, rfl, hst, hown, hbel⟩ := hrel
      have hbs : w.heap.size ≤ wr.heap.size := hbel.size
      have hn1 : n1 ≤ 3001 := by have := hst.len (by rw [HL.out]; exact hk); have := hown.len; have := HL.out; omega
      by_cases hlt : k < n
      · obtain ⟨b, o, x, e0, hb, hx, hin, hc⟩ := (h.below hbel).at_ hlt
        injection e0 with e0
        injection e0 with e1 e2
        subst e1 e2
        rw [Nat.zero_add] at hc
        cases put with
        | true =>
          have hst2 := hst.keep (by rw [HL.out]; exact hlt) hx
          go_wp2_with (at_builtin; refine wpList_pushI _ rfl _ _ rfl w.heap.size _ _ _ out rfl (hown.alloc2 _) wr.heap.size x rfl (by simp) hin (by omega) (by simp; omega) ?_)
          intro a2 c2 w2 hown2 hgr2
          have hb2 : Below w.heap.size w w2 := (hbel.alloc hbs _).grown hgr2.1 (by simp; omega) (fun g hg => (hown.block g hg).1)
          clear hown hgr2 hbel
          go_wp2
          go_roundw
          case rel => exact ⟨k + 1, true, a2, n1 + 1, c2, _, by omega, by go_num, rfl, rfl, hst2, hown2, hb2⟩
          case measure => simp [intOf]; omega
        | false =>
          by_cases hzx : z < x
          · have hst2 := hst.put (by rw [HL.out]; exact hlt) hx hzx
            go_wp2_with (at_builtin; refine wpList_pushI _ rfl _ _ rfl w.heap.size _ _ _ out rfl (hown.alloc2 _) wr.heap.size z rfl (by simp) hz (by omega) (by simp; omega) ?_)
            intro a2 c2 w2 hown2 hgr2
            have hb2 : Below w.heap.size w w2 := (hbel.alloc hbs _).grown hgr2.1 (by simp; omega) (fun g hg => (hown.block g hg).1)
            have hbs2 : w.heap.size ≤ w2.heap.size := hb2.size
            have hc2 : w2.cell? ⟨g, k, none⟩ = some (.int .i64 x) := (hb2.cell hg).trans (((hbel.cell hg).symm).trans hc)
            clear hown hgr2 hbel hc
            go_wp2_with (at_builtin; refine wpList_pushI _ rfl _ _ rfl w.heap.size _ _ _ (out ++ [z]) rfl (hown2.alloc2 _) w2.heap.size x rfl (by simp) hin (by omega) (by simp; omega) ?_)
            intro a3 c3 w3 hown3 hgr3
            have hb3 : Below w.heap.size w w3 := (hb2.alloc hbs2 _).grown hgr3.1 (by simp; omega) (fun g hg => (hown2.block g hg).1)
            clear hown2 hgr3 hb2
            go_wp2
            go_roundw
            case rel => exact ⟨k + 1, true, a3, n1 + 1 + 1, c3, _, by omega, by go_num, rfl, rfl, hst2, hown3, hb3⟩
            case measure => simp [intOf]; omega
          · have hst2 := hst.wait (by rw [HL.out]; exact hlt) hx hzx
            go_wp2_with (at_builtin; refine wpList_pushI _ rfl _ _ rfl w.heap.size _ _ _ out rfl (hown.alloc2 _) wr.heap.size x rfl (by simp) hin (by omega) (by simp; omega) ?_)
            intro a2 c2 w2 hown2 hgr2
            have hb2 : Below w.heap.size w w2 := (hbel.alloc hbs _).grown hgr2.1 (by simp; omega) (fun g hg => (hown.block g hg).1)
            clear hown hgr2 hbel
            go_wp2
            go_roundw
            case rel => exact ⟨k + 1, false, a2, n1 + 1, c2, _, by omega, by go_num, rfl, rfl, hst2, hown2, hb2⟩
            case measure => simp [intOf]; omega
      · obtain rfl : n = k := by omega
        cases put with
        | true =>
          have hd := hst.done_put (by rw [HL.out]; exact Nat.le_refl _)
          subst hd
          go_wp2
          go_ret
          exact ⟨a1, n1, c1, rfl, by rw [HW.out]; exact hown, hbel⟩
        | false =>
          have HD := Lib.hid (hst.done_wait (by rw [HL.out]; exact Nat.le_refl _))
          go_wp2_with (at_builtin; refine wpList_pushI _ rfl _ _ rfl w.heap.size _ _ _ out rfl (hown.alloc2 _) wr.heap.size z rfl (by simp) hz (by omega) (by simp; omega) ?_)
          intro a2 c2 w2 hown2 hgr2
          have hb2 : Below w.heap.size w w2 := (hbel.alloc hbs _).grown hgr2.1 (by simp; omega) (fun g hg => (hown.block g hg).1)
          rw [HD.out] at hown2
          clear hown hgr2 hbel
          go_wp2
          go_ret
          exact ⟨a2, _, c2, rfl, by rw [HW.out]; exact hown2, hb2⟩

theorem withI_pos (l : List Int) (z : Int) : 0 < (withI l z).length := by
  unfold withI
  by_cases h : z ∈ l
  · rw [if_pos h]; exact List.length_pos_of_mem h
  · rw [if_neg h]
    cases l with
    | nil => simp [putI]
    | cons x r => simp only [putI]; split <;> simp
theorem own_someN {w : World} {B : Nat} {a : Option Addr} {n c : Nat} {zs : List Int} (h : Own w B a n c zs) (hp : 0 < zs.length) : ∃ g, a = some ⟨g, 0, none⟩ ∧ B ≤ g ∧ g < w.heap.size := by
  have hl := h.len
  rcases h.1.2 with ⟨_, h0⟩ | ⟨g, cap, cur, e, hb, hg, _⟩
  · omega
  · exact ⟨g, by injection e, hb, (Array.getElem?_eq_some_iff.1 hg).1⟩

/-- The names of one Op among the first k, rising. -/
def NamesTo (op : Int) (ts : List Tm) (k : Nat) (l : List Int) : Prop := Rise l ∧ (∀ x, x ∈ l ↔ (op, x) ∈ ts.take k) ∧ l.length ≤ k
theorem NamesTo.zero (op : Int) (ts : List Tm) : NamesTo op ts 0 [] := ⟨by simp [Rise], fun x => by simp, by simp⟩
theorem NamesTo.other {op : Int} {ts : List Tm} {k : Nat} {l : List Int} {t : Tm} (h : NamesTo op ts k l) (hk : k < ts.length) (ht : Hid (tmAt ts k = t)) (hne : t.1 ≠ op) : NamesTo op ts (k + 1) l := by
  refine ⟨h.1, fun x => ?_, by have := h.2.2; omega⟩
  rw [h.2.1, tm_snoc ts k hk, ht.out, List.mem_append, List.mem_singleton]
  constructor
  · exact .inl
  · rintro (h' | h')
    · exact h'
    · exact absurd (by rw [← h']) hne
theorem withI_len (l : List Int) (z : Int) : (withI l z).length ≤ l.length + 1 := by
  unfold withI
  by_cases h : z ∈ l
  · rw [if_pos h]; omega
  · rw [if_neg h]
    have := (PutSt.start z l)
    have hp : ∀ l : List Int, (putI z l).length = l.length + 1 := by
      intro l
      induction l with
      | nil => rfl
      | cons x r ih =>
        simp only [putI]
        split
        · rfl
        · simp [ih]
    rw [hp]; omega
theorem NamesTo.same {op z : Int} {ts : List Tm} {k : Nat} {l : List Int} (h : NamesTo op ts k l) (hk : k < ts.length) (ht : Hid (tmAt ts k = (op, z))) : NamesTo op ts (k + 1) (withI l z) := by
  have hw := withI_is z h.1
  refine ⟨hw.1, fun x => ?_, by have := withI_len l z; have := h.2.2; omega⟩
  rw [hw.2, h.2.1, tm_snoc ts k hk, ht.out, List.mem_append, List.mem_singleton]
  constructor
  · rintro (h' | h')
    · exact .inr (by rw [h'])
    · exact .inl h'
  · rintro (h' | h')
    · exact .inr h'
    · injection h' with _ h'; exact .inl h'
theorem NamesTo.done {op : Int} {ts : List Tm} {n : Nat} {l : List Int} (h : NamesTo op ts n l) (hn : ts.length ≤ n) (hok : expB ts = true) : l = nmB op ts := by
  unfold nmB
  rw [if_pos hok]
  refine riseL_eq h.1 (fun x => ?_)
  rw [h.2.1, List.take_of_length_le hn, mem_namesOf]
theorem Own2.fresh_left {w w' : World} {B : Nat} {r r' s : Sl} {zs zs' ys : List Int} (h : Own2 w B r s zs ys) (hb : Below w.heap.size w w') (ho : Own w' w.heap.size r'.1 r'.2.1 r'.2.2 zs') (hB : B ≤ w.heap.size) : Own2 w' B r' s zs' ys :=
  ⟨ho.base hB, h.2.1.below hb, fun g hg e => by have := (ho.block g hg).1; have := (h.2.1.block g e).2; omega⟩
theorem Own2.fresh_right {w w' : World} {B : Nat} {r s s' : Sl} {zs ys ys' : List Int} (h : Own2 w B r s zs ys) (hb : Below w.heap.size w w') (ho : Own w' w.heap.size s'.1 s'.2.1 s'.2.2 ys') (hB : B ≤ w.heap.size) : Own2 w' B r s' zs ys' :=
  ⟨h.1.below hb, ho.base hB, fun g hg e => by have := (ho.block g e).1; have := (h.1.block g hg).2; omega⟩
theorem own2_empty (w : World) : Own2 ((w.alloc (.cells #[] 2)).alloc (.cells #[] 2)) w.heap.size (some ⟨w.heap.size, 0, none⟩, 0, 0) (some ⟨w.heap.size + 1, 0, none⟩, 0, 0) [] [] := by
  refine ⟨(own_empty2 w _ (Nat.le_refl _)).alloc2 _, ?_, fun g hg e => ?_⟩
  · have := own_empty2 (w.alloc (.cells #[] 2)) w.heap.size (by simp)
    simpa using this
  · simp [slV, Value.ownBlock] at hg e
    omega

set_option maxRecDepth 100000 in
set_option maxHeartbeats 1600000 in
theorem specNamesIn_any (a : Option Addr) (n c : Nat) (ts : List Tm) (w : World) (h : Terms w a n ts) :
    Calls Tryz.prog 109 #[.slice a n c] w (MadeN w ts) := by
  have HL := Lib.hid h.1
  have hem := own2_empty w
  have hbA : Below w.heap.size w ((w.alloc (.cells #[] 2)).alloc (.cells #[] 2)) := ((Below.refl _ _).alloc (Nat.le_refl _) _).alloc (by simp) _
  cases hok : expB ts with
  | false =>
    have HN1 : Hid (nmB 1 ts = []) := by show _ = _; unfold nmB; rw [hok]; rfl
    have HN2 : Hid (nmB 2 ts = []) := by show _ = _; unfold nmB; rw [hok]; rfl
    have HK := Lib.hid hok
    clear hok
    go_enter Tryz.func109, Tryz.ntmps109
    go_wp2_with fail
    refine (specExpOk_any _ _ _ ts _ (h.below (Nat.le_refl _) hbA)).mono ?_
    rintro e w1 ⟨rfl, hb1⟩
    rw [HK.out]
    go_wp2_with fail
    go_ret2
    exact ⟨_, _, rfl, by rw [HN1.out, HN2.out]; exact hem.below hb1, hbA.trans (hb1.mono hbA.size)⟩
  | true =>
    have HK := Lib.hid hok
    have hn : n ≤ 3000 := by have := ((expB_iff ts).1 hok).1; have := HL.out; omega
    clear hok
    go_enter Tryz.func109, Tryz.ntmps109
    go_wp2_with fail
    refine (specExpOk_any _ _ _ ts _ (h.below (Nat.le_refl _) hbA)).mono ?_
    rintro e w1 ⟨rfl, hb1⟩
    rw [HK.out]
    have hem1 := hem.below hb1
    have ht1 := hbA.trans (hb1.mono hbA.size)
    clear hem hb1 hbA
    go_wp2
    go_loopw [4, 5, 6] (fun vv av i wr => ∃ (k g1 n1 c1 g2 n2 c2 : Nat) (zs ys : List Int), k ≤ n ∧ i = .int .i64 k ∧ vv = .slice (some ⟨g1, 0, none⟩) n1 c1 ∧ av = .slice (some ⟨g2, 0, none⟩) n2 c2 ∧ Own2 wr w.heap.size (some ⟨g1, 0, none⟩, n1, c1) (some ⟨g2, 0, none⟩, n2, c2) zs ys ∧ NamesTo 1 ts k zs ∧ NamesTo 2 ts k ys ∧ Below w.heap.size w wr) (fun _ _ i _ => n - (intOf i).toNat)
    case atStart => exact ⟨0, _, _, _, _, _, _, [], [], Nat.zero_le _, rfl, rfl, rfl, hem1, NamesTo.zero _ _, NamesTo.zero _ _, ht1⟩
    case round =>
      clear hem1 ht1
      obtain ⟨k, g1, n1, c1, g2, n2, c2, zs, ys, hk, rfl, rfl, rfl, ho, hz1, hy1, hbel⟩ := hrel
      have hbs : w.heap.size ≤ wr.heap.size := hbel.size
      by_cases hlt : k < n
      · obtain ⟨b, o, x, y, rfl, hb, hz, hin1, hin2, hc1, hc2⟩ := (h.below (Nat.le_refl _) hbel).at_ hlt
        have hkt : k < ts.length := by rw [HL.out]; exact hlt
        have hg1 : g1 < wr.heap.size := (ho.1.block g1 rfl).2
        have hg2 : g2 < wr.heap.size := (ho.2.1.block g2 rfl).2
        have hn1 : n1 ≤ 3000 := by have := ho.1.len; simp only [] at this; have := hz1.2.2; omega
        have hn2 : n2 ≤ 3000 := by have := ho.2.1.len; simp only [] at this; have := hy1.2.2; omega
        by_cases hx1 : x = 1
        · subst hx1
          have hz2 := hz1.same hkt hz
          have hy2 := hy1.other hkt hz (by simp)
          have hpos := withI_pos zs y
          go_wp2_with fail
          refine (l2With_any g1 n1 c1 zs y _ ho.1.ints hg1 hin2 hn1).mono ?_
          rintro e w2 ⟨a2, m2, d2, rfl, ho2, hb2⟩
          obtain ⟨g3, rfl, _, _⟩ := own_someN ho2 hpos
          have ho3 := ho.fresh_left (r' := (some ⟨g3, 0, none⟩, m2, d2)) hb2 ho2 hbs
          have ht2 := hbel.trans (hb2.mono hbs)
          clear ho ho2 hb2 hbel hc1 hc2
          go_wp2
          go_roundw
          case rel => exact ⟨k + 1, g3, m2, d2, g2, n2, c2, _, _, by omega, by go_num, rfl, rfl, ho3, hz2, hy2, ht2⟩
          case measure => simp [intOf]; omega
        by_cases hx2 : x = 2
        · subst hx2
          have hz2 := hz1.other hkt hz (by simp)
          have hy2 := hy1.same hkt hz
          have hpos := withI_pos ys y
          go_wp2_with fail
          refine (l2With_any g2 n2 c2 ys y _ ho.2.1.ints hg2 hin2 hn2).mono ?_
          rintro e w2 ⟨a2, m2, d2, rfl, ho2, hb2⟩
          obtain ⟨g3, rfl, _, _⟩ := own_someN ho2 hpos
          have ho3 := ho.fresh_right (s' := (some ⟨g3, 0, none⟩, m2, d2)) hb2 ho2 hbs
          have ht2 := hbel.trans (hb2.mono hbs)
          clear ho ho2 hb2 hbel hc1 hc2
          go_wp2
          go_roundw
          case rel => exact ⟨k + 1, g1, n1, c1, g3, m2, d2, _, _, by omega, by go_num, rfl, rfl, ho3, hz2, hy2, ht2⟩
          case measure => simp [intOf]; omega
        · have hz2 := hz1.other hkt hz (by simpa using hx1)
          have hy2 := hy1.other hkt hz (by simpa using hx2)
          have e1 : (x == 1) = false := by simpa using hx1
          have e2 : (x == 2) = false := by simpa using hx2
          go_wp2
          go_roundw
          case rel => exact ⟨k + 1, g1, n1, c1, g2, n2, c2, _, _, by omega, by go_num, rfl, rfl, ho, hz2, hy2, hbel⟩
          case measure => simp [intOf]; omega
      · obtain rfl : n = k := by omega
        have e1 := hz1.done (by rw [HL.out]; exact Nat.le_refl _) HK.out
        have e2 := hy1.done (by rw [HL.out]; exact Nat.le_refl _) HK.out
        rw [e1, e2] at ho
        clear hz1 hy1 e1 e2
        go_wp2
        go_ret2
        exact ⟨_, _, rfl, ho, hbel⟩
end Go.Proofs.YtbnpoliogldohaaGreat
/- The contract of the program's stmtMayTrap. -/
namespace Go.Proofs.YtbnpoliogldohaaGreat
open Go.RowKit

set_option maxRecDepth 100000 in
set_option maxHeartbeats 3200000 in
theorem stmtMayTrap_any (r : PRow) (p : Prg) (x y : Int) (b1 b2 : Option Addr) (m1 m2 d1 d2 : Nat) (ts us : List Tm) (w : World) (h : ProgAt w r p) (hz : codeB p = 0) (hs : RightS p ⟨x, y, ts, us⟩) (h1 : Terms w b1 m1 ts) (h2 : Terms w b2 m2 us) :
    Calls Tryz.prog 103 #[progV r, .agg #[.int .i64 x, .int .i64 y, .slice b1 m1 d1, .slice b2 m2 d2]] w fun e w' => e = .returned (.bool (mayStm p ⟨x, y, ts, us⟩)) ∧ Below w.heap.size w w' := by
  have hR := right_f hs
  have HEX : Hid (∀ w', Below w.heap.size w w' → Calls Tryz.prog 166 #[progV r, .slice b2 m2 d2] w' fun e w'' => e = .returned (.bool (standQ p us && Tr.traps p.arrays (stackOf us))) ∧ Below w'.heap.size w' w'') := Lib.hid (fun w' hw => expMayTrap_any r p _ _ _ us w' (h.below hw) hz (h2.below (Nat.le_refl _) hw))
  have HTR : Hid (x = 1 → ∃ (T : Tr) (bq : Bool) (b o j : Nat) (z : Int), (∀ w', Below w.heap.size w w' → Calls Tryz.prog 165 #[.slice b1 m1 d1] w' fun e w'' => ∃ u z, e = .returned (.iface u z) ∧ IsTree w'' (fun _ => True) (.iface u z) T ∧ Below w'.heap.size w' w'') ∧ Hid (isNumB 0 (z - 1) T = bq) ∧ Hid (bq = false → mayStm p ⟨x, y, ts, us⟩ = true) ∧ Hid (bq = true → mayStm p ⟨x, y, ts, us⟩ = (standQ p us && Tr.traps p.arrays (stackOf us))) ∧
      y = (j : Int) ∧ j < r.arrays.2.1 ∧ r.arrays.1 = some ⟨b, o, none⟩ ∧ b < w.heap.size ∧ In64 z ∧ 0 ≤ z ∧ w.cell? ⟨b, o + j, none⟩ = some (.int .i64 z)) := by
    refine Lib.hid fun hx => ?_
    obtain ⟨T, t1, t2, t3, t4, t5, t6⟩ := standQ_tree (hR.at1 hx)
    have hp := hR.put hx
    simp only [] at hp t1 t2 t4 t5
    have ha := h.arrays
    have hal := ha.1
    obtain ⟨b, o, z, e1, hb, hzz, hin, hc⟩ := ha.at_ (k := y.toNat) (by omega)
    have hpos : 0 ≤ z := code_arrays hz z (by rw [hzz.out]; exact getD_mem (by omega))
    have hm := may_put hR hx t1 t3 t2
    simp only [] at hm
    rw [← hzz.out] at hm
    refine ⟨T, _, b, o, y.toNat, z, fun w' hw => treeOf_any _ _ _ ts T w' (h1.below (Nat.le_refl _) hw) (by have := h1.1; omega) (Lib.hid t5) (Lib.hid t1), Lib.hid rfl, Lib.hid (fun e => hm.1 (by rw [e]; rfl)), Lib.hid (fun e => hm.2 (by rw [e]; rfl)), by omega, by omega, e1, hb, hin, hpos, hc⟩
  have HOT : Hid (x ≠ 1 → (standQ p us && Tr.traps p.arrays (stackOf us)) = mayStm p ⟨x, y, ts, us⟩) := Lib.hid (fun hx => may_other hR hx)
  obtain ⟨ex, HE⟩ : ∃ ex, Hid ((standQ p us && Tr.traps p.arrays (stackOf us)) = ex) := ⟨_, rfl⟩
  obtain ⟨mx, HM⟩ : ∃ mx, Hid (mayStm p ⟨x, y, ts, us⟩ = mx) := ⟨_, rfl⟩
  rw [HM.out] at HTR HOT ⊢
  rw [HE.out] at HTR HOT HEX
  obtain ⟨wd, ⟨a1, n1, c1⟩, ⟨a2, n2, c2⟩, tp, ⟨a3, n3, c3⟩, ⟨a4, n4, c4⟩, rows⟩ := r
  have hn3 := h.arrays.2.1
  clear h hz hs h1 h2 hR HM HE
  show Calls Tryz.prog 103 #[.agg #[.int .i64 wd, .slice a1 n1 c1, .slice a2 n2 c2, .int .i64 tp, .slice a3 n3 c3, .slice a4 n4 c4], .agg #[.int .i64 x, .int .i64 y, .slice b1 m1 d1, .slice b2 m2 d2]] w _
  obtain ⟨wa, HW⟩ : ∃ wa, Hid (wa = (w.alloc (.cells #[.int .i64 wd, .slice a1 n1 c1, .slice a2 n2 c2, .int .i64 tp, .slice a3 n3 c3, .slice a4 n4 c4] 28)).alloc (.cells #[.int .i64 x, .int .i64 y, .slice b1 m1 d1, .slice b2 m2 d2] 74)) := ⟨_, rfl⟩
  have B : Blk wa w.heap.size 28 [.int .i64 wd, .slice a1 n1 c1, .slice a2 n2 c2, .int .i64 tp, .slice a3 n3 c3, .slice a4 n4 c4] := by rw [HW.out]; exact (Blk.new w _ _).alloc _
  have BS : Blk wa (w.heap.size + 1) 74 [.int .i64 x, .int .i64 y, .slice b1 m1 d1, .slice b2 m2 d2] := by
    have := Blk.new (w.alloc (.cells #[.int .i64 wd, .slice a1 n1 c1, .slice a2 n2 c2, .int .i64 tp, .slice a3 n3 c3, .slice a4 n4 c4] 28)) 74 [.int .i64 x, .int .i64 y, .slice b1 m1 d1, .slice b2 m2 d2]
    rw [HW.out]
    simpa using this
  have HB : Below w.heap.size w wa := by rw [HW.out]; exact ((Below.refl _ _).alloc (Nat.le_refl _) _).alloc (by simp) _
  have HBB := Lib.hid B
  have HSS := Lib.hid BS
  have HBF := Lib.hid HB
  have HD : Below wa.heap.size wa wa.drew := ⟨rfl, rfl, rfl, Nat.le_refl _, fun _ _ => rfl⟩
  by_cases hx : x = 1
  · obtain ⟨T, bq, b, o, j, z, hTR, HNQ, HQ0, HQ1, rfl, hj, hae, hb, hzin, hz0, hc⟩ := HTR.out hx
    simp only [] at hj hae
    subst hae
    have HTR1 := Lib.hid hTR
    have HXX := Lib.hid hx
    have HZW : IntKind.i64.wrap (z - 1) = z - 1 := by rw [IntKind.wrap_i64]; unfold In64 at hzin; omega
    have HCC : Hid (∀ w', Below w.heap.size w w' → w'.cell? ⟨b, o + j, none⟩ = some (.int .i64 z)) := Lib.hid (fun w' hw => (hw.cell hb).trans hc)
    clear HTR HOT hTR hx
    have t0 := B.cell (j := 0) rfl
    have t1 := B.cell (j := 1) rfl
    have t2 := B.cell (j := 2) rfl
    have t3 := B.cell (j := 3) rfl
    have t4 := B.cell (j := 4) rfl
    have t5 := B.cell (j := 5) rfl
    have s0 := BS.cell (j := 0) rfl
    have s1 := BS.cell (j := 1) rfl
    have s2 := BS.cell (j := 2) rfl
    have s3 := BS.cell (j := 3) rfl
    have z0 := HCC.out wa HB
    rw [HXX.out] at s0
    clear B BS
    have HNI : Hid (∀ (w' : World) (u : TypeId) (zz : Value), IsTree w' (fun _ => True) (.iface u zz) T → Calls Tryz.prog 164 #[.iface u zz, .int .i64 0, .int .i64 (z - 1)] w' fun e w'' => e = .returned (.bool bq) ∧ Below w'.heap.size w' w'') := Lib.hid (fun w' u zz hI => by rw [← HNQ.out]; exact isNumWithin_any _ _ T 0 (z - 1) w' hI)
    clear HNQ
    cases bq with
    | false =>
      have HM0 := Lib.hid (HQ0.out rfl)
      rw [HM0.out]
      clear HQ0 HQ1 HM0
      go_enter Tryz.func103, Tryz.ntmps103
      go_wp2_with fail
      rw [← HW.out]
      go_region_held3 (fun w' => w'.cell? ⟨w.heap.size + 1, 0, none⟩ = some (.int .i64 1) ∧ w'.cell? ⟨w.heap.size + 1, 1, none⟩ = some (.int .i64 (j : Int)) ∧ w'.cell? ⟨w.heap.size + 1, 2, none⟩ = some (.slice b1 m1 d1) ∧ w'.cell? ⟨w.heap.size, 4, none⟩ = some (.slice (some ⟨b, o, none⟩) n3 c3) ∧ w'.cell? ⟨b, o + j, none⟩ = some (.int .i64 z)) (first | (refine ⟨?_, ?_, ?_, ?_, ?_⟩ <;> assumption) | go_keep | (refine ⟨?_, ?_, ?_, ?_, ?_⟩ <;> go_keep)) (first
      | (go_at_call 165; refine (HTR1.out _ (HB.trans (HD.mono HB.size))).mono ?_; rintro e w4 ⟨u, zz, rfl, hI, hb4⟩; have HB4 : Below wa.heap.size wa w4 := HD.trans (hb4.mono HD.size); have Bv := HBB.out.below HB4 HBB.out.lt; have Sv := HSS.out.below HB4 HSS.out.lt; rw [HXX.out] at Sv; have v0 := Sv.cell (j := 0) rfl; have v1 := Sv.cell (j := 1) rfl; have v2 := Sv.cell (j := 2) rfl; have v4 := Bv.cell (j := 4) rfl; have v5 := HCC.out w4 (HB.trans (HB4.mono HB.size)); clear Bv Sv; have HI := Lib.hid hI; clear hb4 hI)
      | (go_at_call 164; refine (HNI.out w4 u zz HI.out).mono ?_; rintro e w5 ⟨rfl, hb5⟩; have HB5 : Below wa.heap.size wa w5 := HB4.trans (hb5.mono HB4.size); have Bu := HBB.out.below HB5 HBB.out.lt; have Su := HSS.out.below HB5 HSS.out.lt; rw [HXX.out] at Su; have u0 := Su.cell (j := 0) rfl; have u1 := Su.cell (j := 1) rfl; have u2 := Su.cell (j := 2) rfl; have u4 := Bu.cell (j := 4) rfl; have u5 := HCC.out w5 (HB.trans (HB5.mono HB.size)); clear Bu Su; clear hb5))
      all_goals
        have HF := Lib.hid (HBF.out.trans (HB5.mono HBF.out.size))
        go_wp2
        go_ret
        exact ⟨rfl, HF.out⟩
    | true =>
      have HM1 := Lib.hid (HQ1.out rfl)
      rw [HM1.out]
      clear HQ0 HQ1 HM1
      go_enter Tryz.func103, Tryz.ntmps103
      go_wp2_with fail
      rw [← HW.out]
      go_region_held3 (fun w' => w'.cell? ⟨w.heap.size + 1, 0, none⟩ = some (.int .i64 1) ∧ w'.cell? ⟨w.heap.size + 1, 1, none⟩ = some (.int .i64 (j : Int)) ∧ w'.cell? ⟨w.heap.size + 1, 2, none⟩ = some (.slice b1 m1 d1) ∧ w'.cell? ⟨w.heap.size, 4, none⟩ = some (.slice (some ⟨b, o, none⟩) n3 c3) ∧ w'.cell? ⟨b, o + j, none⟩ = some (.int .i64 z)) (first | (refine ⟨?_, ?_, ?_, ?_, ?_⟩ <;> assumption) | go_keep | (refine ⟨?_, ?_, ?_, ?_, ?_⟩ <;> go_keep)) (first
      | (go_at_call 165; refine (HTR1.out _ (HB.trans (HD.mono HB.size))).mono ?_; rintro e w4 ⟨u, zz, rfl, hI, hb4⟩; have HB4 : Below wa.heap.size wa w4 := HD.trans (hb4.mono HD.size); have Bv := HBB.out.below HB4 HBB.out.lt; have Sv := HSS.out.below HB4 HSS.out.lt; rw [HXX.out] at Sv; have v0 := Sv.cell (j := 0) rfl; have v1 := Sv.cell (j := 1) rfl; have v2 := Sv.cell (j := 2) rfl; have v4 := Bv.cell (j := 4) rfl; have v5 := HCC.out w4 (HB.trans (HB4.mono HB.size)); clear Bv Sv; have HI := Lib.hid hI; clear hb4 hI)
      | (go_at_call 164; refine (HNI.out w4 u zz HI.out).mono ?_; rintro e w5 ⟨rfl, hb5⟩; have HB5 : Below wa.heap.size wa w5 := HB4.trans (hb5.mono HB4.size); have Bu := HBB.out.below HB5 HBB.out.lt; have Su := HSS.out.below HB5 HSS.out.lt; rw [HXX.out] at Su; have u0 := Su.cell (j := 0) rfl; have u1 := Su.cell (j := 1) rfl; have u2 := Su.cell (j := 2) rfl; have u4 := Bu.cell (j := 4) rfl; have u5 := HCC.out w5 (HB.trans (HB5.mono HB.size)); clear Bu Su; clear hb5))
      all_goals
        have HF := Lib.hid (HBF.out.trans (HB5.mono HBF.out.size))
        have B5 := HBB.out.below HB5 HBB.out.lt
        have S5 := HSS.out.below HB5 HSS.out.lt
        have y0 := B5.cell (j := 0) rfl
        have y1 := B5.cell (j := 1) rfl
        have y2 := B5.cell (j := 2) rfl
        have y3 := B5.cell (j := 3) rfl
        have y5 := B5.cell (j := 5) rfl
        have y6 := S5.cell (j := 3) rfl
        go_wp2_with fail
        refine (HEX.out _ HF.out).mono ?_
        rintro e w6 ⟨rfl, hb6⟩
        have HF2 := Lib.hid (HF.out.trans (hb6.mono HF.out.size))
        clear hb6
        go_wp2
        go_ret
        exact ⟨rfl, HF2.out⟩
  · have HO := Lib.hid (HOT.out hx)
    have HXN : (x == 1) = false := by simpa using hx
    clear HTR HOT hx
    rw [HO.out] at HEX
    go_enter Tryz.func103, Tryz.ntmps103
    go_wp2_with fail
    rw [← HW.out]
    have g0 := lat_cell BS.lt (BS.cell (j := 0) rfl)
    have g1 := lat_cell BS.lt (BS.cell (j := 1) rfl)
    have g2 := lat_cell BS.lt (BS.cell (j := 2) rfl)
    have g4 := lat_cell B.lt (B.cell (j := 4) rfl)
    clear B BS
    refine wp_region_lat (by kernel_rfl) (by kernel_rfl) ?_
    repeat (go_big_quiet_step (fail))
    refine wpQuiet_nil ?_
    intro _ hw'
    obtain ⟨⟨wq, hwq⟩, hw''⟩ := hw'
    subst hw''
    have hbq := HBF.out.trans (hwq.mono HBF.out.size)
    have B := HBB.out.below hwq HBB.out.lt
    have BS := HSS.out.below hwq HSS.out.lt
    have t0 := B.cell (j := 0) rfl
    have t1 := B.cell (j := 1) rfl
    have t2 := B.cell (j := 2) rfl
    have t3 := B.cell (j := 3) rfl
    have t4 := B.cell (j := 4) rfl
    have t5 := B.cell (j := 5) rfl
    have s3 := BS.cell (j := 3) rfl
    have HBQ := Lib.hid hbq
    clear g0 g1 g2 g4 hwq B BS hbq
    go_wp2_with fail
    refine (HEX.out _ HBQ.out).mono ?_
    rintro e w3 ⟨rfl, hb3⟩
    have HF := Lib.hid (HBQ.out.trans (hb3.mono HBQ.out.size))
    clear hb3
    go_wp2
    go_ret
    exact ⟨rfl, HF.out⟩
end Go.Proofs.YtbnpoliogldohaaGreat
