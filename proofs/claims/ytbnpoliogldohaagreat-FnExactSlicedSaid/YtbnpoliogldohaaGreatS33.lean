/- The contracts of the model's l2Copy (any slice), l3CopyBody, l3Copy. -/
import Derived.Test.YtbnpoliogldohaaGreatS30
import Derived.Test.YtbnpoliogldohaaGreatS32
import Derived.Deep.RegionHeld3
namespace Go.Proofs.YtbnpoliogldohaaGreat
open Go.RowKit

set_option maxHeartbeats 800000 in
theorem l2Copy_all (a : Option Addr) (n c : Nat) (ts : List Tm) (w : World) (h : Terms w a n ts) :
    Calls Tryz.prog 113 #[.slice a n c] w (MadeT w ts) := by
  have hbd := h.2.1
  have HI := Lib.hid (h.below (Nat.le_refl _) ((Below.refl w.heap.size w).alloc (Nat.le_refl _) (.cells #[] 138)))
  have HE := Lib.hid (ownT_empty w w.heap.size (Nat.le_refl _))
  clear h
  go_enter Tryz.func113, Tryz.ntmps113
  go_wp2_with (at_builtin; refine wpList_fresh rfl _ _ 71 138 rfl (.agg #[.int .i64 0, .int .i64 0]) 2 16 Tryz.underlying71 info_term rfl (by omega) w.heap.size w.heap.size rfl HE.out.1 a n c rfl (flatV ts) (by rw [flatV_len, HI.out.1]) (terms_some HI.out) (flatV_one ts) (by unfold maxLen; omega) (by omega) (by simp) ?_)
  intro a1 c1 w1 hown hb
  have HO : Hid (OwnT w1 w.heap.size a1 n c1 ts) := Lib.hid ⟨hown, hbd, HI.out.2.2.1⟩
  have HF := Lib.hid (((Below.refl w.heap.size w).alloc (Nat.le_refl _) (.cells #[] 138)).trans (hb.mono (by simp)))
  clear hown hb
  go_wp2
  go_ret
  exact ⟨a1, n, c1, rfl, HO.out, HF.out⟩
set_option maxRecDepth 100000 in
set_option maxHeartbeats 3200000 in
theorem l3CopyBody_any (a : Option Addr) (n c : Nat) (rs0 : List SRow) (ss : List Stm) (w : World) (h : Stmts w a n rs0 ss) :
    Calls Tryz.prog 60 #[.slice a n c] w (MadeStmts w ss) := by
  have HL := Lib.hid h.2.1
  have hbd := h.2.2.1
  have HS := Lib.hid h
  clear h
  go_enter Tryz.func60, Tryz.ntmps60
  go_wp2
  go_loopw [3, 4] (fun ov iv wr => ∃ (k : Nat) (a1 : Option Addr) (c1 : Nat) (rs : List SRow), k ≤ n ∧ iv = .int .i64 (k : Int) ∧ ov = .slice a1 k c1 ∧ OwnStmts wr w.heap.size a1 k c1 rs (ss.take k) ∧ Below w.heap.size w wr) (fun _ iv _ => n - (intOf iv).toNat)
  case atStart => exact ⟨0, _, _, [], Nat.zero_le _, rfl, rfl, ownStmts_empty w _ (Nat.le_refl _), (Below.refl _ _).alloc (Nat.le_refl _) _⟩
  case round =>
    obtain ⟨k, a1, c1, rs, hk, rfl, rfl, ho, hb⟩ := hrel
    have HO := Lib.hid ho
    have HB := Lib.hid hb
    clear ho hb
    by_cases hlt : k < n
    · obtain ⟨sb, so, x, y, p1, m1, d1, p2, m2, d2, ts, us, rfl, hsb, hz, hin1, hin2, hc1, hc2, hc3, hc4, hT1, hT2⟩ := HS.out.at_ hlt
      have hT1 := hT1.below (Nat.le_refl _) HB.out
      have hT2 := hT2.below (Nat.le_refl _) HB.out
      have HCELL : Hid (∀ w', Below w.heap.size w w' → w'.cell? ⟨sb, so + k * 4, none⟩ = some (.int .i64 x) ∧ w'.cell? ⟨sb, so + k * 4 + 1, none⟩ = some (.int .i64 y) ∧ w'.cell? ⟨sb, so + k * 4 + 2, none⟩ = some (.slice p1 m1 d1) ∧ w'.cell? ⟨sb, so + k * 4 + 3, none⟩ = some (.slice p2 m2 d2)) := Lib.hid (fun w' hw => ⟨(hw.cell hsb).trans hc1, (hw.cell hsb).trans hc2, (hw.cell hsb).trans hc3, (hw.cell hsb).trans hc4⟩)
      clear hc1 hc2 hc3 hc4
      obtain ⟨hc1, hc2, hc3, hc4⟩ := HCELL.out wr HB.out
      have HTK : Hid (ss.take (k + 1) = ss.take k ++ [⟨x, y, ts, us⟩]) := Lib.hid (by
        have hkl : k < ss.length := by rw [HL.out]; exact hlt
        rw [List.take_add_one, List.getElem?_eq_getElem hkl, ← hz.out]
        simp [stAt, List.getD_eq_getElem?_getD, hkl])
      have hd : Below wr.heap.size wr wr.drew := ⟨rfl, rfl, rfl, Nat.le_refl _, fun _ _ => rfl⟩
      have HC1 := Lib.hid (l2Copy_all p1 m1 d1 ts wr.drew (hT1.below (Nat.le_refl _) hd))
      have HC2 : Hid (∀ w', Below wr.heap.size wr w' → Calls Tryz.prog 113 #[.slice p2 m2 d2] w' (MadeT w' us)) := Lib.hid (fun w' hw => l2Copy_all p2 m2 d2 us w' (hT2.below (Nat.le_refl _) hw))
      have HNB : Hid (∀ g ∈ blks rs, g < wr.heap.size) := Lib.hid (fun g hg => (HO.out.blks_lt hg).2)
      have HSZ := Lib.hid HB.out.size
      clear hT1 hT2
      go_wp2
      go_region_held3 (fun w' => w'.cell? ⟨sb, so + k * 4, none⟩ = some (.int .i64 x) ∧ w'.cell? ⟨sb, so + k * 4 + 1, none⟩ = some (.int .i64 y) ∧ w'.cell? ⟨sb, so + k * 4 + 2, none⟩ = some (.slice p1 m1 d1) ∧ w'.cell? ⟨sb, so + k * 4 + 3, none⟩ = some (.slice p2 m2 d2)) (first | (refine ⟨?_, ?_, ?_, ?_⟩ <;> assumption) | go_keep | (refine ⟨?_, ?_, ?_, ?_⟩ <;> go_keep)) (first
        | (go_at_call 113; (with_reducible refine HC1.out.mono ?_); rintro e w1 ⟨q1, l1, j1, rfl, ho1, hb1⟩; have HB1 : Below wr.heap.size wr w1 := hd.trans (hb1.mono hd.size); have HO1 := Lib.hid ho1; obtain ⟨u0, u1, u2, u3⟩ := HCELL.out w1 (HB.out.trans (HB1.mono HB.out.size)); clear hb1 ho1)
        | (go_at_call 113; (with_reducible refine (HC2.out w1 HB1).mono ?_); rintro e w2 ⟨q2, l2, j2, rfl, ho2, hb2⟩; have HB2 : Below wr.heap.size wr w2 := HB1.trans (hb2.mono HB1.size); have HO2 := Lib.hid ho2; have HO3 := Lib.hid (HO1.out.below hb2); obtain ⟨v0, v1, v2, v3⟩ := HCELL.out w2 (HB.out.trans (HB2.mono HB.out.size)); have HO4 := Lib.hid ((HO.out.below HB2).below ((Below.refl w2.heap.size w2).alloc (Nat.le_refl _) (.cells #[.int .i64 x, .int .i64 y, .slice q1 l1 j1, .slice q2 l2 j2] 74))); have HR4 : Hid (OwnStm (w2.alloc (.cells #[.int .i64 x, .int .i64 y, .slice q1 l1 j1, .slice q2 l2 j2] 74)) wr.heap.size ⟨x, y, (q1, l1, j1), (q2, l2, j2)⟩ ⟨x, y, ts, us⟩) := Lib.hid ⟨rfl, rfl, hin1, hin2, (HO3.out.alloc _), (HO2.out.base HB1.size).alloc _⟩; have HX4 : Hid (Blk (w2.alloc (.cells #[.int .i64 x, .int .i64 y, .slice q1 l1 j1, .slice q2 l2 j2] 74)) w2.heap.size 74 (srowV ⟨x, y, (q1, l1, j1), (q2, l2, j2)⟩)) := Lib.hid (Blk.new w2 _ _); have HAP : Hid (∀ g, (slV (q1, l1, j1)).ownBlock = some g → (slV (q2, l2, j2)).ownBlock ≠ some g) := Lib.hid (fun g e1 e2 => by have := (HO1.out.block g e1).2; have := (HO2.out.block g e2).1; omega); have HBL := Lib.hid (HB.out.trans (HB2.mono HB.out.size)); clear hb2 ho2)
        | (refine step_pushSt _ (by rfl) _ _ (by rfl) w.heap.size wr.heap.size _ _ _ rs _ (by rfl) (by exact HO4.out) HNB.out HSZ.out w2.heap.size _ _ HR4.out HAP.out (by rfl) HX4.out (by omega) (by have := HBL.out.size; simp; omega) ?_; intro a5 c5 w5 ho5 hg5; have HFB : Hid (Below w.heap.size w w5) := Lib.hid ((HBL.out.alloc HBL.out.size _).trans (hg5.below (by have := HBL.out.size; simp; omega) (fun g hg => (HO4.out.block g hg).1))); obtain ⟨z0, z1, z2, z3⟩ := HCELL.out w5 HFB.out))
      all_goals
        rw [← HTK.out] at ho5
        have HO5 := Lib.hid ho5
        clear ho5 hg5
        go_wp2
        go_roundw
        case rel => exact ⟨k + 1, a5, c5, _, by omega, by go_num, rfl, HO5.out, HFB.out⟩
        case measure => simp [intOf]; omega
    · obtain rfl : n = k := by omega
      have HF : Hid (ss.take n = ss) := Lib.hid (by rw [← HL.out, List.take_length])
      rw [HF.out] at HO
      go_wp2
      go_ret
      exact ⟨a1, n, c1, rs, rfl, HO.out, HB.out⟩
end Go.Proofs.YtbnpoliogldohaaGreat
