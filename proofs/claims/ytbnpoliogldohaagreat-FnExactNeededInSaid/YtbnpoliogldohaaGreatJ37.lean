/- Joined texts of this proof (ImplNeed, ImplNeeded, SpecNeed2, NeedAns), in build order. -/
import Derived.Test.YtbnpoliogldohaaGreatJ36
/- The contracts of the program's neededHolders, numbersAmong, NeededIn. -/
namespace Go.Proofs.YtbnpoliogldohaaGreat
open Go.RowKit

/-- What neededHolders leaves. -/
def NeedSet (p : Prg) (H : List (Int × Int)) : Prop := InAll (cntB p) nm1 nm2 p.body H ∧ FreshQ p H []
set_option maxRecDepth 100000 in
set_option maxHeartbeats 3200000 in
theorem neededHolders_any (r : PRow) (p : Prg) (w : World) (h : ProgAt w r p) (hz : codeB p = 0) :
    Calls Tryz.prog 50 #[progV r] w fun e w' => ∃ g H, e = .returned (.map (some g)) ∧ w.heap.size ≤ g ∧ KSet holdV w' g H ∧ Hid (NeedSet p H) ∧ Below w.heap.size w w' := by
  have hmm := @run_makeMap Tryz.prog
  have HFR : Hid (∀ (b : Nat) (ks : List (Int × Int)) (w' : World), Below w.heap.size w w' → KSet holdV w' b ks → Calls Tryz.prog 101 #[progV r, .map (some b)] w' fun e w'' => ∃ g F, e = .returned (.map (some g)) ∧ w'.heap.size ≤ g ∧ KSet holdV w'' g F ∧ Hid (FreshQ p ks F) ∧ Below w'.heap.size w' w'') :=
    Lib.hid (fun b ks w' hw hk => freshIn_any r p b ks w' (h.below hw) hz hk)
  have HZ := Lib.hid hz
  obtain ⟨wd, ⟨a1, n1, c1⟩, ⟨a2, n2, c2⟩, tp, ⟨a3, n3, c3⟩, ⟨a4, n4, c4⟩, rows⟩ := r
  clear h hz
  show Calls Tryz.prog 50 #[.agg #[.int .i64 wd, .slice a1 n1 c1, .slice a2 n2 c2, .int .i64 tp, .slice a3 n3 c3, .slice a4 n4 c4]] w _
  obtain ⟨wa, HW⟩ : ∃ wa, Hid (wa = (w.alloc (.cells #[.int .i64 wd, .slice a1 n1 c1, .slice a2 n2 c2, .int .i64 tp, .slice a3 n3 c3, .slice a4 n4 c4] 28)).alloc (.map #[] 0)) := ⟨_, rfl⟩
  have FB0 : FB w wa [.int .i64 wd, .slice a1 n1 c1, .slice a2 n2 c2, .int .i64 tp, .slice a3 n3 c3, .slice a4 n4 c4] := by
    rw [HW.out]
    exact ⟨(Blk.new w _ _).alloc _, ((Below.refl _ _).alloc (Nat.le_refl _) _).alloc (by simp) _, by simp⟩
  have HK0 : Hid (KSet holdV wa (w.heap.size + 1) ([] : List (Int × Int))) := Lib.hid (by
    have := kset_made (κ := Int × Int) (kv := holdV) (w.alloc (.cells #[.int .i64 wd, .slice a1 n1 c1, .slice a2 n2 c2, .int .i64 tp, .slice a3 n3 c3, .slice a4 n4 c4] 28))
    rw [HW.out]; simpa using this)
  have HF0 := Lib.hid FB0
  have hfar0 := FB0.far
  clear FB0
  go_enter Tryz.func50, Tryz.ntmps50
  go_wp2_with fail
  rw [← HW.out]
  refine (HFR.out _ _ wa HF0.out.bel HK0.out).mono ?_
  rintro e w1 ⟨g, F, rfl, hg1, hk1, HQ1, hb1⟩
  have HF1 := Lib.hid (HF0.out.below hb1)
  have HK1 := Lib.hid (HK0.out.below hb1 HK0.out.lt)
  clear hb1
  go_wp2_with fail
  go_loopg [4] (gapN (allH p) []) (fun k f wr => ∃ (g : Nat) (H F : List (Int × Int)), gapN (allH p) H = k ∧ f = .map (some g) ∧ w.heap.size + 1 < g ∧ KSet holdV wr (w.heap.size + 1) H ∧ KSet holdV wr g F ∧ Hid (InAll (cntB p) nm1 nm2 p.body H) ∧ Hid (FreshQ p H F) ∧ FB w wr [.int .i64 wd, .slice a1 n1 c1, .slice a2 n2 c2, .int .i64 tp, .slice a3 n3 c3, .slice a4 n4 c4])
  case atStart => exact ⟨g, [], F, rfl, rfl, by omega, HK1.out, hk1, Lib.hid (inAll_nil _), HQ1, HF1.out⟩
  case round =>
    obtain ⟨g, H, F, hgp, rfl, hgf, hkH, hkF, HI, HQ, hfb⟩ := hrel
    have HKH := Lib.hid hkH
    have HFB := Lib.hid hfb
    have HGP := Lib.hid hgp
    have HNE := Lib.hid (show w.heap.size + 1 ≠ g by omega)
    clear hgp hkH
    by_cases hF : F = []
    · subst hF
      go_wp2_with (first
        | (at_len; refine wpList_len_set _ rfl _ _ rfl _ _ Tryz.underlying78 g [] rfl hkF ?_)
        | go_in)
      go_ret
      exact ⟨_, H, rfl, by omega, HKH.out, Lib.hid ⟨HI.out, HQ.out⟩, HFB.out.bel⟩
    · obtain ⟨x, F1, rfl⟩ : ∃ x F1, F = x :: F1 := by
        cases F with
        | nil => exact absurd rfl hF
        | cons x F1 => exact ⟨x, F1, rfl⟩
      clear hF
      obtain ⟨m, HM⟩ : ∃ m : Nat, Hid ((x :: F1).length = m + 1) := ⟨F1.length, rfl⟩
      clear hfb
      go_wp2_with (first
        | (at_len; refine wpList_len_set _ rfl _ _ rfl _ _ Tryz.underlying78 g (x :: F1) rfl hkF ?_; rw [HM.out])
        | fail)
      have hgl := hkF.lt
      refine (uniteH_any wr (w.heap.size + 1) g H (x :: F1) HKH.out hkF HNE.out).mono ?_
      rintro e w3 ⟨H2, rfl, hk3, he3, hg3⟩
      have HF3 := Lib.hid (HFB.out.put hg3 (by omega))
      have HI3 : Hid (InAll (cntB p) nm1 nm2 p.body H2) := Lib.hid (inAll_more (cntB_mono p) HI.out (fresh_of HZ.out HQ.out) he3)
      have HLT : Hid (gapN (allH p) H2 < gapN (allH p) H) := Lib.hid (by
        have hx := fresh_all HQ.out (x := x) (by simp)
        exact gap_less (fun z hz => (he3 z).2 (.inl hz)) hx.1 hx.2 ((he3 x).2 (.inr (by simp))))
      rw [HGP.out] at HLT
      have t0 := HF3.out.box.cell (j := 0) rfl
      have t1 := HF3.out.box.cell (j := 1) rfl
      have t2 := HF3.out.box.cell (j := 2) rfl
      have t3 := HF3.out.box.cell (j := 3) rfl
      have t4 := HF3.out.box.cell (j := 4) rfl
      have t5 := HF3.out.box.cell (j := 5) rfl
      clear hg3 he3
      go_wp2_with fail
      refine (HFR.out _ _ w3 HF3.out.bel hk3).mono ?_
      rintro e w4 ⟨g4, F4, rfl, hg4, hk4, HQ4, hb4⟩
      have HF4 := Lib.hid (HF3.out.below hb4)
      have HK4 := Lib.hid (hk3.below hb4 hk3.lt)
      have hfar := HF3.out.far
      clear hb4 t0 t1 t2 t3 t4 t5
      go_wp2
      go_roundg (gapN (allH p) H2)
      case rel => exact ⟨g4, H2, F4, rfl, rfl, by omega, HK4.out, hk4, HI3, HQ4, HF4.out⟩
      case measure => exact HLT.out
theorem grown_own {w w' : World} {B : Nat} {v : Value} (hg : w.grownBy w' v.ownBlock) (hv : ∀ g, v.ownBlock = some g → B ≤ g) (hB : B ≤ w.heap.size) : Below B w w' :=
  ⟨hg.os, hg.tape, hg.output, hg.size, fun i hi => hg.block i (by omega) (fun e => by have := hv i e.symm; omega)⟩
set_option maxRecDepth 100000 in
set_option maxHeartbeats 3200000 in
theorem numbersAmong_any (b : Nat) (H : List (Int × Int)) (kind : Int) (w : World) (hk : KSet holdV w b H) (hin : ∀ h ∈ H, In64 h.2) (hlen : H.length ≤ 1000) :
    Calls Tryz.prog 69 #[.map (some b), .int .i64 kind] w (MadeInts w (riseL (hv kind H))) := by
  have HIN := Lib.hid hin
  have hbl := hk.lt
  clear hin
  go_enter Tryz.func69, Tryz.ntmps69
  go_wp2_with (first
    | (at_range; refine wpList_range_set _ rfl _ _ rfl _ _ Tryz.underlying78 b H rfl hk ?_; intro w0 hi0 hb0 hs0)
    | go_in)
  go_frame
  have HB0 := Lib.hid hb0
  clear hb0 hk
  go_loopg [5] H.length (fun k f wr => ∃ (left : List (Int × Int)) (a : Option Addr) (n c : Nat) (zs : List Int), left.length = k ∧ KIter holdV wr w.heap.size b H left ∧ f = .slice a n c ∧ Own wr (w.heap.size + 1) a n c zs ∧ n + k ≤ 1000 ∧ Hid (∀ x, x ∈ zs ↔ (kind, x) ∈ H ∧ (kind, x) ∉ left) ∧ Below w.heap.size w wr ∧ w.heap.size + 1 ≤ wr.heap.size)
  case atStart => exact ⟨H, none, 0, 0, [], rfl, hi0, rfl, own_nil _ _, by omega, Lib.hid (fun x => by simp), HB0.out, by omega⟩
  case round =>
    obtain ⟨left, a, n, c, zs, hlk, hi, rfl, ho, hnk, HX, hb, hsz⟩ := hrel
    go_wp2_with (first
      | (at_next; refine wpList_next_hold rfl _ rfl w.heap.size b H left rfl hi ?_ ?_)
      | go_in)
    · intro h0
      have HE : Hid (riseL zs = riseL (hv kind H)) := Lib.hid (riseL_congr (fun x => by rw [HX.out, h0, mem_hv]; simp))
      have HBB := Lib.hid hb
      clear hb
      go_wp2_with fail
      refine (rising_any (w.heap.size + 1) a n c zs _ ho).mono ?_
      rintro e w2 ⟨m, rfl, ho2, hg2⟩
      have HF : Hid (Below w.heap.size w w2) := Lib.hid (HBB.out.trans (grown_own hg2 (fun g hg => by have := (ho.block g hg).1; omega) HBB.out.size))
      rw [HE.out] at ho2
      clear hg2
      go_wp2
      go_ret
      exact ⟨a, m, c, rfl, ho2.base (by omega), HF.out⟩
    · intro k0 n0 w1 hst hen
      have hx1 := hi.sub _ hst.mem
      have hin1 := HIN.out _ hx1
      simp only [] at hin1
      have ho1 := ho.other hst.grown (fun g hg => by injection hg with e; omega)
      have HB1 : Hid (Below w.heap.size w w1) := Lib.hid (hb.trans ⟨hst.grown.os, hst.grown.tape, hst.grown.output, hst.grown.size, fun i hi' => hst.grown.block i (Nat.lt_of_lt_of_le hi' hb.size) (fun e => by injection e with e; omega)⟩)
      have hless := hst.less
      have HSZ := Lib.hid (show w.heap.size + 1 ≤ w1.heap.size by have := hst.size; omega)
      clear hb
      by_cases he : k0 = kind
      · subst he
        have HO1 := Lib.hid (ho1.alloc (.cells #[.int .i64 k0, .int .i64 n0] 118))
        have HI1 := Lib.hid (hst.iter.alloc (.cells #[.int .i64 k0, .int .i64 n0] 118))
        have HX2 : Hid (∀ x, x ∈ zs ++ [n0] ↔ (k0, x) ∈ H ∧ (k0, x) ∉ left.filter (fun y => decide (y ≠ (k0, n0)))) := Lib.hid (fun x => by
          rw [List.mem_append, HX.out, List.mem_singleton]
          simp only [List.mem_filter, decide_eq_true_eq, ne_eq, Prod.mk.injEq, true_and, not_and]
          constructor
          · rintro (⟨h1, h2⟩ | rfl)
            · exact ⟨h1, fun h => absurd h h2⟩
            · exact ⟨hx1, fun _ h => h rfl⟩
          · rintro ⟨h1, h2⟩
            by_cases hl : (k0, x) ∈ left
            · exact .inr (Decidable.not_not.1 (h2 hl))
            · exact .inl ⟨h1, hl⟩)
        clear ho1
        go_wp2_with (at_builtin; refine wpList_pushI _ rfl _ _ rfl (w.heap.size + 1) _ _ _ zs rfl (HO1.out.alloc _) (w1.heap.size + 1) n0 rfl (by simp) hin1 (by omega) (by have := HSZ.out; simp; omega) ?_; intro a5 c5 w5 ho5 hg5)
        have HF5 : Hid (Below w.heap.size w w5) := Lib.hid (((HB1.out.alloc HB1.out.size _).alloc (by have := HSZ.out; simp; omega) _).trans (grown_own hg5.1 (fun g hg => by have := (HO1.out.block g hg).1; omega) (by have := HSZ.out; simp; omega)))
        have HI5 : Hid (KIter holdV w5 w.heap.size b H (left.filter (fun y => decide (y ≠ (k0, n0))))) := Lib.hid ((HI1.out.alloc _).kept hg5.1 (fun e => by have := (HO1.out.block _ e).1; omega) (fun e => by have := (HO1.out.block _ e).1; omega))
        have HS5 := Lib.hid (show w.heap.size + 1 ≤ w5.heap.size by have := HSZ.out; have := hg5.1.size; simp at this; omega)
        clear hg5
        go_roundg (left.filter (fun y => decide (y ≠ (k0, n0)))).length
        case rel => exact ⟨_, a5, n + 1, c5, _, rfl, HI5.out, rfl, ho5, by omega, HX2, HF5.out, HS5.out⟩
        case measure => omega
      · have hne : (k0 == kind) = false := by simpa using he
        have HX2 : Hid (∀ x, x ∈ zs ↔ (kind, x) ∈ H ∧ (kind, x) ∉ left.filter (fun y => decide (y ≠ (k0, n0)))) := Lib.hid (fun x => by
          rw [HX.out]
          simp only [List.mem_filter, decide_eq_true_eq, ne_eq, Prod.mk.injEq, not_and]
          have : ¬ kind = k0 := fun e => he e.symm
          simp [this])
        have HI2 := Lib.hid (hst.iter.alloc (.cells #[.int .i64 k0, .int .i64 n0] 118))
        have HO2 := Lib.hid (ho1.alloc (.cells #[.int .i64 k0, .int .i64 n0] 118))
        have HB2 := Lib.hid (HB1.out.alloc HB1.out.size (.cells #[.int .i64 k0, .int .i64 n0] 118))
        clear he
        go_wp2
        go_roundg (left.filter (fun y => decide (y ≠ (k0, n0)))).length
        case rel => exact ⟨_, a, n, c, zs, rfl, HI2.out, rfl, HO2.out, by omega, HX2, HB2.out, by have := HSZ.out; simp; omega⟩
        case measure => omega
end Go.Proofs.YtbnpoliogldohaaGreat
/- The contract of the program's NeededIn. -/
namespace Go.Proofs.YtbnpoliogldohaaGreat
open Go.RowKit

/-- What NeededIn answers. -/
noncomputable def needV (p : Prg) : List Int := if codeB p = 0 then (needP p).1 else []
noncomputable def needA (p : Prg) : List Int := if codeB p = 0 then (needP p).2 else []
/-- Two lists of the call's own, apart. -/
def MadeTwo (w : World) (xs ys : List Int) (e : Ending) (w' : World) : Prop := Below w.heap.size w w' ∧ ∃ s t : Sl, e = .returned (.tuple #[slV s, slV t]) ∧ Own w' w.heap.size s.1 s.2.1 s.2.2 xs ∧ Own w' w.heap.size t.1 t.2.1 t.2.2 ys ∧ ∀ g, (slV s).ownBlock = some g → (slV t).ownBlock ≠ some g
set_option maxRecDepth 100000 in
set_option maxHeartbeats 1600000 in
theorem implNeededIn_ans (r : PRow) (p : Prg) (w : World) (h : ProgAt w r p) (hcap : r.body.2.1 ≤ r.body.2.2) :
    Calls Tryz.prog 22 #[progV r] w (MadeTwo w (needV p) (needA p)) := by
  have HPO : Hid (∀ w', Below w.heap.size w w' → Calls Tryz.prog 16 #[progV r] w' fun e w'' => e = .returned (.bool (codeB p == 0)) ∧ Below w'.heap.size w' w'') := Lib.hid (fun w' hw => implProgOk_any r p w' (h.below hw) hcap)
  have HNH : Hid (codeB p = 0 → ∀ w', Below w.heap.size w w' → Calls Tryz.prog 50 #[progV r] w' fun e w'' => ∃ g H, e = .returned (.map (some g)) ∧ w'.heap.size ≤ g ∧ KSet holdV w'' g H ∧ Hid (NeedSet p H) ∧ Below w'.heap.size w' w'') := Lib.hid (fun hz w' hw => neededHolders_any r p w' (h.below hw) hz)
  obtain ⟨wd, ⟨a1, n1, c1⟩, ⟨a2, n2, c2⟩, tp, ⟨a3, n3, c3⟩, ⟨a4, n4, c4⟩, rows⟩ := r
  clear h hcap
  show Calls Tryz.prog 22 #[.agg #[.int .i64 wd, .slice a1 n1 c1, .slice a2 n2 c2, .int .i64 tp, .slice a3 n3 c3, .slice a4 n4 c4]] w _
  obtain ⟨wa, HW⟩ : ∃ wa, Hid (wa = w.alloc (.cells #[.int .i64 wd, .slice a1 n1 c1, .slice a2 n2 c2, .int .i64 tp, .slice a3 n3 c3, .slice a4 n4 c4] 28)) := ⟨_, rfl⟩
  have B : Blk wa w.heap.size 28 [.int .i64 wd, .slice a1 n1 c1, .slice a2 n2 c2, .int .i64 tp, .slice a3 n3 c3, .slice a4 n4 c4] := by rw [HW.out]; exact Blk.new w _ _
  have HB : Below w.heap.size w wa := by rw [HW.out]; exact (Below.refl _ _).alloc (Nat.le_refl _) _
  by_cases hz : codeB p = 0
  · have hzz : (codeB p == 0) = true := by simpa using hz
    have HV : Hid (needV p = (needP p).1) := Lib.hid (by rw [needV, if_pos hz])
    have HA : Hid (needA p = (needP p).2) := Lib.hid (by rw [needA, if_pos hz])
    rw [hzz] at HPO
    rw [HV.out, HA.out]
    have HE := Lib.hid (HNH.out hz)
    have HZ := Lib.hid hz
    clear HNH hz hzz HV HA
    go_enter Tryz.func22, Tryz.ntmps22
    go_wp2_with fail
    rw [← HW.out]
    refine (HPO.out _ HB).mono ?_
    rintro e w1 ⟨rfl, hb1⟩
    have B := B.below hb1 B.lt
    have HB := HB.trans (hb1.mono HB.size)
    have t0 := B.cell (j := 0) rfl
    have t1 := B.cell (j := 1) rfl
    have t2 := B.cell (j := 2) rfl
    have t3 := B.cell (j := 3) rfl
    have t4 := B.cell (j := 4) rfl
    have t5 := B.cell (j := 5) rfl
    go_wp2_with fail
    refine (HE.out _ HB).mono ?_
    rintro e w2 ⟨g, H, rfl, hg, hk, HN, hb2⟩
    have HB2 := Lib.hid (HB.trans (hb2.mono HB.size))
    have HIN : Hid (∀ h ∈ H, In64 h.2) := Lib.hid (fun x hx => by
      have hc := code_head HZ.out
      rcases inAll_small HZ.out HN.out.1 x hx with ⟨_, h0, h1⟩ | ⟨_, h0, h1⟩ <;> (unfold In64; omega))
    have HLN := Lib.hid (inAll_few HZ.out HN.out.1 hk.nodup)
    have HR := Lib.hid (need_is HZ.out HN.out.1 HN.out.2)
    clear t0 t1 t2 t3 t4 t5 hb2 B HB hb1
    go_wp2_with fail
    refine (numbersAmong_any g H 0 w2 hk HIN.out HLN.out).mono ?_
    rintro e w3 ⟨a5, n5, c5, rfl, ho5, hb3⟩
    rw [HR.out.1] at ho5
    have hk3 := hk.below hb3 hk.lt
    have HB3 := Lib.hid (HB2.out.trans (hb3.mono HB2.out.size))
    clear hb3
    go_wp2_with fail
    refine (numbersAmong_any g H 1 w3 hk3 HIN.out HLN.out).mono ?_
    rintro e w4 ⟨a6, n6, c6, rfl, ho6, hb4⟩
    rw [HR.out.2] at ho6
    have HB4 := Lib.hid (HB3.out.trans (hb4.mono HB3.out.size))
    have ho7 := ho5.below hb4
    clear hb4
    go_wp2
    go_ret2
    exact ⟨HB4.out, (a5, n5, c5), (a6, n6, c6), rfl, ho7.base HB2.out.size, ho6.base HB3.out.size, fun g hg e => by
      have h1 := (ho5.block g hg).2
      have h2 := (ho6.block g e).1
      omega⟩
  · have hzz : (codeB p == 0) = false := by simpa using hz
    have HV : Hid (needV p = []) := Lib.hid (by rw [needV, if_neg hz])
    have HA : Hid (needA p = []) := Lib.hid (by rw [needA, if_neg hz])
    rw [hzz] at HPO
    rw [HV.out, HA.out]
    clear HNH hz hzz HV HA
    go_enter Tryz.func22, Tryz.ntmps22
    go_wp2_with fail
    rw [← HW.out]
    refine (HPO.out _ HB).mono ?_
    rintro e w1 ⟨rfl, hb1⟩
    have HB := HB.trans (hb1.mono HB.size)
    go_wp2
    go_ret2
    exact ⟨HB, (none, 0, 0), (none, 0, 0), rfl, own_nil _ _, own_nil _ _, fun g hg => by simp [slV, Value.ownBlock] at hg⟩
end Go.Proofs.YtbnpoliogldohaaGreat
/- The contracts of the model's l10Needed and NeededIn. -/
namespace Go.Proofs.YtbnpoliogldohaaGreat
open Go.RowKit

/-- What is needed after k rounds and j statements. -/
def stQ (p : Prg) (k j : Nat) : List Int × List Int := roundN (cntB p) nm1 nm2 (p.body.take j) (itN (cntB p) nm1 nm2 p.body k)
theorem stQ_zero (p : Prg) (k : Nat) : stQ p k 0 = itN (cntB p) nm1 nm2 p.body k := by simp [stQ, roundN]
theorem stQ_len (p : Prg) (k : Nat) : stQ p k p.body.length = itN (cntB p) nm1 nm2 p.body (k + 1) := by rw [stQ, List.take_length]; rfl
theorem stQ_succ {p : Prg} {k j : Nat} (h : j < p.body.length) : stQ p k (j + 1) = stepN (cntB p) nm1 nm2 (stQ p k j) (stAt p.body j) := by
  have e : p.body.take (j + 1) = p.body.take j ++ [stAt p.body j] := by
    rw [List.take_add_one, List.getElem?_eq_getElem h]
    simp [stAt, List.getD_eq_getElem?_getD, h]
  unfold stQ roundN
  rw [e, List.foldl_append]
  rfl
theorem stQ_rise (p : Prg) (k j : Nat) : RiseQ (stQ p k j) := round_rise (itN_rise _ _)
theorem few_len {l : List Int} {u : Nat} (hr : Rise l) (h : ∀ x ∈ l, 0 ≤ x ∧ x < (u : Int)) : l.length ≤ u := by
  have := rise_len (a := 0) (u := (u : Int)) hr h
  omega
theorem stQ_small {p : Prg} (hz : codeB p = 0) (k j : Nat) : (stQ p k j).1.length ≤ 20 ∧ (stQ p k j).2.length ≤ 20 := by
  have hb := need_bounds hz
  have hc := code_head hz
  have hall : Closed (cntB p) nm1 nm2 p.body ((List.range (p.lows.length + p.secrets.length + p.temps.toNat)).map Int.ofNat) ((List.range p.arrays.length).map Int.ofNat) := fun s hs _ => by
    refine ⟨fun x hx => ?_, fun x hx => ?_⟩
    · have := (hb s hs).1 x hx
      exact List.mem_map.2 ⟨x.toNat, by simp; omega, by simp; omega⟩
    · have := (hb s hs).2 x hx
      exact List.mem_map.2 ⟨x.toNat, by simp; omega, by simp; omega⟩
  have hi := fold_in (cntB_mono p) hall (body := p.body.take j) (fun s hs => List.mem_of_mem_take hs) (itN_rise (cnt := cntB p) (n1 := nm1) (n2 := nm2) p.body k) (itN_in (cntB_mono p) hall k)
  have hr := stQ_rise p k j
  have a1 := few_len (u := p.lows.length + p.secrets.length + p.temps.toNat) hr.1 (fun x hx => by
    have := hi.1 x hx; simp at this; obtain ⟨i, hi, rfl⟩ := this; omega)
  have a2 := few_len (u := p.arrays.length) hr.2 (fun x hx => by
    have := hi.2 x hx; simp at this; obtain ⟨i, hi, rfl⟩ := this; omega)
  omega
theorem nmB_rise (op : Int) (ts : List Tm) : Rise (nmB op ts) := by
  unfold nmB
  split
  · exact (riseL_is _).1
  · exact List.Pairwise.nil
theorem nmB_few {p : Prg} (hz : codeB p = 0) {ts : List Tm} (h : standQ p ts = true ∨ ts = []) : (nmB 1 ts).length ≤ 20 ∧ (nmB 2 ts).length ≤ 20 := by
  have hb := nmB_stand h
  have hc := code_head hz
  have a1 := few_len (nmB_rise 1 ts) hb.1
  have a2 := few_len (nmB_rise 2 ts) hb.2
  omega
theorem stQ_yes {p : Prg} {k j : Nat} {s : Stm} (h : j < p.body.length) (hs : Hid (stAt p.body j = s)) (hc : cntB p s (stQ p k j).1 (stQ p k j).2 = true) : stQ p k (j + 1) = (addL (addL (stQ p k j).1 (nmB 1 s.at_)) (nmB 1 s.exp), addL (addL (stQ p k j).2 (nmB 2 s.at_)) (nmB 2 s.exp)) := by
  rw [stQ_succ h, hs.out, stepN, if_pos hc, nm1, nm2, addL_app, addL_app]
theorem stQ_no {p : Prg} {k j : Nat} {s : Stm} (h : j < p.body.length) (hs : Hid (stAt p.body j = s)) (hc : cntB p s (stQ p k j).1 (stQ p k j).2 = false) : stQ p k (j + 1) = stQ p k j := by
  rw [stQ_succ h, hs.out, stepN, if_neg (by rw [hc]; decide)]
theorem ints_none (w : World) (g : Nat) : Ints w (some ⟨g, 0, none⟩) 0 [] := ⟨rfl, by omega, fun z hz => (by cases hz), fun h => (by omega)⟩
set_option maxRecDepth 100000 in
set_option maxHeartbeats 12800000 in
theorem l10Needed_any (r : PRow) (p : Prg) (w : World) (h : ProgAt w r p) (hcap : Caps r) (hz : codeB p = 0) :
    Calls Tryz.prog 56 #[progV r] w fun e w' => ∃ g1 m1 d1 g2 m2 d2, e = .returned (.tuple #[.slice (some ⟨g1, 0, none⟩) m1 d1, .slice (some ⟨g2, 0, none⟩) m2 d2]) ∧ Ints w' (some ⟨g1, 0, none⟩) m1 (needP p).1 ∧ Ints w' (some ⟨g2, 0, none⟩) m2 (needP p).2 ∧ Below w.heap.size w w' := by
  have hlim := code_lim h hz
  have hch := code_head hz
  have HLV : Hid (∀ w', Calls Tryz.prog 82 #[progV r] w' fun e w'' => e = .returned (.int .i64 ((p.lows.length + p.secrets.length + p.temps.toNat : Nat) : Int)) ∧ Below w'.heap.size w' w'') := Lib.hid (fun w' => by
    have e : ((r.lows.2.1 : Int) + (r.secrets.2.1 : Int) + r.temps) = ((p.lows.length + p.secrets.length + p.temps.toNat : Nat) : Int) := by
      have := h.lows.1; have := h.secrets.1; have := h.temps; omega
    rw [← e]
    exact l3Vars_any r w' (by have := h.lows.1; omega) (by have := h.secrets.1; omega) (by have := h.temps; omega) (by have := h.temps; omega))
  have HCN : Hid (∀ (x y : Int) (b1 b2 va aa : Option Addr) (m1 m2 d1 d2 vn vc an ac : Nat) (ts us : List Tm) (V A : List Int) (w' : World), Below w.heap.size w w' → RightS p ⟨x, y, ts, us⟩ → Terms w' b1 m1 ts → Terms w' b2 m2 us → m1 ≤ d1 → m2 ≤ d2 → Ints w' va vn V → Ints w' aa an A →
      Calls Tryz.prog 108 #[progV r, .agg #[.int .i64 x, .int .i64 y, .slice b1 m1 d1, .slice b2 m2 d2], .slice va vn vc, .slice aa an ac] w' fun e w'' => e = .returned (.bool (cntB p ⟨x, y, ts, us⟩ V A)) ∧ Below w'.heap.size w' w'') :=
    Lib.hid (fun x y b1 b2 va aa m1 m2 d1 d2 vn vc an ac ts us V A w' hw hs h1 h2 hd1 hd2 hV hA => l10Counts_any r p x y b1 b2 m1 m2 d1 d2 ts us va aa vn vc an ac V A w' (h.below hw) hz hs h1 h2 hd1 hd2 hV hA)
  have HRW : Hid (∀ k, k < p.body.length → ∃ b o x y ba m1 d1 bb m2 d2 ts us, r.body.1 = some ⟨b, o, none⟩ ∧ b < w.heap.size ∧ Hid (stAt p.body k = ⟨x, y, ts, us⟩) ∧ w.cell? ⟨b, o + k * 4, none⟩ = some (.int .i64 x) ∧ w.cell? ⟨b, o + k * 4 + 1, none⟩ = some (.int .i64 y) ∧ w.cell? ⟨b, o + k * 4 + 2, none⟩ = some (.slice ba m1 d1) ∧ w.cell? ⟨b, o + k * 4 + 3, none⟩ = some (.slice bb m2 d2) ∧ m1 ≤ d1 ∧ m2 ≤ d2 ∧ Terms w ba m1 ts ∧ Terms w bb m2 us) := Lib.hid (fun k hk => stmt_row h hcap hk)
  have HZ := Lib.hid hz
  have HL := Lib.hid h.body.2.1
  have HLA := Lib.hid h.arrays.1
  have hn4 := h.body.2.2.1
  have hn4' : r.body.2.1 ≤ 40 := by have := HL.out; omega
  obtain ⟨U, HU⟩ : ∃ U, Hid (p.lows.length + p.secrets.length + p.temps.toNat = U) := ⟨_, rfl⟩
  rw [HU.out] at HLV
  have hU : U ≤ 20 := by have := HU.out; omega
  have HNP : Hid (needP p = itN (cntB p) nm1 nm2 p.body (U + p.arrays.length + 1)) := Lib.hid (by rw [needP, HU.out])
  obtain ⟨wd, ⟨a1, n1, c1⟩, ⟨a2, n2, c2⟩, tp, ⟨a3, n3, c3⟩, ⟨a4, n4, c4⟩, rows⟩ := r
  simp only [] at HRW HL HLA hn4 hn4'
  rw [HLA.out] at HNP
  have hn3 : n3 ≤ 2 := by have := HLA.out; omega
  clear h hcap hz hlim hch HU
  show Calls Tryz.prog 56 #[.agg #[.int .i64 wd, .slice a1 n1 c1, .slice a2 n2 c2, .int .i64 tp, .slice a3 n3 c3, .slice a4 n4 c4]] w _
  obtain ⟨wa, HW⟩ : ∃ wa, Hid (wa = ((w.alloc (.cells #[.int .i64 wd, .slice a1 n1 c1, .slice a2 n2 c2, .int .i64 tp, .slice a3 n3 c3, .slice a4 n4 c4] 28)).alloc (.cells #[] 2)).alloc (.cells #[] 2)) := ⟨_, rfl⟩
  have B : Blk wa w.heap.size 28 [.int .i64 wd, .slice a1 n1 c1, .slice a2 n2 c2, .int .i64 tp, .slice a3 n3 c3, .slice a4 n4 c4] := by rw [HW.out]; exact ((Blk.new w _ _).alloc _).alloc _
  have HB : Below w.heap.size w wa := by rw [HW.out]; exact (((Below.refl _ _).alloc (Nat.le_refl _) _).alloc (by simp) _).alloc (by simp; omega) _
  have hsza : wa.heap.size = w.heap.size + 3 := by rw [HW.out]; simp
  go_enter Tryz.func56, Tryz.ntmps56
  go_wp2
  rw [← HW.out]
  have HST : Hid (w.heap.size + 2 < wa.heap.size) := Lib.hid (by omega)
  clear hsza
  go_loopw [4, 5, 6] (fun vv av kv wr => ∃ (k g1 m1 d1 g2 m2 d2 : Nat), k ≤ U + n3 + 1 ∧ kv = .int .i64 (k : Int) ∧ vv = .slice (some ⟨g1, 0, none⟩) m1 d1 ∧ av = .slice (some ⟨g2, 0, none⟩) m2 d2 ∧ Ints wr (some ⟨g1, 0, none⟩) m1 (itN (cntB p) nm1 nm2 p.body k).1 ∧ g1 < wr.heap.size ∧ Ints wr (some ⟨g2, 0, none⟩) m2 (itN (cntB p) nm1 nm2 p.body k).2 ∧ g2 < wr.heap.size ∧
      Blk wr w.heap.size 28 [.int .i64 wd, .slice a1 n1 c1, .slice a2 n2 c2, .int .i64 tp, .slice a3 n3 c3, .slice a4 n4 c4] ∧ Below w.heap.size w wr) (fun _ _ kv _ => U + n3 + 1 - (intOf kv).toNat)
  case atStart => exact ⟨0, w.heap.size + 1, 0, 0, w.heap.size + 2, 0, 0, by omega, rfl, rfl, rfl, ints_none _ _, by have := HST.out; omega, ints_none _ _, HST.out, B, HB⟩
  case round =>
    obtain ⟨k, g1, m1, d1, g2, m2, d2, hk, rfl, rfl, rfl, hI1, hg1, hI2, hg2, hB, hb⟩ := hrel
    have HB1 := Lib.hid hB
    have HBW := Lib.hid hb
    have HI1 := Lib.hid hI1
    have HI2 := Lib.hid hI2
    have g0' := lat_cell hB.lt (hB.cell (j := 0) rfl)
    have g1' := lat_cell hB.lt (hB.cell (j := 1) rfl)
    have g2' := lat_cell hB.lt (hB.cell (j := 2) rfl)
    have g3' := lat_cell hB.lt (hB.cell (j := 3) rfl)
    have g4' := lat_cell hB.lt (hB.cell (j := 4) rfl)
    have g5' := lat_cell hB.lt (hB.cell (j := 5) rfl)
    have HC : Hid (∀ q : Lat wr, Calls Tryz.prog 82 #[.agg #[.int .i64 wd, .slice a1 n1 c1, .slice a2 n2 c2, .int .i64 tp, .slice a3 n3 c3, .slice a4 n4 c4]] q.wd fun e w' => e = .returned (.int .i64 (U : Int)) ∧ Below q.wd.heap.size q.wd w') := Lib.hid (fun q => HLV.out q.wd)
    clear hB hb hI1 hI2
    by_cases hle : k ≤ U + n3
    · go_wp2
      refine wp_region_lat (by kernel_rfl) (by kernel_rfl) ?_
      repeat (go_big_quiet_step ((go_at_call 82; exact lat_calls (HC.out _))))
      refine wpQuiet_nil ?_
      intro _ hw'
      obtain ⟨⟨wq, hwq⟩, hw''⟩ := hw'
      subst hw''
      have HF := Lib.hid (HBW.out.trans (hwq.mono HBW.out.size))
      have HJ1 := Lib.hid (HI1.out.below hwq)
      have HJ2 := Lib.hid (HI2.out.below hwq)
      have HBQ := Lib.hid (HB1.out.below hwq HB1.out.lt)
      have hq1 := Nat.lt_of_lt_of_le hg1 hwq.size
      have hq2 := Nat.lt_of_lt_of_le hg2 hwq.size
      rw [← stQ_zero] at HJ1 HJ2
      clear g0' g1' g2' g3' g4' g5' HC hwq HBW HI1 HI2 HB1 hg1 hg2
      go_wp2_with fail
      rw [show decide ((k : Int) ≤ (U : Int) + (n3 : Int)) = true from decide_eq_true (by omega)]
      go_loopw [4, 5, 7] (fun vv av iv wr => ∃ (j g1 m1 d1 g2 m2 d2 : Nat), j ≤ n4 ∧ iv = .int .i64 (j : Int) ∧ vv = .slice (some ⟨g1, 0, none⟩) m1 d1 ∧ av = .slice (some ⟨g2, 0, none⟩) m2 d2 ∧ Ints wr (some ⟨g1, 0, none⟩) m1 (stQ p k j).1 ∧ g1 < wr.heap.size ∧ Ints wr (some ⟨g2, 0, none⟩) m2 (stQ p k j).2 ∧ g2 < wr.heap.size ∧
        Blk wr w.heap.size 28 [.int .i64 wd, .slice a1 n1 c1, .slice a2 n2 c2, .int .i64 tp, .slice a3 n3 c3, .slice a4 n4 c4] ∧ Below w.heap.size w wr) (fun _ _ iv _ => n4 - (intOf iv).toNat)
      case atStart => exact ⟨0, g1, m1, d1, g2, m2, d2, Nat.zero_le _, rfl, rfl, rfl, HJ1.out, hq1, HJ2.out, hq2, HBQ.out, HF.out⟩
      case round =>
        obtain ⟨j, g1, m1, d1, g2, m2, d2, hj, rfl, rfl, rfl, hI1, hg1, hI2, hg2, hB, hb⟩ := hrel
        have HB1 := Lib.hid hB
        have HBW := Lib.hid hb
        have HI1 := Lib.hid hI1
        have HI2 := Lib.hid hI2
        have t5 := hB.cell (j := 5) rfl
        clear hB hb hI1 hI2
        by_cases hlt : j < n4
        · obtain ⟨sb, so, x, y, p1, e1, f1, p2, e2, f2, ts, us, hae, hsb, hst, hc1, hc2, hc3, hc4, hcp1, hcp2, hT1, hT2⟩ := HRW.out j (by rw [HL.out]; exact hlt)
          subst hae
          have hc1 := (HBW.out.cell hsb).trans hc1
          have hc2 := (HBW.out.cell hsb).trans hc2
          have hc3 := (HBW.out.cell hsb).trans hc3
          have hc4 := (HBW.out.cell hsb).trans hc4
          obtain ⟨ws, HWS⟩ : ∃ ws, Hid (ws = wr.alloc (.cells #[.int .i64 x, .int .i64 y, .slice p1 e1 f1, .slice p2 e2 f2] 74)) := ⟨_, rfl⟩
          have hbs : Below wr.heap.size wr ws := by rw [HWS.out]; exact (Below.refl _ _).alloc (Nat.le_refl _) _
          have BS : Blk ws wr.heap.size 74 [.int .i64 x, .int .i64 y, .slice p1 e1 f1, .slice p2 e2 f2] := by rw [HWS.out]; exact Blk.new wr _ _
          have HBS := Lib.hid BS
          have HB2 := Lib.hid (HB1.out.below hbs HB1.out.lt)
          have HW2 := Lib.hid (HBW.out.trans (hbs.mono HBW.out.size))
          have HJ1 := Lib.hid (HI1.out.below hbs)
          have HJ2 := Lib.hid (HI2.out.below hbs)
          have hq1 := Nat.lt_of_lt_of_le hg1 hbs.size
          have hq2 := Nat.lt_of_lt_of_le hg2 hbs.size
          have HRS : Hid (RightS p ⟨x, y, ts, us⟩) := Lib.hid (by have := right_all HZ.out _ (stAt_mem (show j < p.body.length by rw [HL.out]; exact hlt)); rw [hst.out] at this; exact this)
          have HTT := Lib.hid (fun w' (hw : Below w.heap.size w w') => And.intro (hT1.below (Nat.le_refl _) hw) (hT2.below (Nat.le_refl _) hw))
          obtain ⟨q, HQ⟩ : ∃ q, Hid (cntB p ⟨x, y, ts, us⟩ (stQ p k j).1 (stQ p k j).2 = q) := ⟨_, rfl⟩
          have HC := Lib.hid (HCN.out x y p1 p2 (some ⟨g1, 0, none⟩) (some ⟨g2, 0, none⟩) e1 e2 f1 f2 m1 d1 m2 d2 ts us _ _ ws HW2.out HRS.out (HTT.out ws HW2.out).1 (HTT.out ws HW2.out).2 hcp1 hcp2 HJ1.out HJ2.out)
          rw [HQ.out] at HC
          have t0 := HB2.out.cell (j := 0) rfl
          have t1 := HB2.out.cell (j := 1) rfl
          have t2 := HB2.out.cell (j := 2) rfl
          have t3 := HB2.out.cell (j := 3) rfl
          have t4 := HB2.out.cell (j := 4) rfl
          have t5 := HB2.out.cell (j := 5) rfl
          rw [HWS.out] at t0 t1 t2 t3 t4 t5
          clear BS hbs hT1 hT2 HI1 HI2 HB1 HBW
          go_wp2_with fail
          rw [← HWS.out]
          refine HC.out.mono ?_
          rintro e w1 ⟨rfl, hb1⟩
          have HB3 := Lib.hid (HB2.out.below hb1 HB2.out.lt)
          have HW3 := Lib.hid (HW2.out.trans (hb1.mono HW2.out.size))
          have HK1 := Lib.hid (HJ1.out.below hb1)
          have HK2 := Lib.hid (HJ2.out.below hb1)
          have hr1 := Nat.lt_of_lt_of_le hq1 hb1.size
          have hr2 := Nat.lt_of_lt_of_le hq2 hb1.size
          have HS3 := Lib.hid (HBS.out.below hb1 HBS.out.lt)
          clear t0 t1 t2 t3 t4 t5 hc1 hc2 hc3 hc4 hb1 HC HJ1 HJ2 hq1 hq2 hg1 hg2
          cases q with
          | false =>
            have HSN : Hid (stQ p k (j + 1) = stQ p k j) := Lib.hid (stQ_no (by rw [HL.out]; exact hlt) hst HQ.out)
            rw [← HSN.out] at HK1 HK2
            go_wp2
            go_roundw
            case rel => exact ⟨j + 1, g1, m1, d1, g2, m2, d2, by omega, by go_num, rfl, rfl, HK1.out, hr1, HK2.out, hr2, HB3.out, HW3.out⟩
            case measure => simp [intOf]; omega
          | true =>
            have HSY : Hid (stQ p k (j + 1) = (addL (addL (stQ p k j).1 (nmB 1 ts)) (nmB 1 us), addL (addL (stQ p k j).2 (nmB 2 ts)) (nmB 2 us))) := Lib.hid (stQ_yes (by rw [HL.out]; exact hlt) hst HQ.out)
            have hsm := stQ_small HZ.out k j
            have hst1 := right_stand (right_f HRS.out)
            simp only [] at hst1
            have hfa := nmB_few HZ.out hst1.1
            have hfe := nmB_few HZ.out hst1.2
            have hl1 := HK1.out.1
            have hl2 := HK2.out.1
            obtain ⟨Q1, HQ1⟩ : ∃ z, Hid ((stQ p k j).1 = z) := ⟨_, rfl⟩
            obtain ⟨Q2, HQ2⟩ : ∃ z, Hid ((stQ p k j).2 = z) := ⟨_, rfl⟩
            obtain ⟨A1, HA1⟩ : ∃ z, Hid (nmB 1 ts = z) := ⟨_, rfl⟩
            obtain ⟨A2, HA2⟩ : ∃ z, Hid (nmB 2 ts = z) := ⟨_, rfl⟩
            obtain ⟨E1, HE1⟩ : ∃ z, Hid (nmB 1 us = z) := ⟨_, rfl⟩
            obtain ⟨E2, HE2⟩ : ∃ z, Hid (nmB 2 us = z) := ⟨_, rfl⟩
            rw [HQ1.out, HQ2.out, HA1.out, HA2.out, HE1.out, HE2.out] at HSY
            rw [HQ1.out] at HK1 hl1
            rw [HQ2.out] at HK2 hl2
            rw [HQ1.out, HQ2.out] at hsm
            rw [HA1.out, HA2.out] at hfa
            rw [HE1.out, HE2.out] at hfe
            have HSM := Lib.hid (And.intro hsm (And.intro hfa hfe))
            have HLL := Lib.hid (And.intro hl1 hl2)
            have S3 := HS3.out
            have v2 := S3.cell (j := 2) rfl
            have v3 := S3.cell (j := 3) rfl
            clear hsm hfa hfe hl1 hl2 hst1 S3
            go_wp2_with fail
            refine (specNamesIn_any p1 e1 f1 ts w1 (HTT.out w1 HW3.out).1).mono ?_
            rintro e w2 ⟨⟨na1, na2, na3⟩, ⟨nb1, nb2, nb3⟩, rfl, ⟨o1, o2, _⟩, hb2⟩
            rw [HA1.out] at o1
            rw [HA2.out] at o2
            have HB4 := Lib.hid (HB3.out.below hb2 HB3.out.lt)
            have HW4 := Lib.hid (HW3.out.trans (hb2.mono HW3.out.size))
            have HM1 := Lib.hid (HK1.out.below hb2)
            have HM2 := Lib.hid (HK2.out.below hb2)
            have hs1 := Nat.lt_of_lt_of_le hr1 hb2.size
            have hs2 := Nat.lt_of_lt_of_le hr2 hb2.size
            have S4 := HS3.out.below hb2 HS3.out.lt
            have u3 := S4.cell (j := 3) rfl
            have HO1 := Lib.hid o1.ints
            have HO2 := Lib.hid o2.ints
            clear v2 v3 hb2 S4 o1 o2 hr1 hr2 HK1 HK2
            simp only [slV]
            go_wp2_with fail
            refine (specNamesIn_any p2 e2 f2 us w2 (HTT.out w2 HW4.out).2).mono ?_
            rintro e w3 ⟨⟨nc1, nc2, nc3⟩, ⟨nd1, nd2, nd3⟩, rfl, ⟨o1, o2, _⟩, hb3⟩
            rw [HE1.out] at o1
            rw [HE2.out] at o2
            have HB5 := Lib.hid (HB4.out.below hb3 HB4.out.lt)
            have HW5 := Lib.hid (HW4.out.trans (hb3.mono HW4.out.size))
            have HN1 := Lib.hid (HM1.out.below hb3)
            have HN2 := Lib.hid (HM2.out.below hb3)
            have hv1 := Nat.lt_of_lt_of_le hs1 hb3.size
            have hv2 := Nat.lt_of_lt_of_le hs2 hb3.size
            have HP1 := Lib.hid (HO1.out.below hb3)
            have HP2 := Lib.hid (HO2.out.below hb3)
            have HP3 := Lib.hid o1.ints
            have HP4 := Lib.hid o2.ints
            clear u3 hb3 o1 o2 hs1 hs2 HM1 HM2 HO1 HO2
            simp only [slV]
            go_wp2_with fail
            refine (l10Add_any g1 m1 d1 Q1 na1 na2 na3 A1 w3 HN1.out hv1 HP1.out (by have := HSM.out; have := HLL.out; have := HP1.out.1; omega)).mono ?_
            rintro e w4 ⟨k1, l1, j1, rfl, hI, hg, hb4⟩
            have HB6 := Lib.hid (HB5.out.below hb4 HB5.out.lt)
            have HW6 := Lib.hid (HW5.out.trans (hb4.mono HW5.out.size))
            have HR2 := Lib.hid (HN2.out.below hb4)
            have hx2 := Nat.lt_of_lt_of_le hv2 hb4.size
            have HT2 := Lib.hid (HP2.out.below hb4)
            have HT3 := Lib.hid (HP3.out.below hb4)
            have HT4 := Lib.hid (HP4.out.below hb4)
            clear hb4 hv1 hv2 HN1 HN2 HP1 HP2
            go_wp2_with fail
            refine (l10Add_any k1 l1 j1 _ nc1 nc2 nc3 E1 w4 hI hg HT3.out (by have := HSM.out; have := HLL.out; have := hI.1; have := addL_len A1 Q1; have := HT3.out.1; omega)).mono ?_
            rintro e w5 ⟨k2, l2, j2, rfl, hI2, hg2, hb5⟩
            have HB7 := Lib.hid (HB6.out.below hb5 HB6.out.lt)
            have HW7 := Lib.hid (HW6.out.trans (hb5.mono HW6.out.size))
            have HX2 := Lib.hid (HR2.out.below hb5)
            have hy2 := Nat.lt_of_lt_of_le hx2 hb5.size
            have HY2 := Lib.hid (HT2.out.below hb5)
            have HY4 := Lib.hid (HT4.out.below hb5)
            have HF1 := Lib.hid hI2
            clear hb5 hx2 hI hg HR2 HT2 HT3 HT4 HP3 HP4 hI2
            go_wp2_with fail
            refine (l10Add_any g2 m2 d2 Q2 nb1 nb2 nb3 A2 w5 HX2.out hy2 HY2.out (by have := HSM.out; have := HLL.out; have := HY2.out.1; omega)).mono ?_
            rintro e w6 ⟨k3, l3, j3, rfl, hI3, hg3, hb6⟩
            have HB8 := Lib.hid (HB7.out.below hb6 HB7.out.lt)
            have HW8 := Lib.hid (HW7.out.trans (hb6.mono HW7.out.size))
            have HF2 := Lib.hid (HF1.out.below hb6)
            have hz2 := Nat.lt_of_lt_of_le hg2 hb6.size
            have HZ4 := Lib.hid (HY4.out.below hb6)
            clear hb6 hy2 hg2 HX2 HY2 HY4 HF1
            go_wp2_with fail
            refine (l10Add_any k3 l3 j3 _ nd1 nd2 nd3 E2 w6 hI3 hg3 HZ4.out (by have := HSM.out; have := HLL.out; have := hI3.1; have := addL_len A2 Q2; have := HZ4.out.1; omega)).mono ?_
            rintro e w7 ⟨k4, l4, j4, rfl, hI4, hg4, hb7⟩
            have HB9 := Lib.hid (HB8.out.below hb7 HB8.out.lt)
            have HW9 := Lib.hid (HW8.out.trans (hb7.mono HW8.out.size))
            have HG1 : Hid (Ints w7 (some ⟨k2, 0, none⟩) l2 (stQ p k (j + 1)).1) := Lib.hid (by rw [HSY.out]; exact HF2.out.below hb7)
            have HG2 : Hid (Ints w7 (some ⟨k4, 0, none⟩) l4 (stQ p k (j + 1)).2) := Lib.hid (by rw [HSY.out]; exact hI4)
            have hr1 := Nat.lt_of_lt_of_le hz2 hb7.size
            clear hb7 hz2 hg3 hI3 hI4 HZ4 HF2 HSY
            go_wp2
            go_roundw
            case rel => exact ⟨j + 1, k2, l2, j2, k4, l4, j4, by omega, by go_num, rfl, rfl, HG1.out, hr1, HG2.out, hg4, HB9.out, HW9.out⟩
            case measure => simp [intOf]; omega
        · obtain rfl : n4 = j := by omega
          rw [← HL.out, stQ_len] at HI1 HI2
          go_wp2
          go_roundw
          case rel => exact ⟨k + 1, g1, m1, d1, g2, m2, d2, by omega, by go_num, rfl, rfl, HI1.out, hg1, HI2.out, hg2, HB1.out, HBW.out⟩
          case measure => simp [intOf]; omega
    · obtain rfl : k = U + n3 + 1 := by omega
      go_wp2
      refine wp_region_lat (by kernel_rfl) (by kernel_rfl) ?_
      repeat (go_big_quiet_step ((go_at_call 82; exact lat_calls (HC.out _))))
      refine wpQuiet_nil ?_
      intro _ hw'
      obtain ⟨⟨wq, hwq⟩, hw''⟩ := hw'
      subst hw''
      have HF := Lib.hid (HBW.out.trans (hwq.mono HBW.out.size))
      have HJ1 := Lib.hid (HI1.out.below hwq)
      have HJ2 := Lib.hid (HI2.out.below hwq)
      clear g0' g1' g2' g3' g4' g5' HC hwq
      go_wp2
      go_ret2
      exact ⟨g1, m1, d1, g2, m2, d2, rfl, by rw [HNP.out]; exact HJ1.out, by rw [HNP.out]; exact HJ2.out, HF.out⟩
set_option maxRecDepth 100000 in
set_option maxHeartbeats 1600000 in
theorem specNeededIn_ans (r : PRow) (p : Prg) (w : World) (h : ProgAt w r p) (hcap : Caps r) :
    Calls Tryz.prog 25 #[progV r] w fun e w' => Below w.heap.size w w' ∧ ∃ s t : Sl, e = .returned (.tuple #[slV s, slV t]) ∧ Ints w' s.1 s.2.1 (needV p) ∧ Ints w' t.1 t.2.1 (needA p) := by
  have HPO : Hid (∀ w', Below w.heap.size w w' → Calls Tryz.prog 48 #[progV r] w' fun e w'' => e = .returned (.bool (codeB p == 0)) ∧ Below w'.heap.size w' w'') := Lib.hid (fun w' hw => specProgOk_any r p w' (h.below hw))
  have HNE : Hid (codeB p = 0 → ∀ w', Below w.heap.size w w' → Calls Tryz.prog 56 #[progV r] w' fun e w'' => ∃ g1 m1 d1 g2 m2 d2, e = .returned (.tuple #[.slice (some ⟨g1, 0, none⟩) m1 d1, .slice (some ⟨g2, 0, none⟩) m2 d2]) ∧ Ints w'' (some ⟨g1, 0, none⟩) m1 (needP p).1 ∧ Ints w'' (some ⟨g2, 0, none⟩) m2 (needP p).2 ∧ Below w'.heap.size w' w'') := Lib.hid (fun hz w' hw => l10Needed_any r p w' (h.below hw) hcap hz)
  obtain ⟨wd, ⟨a1, n1, c1⟩, ⟨a2, n2, c2⟩, tp, ⟨a3, n3, c3⟩, ⟨a4, n4, c4⟩, rows⟩ := r
  clear h hcap
  show Calls Tryz.prog 25 #[.agg #[.int .i64 wd, .slice a1 n1 c1, .slice a2 n2 c2, .int .i64 tp, .slice a3 n3 c3, .slice a4 n4 c4]] w _
  obtain ⟨wa, HW⟩ : ∃ wa, Hid (wa = w.alloc (.cells #[.int .i64 wd, .slice a1 n1 c1, .slice a2 n2 c2, .int .i64 tp, .slice a3 n3 c3, .slice a4 n4 c4] 28)) := ⟨_, rfl⟩
  have B : Blk wa w.heap.size 28 [.int .i64 wd, .slice a1 n1 c1, .slice a2 n2 c2, .int .i64 tp, .slice a3 n3 c3, .slice a4 n4 c4] := by rw [HW.out]; exact Blk.new w _ _
  have HB : Below w.heap.size w wa := by rw [HW.out]; exact (Below.refl _ _).alloc (Nat.le_refl _) _
  by_cases hz : codeB p = 0
  · have hzz : (codeB p == 0) = true := by simpa using hz
    have HV : Hid (needV p = (needP p).1) := Lib.hid (by rw [needV, if_pos hz])
    have HA : Hid (needA p = (needP p).2) := Lib.hid (by rw [needA, if_pos hz])
    rw [hzz] at HPO
    rw [HV.out, HA.out]
    have HE := Lib.hid (HNE.out hz)
    clear HNE hz hzz HV HA
    go_enter Tryz.func25, Tryz.ntmps25
    go_wp2_with fail
    rw [← HW.out]
    refine (HPO.out _ HB).mono ?_
    rintro e w1 ⟨rfl, hb1⟩
    have B := B.below hb1 B.lt
    have HB := HB.trans (hb1.mono HB.size)
    have t0 := B.cell (j := 0) rfl
    have t1 := B.cell (j := 1) rfl
    have t2 := B.cell (j := 2) rfl
    have t3 := B.cell (j := 3) rfl
    have t4 := B.cell (j := 4) rfl
    have t5 := B.cell (j := 5) rfl
    go_wp2_with fail
    refine (HE.out _ HB).mono ?_
    rintro e w2 ⟨g1, m1, d1, g2, m2, d2, rfl, hI1, hI2, hb2⟩
    have HF := Lib.hid (HB.trans (hb2.mono HB.size))
    clear t0 t1 t2 t3 t4 t5 hb2 B HB hb1
    go_wp2
    go_ret2
    exact ⟨HF.out, (some ⟨g1, 0, none⟩, m1, d1), (some ⟨g2, 0, none⟩, m2, d2), rfl, hI1, hI2⟩
  · have hzz : (codeB p == 0) = false := by simpa using hz
    have HV : Hid (needV p = []) := Lib.hid (by rw [needV, if_neg hz])
    have HA : Hid (needA p = []) := Lib.hid (by rw [needA, if_neg hz])
    rw [hzz] at HPO
    rw [HV.out, HA.out]
    clear HNE hz hzz HV HA
    go_enter Tryz.func25, Tryz.ntmps25
    go_wp2_with fail
    rw [← HW.out]
    refine (HPO.out _ HB).mono ?_
    rintro e w1 ⟨rfl, hb1⟩
    have HF := Lib.hid (HB.trans ((hb1.mono HB.size).trans (((Below.refl w.heap.size w1).alloc (Nat.le_trans HB.size hb1.size) (.cells #[] 2)).alloc (Nat.le_trans (Nat.le_trans HB.size hb1.size) (by simp)) (.cells #[] 2))))
    clear B HB hb1
    go_wp2
    go_ret2
    exact ⟨HF.out, (some ⟨_, 0, none⟩, 0, _), (some ⟨_, 0, none⟩, 0, _), rfl, ints_none _ _, ints_none _ _⟩
end Go.Proofs.YtbnpoliogldohaaGreat
/- NeededIn on both sides, as its law asks: the lists' lengths. -/
namespace Go.Proofs.YtbnpoliogldohaaGreat
open Go.RowKit

theorem needV_len (p : Prg) : (needV p).length ≤ 1000 := by
  unfold needV
  split
  · next hz =>
    have := (stQ_small hz (p.lows.length + p.secrets.length + p.temps.toNat + p.arrays.length + 1) 0).1
    rw [stQ_zero] at this
    exact Nat.le_trans this (by omega)
  · simp
theorem needA_len (p : Prg) : (needA p).length ≤ 1000 := by
  unfold needA
  split
  · next hz =>
    have := (stQ_small hz (p.lows.length + p.secrets.length + p.temps.toNat + p.arrays.length + 1) 0).2
    rw [stQ_zero] at this
    exact Nat.le_trans this (by omega)
  · simp
end Go.Proofs.YtbnpoliogldohaaGreat
