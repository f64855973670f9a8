/- The contract of the model's OutcomesOf. -/
import Derived.Test.YtmooecbdpfhnlaaGreatJ38
import Derived.Test.YtmooecbdpfhnlaaGreatJ39
import Derived.Test.YtmooecbdpfhnlaaGreatJ29
namespace Go.Proofs.YtmooecbdpfhnlaaGreat
open Go.RowKit

theorem of_pick {p : Prg} {ls ss : List Int} {fr : List Bool} {C : Nat} (h : startB p ls ss = true) (hf : fr.length = p.secrets.length) (hC : prodL (maxesP p) = (C : Int)) :
    diffL (pickTo (fun i => fitsB p.lows.length fr (intsAt (tabIn p C) i) (ls ++ ss)) (tabOut p C) C) = ofO p ls ss fr := by
  have e : (startB p ls ss && decide (fr.length = p.secrets.length)) = true := by rw [h, decide_eq_true hf]; rfl
  rw [ofO, if_pos e, pickTo_filter p C _ C (Nat.le_refl _), hC]
  show _ = diffL (((List.range C).filter _).map _)
  congr 2
  refine List.filter_congr (fun i hi => ?_)
  rw [tabIn_at (List.mem_range.1 hi), fits_key p fr i _ (start_in h).1]
set_option maxRecDepth 100000 in
set_option maxHeartbeats 6400000 in
theorem specOutcomesOf_any (r : PRow) (p : Prg) (a a' af : Option Addr) (n c n' c' nf cf : Nat) (ls ss : List Int) (fr : List Bool) (w : World) (h : ProgAt w r p) (h1 : Ints w a n ls) (h2 : Ints w a' n' ss) (hf : Bools w af nf fr) :
    Calls Tryz.prog 32 #[progV r, .slice a n c, .slice a' n' c', .slice af nf cf] w (OcsAns w (ofO p ls ss fr)) := by
  have HC : Hid (∀ w', Below w.heap.size w w' → Calls Tryz.prog 83 #[progV r, .slice a n c, .slice a' n' c', .slice af nf cf] w' fun e w'' => e = .returned (.bool (startB p ls ss && decide (nf = r.secrets.2.1))) ∧ Below w'.heap.size w' w'') := Lib.hid (fun w' hw => l8Right_any r p a a' af n c n' c' nf cf ls ss w' (h.below hw) (h1.below hw) (h2.below hw))
  have HT : Hid (∀ (C : Nat) w', Below w.heap.size w w' → codeB p = 0 → prodL (maxesP p) = (C : Int) → C ≤ 1024 → Calls Tryz.prog 73 #[progV r] w' (Tabled w' p C)) := Lib.hid (fun C w' hw => l8Table_any r p C w' (h.below hw))
  have HSL : Hid (r.secrets.2.1 = p.secrets.length) := Lib.hid h.secrets.1.symm
  have HLL : Hid (r.lows.2.1 = p.lows.length) := Lib.hid h.lows.1.symm
  have HFL := Lib.hid hf.1
  have HI1 := Lib.hid h1
  have HI2 := Lib.hid h2
  have HBF := Lib.hid hf
  clear h h1 h2 hf
  obtain ⟨ok, HOK⟩ : ∃ ok, Hid ((startB p ls ss && decide (nf = r.secrets.2.1)) = ok) := ⟨_, rfl⟩
  rw [HOK.out] at HC
  obtain ⟨wd, ⟨a1, n1, c1⟩, ⟨a2, n2, c2⟩, tp, ⟨a3, n3, c3⟩, ⟨a4, n4, c4⟩, rows⟩ := r
  simp only [progV, slV] at HC HT
  simp only [] at HOK HSL HLL
  show Calls Tryz.prog 32 #[.agg #[.int .i64 wd, .slice a1 n1 c1, .slice a2 n2 c2, .int .i64 tp, .slice a3 n3 c3, .slice a4 n4 c4], .slice a n c, .slice a' n' c', .slice af nf cf] w _
  obtain ⟨wa, HW⟩ : ∃ v, Hid (v = w.alloc (.cells #[.int .i64 wd, .slice a1 n1 c1, .slice a2 n2 c2, .int .i64 tp, .slice a3 n3 c3, .slice a4 n4 c4] 31)) := ⟨_, rfl⟩
  obtain ⟨k, HK⟩ : ∃ k, Hid (w.heap.size = k) := ⟨_, rfl⟩
  have B0 : Blk wa k 31 [.int .i64 wd, .slice a1 n1 c1, .slice a2 n2 c2, .int .i64 tp, .slice a3 n3 c3, .slice a4 n4 c4] := by rw [HW.out, ← HK.out]; exact Blk.new w _ _
  have HB : Below w.heap.size w wa := by rw [HW.out]; exact (Below.refl _ w).alloc (Nat.le_refl _) _
  have t0 := B0.cell (j := 0) rfl
  have t1 := B0.cell (j := 1) rfl
  have t2 := B0.cell (j := 2) rfl
  have t3 := B0.cell (j := 3) rfl
  have t4 := B0.cell (j := 4) rfl
  have t5 := B0.cell (j := 5) rfl
  rw [HW.out, ← HK.out] at t0 t1 t2 t3 t4 t5
  go_enter Tryz.func32, Tryz.ntmps32
  cases ok with
  | false =>
    have HA : Hid (ofO p ls ss fr = []) := Lib.hid (by
      have := HOK.out
      rw [ofO, if_neg]
      rw [HFL.out, ← HSL.out, this]
      decide)
    rw [HA.out]
    go_wp2_with fail
    rw [← HW.out, HK.out]
    refine (HC.out _ HB).mono ?_
    rintro e w1 ⟨rfl, hb1⟩
    have HF2 := Lib.hid (HB.trans (hb1.mono HB.size))
    clear t0 t1 t2 t3 t4 t5 B0
    go_wp2
    go_ret
    exact ⟨belA HF2.out, _, _, _, [], rfl, ownO_empty w1 _ _ HF2.out.size⟩
  | true =>
    have hok := HOK.out
    simp only [Bool.and_eq_true, decide_eq_true_eq] at hok
    obtain ⟨hst, hnf⟩ := hok
    have hz := startB_ok hst
    have h1024 := prod_bits hz
    have hpos := prodL_pos (fun m hm => (wide_of_max hz m hm).1)
    obtain ⟨C, HCC⟩ : ∃ C : Nat, Hid (prodL (maxesP p) = (C : Int)) := ⟨(prodL (maxesP p)).toNat, Lib.hid (by omega)⟩
    have hC : C ≤ 1024 := by have := HCC.out; omega
    have HA := Lib.hid (of_pick hst (fr := fr) (by rw [HFL.out, hnf, HSL.out]) HCC.out)
    rw [← HA.out]
    have HZ := Lib.hid hz
    have hsi := (start_in hst).1
    rw [maxesP_len] at hsi
    have HLEN : Hid (n + n' = n1 + nf) := Lib.hid (by have e1 := HI1.out.1; have e2 := HI2.out.1; rw [List.length_append] at hsi; have := HLL.out; have := HSL.out; omega)
    obtain ⟨l1, l2, _, _⟩ := code_inputs hz
    have hn3 : n + n' ≤ 6 := by have := HLEN.out; have := HLL.out; have := HSL.out; omega
    have HTI : Hid (∀ i, i < C → (intsAt (tabIn p C) i).length = n + n') := Lib.hid (fun i hi => by rw [tabIn_each p C i hi, maxesP_len]; have := HLEN.out; have := HLL.out; have := HSL.out; omega)
    rw [← HLL.out]
    obtain ⟨PK, HPK⟩ : ∃ PK, Hid (pickTo (fun i => fitsB n1 fr (intsAt (tabIn p C) i) (ls ++ ss)) (tabOut p C) C = PK) := ⟨_, rfl⟩
    rw [HPK.out]
    clear hz h1024 hpos hst hnf HA hsi l1 l2
    go_wp2_with fail
    rw [← HW.out, HK.out]
    refine (HC.out _ HB).mono ?_
    rintro e w1 ⟨rfl, hb1⟩
    have X0 := B0.below hb1 B0.lt
    have t0 := X0.cell (j := 0) rfl
    have t1 := X0.cell (j := 1) rfl
    have t2 := X0.cell (j := 2) rfl
    have t3 := X0.cell (j := 3) rfl
    have t4 := X0.cell (j := 4) rfl
    have t5 := X0.cell (j := 5) rfl
    have hw1 := HB.trans (hb1.mono HB.size)
    clear B0
    go_wp2_with fail
    refine (HT.out C w1 hw1 HZ.out HCC.out hC).mono ?_
    rintro e w2 ⟨hb2, ia, oa, ic, oc, irs, ors, rfl, hin, hout⟩
    have hw2 := hw1.trans (hb2.mono hw1.size)
    have HW2 := Lib.hid hw2
    have X2 := X0.below hb2 X0.lt
    have HX2 := Lib.hid X2
    have hk2 := X2.lt
    have HI12 := Lib.hid (fun (w' : World) (hb : Below w2.heap.size w2 w') => (HI1.out.below hw2).below hb)
    have HI22 := Lib.hid (fun (w' : World) (hb : Below w2.heap.size w2 w') => (HI2.out.below hw2).below hb)
    have HALL : Hid (∀ (w' : World) (x : Option Addr) (d : Nat), Below w2.heap.size w2 w' → Ints w' x (n + n') (ls ++ ss) → Calls Tryz.prog 84 #[.agg #[.int .i64 wd, .slice a1 n1 c1, .slice a2 n2 c2, .int .i64 tp, .slice a3 n3 c3, .slice a4 n4 c4], .slice ia C ic, .slice oa C oc, .slice x (n + n') d, .slice af nf cf] w' (MadeO w' w1.heap.size PK)) := Lib.hid (fun w' x d hb hx => by
      rw [← HPK.out]
      exact l8All_any wd tp a1 a2 a3 a4 n1 n2 n3 n4 c1 c2 c3 c4 ia oa x af C ic oc (n + n') d nf cf w1.heap.size w1.heap.size irs (tabIn p C) ors (tabOut p C) (ls ++ ss) fr w' (hin.reads.below hb) (hout.below hb) hx ((HBF.out.below hw2).below hb) HTI.out (by rw [HLEN.out]; exact Nat.le_refl _))
    have hws := hw1.size
    have HWS := Lib.hid hws
    have t0 := X2.cell (j := 0) rfl
    have t1 := X2.cell (j := 1) rfl
    have t2 := X2.cell (j := 2) rfl
    have t3 := X2.cell (j := 3) rfl
    have t4 := X2.cell (j := 4) rfl
    have t5 := X2.cell (j := 5) rfl
    clear hin hout hb1 hb2 hw1 hw2 HC HT HB HW X0 X2
    go_wp2_with fail
    have qn : w2.heap.size ≠ k := by omega
    have qn' := qn.symm
    go_region_held3 (fun w' => w'.cell? ⟨k, 0, none⟩ = some (.int .i64 wd) ∧ w'.cell? ⟨k, 1, none⟩ = some (.slice a1 n1 c1) ∧ w'.cell? ⟨k, 2, none⟩ = some (.slice a2 n2 c2) ∧ w'.cell? ⟨k, 3, none⟩ = some (.int .i64 tp) ∧ w'.cell? ⟨k, 4, none⟩ = some (.slice a3 n3 c3) ∧ w'.cell? ⟨k, 5, none⟩ = some (.slice a4 n4 c4)) (first | (refine ⟨?_, ?_, ?_, ?_, ?_, ?_⟩ <;> assumption) | go_keep | (refine ⟨?_, ?_, ?_, ?_, ?_, ?_⟩ <;> go_keep)) (first
      | (refine step_ints _ (by rfl) _ _ (by rfl) w2.heap.size _ 0 0 [] (by rfl) (by first | exact own_emptyB _ _ _ rfl (by omega) | exact own_drew (own_emptyB _ _ _ rfl (by omega)) | exact own_emptyB _ _ _ (by simp) (by omega) | exact own_drew (own_emptyB _ _ _ (by simp) (by omega))) _ n c ls (by rfl) (HI12.out _ (by repeat' (first | exact Below.refl _ _ | refine belA ?_ | refine belN ?_))) (by omega) (by first | (simp; done) | (simp; omega)) ?_; intro a8 k8 w8 x8 y8; have x8 := own_zero x8; rw [Nat.zero_add]
         have hb8 : Below w2.heap.size w2 w8 := belK (by repeat' (first | exact Below.refl _ _ | refine belA ?_ | refine belN ?_)) y8 (by first | (simp; done) | (simp; omega)) (by simp [Value.ownBlock])
         have Y := HX2.out.below hb8 HX2.out.lt
         have u0 := Y.cell (j := 0) rfl
         have u1 := Y.cell (j := 1) rfl
         have u2 := Y.cell (j := 2) rfl
         have u3 := Y.cell (j := 3) rfl
         have u4 := Y.cell (j := 4) rfl
         have u5 := Y.cell (j := 5) rfl
         clear Y y8)
      | (go_at_call 84; refine (HALL.out _ _ _ HB9.out HX9.out).mono ?_; rintro e z1 ⟨pa, pn, pc, prs, rfl, hpo, hz1⟩; have hz := HB9.out.trans (hz1.mono HB9.out.size); have Y := HX2.out.below hz HX2.out.lt; have x0 := Y.cell (j := 0) rfl; have x1 := Y.cell (j := 1) rfl; have x2 := Y.cell (j := 2) rfl; have x3 := Y.cell (j := 3) rfl; have x4 := Y.cell (j := 4) rfl; have x5 := Y.cell (j := 5) rfl; clear Y; have HZ1 := Lib.hid hz; have HPO := Lib.hid hpo; clear hpo hz1 hz)
      | (go_at_call 74; refine (l8Different_any _ _ _ _ _ _ _ _ HPO.out).mono ?_; rintro e z2 ⟨da, dn, dc, drs, rfl, hdo, hz2⟩; have hz := HZ1.out.trans (hz2.mono HZ1.out.size); have Y := HX2.out.below hz HX2.out.lt; have y0 := Y.cell (j := 0) rfl; have y1 := Y.cell (j := 1) rfl; have y2 := Y.cell (j := 2) rfl; have y3 := Y.cell (j := 3) rfl; have y4 := Y.cell (j := 4) rfl; have y5 := Y.cell (j := 5) rfl; clear Y; have HZ2 := Lib.hid hz; have HDO := Lib.hid hdo; clear hdo hz2 hz)
      | (refine step_ints _ (by rfl) _ _ (by rfl) w2.heap.size _ _ _ _ (by rfl) (by first | exact x8 | exact own_drew x8) _ n' c' ss (by rfl) (HI22.out _ (by first | exact hb8 | exact belN hb8)) (by omega) (by have := hb8.size; first | omega | (simp; omega)) ?_; intro a9 k9 w9 x9 y9
         have hb9 : Below w2.heap.size w2 w9 := belK (by first | exact hb8 | exact belN hb8) y9 (by have := hb8.size; first | omega | (simp; omega)) (fun g e => (x8.block g e).1)
         have Y := HX2.out.below hb9 HX2.out.lt
         have v0 := Y.cell (j := 0) rfl
         have v1 := Y.cell (j := 1) rfl
         have v2 := Y.cell (j := 2) rfl
         have v3 := Y.cell (j := 3) rfl
         have v4 := Y.cell (j := 4) rfl
         have v5 := Y.cell (j := 5) rfl
         have HX9 := Lib.hid x9.ints
         have HB9 := Lib.hid hb9
         clear Y x9 y9 hb9))
    have HO := Lib.hid ((HDO.out.base (B' := w.heap.size) (by have := HW2.out.size; have := HZ1.out.size; omega)).ebase (E' := w.heap.size) HWS.out)
    have HF := Lib.hid (HW2.out.trans (HZ2.out.mono HW2.out.size))
    go_wp2
    go_ret
    exact ⟨HF.out, da, dn, dc, drs, rfl, HO.out⟩
end Go.Proofs.YtmooecbdpfhnlaaGreat
