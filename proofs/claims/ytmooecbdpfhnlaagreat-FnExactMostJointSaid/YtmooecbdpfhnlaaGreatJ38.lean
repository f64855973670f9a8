/- Joined texts of this proof (MostMath, BoolAns, SpecMost, FreeMath, ImplOf, ImplReg), in build order. -/
import Derived.Test.YtmooecbdpfhnlaaGreatJ27
import Derived.Test.YtmooecbdpfhnlaaGreatJ14
import Derived.Test.YtmooecbdpfhnlaaGreatJ30
import Derived.Test.YtmooecbdpfhnlaaGreatJ9
import Derived.Test.YtmooecbdpfhnlaaGreatJ37
/- The most outcomes: counted as they come, or for the inputs whose free ones are nought: plain mathematics. -/
namespace Go.Proofs.YtmooecbdpfhnlaaGreat
section
variable {α κ : Type} [DecidableEq α] [DecidableEq κ]
/-- How many there are so far of those that are bound as the i-th one. -/
def runN (key : Nat → κ) (out : Nat → α) (i : Nat) : Nat := (diffL (((List.range (i + 1)).filter (fun j => decide (key j = key i))).map out)).length
def fullN (key : Nat → κ) (out : Nat → α) (C k : Nat) : Nat := (diffL (((List.range C).filter (fun j => decide (key j = key k))).map out)).length
theorem last_like (key : Nat → κ) (x : κ) : ∀ C, (∃ k, k < C ∧ key k = x) → ∃ i, i < C ∧ key i = x ∧ ∀ j, j < C → key j = x → j ≤ i
  | 0, h => by obtain ⟨k, h, _⟩ := h; omega
  | C + 1, h => by
    by_cases hc : key C = x
    · exact ⟨C, by omega, hc, fun j hj _ => by omega⟩
    · obtain ⟨k, hk, he⟩ := h
      have hkC : k < C := by
        rcases Nat.lt_or_ge k C with h | h
        · exact h
        · obtain rfl : k = C := by omega
          exact absurd he hc
      obtain ⟨i, hi, h1, h2⟩ := last_like key x C ⟨k, hkC, he⟩
      refine ⟨i, by omega, h1, fun j hj hx => ?_⟩
      rcases Nat.lt_or_ge j C with h | h
      · exact h2 j h hx
      · obtain rfl : j = C := by omega
        exact absurd hx hc
theorem run_le_full (key : Nat → κ) (out : Nat → α) {C i : Nat} (hi : i < C) : runN key out i ≤ fullN key out C i := by
  refine diffL_len_sub fun x hx => ?_
  obtain ⟨j, hj, rfl⟩ := List.mem_map.1 hx
  obtain ⟨h1, h2⟩ := List.mem_filter.1 hj
  exact List.mem_map.2 ⟨j, List.mem_filter.2 ⟨List.mem_range.2 (by have := List.mem_range.1 h1; omega), h2⟩, rfl⟩
theorem full_congr (key : Nat → κ) (out : Nat → α) (C : Nat) {i k : Nat} (h : key i = key k) : fullN key out C i = fullN key out C k := by
  unfold fullN
  rw [h]
theorem full_run (key : Nat → κ) (out : Nat → α) {C i : Nat} (h : ∀ j, j < C → key j = key i → j ≤ i) : fullN key out C i ≤ runN key out i := by
  refine diffL_len_sub fun x hx => ?_
  obtain ⟨j, hj, rfl⟩ := List.mem_map.1 hx
  obtain ⟨h1, h2⟩ := List.mem_filter.1 hj
  exact List.mem_map.2 ⟨j, List.mem_filter.2 ⟨List.mem_range.2 (by have := h j (List.mem_range.1 h1) (by simpa using h2); omega), h2⟩, rfl⟩
theorem most_alike (key : Nat → κ) (out : Nat → α) (zero : Nat → Bool) (C : Nat) (hz : ∀ i, i < C → ∃ k, k < C ∧ zero k = true ∧ key k = key i) :
    mostTo (runN key out) C = mostTo (fun k => if zero k then fullN key out C k else 0) C := by
  apply Nat.le_antisymm
  · refine mostTo_le C fun i hi => ?_
    obtain ⟨k, hk, h1, h2⟩ := hz i hi
    have h3 := le_mostTo (f := fun k => if zero k then fullN key out C k else 0) C k hk
    simp only [h1, if_true] at h3
    have h4 := run_le_full key out hi
    rw [← full_congr key out C h2] at h4
    omega
  · refine mostTo_le C fun k hk => ?_
    by_cases h1 : zero k = true
    · simp only [h1, if_true]
      obtain ⟨i, hi, h2, h3⟩ := last_like key (key k) C ⟨k, hk, rfl⟩
      have h4 := full_run key out (C := C) (i := i) (fun j hj hx => h3 j hj (by rw [hx, h2]))
      have h5 := le_mostTo (f := runN key out) C i hi
      rw [full_congr key out C h2] at h4
      omega
    · simp [h1]
theorem mostTo_congr {f g : Nat → Nat} : ∀ k, (∀ i, i < k → f i = g i) → mostTo f k = mostTo g k
  | 0, _ => rfl
  | k + 1, h => by rw [mostTo, mostTo, mostTo_congr k (fun i hi => h i (by omega)), h k (by omega)]
end
end Go.Proofs.YtmooecbdpfhnlaaGreat
/- Slices of bools as answers of a law. -/
namespace Go.Proofs.YtmooecbdpfhnlaaGreat
open Go.RowKit

def AnsB (w : World) (bs : List Bool) (e : Ending) (w' : World) : Prop :=
  Below w.heap.size w w' ∧ ∃ s : Sl, e = .returned (slV s) ∧ OwnB w' w.heap.size s.1 s.2.1 s.2.2 bs
end Go.Proofs.YtmooecbdpfhnlaaGreat
/- The contracts of the model's l8Most, MostFor, MostJoint, AllOutcomes, OutcomesOf. -/
namespace Go.Proofs.YtmooecbdpfhnlaaGreat
open Go.RowKit

/-- Are the first j of the free ones nought? -/
def zeroB (L : Nat) (fr : List Bool) (zs : List Int) : Nat → Bool
  | 0 => true
  | j + 1 => zeroB L fr zs j && !(bAt fr j && (zs.getD (L + j) 0 != 0))
/-- How many outcomes there are for the input of number k, where its free ones are nought. -/
noncomputable def freeN (p : Prg) (C L : Nat) (fr : List Bool) (k : Nat) : Nat :=
  if zeroB L fr (intsAt (tabIn p C) k) fr.length then (diffL (pickTo (fun i => fitsB L fr (intsAt (tabIn p C) i) (intsAt (tabIn p C) k)) (tabOut p C) C)).length else 0
theorem tabIn_each (p : Prg) (C i : Nat) (h : i < C) : (intsAt (tabIn p C) i).length = (maxesP p).length := by rw [tabIn_at h, digs_len]
theorem mostTo_small {f : Nat → Nat} {C : Nat} (h : ∀ k, k < C → f k ≤ C) : ∀ k, k ≤ C → mostTo f k ≤ C := fun k hk => mostTo_le k (fun i hi => h i (by omega))
theorem freeN_le (p : Prg) (C L : Nat) (fr : List Bool) (k : Nat) : freeN p C L fr k ≤ C := by
  unfold freeN
  split
  · exact Nat.le_trans (diffL_len _) (pickTo_len _ _ _)
  · exact Nat.zero_le _
set_option maxRecDepth 20000 in
set_option maxHeartbeats 6400000 in
theorem l8Most_any (r : PRow) (p : Prg) (C : Nat) (af : Option Addr) (nf cf : Nat) (fr : List Bool) (w : World) (h : ProgAt w r p) (hz : codeB p = 0) (hC : prodL (maxesP p) = (C : Int)) (hC2 : C ≤ 1024) (hf : Bools w af nf fr) (hnf : nf = p.secrets.length) :
    Calls Tryz.prog 72 #[progV r, .slice af nf cf] w fun e w' => e = .returned (.int .i64 (mostTo (freeN p C p.lows.length fr) C : Nat)) ∧ Below w.heap.size w w' := by
  have hT := Lib.hid (fun (w' : World) (hw : Below w.heap.size w w') => l8Table_any r p C w' (h.below hw) hz hC hC2)
  have HN1 : Hid (r.lows.2.1 = p.lows.length) := Lib.hid h.lows.1.symm
  have hsec := (code_inputs hz).2.1
  have hlow := (code_inputs hz).1
  have HML : Hid ((maxesP p).length = p.lows.length + p.secrets.length) := Lib.hid (maxesP_len p)
  have HFL := Lib.hid hf.1
  have HF := Lib.hid hf
  have HNF := Lib.hid hnf
  clear h hz hC hf hnf
  obtain ⟨wd, ⟨a1, n1, c1⟩, ⟨a2, n2, c2⟩, tp, ⟨a3, n3, c3⟩, ⟨a4, n4, c4⟩, rows⟩ := r
  have HT : Hid (∀ w', Below w.heap.size w w' → Calls Tryz.prog 73 #[.agg #[.int .i64 wd, .slice a1 n1 c1, .slice a2 n2 c2, .int .i64 tp, .slice a3 n3 c3, .slice a4 n4 c4]] w' (Tabled w' p C)) := Lib.hid (fun w' hw => hT.out w' hw)
  simp only [] at HN1
  have hn1 := HN1.out
  have hn13 : n1 ≤ 3 := by omega
  have hnf3 : nf ≤ 3 := by have := HNF.out; omega
  clear hlow hsec
  obtain ⟨F, HFF⟩ : ∃ F : Nat → Nat, Hid (F = freeN p C n1 fr) := ⟨_, rfl⟩
  rw [← hn1, ← HFF.out]
  have HFS : Hid (∀ k, F k ≤ C) := Lib.hid (fun k => by rw [HFF.out]; exact freeN_le p C n1 fr k)
  clear hT hn1
  show Calls Tryz.prog 72 #[.agg #[.int .i64 wd, .slice a1 n1 c1, .slice a2 n2 c2, .int .i64 tp, .slice a3 n3 c3, .slice a4 n4 c4], .slice af nf cf] w _
  obtain ⟨wa, HW⟩ : ∃ wa, Hid (wa = w.alloc (.cells #[.int .i64 wd, .slice a1 n1 c1, .slice a2 n2 c2, .int .i64 tp, .slice a3 n3 c3, .slice a4 n4 c4] 31)) := ⟨_, rfl⟩
  have BX : Blk wa w.heap.size 31 [.int .i64 wd, .slice a1 n1 c1, .slice a2 n2 c2, .int .i64 tp, .slice a3 n3 c3, .slice a4 n4 c4] := by rw [HW.out]; exact Blk.new w _ _
  have HB : Below w.heap.size w wa := by rw [HW.out]; exact belA (Below.refl _ _)
  go_enter Tryz.func72, Tryz.ntmps72
  go_wp2_with fail
  rw [← HW.out]
  refine (HT.out _ HB).mono ?_
  rintro e w1 ⟨hb1, ia, oa, ic, oc, irs, ors, rfl, hin, hout⟩
  have HBW := Lib.hid (HB.trans (hb1.mono HB.size))
  have HX := Lib.hid (BX.below hb1 BX.lt)
  have HIN := Lib.hid hin.reads
  have HOUT := Lib.hid hout
  have HF1 := Lib.hid (HF.out.below HBW.out)
  have HLEN : Hid (∀ i, i < C → (intsAt (tabIn p C) i).length = n1 + nf) := Lib.hid (fun i hi => by rw [tabIn_each p C i hi, HML.out, HN1.out, HNF.out])
  obtain ⟨k0, HK0⟩ : ∃ k, Hid (w.heap.size = k) := ⟨_, rfl⟩
  have HX : Hid (Blk w1 k0 31 [.int .i64 wd, .slice a1 n1 c1, .slice a2 n2 c2, .int .i64 tp, .slice a3 n3 c3, .slice a4 n4 c4]) := Lib.hid (by rw [← HK0.out]; exact HX.out)
  clear HT HW hb1 BX HB hin hout HF
  go_wp2_with fail
  rw [HK0.out]
  go_loopw [7, 8] (fun mv nv wr => ∃ k : Nat, k ≤ C ∧ nv = .int .i64 (k : Int) ∧ mv = .int .i64 ((mostTo F k : Nat) : Int) ∧ Below w1.heap.size w1 wr) (fun _ nv _ => C - (intOf nv).toNat)
  case atStart => exact ⟨0, Nat.zero_le _, rfl, rfl, Below.refl _ _⟩
  case round =>
    obtain ⟨k, hk, rfl, rfl, hbel⟩ := hrel
    obtain ⟨M, HM⟩ : ∃ M : Nat, Hid (mostTo F k = M) := ⟨_, rfl⟩
    rw [HM.out]
    have hM : M ≤ C := by rw [← HM.out]; exact mostTo_small (fun k _ => HFS.out k) k hk
    by_cases hlt : k < C
    case neg =>
      obtain rfl : k = C := by omega
      have HF := Lib.hid (HBW.out.trans (hbel.mono HBW.out.size))
      clear hbel
      go_wp2
      go_ret
      exact ⟨by rw [HM.out]; rfl, HF.out⟩
    have HLK := Lib.hid (HLEN.out k hlt)
    obtain ⟨zs, HZS⟩ : ∃ zs, Hid (intsAt (tabIn p C) k = zs) := ⟨_, rfl⟩
    have HFK : Hid (F k = if zeroB n1 fr zs nf then (diffL (pickTo (fun i => fitsB n1 fr (intsAt (tabIn p C) i) zs) (tabOut p C) C)).length else 0) := Lib.hid (by rw [HFF.out, freeN, HZS.out, HFL.out])
    have HMS : Hid (mostTo F (k + 1) = max M (F k)) := Lib.hid (by rw [mostTo, HM.out])
    rw [HZS.out] at HLK
    have HB1 := Lib.hid hbel
    clear hbel
    go_wp2_with fail
    go_loopw [9, 10] (fun fv jv wr => ∃ j : Nat, j ≤ nf ∧ jv = .int .i64 (j : Int) ∧ fv = .bool (zeroB n1 fr zs j) ∧ Below w1.heap.size w1 wr) (fun _ jv _ => nf - (intOf jv).toNat)
    case atStart => exact ⟨0, Nat.zero_le _, rfl, rfl, HB1.out⟩
    case round =>
      clear HB1
      obtain ⟨j, hj, rfl, rfl, hbel⟩ := hrel
      obtain ⟨zb, HZB⟩ : ∃ zb, Hid (zeroB n1 fr zs j = zb) := ⟨_, rfl⟩
      rw [HZB.out]
      obtain ⟨b, o, a5, n5, c5, rfl, hb, hr5, hc5, hi5⟩ := (HIN.out.below hbel).at_ hlt
      have HN5 : Hid (n5 = n1 + nf) := Lib.hid (by have := hi5.1; rw [HZS.out] at this; have := HLK.out; omega)
      rw [HZS.out] at hi5
      have hX := HX.out.below hbel HX.out.lt
      by_cases hlj : j < nf
      · obtain ⟨b6, o6, f6, rfl, hb6, hf6, hc6⟩ := (HF1.out.below hbel).at_ hlj
        have HD : Hid (∀ q, Below w1.heap.size w1 (wr.drewN q)) := Lib.hid (fun q => hbel.trans ⟨rfl, rfl, rfl, Nat.le_refl _, fun _ _ => rfl⟩)
        have HZN : Hid (zeroB n1 fr zs (j + 1) = (zb && !(f6 && (zs.getD (n1 + j) 0 != 0)))) := Lib.hid (by rw [zeroB, HZB.out, ← hf6.out])
        cases f6 with
        | false =>
          have HE : Hid (zeroB n1 fr zs (j + 1) = zb) := Lib.hid (by rw [HZN.out]; simp)
          clear hX hi5 hr5 hc5 hbel HZN hf6 hb6
          go_wp2
          go_quiet (fail)
          rename_i nq
          have hbf := HD.out nq
          go_wp2
          go_roundw
          case rel => exact ⟨j + 1, by omega, by go_num, by rw [HE.out], hbf⟩
          case measure => simp [intOf]; omega
        | true =>
          obtain ⟨b7, o7, z, rfl, hb7, hz7, _, hc7⟩ := hi5.at_ (show n1 + j < n5 by have := HN5.out; omega)
          obtain ⟨t, HTJ⟩ : ∃ t, Hid (n1 + j = t) := ⟨_, rfl⟩
          rw [HTJ.out] at hc7
          have htl : t < n5 := by have := HTJ.out; have := HN5.out; omega
          have hw1 : IntKind.i64.wrap ((n1 : Int) + (j : Int)) = (t : Int) := by rw [IntKind.wrap_i64]; have := HTJ.out; omega
          have hw2 : wrap64 ((n1 : Int) + (j : Int)) = (t : Int) := by unfold wrap64; have := HTJ.out; omega
          have t1 := hX.cell (j := 1) rfl
          rw [← hz7.out] at HZN
          by_cases hz0 : z = 0
          · subst hz0
            have HE : Hid (zeroB n1 fr zs (j + 1) = zb) := Lib.hid (by rw [HZN.out]; simp)
            clear hX hi5 hr5 hbel HZN hf6 hb6 hb7 hz7
            go_wp2
            go_quiet (fail)
            rename_i nq
            have hbf := HD.out nq
            go_wp2
            go_roundw
            case rel => exact ⟨j + 1, by omega, by go_num, by rw [HE.out], hbf⟩
            case measure => simp [intOf]; omega
          · have hne : (z != 0) = true := by simpa using hz0
            have HE : Hid (zeroB n1 fr zs (j + 1) = false) := Lib.hid (by rw [HZN.out, hne]; simp)
            clear hX hi5 hr5 hbel HZN hf6 hb6 hb7 hz7
            go_wp2
            go_quiet (fail)
            rename_i nq
            have hbf := HD.out nq
            go_wp2
            go_roundw
            case rel => exact ⟨j + 1, by omega, by go_num, by rw [HE.out], hbf⟩
            case measure => simp [intOf]; omega
      · obtain rfl : j = nf := by omega
        rw [HZB.out] at HFK
        cases zb with
        | false =>
          have HE : Hid (mostTo F (k + 1) = M) := Lib.hid (by rw [HMS.out, HFK.out]; simp)
          clear hX hi5 hr5 hc5 hb
          go_wp2
          go_roundw
          case rel => exact ⟨k + 1, by omega, by go_num, by rw [HE.out], hbel⟩
          case measure => simp [intOf]; omega
        | true =>
          have t0 := hX.cell (j := 0) rfl
          have t1 := hX.cell (j := 1) rfl
          have t2 := hX.cell (j := 2) rfl
          have t3 := hX.cell (j := 3) rfl
          have t4 := hX.cell (j := 4) rfl
          have t5 := hX.cell (j := 5) rfl
          have hdw : Below w1.heap.size w1 wr.drew := hbel.trans ⟨rfl, rfl, rfl, Nat.le_refl _, fun _ _ => rfl⟩
          have hbl : b < wr.heap.size := hb
          have HI9 : Hid (∀ w', Below wr.heap.size wr w' → Ints w' a5 n5 zs) := Lib.hid (fun w' hb => hi5.below hb)
          have HALL : Hid (∀ w', Below wr.heap.size wr w' → Calls Tryz.prog 84 #[.agg #[.int .i64 wd, .slice a1 n1 c1, .slice a2 n2 c2, .int .i64 tp, .slice a3 n3 c3, .slice a4 n4 c4], .slice (some ⟨b, o, none⟩) C ic, .slice oa C oc, .slice a5 n5 c5, .slice af j cf] w' (MadeO w' wa.heap.size (pickTo (fun i => fitsB n1 fr (intsAt (tabIn p C) i) zs) (tabOut p C) C))) := Lib.hid (fun w' hb => by
            have hb' := hbel.trans (hb.mono hbel.size)
            exact l8All_any wd tp a1 a2 a3 a4 n1 n2 n3 n4 c1 c2 c3 c4 (some ⟨b, o, none⟩) oa a5 af C ic oc n5 c5 j cf wa.heap.size wa.heap.size irs (tabIn p C) ors (tabOut p C) zs fr w' (HIN.out.below hb') (HOUT.out.below hb') (HI9.out w' hb) (HF1.out.below hb') (fun i hi => by rw [HN5.out]; exact HLEN.out i hi) (by rw [HN5.out]; exact Nat.le_refl _))
          obtain ⟨PK, HPK⟩ : ∃ PK, Hid (pickTo (fun i => fitsB n1 fr (intsAt (tabIn p C) i) zs) (tabOut p C) C = PK) := ⟨_, rfl⟩
          rw [HPK.out] at HALL HFK
          have HFK2 : Hid (F k = (diffL PK).length) := Lib.hid (by rw [HFK.out]; rfl)
          have hdr : Below wr.heap.size wr wr.drew := ⟨rfl, rfl, rfl, Nat.le_refl _, fun _ _ => rfl⟩
          have HDR := Lib.hid hdr
          have HBE := Lib.hid hbel
          have HPL : Hid (PK.length ≤ 1024) := Lib.hid (by rw [← HPK.out]; exact Nat.le_trans (pickTo_len _ _ _) hC2)
          clear hX hi5 hr5 hb hdw hdr HFK HI9 hbel
          go_wp2_with fail
          go_region_held3 (fun w' => w'.cell? ⟨k0, 0, none⟩ = some (.int .i64 wd) ∧ w'.cell? ⟨k0, 1, none⟩ = some (.slice a1 n1 c1) ∧ w'.cell? ⟨k0, 2, none⟩ = some (.slice a2 n2 c2) ∧ w'.cell? ⟨k0, 3, none⟩ = some (.int .i64 tp) ∧ w'.cell? ⟨k0, 4, none⟩ = some (.slice a3 n3 c3) ∧ w'.cell? ⟨k0, 5, none⟩ = some (.slice a4 n4 c4) ∧ w'.cell? ⟨b, o + k, none⟩ = some (.slice a5 n5 c5)) (first | (refine ⟨?_, ?_, ?_, ?_, ?_, ?_, ?_⟩ <;> assumption) | go_keep | (refine ⟨?_, ?_, ?_, ?_, ?_, ?_, ?_⟩ <;> go_keep)) (first
            | (go_at_call 84; refine (HALL.out _ HDR.out).mono ?_; rintro e z1 ⟨pa, pn, pc, prs, rfl, hpo, hz1⟩; have xbb := HDR.out.trans (hz1.mono HDR.out.size); have Y := HX.out.below (HBE.out.trans (xbb.mono HBE.out.size)) HX.out.lt; have x0 := Y.cell (j := 0) rfl; have x1 := Y.cell (j := 1) rfl; have x2 := Y.cell (j := 2) rfl; have x3 := Y.cell (j := 3) rfl; have x4 := Y.cell (j := 4) rfl; have x5 := Y.cell (j := 5) rfl; have x6 := (Below.cell (xbb) hbl).trans hc5; clear Y; have HZ1 := Lib.hid xbb; have HPO := Lib.hid hpo; clear hpo hz1 xbb)
            | (go_at_call 74; refine (l8Different_any _ _ _ _ _ _ _ _ HPO.out).mono ?_; rintro e z2 ⟨da, dn, dc, drs, rfl, hdo, hz2⟩; have ybb := HZ1.out.trans (hz2.mono HZ1.out.size); have Y := HX.out.below (HBE.out.trans (ybb.mono HBE.out.size)) HX.out.lt; have y0 := Y.cell (j := 0) rfl; have y1 := Y.cell (j := 1) rfl; have y2 := Y.cell (j := 2) rfl; have y3 := Y.cell (j := 3) rfl; have y4 := Y.cell (j := 4) rfl; have y5 := Y.cell (j := 5) rfl; have y6 := (Below.cell (ybb) hbl).trans hc5; clear Y; have HZ2 := Lib.hid ybb; have HDN : Hid (dn = (diffL PK).length) := Lib.hid hdo.2.2.1.symm; clear hdo hz2 ybb)
            | (go_at_call 112; refine (l1Max_any _ _ _).mono ?_; rintro e z3 ⟨rfl, rfl⟩; rw [show max (M : Int) (dn : Int) = ((max M dn : Nat) : Int) by omega]))
          have HE : Hid (mostTo F (k + 1) = max M dn) := Lib.hid (by rw [HMS.out, HFK2.out, HDN.out])
          have hbf := HBE.out.trans (HZ2.out.mono HBE.out.size)
          clear x0 x1 x2 x3 x4 x5 x6 y0 y1 y2 y3 y4 y5 y6 t0 t1 t2 t3 t4 t5 HALL HZ1 HZ2 HPO
          go_wp2
          go_roundw
          case rel => exact ⟨k + 1, by omega, by go_num, by rw [HE.out], hbf⟩
          case measure => simp [intOf]; omega
end Go.Proofs.YtmooecbdpfhnlaaGreat
/- The most outcomes over all inputs, as they come and as the model counts them. -/
namespace Go.Proofs.YtmooecbdpfhnlaaGreat
open Go.RowKit

theorem digs_num : ∀ {ms zs : List Int}, (∀ m ∈ ms, 0 ≤ m) → zs.length = ms.length → (∀ i, i < ms.length → 0 ≤ zs.getD i 0 ∧ zs.getD i 0 ≤ ms.getD i 0) → ∃ n : Int, 0 ≤ n ∧ n < prodL ms ∧ digs ms n = zs
  | [], zs, _, hl, _ => ⟨0, by omega, by simp [prodL], by rw [List.eq_nil_of_length_eq_zero hl]; rfl⟩
  | m :: ms, [], _, hl, _ => by simp at hl
  | m :: ms, z :: zs, hm, hl, h => by
    obtain ⟨n, h0, h1, h2⟩ := digs_num (ms := ms) (zs := zs) (fun x hx => hm x (List.mem_cons_of_mem _ hx)) (by simpa using hl) (fun i hi => by simpa using h (i + 1) (by simpa using hi))
    have hz := h 0 (by simp)
    simp only [List.getD_cons_zero] at hz
    have hm0 := hm m List.mem_cons_self
    refine ⟨z + (m + 1) * n, ?_, ?_, ?_⟩
    · have := Int.mul_nonneg (show 0 ≤ m + 1 by omega) h0
      omega
    · rw [prodL]
      have : (m + 1) * (n + 1) ≤ (m + 1) * prodL ms := Int.mul_le_mul_of_nonneg_left (by omega) (by omega)
      rw [Int.mul_add, Int.mul_one] at this
      omega
    · rw [digs, Int.add_mul_emod_self_left, Int.add_mul_ediv_left _ _ (show m + 1 ≠ 0 by omega), Int.emod_eq_of_lt hz.1 (by omega), Int.ediv_eq_zero_of_lt hz.1 (by omega), Int.zero_add, h2]
theorem boundL_idem (fs : List Bool) (zs : List Int) : boundL fs (boundL fs zs) = boundL fs zs := by
  refine ext_getD (by rw [boundL_len]) (fun i _ => ?_)
  rw [boundL_getD, boundL_getD]
  split <;> rfl
theorem zeroB_iff {L : Nat} {fr : List Bool} {zs : List Int} : ∀ n, zeroB L fr zs n = true ↔ ∀ j, j < n → bAt fr j = true → zs.getD (L + j) 0 = 0
  | 0 => by simp [zeroB]
  | n + 1 => by
    rw [zeroB, Bool.and_eq_true, zeroB_iff n]
    constructor
    · rintro ⟨h1, h2⟩ j hj hb
      rcases Nat.lt_or_ge j n with h | h
      · exact h1 j h hb
      · obtain rfl : j = n := by omega
        rw [hb] at h2
        simpa using h2
    · intro h
      refine ⟨fun j hj => h j (by omega), ?_⟩
      have := h n (by omega)
      cases hb : bAt fr n with
      | false => rfl
      | true => rw [this hb]; rfl
theorem pickTo_filter (p : Prg) (C : Nat) (f : Nat → Bool) : ∀ k, k ≤ C → pickTo f (tabOut p C) k = ((List.range k).filter f).map (ocAt p)
  | 0, _ => rfl
  | k + 1, h => by
    rw [pickTo, pickTo_filter p C f k (by omega), List.range_succ, List.filter_append, List.map_append, tabOut_at (show k < C by omega)]
    by_cases hf : f k = true
    · simp [hf]
    · simp [hf]
/-- What is bound of the input of a number. -/
def keyN (p : Prg) (fs : List Bool) (i : Nat) : List Int := boundL fs (digs (maxesP p) (i : Int))
theorem pickTo_congr {f g : Nat → Bool} (os : List Oc) : ∀ k, (∀ i, i < k → f i = g i) → pickTo f os k = pickTo g os k
  | 0, _ => rfl
  | k + 1, h => by rw [pickTo, pickTo, pickTo_congr os k (fun i hi => h i (by omega)), h k (by omega)]
theorem fits_key (p : Prg) (fr : List Bool) (i : Nat) (zs : List Int) (hl : zs.length = (maxesP p).length) : fitsB p.lows.length fr (digs (maxesP p) (i : Int)) zs = decide (keyN p (List.replicate p.lows.length false ++ fr) i = boundL (List.replicate p.lows.length false ++ fr) zs) := by
  have := fits_bound (L := p.lows.length) (fr := fr) (a := digs (maxesP p) (i : Int)) (b := zs) (by rw [digs_len, hl])
  rw [Bool.eq_iff_iff, this, decide_eq_true_iff]
  rfl
theorem freeN_full (p : Prg) (C : Nat) (fr : List Bool) (k : Nat) (hk : k < C) :
    freeN p C p.lows.length fr k = if zeroB p.lows.length fr (digs (maxesP p) (k : Int)) fr.length then fullN (keyN p (List.replicate p.lows.length false ++ fr)) (ocAt p) C k else 0 := by
  rw [freeN, tabIn_at hk]
  have e : pickTo (fun i => fitsB p.lows.length fr (intsAt (tabIn p C) i) (digs (maxesP p) (k : Int))) (tabOut p C) C = ((List.range C).filter (fun j => decide (keyN p (List.replicate p.lows.length false ++ fr) j = keyN p (List.replicate p.lows.length false ++ fr) k))).map (ocAt p) := by
    rw [← pickTo_filter p C _ C (Nat.le_refl _)]
    refine pickTo_congr _ _ (fun i hi => ?_)
    rw [tabIn_at hi, fits_key p fr i _ (digs_len _ _)]
    rfl
  rw [e]
  rfl
/-- As they come, or as the model counts them. -/
theorem most_free (p : Prg) (C : Nat) (fr : List Bool) (hz : codeB p = 0) (hC : prodL (maxesP p) = (C : Int)) (_hl : fr.length = p.secrets.length) :
    mostTo (runN (keyN p (List.replicate p.lows.length false ++ fr)) (ocAt p)) C = mostTo (freeN p C p.lows.length fr) C := by
  rw [mostTo_congr (f := freeN p C p.lows.length fr) C (fun k hk => freeN_full p C fr k hk)]
  refine most_alike _ _ (fun k => zeroB p.lows.length fr (digs (maxesP p) (k : Int)) fr.length) C (fun i hi => ?_)
  have hm : ∀ m ∈ maxesP p, 0 ≤ m := fun m h => (wide_of_max hz m h).1
  obtain ⟨n, h0, h1, h2⟩ := digs_num (ms := maxesP p) (zs := keyN p (List.replicate p.lows.length false ++ fr) i) hm (by rw [keyN, boundL_len, digs_len]) (fun j hj => by
    have hd := digs_le hm (i : Int) j hj
    rw [keyN, boundL_getD]
    split
    · exact ⟨by omega, by omega⟩
    · exact hd)
  have hn : ((n.toNat : Nat) : Int) = n := by omega
  refine ⟨n.toNat, by omega, ?_, ?_⟩
  · rw [zeroB_iff, hn, h2, keyN]
    intro j hj hb
    rw [boundL_getD, all_getD]
    have : fr.getD (p.lows.length + j - p.lows.length) false = true := by rw [Nat.add_sub_cancel_left]; exact hb
    rw [this]
    simp
  · rw [keyN, hn, h2, keyN, boundL_idem]
end Go.Proofs.YtmooecbdpfhnlaaGreat
/- The contract of the program's OutcomesOf. -/
namespace Go.Proofs.YtmooecbdpfhnlaaGreat
open Go.RowKit Go.Shelf
attribute [local go_sem] Oper.semAt_some

theorem ownsRow_turn {D : Nat → Prop} {w w' : World} {B t size n : Nat} {v : Value} {xs : List Value} (h : w.ownsRow B t size v n xs) (hs : Turn D w w') (hv : ∀ g, v.ownBlock = some g → ¬ D g) : w'.ownsRow B t size v n xs := by
  refine ⟨h.1, ?_⟩
  rcases h.2 with hn | ⟨g, cap, cur, hv', hb, hg, rest⟩
  · exact .inl hn
  · exact .inr ⟨g, cap, cur, hv', hb, (hs.block g (Array.getElem?_eq_some_iff.1 hg).1 (hv g (by rw [hv']; rfl))).trans hg, rest⟩
theorem OwnB.turn {D : Nat → Prop} {w w' : World} {B n c : Nat} {a : Option Addr} {bs : List Bool} (h : OwnB w B a n c bs) (hs : Turn D w w') (hv : ∀ g, (Value.slice a n c).ownBlock = some g → ¬ D g) : OwnB w' B a n c bs := ⟨ownsRow_turn h.1 hs hv, h.2⟩
/-- The different outcomes of the inputs that are bound so. -/
noncomputable def selO (p : Prg) (f : Nat → Bool) (ks : List Nat) : List Oc := diffL ((ks.filter f).map (ocAt p))
/-- Between two rounds. -/
def GoSel (W0 : World) (h1 : Nat) (p : Prg) (f : Nat → Bool) (m : Nat) (pre : List EIn) (W : World) : Prop :=
  (∀ x ∈ pre, (x.k : Int) < prodL (maxesP p)) ∧ m ≤ W.heap.size ∧ W0.heap.size ≤ m ∧ Turn (DD h1 W0.heap.size) W0 W ∧ SetW W (DD h1 m) m W.heap.size (h1 + 1) (selO p f (pre.map EIn.k))
theorem GoSel.span {W0 A B : World} {h1 m : Nat} {p : Prg} {f : Nat → Bool} {pre : List EIn} (h : GoSel W0 h1 p f m pre A) (hs : Span W0.heap.size m A B) (hh : h1 + 1 < W0.heap.size) : GoSel W0 h1 p f m pre B := by
  obtain ⟨q1, q2, q3, q4, q5⟩ := h
  refine ⟨q1, Nat.le_trans q2 hs.size, q3, q4.trans (Turn.of_span hs (fun i h1 _ => .inr (.inr h1))), (q5.turn (Turn.of_span (D := fun i => W0.heap.size ≤ i ∧ i < m) hs (fun i h1 h2 => ⟨h1, h2⟩)) ?_ ?_).up hs.size⟩
  · rintro i (h | h | h) ⟨g1, g2⟩ <;> omega
  · rintro i h _ ⟨g1, g2⟩; omega
theorem selO_snoc (p : Prg) (f : Nat → Bool) (pre : List EIn) (x : EIn) : selO p f ((pre ++ [x]).map EIn.k) = if f x.k then addNew (selO p f (pre.map EIn.k)) (ocAt p x.k) else selO p f (pre.map EIn.k) := by
  unfold selO
  rw [List.map_append, List.filter_append, List.map_append]
  by_cases h : f x.k = true
  · simp [h, diffL_snoc]
  · simp [h]
theorem GoSel.step {W0 A B : World} {h1 m : Nat} {p : Prg} {f : Nat → Bool} {pre : List EIn} {x : EIn} (h : GoSel W0 h1 p f m pre A) (hx : (x.k : Int) < prodL (maxesP p)) (hh : h1 + 1 < W0.heap.size) (hs : SetW B (DD h1 m) m B.heap.size (h1 + 1) (selO p f ((pre ++ [x]).map EIn.k))) (ht : Turn (DD h1 m) A B) :
    A.heap.size ≤ B.heap.size ∧ Stay W0.heap.size m A B ∧ GoSel W0 h1 p f m (pre ++ [x]) B := by
  obtain ⟨q1, q2, q3, q4, q5⟩ := h
  refine ⟨ht.size, fun i g1 g2 => ht.block i (by omega) (by rintro (h | h | h) <;> omega), ?_, Nat.le_trans q2 ht.size, q3, q4.trans (ht.mono (fun i h => ?_)), hs⟩
  · intro y hy
    rcases List.mem_append.1 hy with hy | hy
    · exact q1 y hy
    · rw [List.mem_singleton] at hy; subst hy; exact hx
  · rcases h with h | h | h
    · exact .inl h
    · exact .inr (.inl h)
    · exact .inr (.inr (by omega))
theorem GoSel.few {W0 A : World} {h1 m : Nat} {p : Prg} {f : Nat → Bool} {pre : List EIn} (h : GoSel W0 h1 p f m pre A) (hz : codeB p = 0) : (selO p f (pre.map EIn.k)).length ≤ 100000 := by
  have h1024 := prod_bits hz
  have hs : ∀ o ∈ selO p f (pre.map EIn.k), o ∈ tabOut p (prodL (maxesP p)).toNat := by
    intro o ho
    obtain ⟨k, hk, rfl⟩ := List.mem_map.1 ((mem_diffL _).1 ho)
    obtain ⟨x, hx, rfl⟩ := List.mem_map.1 (List.mem_filter.1 hk).1
    exact List.mem_map.2 ⟨x.k, List.mem_range.2 (by have := h.1 x hx; omega), rfl⟩
  have := nodup_sub_len (diffL_nodup _) hs
  rw [tabOut, List.length_map, List.length_range] at this
  have hl : (selO p f (pre.map EIn.k)).length ≤ (prodL (maxesP p)).toNat := this
  omega
/-- A round that passes its input over: only new blocks. -/
theorem GoSel.pass {W0 A B : World} {h1 m : Nat} {p : Prg} {f : Nat → Bool} {pre : List EIn} {x : EIn} (h : GoSel W0 h1 p f m pre A) (hx : (x.k : Int) < prodL (maxesP p)) (hh : h1 + 1 < W0.heap.size) (hb : Below A.heap.size A B) (hf : f x.k = false) :
    A.heap.size ≤ B.heap.size ∧ Stay W0.heap.size m A B ∧ GoSel W0 h1 p f m (pre ++ [x]) B := by
  refine h.step hx hh ?_ (Turn.of_below hb)
  rw [selO_snoc, hf]
  exact (h.2.2.2.2.below hb).up hb.size
theorem goSel_round {W0 W W1 : World} {h1 m g : Nat} {p : Prg} {f : Nat → Bool} {pre : List EIn} {x : EIn} {r : PRow} (HG : GoSel W0 h1 p f m pre W) (hb : Below W.heap.size W W1) (hh : h1 + 1 < W0.heap.size) (hp : ProgAt W1 r p) (hcap : r.body.2.1 ≤ r.body.2.2) (hz : codeB p = 0)
    (hx : infoE (maxesP p) (maxesP p).length (W0.heap.size + 2) m x W) (hg : x.a = some ⟨g, 0, none⟩) (hf : f x.k = true) :
    Calls Tryz.prog 62 #[.pointer (some ⟨h1 + 1, 0, none⟩), progV r, .slice (some ⟨g, 0, none⟩) (maxesP p).length x.c] W1 fun e w' => e = .returned (.tuple #[]) ∧ W.heap.size ≤ w'.heap.size ∧ Stay W0.heap.size m W w' ∧ GoSel W0 h1 p f m (pre ++ [x]) w' := by
  have hok : atOk p (x.k : Int) = true := by
    have := hx.2.2.1
    simp [atOk, hz, this]
  have hD : ∀ i, W1.heap.size ≤ i → DD h1 m i := fun i hi => Or.inr (Or.inr (Nat.le_trans HG.2.1 (Nat.le_trans hb.size hi)))
  have hs := at_start hok
  have e1 : atL p (x.k : Int) = (digs (maxesP p) (x.k : Int)).take p.lows.length := by rw [atL, if_pos hok]
  have e2 : atS p (x.k : Int) = (digs (maxesP p) (x.k : Int)).drop p.lows.length := by rw [atS, if_pos hok]
  have hi : Ints W1 (some ⟨g, 0, none⟩) (maxesP p).length (digs (maxesP p) (x.k : Int)) := by rw [← hg]; exact hx.1.ints.below hb
  rw [e1, e2] at hs
  have hset := (HG.2.2.2.2.below hb).up hb.size
  have hmW : m ≤ W1.heap.size := Nat.le_trans HG.2.1 hb.size
  have hxc : (maxesP p).length ≤ x.c := hx.1.cap
  have hll : p.lows.length ≤ (maxesP p).length := by rw [maxesP_len]; omega
  have hfew := HG.few hz
  obtain ⟨os, hos⟩ : ∃ os, selO p f (pre.map EIn.k) = os := ⟨_, rfl⟩
  obtain ⟨zs, hzs⟩ : ∃ zs, digs (maxesP p) (x.k : Int) = zs := ⟨_, rfl⟩
  rw [hos] at hset hfew
  rw [hzs] at hs hi e1 e2
  have hadd := addRun_any W1 (DD h1 m) m W1.heap.size (h1 + 1) os r p g (maxesP p).length x.c zs hset hD hmW hp hcap hi hxc hll hs hfew
  refine hadd.mono ?_
  rintro e w' ⟨rfl, h2, h3⟩
  rw [← e1, ← e2, ← hos] at h2
  exact ⟨rfl, HG.step hx.2.2.1 hh (by rw [selO_snoc, hf]; exact h2) ((Turn.of_below hb).trans h3)⟩
/-- What OutcomesOf tells. -/
noncomputable def ofO (p : Prg) (ls ss : List Int) (fr : List Bool) : List Oc :=
  if (startB p ls ss && decide (fr.length = p.secrets.length)) = true then selO p (fun k => decide (keyN p (List.replicate p.lows.length false ++ fr) k = boundL (List.replicate p.lows.length false ++ fr) (ls ++ ss))) (List.range (prodL (maxesP p)).toNat) else []
theorem key_str (p : Prg) {fs : List Bool} {i : Nat} {zs : List Int} (hz : codeB p = 0) (hi : ∀ z ∈ zs, 0 ≤ z ∧ z ≤ 255) : (strOfNums (boundL fs (digs (maxesP p) (i : Int))) == strOfNums (boundL fs zs)) = decide (keyN p fs i = boundL fs zs) := by
  rw [bytes_beq, Bool.eq_iff_iff, decide_eq_true_iff, decide_eq_true_iff]
  constructor
  · exact fun h => str_inj (bound_mem (by omega) (digs_in _ (wide_of_max hz))) (bound_mem (by omega) hi) h
  · exact fun h => by rw [← h]; rfl
set_option maxRecDepth 100000 in
set_option maxHeartbeats 4000000 in
theorem implOutcomesOf_no (r : PRow) (p : Prg) (a a' af : Option Addr) (n c n' c' nf cf : Nat) (ls ss : List Int) (fr : List Bool) (w : World) (h : ProgAt w r p) (hcap : r.body.2.1 ≤ r.body.2.2) (h1 : Ints w a n ls) (h2 : Ints w a' n' ss) (_hf : Bools w af nf fr) (hno : (startB p ls ss && decide (nf = n')) = false) :
    Calls Tryz.prog 18 #[progV r, .slice a n c, .slice a' n' c', .slice af nf cf] w fun e w' => e = .returned (.slice none 0 0) ∧ Below w.heap.size w w' := by
  have HP := Lib.hid h
  have HI1 := Lib.hid h1
  have HI2 := Lib.hid h2
  have HCAP := Lib.hid hcap
  clear h h1 h2 hcap
  obtain ⟨s, HS⟩ : ∃ s, Hid (startB p ls ss = s) := ⟨_, rfl⟩
  rw [HS.out] at hno
  have HNO := Lib.hid hno
  clear hno
  obtain ⟨wd, ⟨a1, n1, c1⟩, ⟨a2, n2, c2⟩, tp, ⟨a3, n3, c3⟩, ⟨a4, n4, c4⟩, rows⟩ := r
  show Calls Tryz.prog 18 #[.agg #[.int .i64 wd, .slice a1 n1 c1, .slice a2 n2 c2, .int .i64 tp, .slice a3 n3 c3, .slice a4 n4 c4], .slice a n c, .slice a' n' c', .slice af nf cf] w _
  obtain ⟨wa, HW⟩ : ∃ wa, Hid (wa = w.alloc (.cells #[.int .i64 wd, .slice a1 n1 c1, .slice a2 n2 c2, .int .i64 tp, .slice a3 n3 c3, .slice a4 n4 c4] 31)) := ⟨_, rfl⟩
  have B0 : Blk wa w.heap.size 31 [.int .i64 wd, .slice a1 n1 c1, .slice a2 n2 c2, .int .i64 tp, .slice a3 n3 c3, .slice a4 n4 c4] := by rw [HW.out]; exact Blk.new w _ _
  have HB : Below w.heap.size w wa := by rw [HW.out]; exact belA (Below.refl _ _)
  have t0 := B0.cell (j := 0) rfl
  have t1 := B0.cell (j := 1) rfl
  have t2 := B0.cell (j := 2) rfl
  have t3 := B0.cell (j := 3) rfl
  have t4 := B0.cell (j := 4) rfl
  have t5 := B0.cell (j := 5) rfl
  rw [HW.out] at t0 t1 t2 t3 t4 t5
  go_enter Tryz.func18, Tryz.ntmps18
  go_wp2_with fail
  rw [← HW.out]
  refine (implStartOf_ans ⟨wd, (a1, n1, c1), (a2, n2, c2), tp, (a3, n3, c3), (a4, n4, c4), rows⟩ p a a' n c n' c' ls ss _ (HP.out.below HB) HCAP.out (HI1.out.below HB) (HI2.out.below HB)).mono ?_
  rintro e w1 ⟨hb1, ⟨⟨va, vn, vc⟩, ⟨ca, cn, cc⟩, rws⟩, rfl, _⟩
  simp only [envV, slV, HS.out]
  have HF := Lib.hid (HB.trans ((hb1.trans (((Below.refl w1.heap.size w1).alloc (Nat.le_refl _) (.cells #[.slice va vn vc, .slice ca cn cc] 90)).mono hb1.size)).mono HB.size))
  clear t0 t1 t2 t3 t4 t5 B0 HB hb1
  cases s with
  | false =>
    go_wp2
    go_ret
    exact ⟨rfl, HF.out⟩
  | true =>
    have hne : ((nf : Int) != (n' : Int)) = true := by have := HNO.out; simp at this; simp; omega
    go_wp2
    go_ret
    exact ⟨rfl, HF.out⟩
end Go.Proofs.YtmooecbdpfhnlaaGreat
/- Many sets of outcomes at once, by what is bound: a map from keys to sets; each set's blocks are its own. -/
namespace Go.Proofs.YtmooecbdpfhnlaaGreat
open Go.RowKit Go.Shelf

/-- None of these blocks is a row of numbers. -/
def NoInt (w : World) (D : Nat → Prop) : Prop := ∀ i, D i → ∀ c f, w.heap[i]? ≠ some (.cells c 2 f)
theorem NoInt.own {w : World} {D : Nat → Prop} (h : NoInt w D) {B : Nat} {a : Option Addr} {n c : Nat} {zs : List Int} (ho : Own w B a n c zs) {g : Nat} (hg : (Value.slice a n c).ownBlock = some g) : ¬ D g := by
  intro hd
  obtain ⟨c1, f1, h1⟩ := Go.Lib.ownsRow_kind ho.1 g hg
  exact h g hd _ _ h1
theorem SetW.widen {w : World} {D D' : Nat → Prop} {B N k : Nat} {os : List Oc} (h : SetW w D B N k os) (hD : ∀ i, D i → D' i) : SetW w D' B N k os := by
  obtain ⟨m, a, n, c, rs, h1, h2, h3, h4, h5, h6, h7, h8, h9⟩ := h
  exact ⟨m, a, n, c, rs, h1, hD _ h2, h3, hD _ h4, h5, fun g hg => hD _ (h6 g hg), h7, h8, h9⟩
/-- A set's own blocks alone. -/
theorem SetW.tight {w : World} {D : Nat → Prop} {B N k : Nat} {os : List Oc} (h : SetW w D B N k os) : ∃ D', (∀ i, D' i → D i ∧ i < w.heap.size) ∧ NoInt w D' ∧ SetW w D' B N k os := by
  obtain ⟨m, a, n, c, rs, h1, h2, h3, h4, h5, h6, h7, h8, h9⟩ := h
  refine ⟨fun i => i = k ∨ i = m ∨ (Value.slice a n c).ownBlock = some i, ?_, ?_, ⟨m, a, n, c, rs, h1, .inl rfl, h3, .inr (.inl rfl), h5, fun g hg => .inr (.inr hg), h7, h8, h9⟩⟩
  · rintro i (rfl | rfl | hi)
    · exact ⟨h2, h1.lt⟩
    · exact ⟨h4, h3.lt⟩
    · exact ⟨h6 i hi, (h5.block i hi).2⟩
  · rintro i (rfl | rfl | hi) c1 f1 e
    · rw [show w.heap[i]? = _ from h1] at e
      injection e with e
      injection e with _ e _
      exact absurd e (by decide)
    · obtain ⟨es, cl, e2, _⟩ := h3
      rw [e2] at e
      cases e
    · obtain ⟨c2, f2, e2⟩ := Go.Lib.ownsRow_kind h5.1 i hi
      rw [e2] at e
      injection e with e
      injection e with _ e _
      exact absurd e (by decide)
/-- Another set turns. -/
theorem SetW.other {w w' : World} {D D' : Nat → Prop} {B N k : Nat} {os : List Oc} (h : SetW w D B N k os) (hd : ∀ i, D i → i < w.heap.size ∧ ¬ D' i) (hn : NoInt w D') (ht : Turn (fun i => D' i ∨ w.heap.size ≤ i) w w') : SetW w' D B N k os := by
  obtain ⟨m, a, n, c, rs, h1, h2, h3, h4, h5, h6, h7, h8, h9⟩ := h
  have hm := h3.lt
  obtain ⟨es, cl, e1, e2, e3⟩ := h3
  have hk : ∀ i, i < w.heap.size → ¬ D' i → w'.heap[i]? = w.heap[i]? := fun i hi hd' => ht.block i hi (fun hh => hh.elim hd' (fun hh => by omega))
  refine ⟨m, a, n, c, rs, (hk k h1.lt (hd k h2).2).trans h1, h2, ⟨es, cl, (hk m hm (hd m h4).2).trans e1, e2, e3⟩, h4, ?_, h6, h7, h8, h9⟩
  refine ⟨⟨h5.1.1, ?_⟩, h5.2.1, h5.2.2.1, fun i hi => ?_⟩
  · rcases h5.1.2 with hn' | ⟨g, cap, cur, e, hb, hg, r⟩
    · exact .inl hn'
    · have hog : (Value.slice a n c).ownBlock = some g := by rw [e]; rfl
      exact .inr ⟨g, cap, cur, e, hb, (hk g (h5.block g hog).2 (hd g (h6 g hog)).2).trans hg, r⟩
  · obtain ⟨q1, q2, q3, q4, q5⟩ := h5.2.2.2 i hi
    refine ⟨q1, q2, q3, q4, ⟨⟨q5.1.1, ?_⟩, q5.2⟩⟩
    rcases q5.1.2 with hn' | ⟨g, cap, cur, e, hb, hg, r⟩
    · exact .inl hn'
    · have ho : (slV (rAt rs i).vals).ownBlock = some g := by rw [slV, e]; rfl
      exact .inr ⟨g, cap, cur, e, hb, (hk g (q5.block g ho).2 (hn.own q5 ho)).trans hg, r⟩
/-- The sets by their keys. -/
structure Reg (W : World) (mb m : Nat) (p : Prg) (fs : List Bool) (ks : List Nat) (es : List (List Int × Nat)) (Ds : Nat → Nat → Prop) : Prop where
  map : MapW W mb ((es.map fun e => strOfNums e.1).map Value.string) (es.map fun e => .pointer (some ⟨e.2, 0, none⟩))
  bytes : ∀ e ∈ es, ∀ z ∈ e.1, 0 ≤ z ∧ z ≤ 255
  nodup : (es.map fun e => e.1).Nodup
  has : ∀ k ∈ ks, keyN p fs k ∈ es.map fun e => e.1
  sets : ∀ j κ b, es[j]? = some (κ, b) → SetW W (Ds j) m W.heap.size b (selO p (fun k => decide (keyN p fs k = κ)) ks) ∧ NoInt W (Ds j) ∧ ∀ i, Ds j i → m ≤ i ∧ i < W.heap.size
  apart : ∀ i j, i < es.length → j < es.length → i ≠ j → ∀ x, Ds i x → ¬ Ds j x
theorem nodup_at {α : Type} {l : List α} (h : l.Nodup) {i j : Nat} {x : α} (hi : l[i]? = some x) (hj : l[j]? = some x) : i = j := by
  obtain ⟨h1, e1⟩ := List.getElem?_eq_some_iff.1 hi
  obtain ⟨h2, e2⟩ := List.getElem?_eq_some_iff.1 hj
  have hp := List.pairwise_iff_getElem.1 h
  rcases Nat.lt_trichotomy i j with hlt | rfl | hlt
  · exact absurd (e1.trans e2.symm) (hp i j h1 h2 hlt)
  · rfl
  · exact absurd (e2.trans e1.symm) (hp j i h2 h1 hlt)
theorem zero_set (w : World) : (zeroValue 96).run Tryz.prog w = .ok (.pointer none) w := by kernel_rfl
section
variable {W W' : World} {mb m : Nat} {p : Prg} {fs : List Bool} {ks : List Nat} {es : List (List Int × Nat)} {Ds : Nat → Nat → Prop}
/-- A look-up. -/
theorem Reg.find (h : Reg W mb m p fs ks es Ds) (κ : List Int) (hκ : ∀ z ∈ κ, 0 ≤ z ∧ z ≤ 255) :
    ∃ v, (Instr.lookup 150 (.map (some mb)) (.string (strOfNums κ)) false).run Tryz.prog W = .ok v W ∧
      ((κ ∉ (es.map fun e => e.1) ∧ v = .pointer none) ∨ ∃ (j b : Nat), es[j]? = some (κ, b) ∧ v = .pointer (some ⟨b, 0, none⟩)) := by
  obtain ⟨v, hr, hv⟩ := h.map.lookup keyLaw_str (t := 150) Tryz.underlying150 (.pointer none) (zero_set W) (strOfNums κ)
  refine ⟨v, hr, ?_⟩
  rcases hv with ⟨hn, rfl⟩ | ⟨j, h1, h2⟩
  · refine .inl ⟨fun hm => hn ?_, rfl⟩
    obtain ⟨e, he, rfl⟩ := List.mem_map.1 hm
    exact List.mem_map.2 ⟨e, he, rfl⟩
  · rw [List.getElem?_map] at h1 h2
    cases he : es[j]? with
    | none => rw [he] at h1; cases h1
    | some e =>
      rw [he] at h1 h2
      simp only [Option.map_some, Option.some.injEq] at h1 h2
      have := str_inj (h.bytes e (List.mem_of_getElem? he)) hκ h1
      subst this
      exact .inr ⟨j, e.2, by rw [he], h2.symm⟩
/-- What turns elsewhere: new blocks alone, or what lies below. -/
theorem Reg.keep {D' : Nat → Prop} (h : Reg W mb m p fs ks es Ds) (ht : Turn D' W W') (hm : ¬ D' mb) (hd : ∀ i, m ≤ i → i < W.heap.size → ¬ D' i) : Reg W' mb m p fs ks es Ds := by
  have hml := h.map.lt
  obtain ⟨es', cl, e1, e2, e3⟩ := h.map
  refine ⟨⟨es', cl, (ht.block mb hml hm).trans e1, e2, e3⟩, h.bytes, h.nodup, h.has, fun j κ b hj => ?_, h.apart⟩
  obtain ⟨s1, s2, s3⟩ := h.sets j κ b hj
  refine ⟨(s1.turn ht (fun i hi => hd i (s3 i hi).1 (s3 i hi).2) (fun i h1 h2 => hd i h1 h2)).up ht.size, fun i hi c f e => s2 i hi c f ?_, fun i hi => ⟨(s3 i hi).1, Nat.lt_of_lt_of_le (s3 i hi).2 ht.size⟩⟩
  rw [← e]
  exact (ht.block i (s3 i hi).2 (hd i (s3 i hi).1 (s3 i hi).2)).symm
theorem selO_nil (p : Prg) {f : Nat → Bool} {ks : List Nat} (h : ∀ k ∈ ks, f k = false) : selO p f ks = [] := by
  unfold selO
  rw [List.filter_eq_nil_iff.2 (fun k hk => by rw [h k hk]; simp)]
  rfl
/-- A new set. -/
theorem Reg.fresh {b : Nat} {κ : List Int} {D : Nat → Prop} (h : Reg W mb m p fs ks es Ds) (hκ : ∀ z ∈ κ, 0 ≤ z ∧ z ≤ 255) (hn : κ ∉ es.map fun e => e.1)
    (hmap : MapW W' mb (((es.map fun e => strOfNums e.1) ++ [strOfNums κ]).map Value.string) ((es.map fun e => (.pointer (some ⟨e.2, 0, none⟩) : Value)) ++ [.pointer (some ⟨b, 0, none⟩)])) (ht : Turn (fun i => i = mb) W W') (hmb : mb < m)
    (hs : SetW W' D m W'.heap.size b []) (hi : NoInt W' D) (hD : ∀ i, D i → W.heap.size ≤ i ∧ i < W'.heap.size) (hm : m ≤ W.heap.size) : Reg W' mb m p fs ks (es ++ [(κ, b)]) (fun j => if j = es.length then D else Ds j) := by
  refine ⟨by simpa using hmap, fun e he => ?_, ?_, fun k hk => ?_, fun j κ' b' hj => ?_, fun i j hi' hj' hij x => ?_⟩
  · rcases List.mem_append.1 he with he | he
    · exact h.bytes e he
    · rw [List.mem_singleton] at he; subst he; exact hκ
  · rw [List.map_append, List.nodup_append]
    refine ⟨h.nodup, by simp, fun a ha b hb => ?_⟩
    have : b = κ := by simpa using hb
    subst this
    exact fun e => hn (e ▸ ha)
  · rw [List.map_append]; exact List.mem_append_left _ (h.has k hk)
  · by_cases e : j = es.length
    · subst e
      rw [List.getElem?_append_right (Nat.le_refl _), Nat.sub_self] at hj
      simp only [List.getElem?_cons_zero, Option.some.injEq, Prod.mk.injEq] at hj
      obtain ⟨rfl, rfl⟩ := hj
      simp only [if_true]
      rw [selO_nil p (fun k hk => decide_eq_false (fun e => hn (by rw [← e]; exact h.has k hk)))]
      exact ⟨hs, hi, fun i hi => ⟨Nat.le_trans hm (hD i hi).1, (hD i hi).2⟩⟩
    · have hjl : j < es.length := by
        have := (List.getElem?_eq_some_iff.1 hj).1
        simp at this; omega
      rw [List.getElem?_append_left hjl] at hj
      obtain ⟨s1, s2, s3⟩ := h.sets j κ' b' hj
      simp only [if_neg e]
      refine ⟨(s1.turn ht (fun i hi e => by have := (s3 i hi).1; omega) (fun i h1 _ e => by omega)).up ht.size, fun i hi c f e => s2 i hi c f ?_, fun i hi => ⟨(s3 i hi).1, Nat.lt_of_lt_of_le (s3 i hi).2 ht.size⟩⟩
      rw [← e]
      exact (ht.block i (s3 i hi).2 (fun e => by have := (s3 i hi).1; omega)).symm
  · simp only [List.length_append, List.length_singleton] at hi' hj'
    have low : ∀ q, q < es.length → ∀ x, Ds q x → x < W.heap.size := fun q hq x hx => by
      have : es[q]? = some (es[q].1, es[q].2) := by rw [List.getElem?_eq_getElem hq]
      exact ((h.sets q _ _ this).2.2 x hx).2
    by_cases e1 : i = es.length
    · rw [if_pos e1, if_neg (by omega)]
      intro hx hx'
      have := low j (by omega) x hx'
      have := (hD x hx).1
      omega
    · rw [if_neg e1]
      by_cases e2 : j = es.length
      · rw [if_pos e2]
        intro hx hx'
        have := low i (by omega) x hx
        have := (hD x hx').1
        omega
      · rw [if_neg e2]
        exact h.apart i j (by omega) (by omega) hij x
/-- One of them has an outcome more. -/
theorem Reg.more {j b k : Nat} {κ : List Int} (h : Reg W mb m p fs ks es Ds) (hj : es[j]? = some (κ, b)) (hk : keyN p fs k = κ) (hm : m ≤ W.heap.size) (hmb : mb < m)
    (hs : SetW W' (fun i => Ds j i ∨ W.heap.size ≤ i) m W'.heap.size b (addNew (selO p (fun k => decide (keyN p fs k = κ)) ks) (ocAt p k))) (ht : Turn (fun i => Ds j i ∨ W.heap.size ≤ i) W W') : ∃ Ds', Reg W' mb m p fs (ks ++ [k]) es Ds' := by
  obtain ⟨D', d1, d2, d3⟩ := hs.tight
  obtain ⟨s1, s2, s3⟩ := h.sets j κ b hj
  have hjl : j < es.length := (List.getElem?_eq_some_iff.1 hj).1
  have hmbD : ¬ (Ds j mb ∨ W.heap.size ≤ mb) := by
    rintro (hh | hh)
    · have := (s3 mb hh).1; omega
    · omega
  have hml := h.map.lt
  obtain ⟨es', cl, e1, e2, e3⟩ := h.map
  have snoc : ∀ κ', selO p (fun k => decide (keyN p fs k = κ')) (ks ++ [k]) = if keyN p fs k = κ' then addNew (selO p (fun k => decide (keyN p fs k = κ')) ks) (ocAt p k) else selO p (fun k => decide (keyN p fs k = κ')) ks := fun κ' => by
    unfold selO
    rw [List.filter_append, List.map_append]
    by_cases hh : keyN p fs k = κ'
    · simp [hh, diffL_snoc]
    · simp [hh]
  refine ⟨fun i => if i = j then D' else Ds i, ⟨es', cl, (ht.block mb hml hmbD).trans e1, e2, e3⟩, h.bytes, h.nodup, fun k' hk' => ?_, fun i κ' b' hi => ?_, fun i i' hi hi' hii x => ?_⟩
  · rcases List.mem_append.1 hk' with hk' | hk'
    · exact h.has k' hk'
    · rw [List.mem_singleton] at hk'
      subst hk'
      rw [hk]
      exact List.mem_map.2 ⟨(κ, b), List.mem_of_getElem? hj, rfl⟩
  · by_cases e : i = j
    · subst e
      rw [hj] at hi
      simp only [Option.some.injEq, Prod.mk.injEq] at hi
      obtain ⟨rfl, rfl⟩ := hi
      simp only [if_true]
      rw [snoc, if_pos hk]
      refine ⟨d3, d2, fun x hx => ⟨?_, (d1 x hx).2⟩⟩
      rcases (d1 x hx).1 with hh | hh
      · exact (s3 x hh).1
      · omega
    · have hil : i < es.length := (List.getElem?_eq_some_iff.1 hi).1
      obtain ⟨r1, r2, r3⟩ := h.sets i κ' b' hi
      have hne : keyN p fs k ≠ κ' := fun hh => e (nodup_at h.nodup (x := κ') (by rw [List.getElem?_map, hi]; rfl) (by rw [List.getElem?_map, hj]; simp [← hk, hh]))
      simp only [if_neg e]
      rw [snoc, if_neg hne]
      refine ⟨(r1.other (fun x hx => ⟨(r3 x hx).2, fun hh => h.apart i j hil hjl e x hx hh⟩) s2 ht).up ht.size, fun x hx c f ee => r2 x hx c f ?_, fun x hx => ⟨(r3 x hx).1, Nat.lt_of_lt_of_le (r3 x hx).2 ht.size⟩⟩
      rw [← ee]
      refine (ht.block x (r3 x hx).2 ?_).symm
      rintro (hh | hh)
      · exact h.apart i j hil hjl e x hx hh
      · have := (r3 x hx).2; omega
  · have low : ∀ q, q < es.length → ∀ x, Ds q x → x < W.heap.size := fun q hq x hx => by
      have : es[q]? = some (es[q].1, es[q].2) := by rw [List.getElem?_eq_getElem hq]
      exact ((h.sets q _ _ this).2.2 x hx).2
    by_cases e1 : i = j
    · rw [if_pos e1, if_neg (by omega)]
      intro hx hx'
      rcases (d1 x hx).1 with hh | hh
      · exact h.apart j i' hjl hi' (by omega) x hh hx'
      · have := low i' hi' x hx'; omega
    · rw [if_neg e1]
      by_cases e2 : i' = j
      · rw [if_pos e2]
        intro hx hx'
        rcases (d1 x hx').1 with hh | hh
        · exact h.apart i j hi hjl e1 x hx hh
        · have := low i hi x hx; omega
      · rw [if_neg e2]
        exact h.apart i i' hi hi' hii x
end
/-- The most so far. -/
noncomputable def mostK (p : Prg) (fs : List Bool) (ks : List Nat) : Nat := mostTo (fun i => (selO p (fun k => decide (keyN p fs k = keyN p fs (ks.getD i 0))) (ks.take (i + 1))).length) ks.length
theorem mostK_snoc (p : Prg) (fs : List Bool) (ks : List Nat) (k : Nat) : mostK p fs (ks ++ [k]) = max (mostK p fs ks) (selO p (fun j => decide (keyN p fs j = keyN p fs k)) (ks ++ [k])).length := by
  unfold mostK
  rw [List.length_append, List.length_singleton, mostTo]
  congr 1
  · refine mostTo_congr _ (fun i hi => ?_)
    rw [List.getD_eq_getElem?_getD, List.getElem?_append_left hi, ← List.getD_eq_getElem?_getD, List.take_append_of_le_length (by omega)]
  · rw [List.getD_eq_getElem?_getD, List.getElem?_append_right (Nat.le_refl _), Nat.sub_self, List.take_of_length_le (by simp)]
    rfl
theorem mostK_range (p : Prg) (fs : List Bool) (C : Nat) : mostK p fs (List.range C) = mostTo (runN (keyN p fs) (ocAt p)) C := by
  unfold mostK
  rw [List.length_range]
  refine mostTo_congr _ (fun i hi => ?_)
  have e1 : (List.range C).getD i 0 = i := by simp [List.getD_eq_getElem?_getD, hi]
  have e2 : (List.range C).take (i + 1) = List.range (i + 1) := by
    rw [List.take_range]
    congr 1
    omega
  rw [e1, e2]
  rfl
end Go.Proofs.YtmooecbdpfhnlaaGreat
