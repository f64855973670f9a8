/- Joined texts of this proof (ImplOf2, OcsLaw, OcsMath, OcsMark, OcsHeld, OcsPart), in build order. -/
import Derived.Test.YtmooecbdpfhnlaaGreatK41
import Derived.Sort.CutIn
import Derived.Test.YtmooecbdpfhnlaaGreatK16
import Derived.Test.YtmooecbdpfhnlaaGreatK15
import Derived.Test.YtmooecbdpfhnlaaGreatK17
import Derived.Test.YtmooecbdpfhnlaaGreatK30
import Derived.Test.YtmooecbdpfhnlaaGreatK23
import Derived.Test.YtmooecbdpfhnlaaGreatK29
/- The contract of the program's OutcomesOf, where there are such inputs. -/
namespace Go.Proofs.YtmooecbdpfhnlaaGreat
open Go.RowKit Go.Shelf
attribute [local go_sem] Oper.semAt_some

theorem intsSS_two {w : World} {b : Nat} {t : TypeId} {x y : Sl} {ls ss : List Int} (hB : Blk w b t [slV x, slV y]) (h1 : Ints w x.1 x.2.1 ls) (h2 : Ints w y.1 y.2.1 ss) : IntsSS w (some ⟨b, 0, none⟩) 2 [x, y] [ls, ss] := by
  refine ⟨rfl, rfl, by omega, fun _ => ⟨b, 0, rfl, hB.lt, fun i hi => ?_⟩, fun i hi => ?_⟩
  · match i, hi with
    | 0, _ => exact hB.cell (j := 0) rfl
    | 1, _ => exact hB.cell (j := 1) rfl
  · match i, hi with
    | 0, _ => exact h1
    | 1, _ => exact h2
set_option maxRecDepth 100000 in
set_option maxHeartbeats 4000000 in
theorem implOutcomesOf_yes (r : PRow) (p : Prg) (a a' af : Option Addr) (n c n' c' nf cf : Nat) (ls ss : List Int) (fr : List Bool) (w : World) (h : ProgAt w r p) (hcap : r.body.2.1 ≤ r.body.2.2) (h1 : Ints w a n ls) (h2 : Ints w a' n' ss) (hf : Bools w af nf fr) (hyes : startB p ls ss = true) (hnf : nf = n') :
    Calls Tryz.prog 18 #[progV r, .slice a n c, .slice a' n' c', .slice af nf cf] w (SetAns w (ofO p ls ss fr)) := by
  subst hnf
  have hz : codeB p = 0 := startB_ok hyes
  have hst := start_in hyes
  have hsz : ∀ z ∈ ls ++ ss, 0 ≤ z ∧ z ≤ 255 := by
    intro z hz'
    obtain ⟨i, hi, rfl⟩ := List.getElem_of_mem hz'
    rw [hst.1] at hi
    have h1 := hst.2 i hi
    rw [List.getD_eq_getElem?_getD, List.getElem?_eq_getElem (by omega)] at h1
    have h2 := wide_of_max hz ((maxesP p).getD i 0) (getD_mem hi)
    simp only [Option.getD_some] at h1
    omega
  have hssl : ss.length = p.secrets.length := (areB_ok (by simp only [startB, Bool.and_eq_true] at hyes; exact hyes.2.2)).1
  have hlsl : ls.length = p.lows.length := (areB_ok (by simp only [startB, Bool.and_eq_true] at hyes; exact hyes.2.1)).1
  obtain ⟨l1, l2, _, _⟩ := code_inputs hz
  have hfl := hf.1
  have hn1l : r.lows.2.1 = p.lows.length := h.lows.1.symm
  have h2l := h2.1
  have h1l := h1.1
  have HMX := Lib.hid (wide_of_max hz)
  have hlen : p.lows.length + p.secrets.length ≤ 6 := by omega
  obtain ⟨fs, HFS⟩ : ∃ fs, Hid (List.replicate p.lows.length false ++ fr = fs) := ⟨_, rfl⟩
  have HFSL : Hid (fs.length = p.lows.length + nf) := Lib.hid (by rw [← HFS.out]; simp [hfl])
  obtain ⟨ws, HWS⟩ : ∃ ws, Hid (ls ++ ss = ws) := ⟨_, rfl⟩
  obtain ⟨f, HF0⟩ : ∃ f : Nat → Bool, Hid (f = fun k => decide (keyN p fs k = boundL fs ws)) := ⟨_, rfl⟩
  have HA : Hid (ofO p ls ss fr = selO p f (List.range (prodL (maxesP p)).toNat)) := Lib.hid (by
    have e : (startB p ls ss && decide (fr.length = p.secrets.length)) = true := by rw [hyes, decide_eq_true (by omega)]; rfl
    rw [ofO, if_pos e, HFS.out, HWS.out, HF0.out])
  have HKEY : Hid (∀ k : Nat, (strOfNums (boundL fs (digs (maxesP p) (k : Int))) == strOfNums (boundL fs ws)) = f k) := Lib.hid (fun k => by rw [key_str p hz (by rw [← HWS.out]; exact hsz), HF0.out])
  have HSZ : Hid (∀ z ∈ ws, 0 ≤ z ∧ z ≤ 255) := Lib.hid (by rw [← HWS.out]; exact hsz)
  have HWL : Hid (ws.length = n + nf) := Lib.hid (by rw [← HWS.out, List.length_append, h1l, h2l])
  have HNL : Hid (n = p.lows.length) := Lib.hid (by omega)
  have HNF : Hid (nf = p.secrets.length) := Lib.hid (by omega)
  have HML : Hid ((maxesP p).length = p.lows.length + p.secrets.length) := Lib.hid (maxesP_len p)
  have HN1 : Hid (r.lows.2.1 = p.lows.length) := Lib.hid hn1l
  have hn3 : n ≤ 3 := by omega
  have hnf3 : nf ≤ 3 := by omega
  have HZZ := Lib.hid hz
  have HY := Lib.hid hyes
  rw [HA.out]
  have HP := Lib.hid h
  have HI1 := Lib.hid h1
  have HI2 := Lib.hid h2
  have HBF := Lib.hid hf
  have HCAP := Lib.hid hcap
  clear h h1 h2 hf hcap hz hst hsz hssl hlsl l1 l2 hfl hn1l h2l h1l hyes HA
  obtain ⟨wd, ⟨a1, n1, c1⟩, ⟨a2, n2, c2⟩, tp, ⟨a3, n3, c3⟩, ⟨a4, n4, c4⟩, rows⟩ := r
  simp only [] at HN1
  show Calls Tryz.prog 18 #[.agg #[.int .i64 wd, .slice a1 n1 c1, .slice a2 n2 c2, .int .i64 tp, .slice a3 n3 c3, .slice a4 n4 c4], .slice a n c, .slice a' nf c', .slice af nf cf] w _
  obtain ⟨wa, HW⟩ : ∃ v, Hid (v = w.alloc (.cells #[.int .i64 wd, .slice a1 n1 c1, .slice a2 n2 c2, .int .i64 tp, .slice a3 n3 c3, .slice a4 n4 c4] 31)) := ⟨_, rfl⟩
  obtain ⟨k, HK⟩ : ∃ k, Hid (w.heap.size = k) := ⟨_, rfl⟩
  have B0 : Blk wa k 31 [.int .i64 wd, .slice a1 n1 c1, .slice a2 n2 c2, .int .i64 tp, .slice a3 n3 c3, .slice a4 n4 c4] := by rw [HW.out, ← HK.out]; exact Blk.new w _ _
  have HB : Below w.heap.size w wa := by rw [HW.out]; exact belA (Below.refl _ _)
  have t0 := B0.cell (j := 0) rfl
  have t1 := B0.cell (j := 1) rfl
  have t2 := B0.cell (j := 2) rfl
  have t3 := B0.cell (j := 3) rfl
  have t4 := B0.cell (j := 4) rfl
  have t5 := B0.cell (j := 5) rfl
  rw [HW.out, ← HK.out] at t0 t1 t2 t3 t4 t5
  refine (callsIn_wide (n := 6)).1 ?_
  refine callsIn_of_wp_marks Tryz.func18 rfl trivial ?_ rfl
  simp only [Tryz.ntmps18, List.size_toArray, List.length_cons, List.length_nil, Nat.reduceAdd, Nat.reduceSub, Array.replicate_succ, Array.replicate_zero, List.push_toArray, List.append_toArray, List.nil_append, List.cons_append]
  gi_wp2_with fail
  rw [← HW.out, HK.out]
  refine ⟨trivial, (callsIn_wide.2 (implStartOf_ans ⟨wd, (a1, n1, c1), (a2, n2, c2), tp, (a3, n3, c3), (a4, n4, c4), rows⟩ p a a' n c nf c' ls ss _ (HP.out.below HB) HCAP.out (HI1.out.below HB) (HI2.out.below HB))).mono ?_⟩
  rintro e w1 ⟨hb1, ⟨⟨va, vn, vc⟩, ⟨ca, cn, cc⟩, rws⟩, rfl, _⟩
  simp only [envV, slV, HY.out]
  obtain ⟨w2, HW2⟩ : ∃ v, Hid (v = w1.alloc (.cells #[.slice va vn vc, .slice ca cn cc] 90)) := ⟨_, rfl⟩
  have hb2 : Below w1.heap.size w1 w2 := by rw [HW2.out]; exact belA (Below.refl _ _)
  have hba2 : Below wa.heap.size wa w2 := hb1.trans (hb2.mono hb1.size)
  have X2 := B0.below hba2 B0.lt
  have t0 := X2.cell (j := 0) rfl
  have t1 := X2.cell (j := 1) rfl
  have t2 := X2.cell (j := 2) rfl
  have t3 := X2.cell (j := 3) rfl
  have t4 := X2.cell (j := 4) rfl
  have t5 := X2.cell (j := 5) rfl
  rw [HW2.out] at t0 t1 t2 t3 t4 t5
  have hne : ((nf : Int) != (nf : Int)) = false := by simp
  have HBA2 := Lib.hid hba2
  have hbw2 : Below w.heap.size w w2 := HB.trans (hba2.mono HB.size)
  have HBW2 := Lib.hid hbw2
  clear HW hb1 hb2
  gi_wp2_with fail
  rw [← HW2.out]
  refine ⟨trivial, (callsIn_wide.2 (freeSecrets_any wd tp a1 a2 a3 a4 af n1 n2 n3 n4 c1 c2 c3 c4 nf cf fr w2 (HBF.out.below hbw2) (by have := HN1.out; have := HNL.out; omega) (by omega))).mono ?_⟩
  rintro e w3 ⟨fa, fn, fc, rfl, hfo, hb3⟩
  rw [HN1.out, HFS.out] at hfo
  have hfn : fn = n + nf := by have := hfo.len; have := HFSL.out; have := HNL.out; omega
  have HFO := Lib.hid hfo
  have HKL : Hid (k < w3.heap.size) := Lib.hid (Nat.lt_of_lt_of_le X2.lt hb3.size)
  have HFN := Lib.hid hfn
  obtain ⟨w4, HW4⟩ : ∃ v, Hid (v = w3.alloc (.cells #[.slice fa fn fc] 39)) := ⟨_, rfl⟩
  have hb4 : Below w3.heap.size w3 w4 := by rw [HW4.out]; exact belA (Below.refl _ _)
  have hb24 : Below w2.heap.size w2 w4 := hb3.trans (hb4.mono hb3.size)
  have X4 := X2.below hb24 X2.lt
  have P4 : Blk w4 w3.heap.size 39 [.slice fa fn fc] := by rw [HW4.out]; exact Blk.new w3 _ _
  have hfo4 := hfo.below hb4
  have hbw4 : Below w.heap.size w w4 := hbw2.trans (hb24.mono hbw2.size)
  have HI14 := Lib.hid (HI1.out.below hbw4)
  have HI24 := Lib.hid (HI2.out.below hbw4)
  have HFO4 := Lib.hid hfo4
  have HX4 := Lib.hid X4
  have HP4 := Lib.hid P4
  have HB24 := Lib.hid hb24
  have HBW4 := Lib.hid hbw4
  have HS34 : Hid (w4.heap.size = w3.heap.size + 1) := Lib.hid (by rw [HW4.out]; simp)
  have q0 := P4.cell (j := 0) rfl
  have q0' := q0
  rw [HW4.out] at q0
  clear t0 t1 t2 t3 t4 t5 hfo hfn hb3 hb4 hb24 X4 P4 hfo4 hbw4 hba2 hbw2 B0 HB
  gi_wp2_with fail
  rw [← HW4.out]
  have hd : Below w4.heap.size w4 w4.drew := ⟨rfl, rfl, rfl, Nat.le_refl _, fun _ _ => rfl⟩
  obtain ⟨S, HS⟩ : ∃ S, Hid (strOfNums (boundL fs ws) = S) := ⟨_, rfl⟩
  have HTWO : Hid (flatTo [ls, ss] 2 = ws) := Lib.hid (by rw [← HWS.out]; rfl)
  have HCAT : Hid (∀ (w' : World) (b : Nat), Below w4.heap.size w4 w' → Blk w' b 28 [.slice a n c, .slice a' nf c'] → Calls Tryz.prog 59 #[.slice (some ⟨b, 0, none⟩) 2 2] w' (MadeInts w' ws)) := Lib.hid (fun w' b hb hx => by
    rw [← HTWO.out]
    exact concat_any (some ⟨b, 0, none⟩) 2 2 [(a, n, c), (a', nf, c')] [ls, ss] w' (intsSS_two hx (HI14.out.below hb) (HI24.out.below hb)) (by rw [HTWO.out, HWL.out]; omega) (by omega))
  have HBI : Hid (∀ (w' : World) (x : Option Addr) (m d : Nat), Below w4.heap.size w4 w' → Ints w' x m ws → Calls Tryz.prog 58 #[.slice x m d, .slice fa fn fc] w' fun e w'' => e = .returned (.string S) ∧ Below w'.heap.size w' w'') := Lib.hid (fun w' x m d hb hx => by
    rw [← HS.out]
    have hm : m = n + nf := by have := hx.1; have := HWL.out; omega
    exact boundIn_any x fa m d fn fc ws fs w' hx HSZ.out (HFO4.out.reads.below hb) (by rw [HFN.out]; omega) (by omega))
  have HD := Lib.hid hd
  gi_cut [12] from 32 (fun bv wx => ∃ ob : Nat, bv = .pointer (some ⟨ob, 0, none⟩) ∧ Blk wx ob 9 [.string S] ∧ Below w4.heap.size w4 wx)
  case first =>
    have k1 : Below w4.heap.size w4 (w4.alloc (.cells #[.slice a n c, .slice a' nf c'] 28)).drew := belN (belA (Below.refl _ _))
    have k2 : Below w4.heap.size w4 ((w4.alloc (.cells #[.string ⟨#[]⟩] 9)).alloc (.cells #[.slice a n c, .slice a' nf c'] 28)).drew := belN (belA (belA (Below.refl _ _)))
    have k3 : Below w4.heap.size w4 ((w4.alloc (.cells #[.slice a n c, .slice a' nf c'] 28)).alloc (.cells #[.string ⟨#[]⟩] 9)).drew := belN (belA (belA (Below.refl _ _)))
    have HA1 := Lib.hid (HCAT.out _ _ k1 (Blk.new w4 28 [.slice a n c, .slice a' nf c']))
    have HA2 := Lib.hid (HCAT.out _ (w4.heap.size + 1) k2 (show Blk ((w4.alloc (.cells #[.string ⟨#[]⟩] 9)).alloc (.cells #[.slice a n c, .slice a' nf c'] 28)) _ _ _ by simpa using Blk.new (w4.alloc (.cells #[.string ⟨#[]⟩] 9)) 28 [.slice a n c, .slice a' nf c']))
    have HA3 := Lib.hid (HCAT.out _ _ k3 ((Blk.new w4 28 [.slice a n c, .slice a' nf c']).alloc (.cells #[.string ⟨#[]⟩] 9)))
    have D2 : Hid (Blk ((w4.alloc (.cells #[.string ⟨#[]⟩] 9)).alloc (.cells #[.slice a n c, .slice a' nf c'] 28)).drew w4.heap.size 9 [.string ⟨#[]⟩]) := Lib.hid ((Blk.new w4 9 [.string ⟨#[]⟩]).alloc (.cells #[.slice a n c, .slice a' nf c'] 28))
    have D3 : Hid (Blk ((w4.alloc (.cells #[.slice a n c, .slice a' nf c'] 28)).alloc (.cells #[.string ⟨#[]⟩] 9)).drew (w4.heap.size + 1) 9 [.string ⟨#[]⟩]) := Lib.hid (show Blk ((w4.alloc (.cells #[.slice a n c, .slice a' nf c'] 28)).alloc (.cells #[.string ⟨#[]⟩] 9)) _ _ _ by simpa using Blk.new (w4.alloc (.cells #[.slice a n c, .slice a' nf c'] 28)) 9 [.string ⟨#[]⟩])
    have K1 := Lib.hid k1
    have K2 := Lib.hid k2
    have K3 := Lib.hid k3
    clear k1 k2 k3 hd HCAT
    have qb : w4.heap.size ≠ w3.heap.size := by have := HS34.out; omega
    have qb' := qb.symm
    have qc : w4.heap.size + 1 ≠ w3.heap.size := by have := HS34.out; omega
    have qc' := qc.symm
    refine wpIn_wide.2 ?_
    go_region_held3 (fun w' => w'.cell? ⟨w3.heap.size, 0, none⟩ = some (.slice fa fn fc)) (first | assumption | go_keep) (first
      | (go_at_call 59; (with_reducible refine HA2.out.mono ?_); rintro e y1 ⟨xa, xm, xc, rfl, hxo, hy1⟩; have hy := K2.out.trans (hy1.mono K2.out.size); have XD := D2.out.below hy1 D2.out.lt; have p0 := XD.cell (j := 0) rfl; have f0 := XD.frozen 0; have XF := HP4.out.below hy HP4.out.lt; have g0 := XF.cell (j := 0) rfl; have HXD := Lib.hid XD; have HY := Lib.hid hy; have HXO := Lib.hid hxo.ints; clear XD XF hy hy1 hxo)
      | (go_at_call 59; (with_reducible refine HA3.out.mono ?_); rintro e y1 ⟨xa, xm, xc, rfl, hxo, hy1⟩; have hy := K3.out.trans (hy1.mono K3.out.size); have XD := D3.out.below hy1 D3.out.lt; have p0 := XD.cell (j := 0) rfl; have f0 := XD.frozen 0; have XF := HP4.out.below hy HP4.out.lt; have g0 := XF.cell (j := 0) rfl; have HXD := Lib.hid XD; have HY := Lib.hid hy; have HXO := Lib.hid hxo.ints; clear XD XF hy hy1 hxo)
      | (go_at_call 59; (with_reducible refine HA1.out.mono ?_); rintro e y1 ⟨xa, xm, xc, rfl, hxo, hy1⟩; have hy := K1.out.trans (hy1.mono K1.out.size); have XF := HP4.out.below hy HP4.out.lt; have g0 := XF.cell (j := 0) rfl; have HY := Lib.hid hy; have HXO := Lib.hid hxo.ints; clear XF hy hy1 hxo)
      | (go_at_call 58; have hxd := HXD.out; (with_reducible refine (HBI.out y1 xa xm xc HY.out HXO.out).mono ?_); rintro e z1 ⟨rfl, hz1⟩; have hz := HY.out.trans (hz1.mono HY.out.size); have XD := HXD.out.below hz1 HXD.out.lt; have r0 := XD.cell (j := 0) rfl; have h0 := XD.frozen 0; have XF := HP4.out.below hz HP4.out.lt; have j0 := XF.cell (j := 0) rfl; have HZD := Lib.hid XD; have HZ := Lib.hid hz; clear XD XF hz hz1 hxd)
      | (go_at_call 58; (with_reducible refine (HBI.out (y1.alloc (.cells #[.string ⟨#[]⟩] 9)) xa xm xc (HY.out.trans ((belA (Below.refl y1.heap.size y1)).mono HY.out.size)) (HXO.out.below (belA (Below.refl y1.heap.size y1)))).mono ?_); rintro e z1 ⟨rfl, hz1⟩; have hb0 := belA (o := .cells #[.string ⟨#[]⟩] 9) (Below.refl y1.heap.size y1); have hyb := HY.out.trans (hb0.mono HY.out.size); have hz := hyb.trans (hz1.mono hyb.size); have XD := (Blk.new y1 9 [.string ⟨#[]⟩]).below hz1 (Blk.new y1 9 [.string ⟨#[]⟩]).lt; have r0 := XD.cell (j := 0) rfl; have h0 := XD.frozen 0; have XF := HP4.out.below hz HP4.out.lt; have j0 := XF.cell (j := 0) rfl; have HZD := Lib.hid XD; have HZ := Lib.hid hz; have ny : y1.heap.size ≠ w3.heap.size := World.new_ne y1 ⟨w3.heap.size, 0, none⟩ g0; have ny' := ny.symm; clear XD XF hz hz1 hyb hb0)
      | (go_at_call 58; (with_reducible refine (HBI.out y1 xa xm xc HY.out HXO.out).mono ?_); rintro e z1 ⟨rfl, hz1⟩; have hz := HY.out.trans (hz1.mono HY.out.size); have XF := HP4.out.below hz HP4.out.lt; have j0 := XF.cell (j := 0) rfl; have nz : z1.heap.size ≠ w3.heap.size := World.new_ne z1 ⟨w3.heap.size, 0, none⟩ j0; have nz' := nz.symm; have HZ := Lib.hid hz; clear XF hz hz1))
    all_goals
      go_wp2_with fail
    all_goals
      gi_meet
      have hyy := HY.out.size
      first
        | exact ⟨_, rfl, Blk.new z1 _ _, belA HZ.out⟩
        | exact ⟨_, rfl, HZD.out.set (j := 0) _, below_set HZ.out (by omega) _⟩
  case rest =>
    obtain ⟨ob, rfl, HX, HBC⟩ := hcut
    have Y0 := HX4.out.below HBC HX4.out.lt
    have Y11 := HP4.out.below HBC HP4.out.lt
    have HFOC := Lib.hid (HFO4.out.below HBC)
    have hob := HX.lt
    have hY11 := Y11.lt
    have hbwc : Below w.heap.size w wc := HBW4.out.trans (HBC.mono HBW4.out.size)
    clear HBI HCAT HI14 HI24
    gi_wp2_with fail
    refine ⟨trivial, (callsIn_wide.2 (newSet_any _)).mono ?_⟩
    rintro e w6 ⟨rfl, hw6⟩
    obtain ⟨h1, HH1⟩ : ∃ z, Hid (wc.heap.size = z) := ⟨_, rfl⟩
    have hs6 : w6.heap.size = h1 + 2 := by rw [hw6, ← HH1.out]; simp
    have hb6 : Below wc.heap.size wc w6 := by rw [hw6]; exact belA (belA (Below.refl _ _))
    have hset : ∀ (D : Nat → Prop) (B N : Nat), D h1 → D (h1 + 1) → SetW w6 D B N (h1 + 1) [] := fun D B N g1 g2 => by
      rw [hw6, ← HH1.out]
      exact setW_new wc D B N (by rw [HH1.out]; exact g1) (by rw [HH1.out]; exact g2)
    rw [HH1.out] at hob hY11 ⊢
    obtain ⟨w7, HW7⟩ : ∃ v, Hid (v = w6.alloc (.cells #[.pointer (some ⟨h1 + 1, 0, none⟩)] 96)) := ⟨_, rfl⟩
    have hb7 : Below w6.heap.size w6 w7 := by rw [HW7.out]; exact belA (Below.refl _ _)
    have P7 : Blk w7 (h1 + 2) 96 [.pointer (some ⟨h1 + 1, 0, none⟩)] := by rw [HW7.out, ← hs6]; exact Blk.new w6 _ _
    have hbc7 : Below wc.heap.size wc w7 := hb6.trans (hb7.mono hb6.size)
    have X0 := Y0.below hbc7 Y0.lt
    have X11 := Y11.below hbc7 Y11.lt
    have X12 := HX.below hbc7 HX.lt
    have t0 := X0.cell (j := 0) rfl
    have t1 := X0.cell (j := 1) rfl
    have t2 := X0.cell (j := 2) rfl
    have t3 := X0.cell (j := 3) rfl
    have t4 := X0.cell (j := 4) rfl
    have t5 := X0.cell (j := 5) rfl
    have HSET := Lib.hid (fun (D : Nat → Prop) (B N : Nat) (g1 : D h1) (g2 : D (h1 + 1)) => (hset D B N g1 g2).below hb7)
    clear hset hw6
    rw [HW7.out] at t0 t1 t2 t3 t4 t5
    gi_wp2_with fail
    rw [← HW7.out]
    refine ⟨trivial, (eachInput_in _ wd tp a1 a2 a3 a4 n1 n2 n3 n4 c1 c2 c3 c4 _).mono ?_⟩
    rintro e w8 ⟨rfl, rfl⟩
    gi_wp2_with fail
    obtain ⟨W0, HW0⟩ : ∃ W0, Hid (W0 = w7.alloc (.cells #[.int .i64 wd, .slice a1 n1 c1, .slice a2 n2 c2, .int .i64 tp, .slice a3 n3 c3, .slice a4 n4 c4] 31)) := ⟨_, rfl⟩
    have hb0 : Below w7.heap.size w7 W0 := by rw [HW0.out]; exact belA (Below.refl _ _)
    have HBX : Blk W0 w7.heap.size 31 [.int .i64 wd, .slice a1 n1 c1, .slice a2 n2 c2, .int .i64 tp, .slice a3 n3 c3, .slice a4 n4 c4] := by rw [HW0.out]; exact Blk.new w7 _ _
    have hs7 : h1 + 2 < w7.heap.size := P7.lt
    have hs0 := hb0.size
    have hk1 : k < w3.heap.size := HKL.out
    have E0 := Lib.hid (X0.below hb0 X0.lt)
    have E11 := Lib.hid (X11.below hb0 X11.lt)
    have E12 := Lib.hid (X12.below hb0 X12.lt)
    have E13 := Lib.hid (P7.below hb0 P7.lt)
    have hbc0 : Below wc.heap.size wc W0 := hbc7.trans (hb0.mono hbc7.size)
    have hbw : Below w.heap.size w W0 := hbwc.trans (hbc0.mono hbwc.size)
    have HBW := Lib.hid hbw
    have HPA := Lib.hid (HP.out.below hbw)
    have HFW := Lib.hid (HFOC.out.below hbc0)
    have HFG : Hid (∀ g, (Value.slice fa fn fc).ownBlock = some g → g < h1) := Lib.hid (fun g hg => by rw [← HH1.out]; exact (HFOC.out.block g hg).2)
    have HSE := Lib.hid (fun (D : Nat → Prop) (B N : Nat) (g1 : D h1) (g2 : D (h1 + 1)) => (HSET.out D B N g1 g2).below hb0)
    rw [← HW0.out]
    obtain ⟨bs, HBS⟩ : ∃ bs, Hid (w7.heap.size = bs) := ⟨_, rfl⟩
    rw [HBS.out] at HBX hs7 hs0 ⊢
    clear t0 t1 t2 t3 t4 t5 hb6 hb7 hbc7 hb0 hbc0 hbwc hbw HW0 HBS X0 X11 X12 P7 HSET HW7 hs6 Y0 Y11 HX HBC
    refine wpIn_rangeFunc_turns (α := EIn) (gf := 101) (lb := #[.pointer (some ⟨bs, 0, none⟩)]) rfl (enters_of Tryz.func101 (by kernel_rfl) rfl)
      (eachInput_stops 5 (by omega) bs ⟨wd, (a1, n1, c1), (a2, n2, c2), tp, (a3, n3, c3), (a4, n4, c4), rows⟩ p hlen HMX.out W0 HBX HPA.out) (Below.refl _ _) (fun _ => rfl) (fun lo hi x A B h hs _ => infoE_stay h hs)
      (fun m pre W => GoSel W0 h1 p f m pre W)
      (fun _ _ _ _ => False)
      (fun m x aa W => aa = { tmps := #[.agg #[.int .i64 wd, .slice a1 n1 c1, .slice a2 n2 c2, .int .i64 tp, .slice a3 n3 c3, .slice a4 n4 c4], .slice a n c, .slice a' nf c', .slice af nf cf, .pointer (some ⟨k, 0, none⟩), undef, undef, undef, .slice none 0 0, .pointer (some ⟨w1.heap.size, 0, none⟩), .bool true, .pointer (some ⟨w3.heap.size, 0, none⟩), .pointer (some ⟨ob, 0, none⟩), .pointer (some ⟨h1 + 2, 0, none⟩), undef, .slice x.a (maxesP p).length x.c, .tuple #[.agg #[.slice va vn vc, .slice ca cn cc], .bool true], .agg #[.int .i64 wd, .slice a1 n1 c1, .slice a2 n2 c2, .int .i64 tp, .slice a3 n3 c3, .slice a4 n4 c4], .slice a n c, .slice a' nf c', .tuple #[.agg #[.slice va vn vc, .slice ca cn cc], .bool true], .agg #[.slice va vn vc, .slice ca cn cc], .bool true, .bool true, .bool false, .bool false, .slice af nf cf, .int .i64 (nf : Int), .slice a' nf c', .int .i64 (nf : Int), .bool false, .bool false, u32, u33, u34, u35, u36, u37, u38, u39, u40, .pointer (some ⟨h1 + 1, 0, none⟩), .agg #[.int .i64 wd, .slice a1 n1 c1, .slice a2 n2 c2, .int .i64 tp, .slice a3 n3 c3, .slice a4 n4 c4], .func (.func 101) #[] #[.pointer (some ⟨bs, 0, none⟩)], .int .i64 (x.k : Int), .slice x.a (maxesP p).length x.c, u46, u47, u48, u49, u50, u51, u52, u53, u54, u55, u56, u57, u58], defers := [] })
      (fun m s A B h hs => h.span hs (by omega))
      (fun _ _ _ _ _ h _ => h)
      (fun _ _ _ _ _ h _ => h)
      (fun W' hb => ⟨fun x hx => absurd hx (by simp), Nat.le_refl _, hb.size, Turn.of_below hb, (HSE.out _ _ _ (.inl rfl) (.inr (.inl rfl))).below hb⟩)
      ?assign ?body ?done ?stop
    case assign =>
      rintro l m pre x W K hi hx hK
      simp only [encE]
      gi_wp2
      exact hK _ _ (Nat.le_refl _) (Stay.refl _ _ _) hi rfl
    case body =>
      rintro l m pre x a'' W hl _ HG hx rfl
      have hts := HG.2.2.2.1
      have F0 := hts.blk E0.out (by rintro (h | h | h) <;> omega)
      have F11 := hts.blk E11.out (by rintro (h | h | h) <;> omega)
      have F12 := hts.blk E12.out (by rintro (h | h | h) <;> omega)
      have F13 := hts.blk E13.out (by rintro (h | h | h) <;> omega)
      have hbW : Below w.heap.size W0 W := hts.below (by rintro i (h | h | h) <;> (have := HK.out; have := HBW.out.size; omega)) HBW.out.size
      have HFB := Lib.hid (HFW.out.turn hts (fun g hg => by have := HFG.out g hg; rintro (h | h | h) <;> omega))
      have HBWW := Lib.hid (HBW.out.trans hbW)
      have q11 := F11.cell (j := 0) rfl
      have q12 := F12.cell (j := 0) rfl
      have HF0' := Lib.hid F0
      have HF13 := Lib.hid F13
      have HF11 := Lib.hid F11
      have HF12 := Lib.hid F12
      have HXI := Lib.hid hx
      have HGG := Lib.hid HG
      have HIX := Lib.hid hx.1.ints
      have HBI2 : Hid (∀ w' : World, Below W.heap.size W w' → Calls Tryz.prog 58 #[.slice x.a (maxesP p).length x.c, .slice fa fn fc] w' fun e w'' => e = .returned (.string (strOfNums (boundL fs (digs (maxesP p) (x.k : Int))))) ∧ Below w'.heap.size w' w'') := Lib.hid (fun w' hb => boundIn_any x.a fa (maxesP p).length x.c fn fc (digs (maxesP p) (x.k : Int)) fs w' (HIX.out.below hb) (digs_in _ HMX.out) (HFB.out.reads.below hb) (by rw [HML.out, HFN.out, HNL.out, HNF.out]; exact Nat.le_refl _) (by rw [HML.out]; omega))
      have hd : Below W.heap.size W W.drew := ⟨rfl, rfl, rfl, Nat.le_refl _, fun _ _ => rfl⟩
      have HKX := Lib.hid (HKEY.out x.k)
      rw [HS.out] at HKX
      obtain ⟨KS, HKS⟩ : ∃ KS, Hid (strOfNums (boundL fs (digs (maxesP p) (x.k : Int))) = KS) := ⟨_, rfl⟩
      rw [HKS.out] at HBI2 HKX
      obtain ⟨fx, HFX⟩ : ∃ b, Hid (f x.k = b) := ⟨_, rfl⟩
      rw [HFX.out] at HKX
      clear F0 F11 F12 F13 hts hbW HG
      gi_wp2_with fail
      refine inRound_held (S := fun w' => w'.cell? ⟨w3.heap.size, 0, none⟩ = some (.slice fa fn fc) ∧ w'.cell? ⟨ob, 0, none⟩ = some (.string S)) (by kernel_rfl) (by kernel_rfl) (fun h => by obtain ⟨_, _, h⟩ := h; exact h) ?_
      refine wpAnyH_take (i := 0) (v := ?v0) rfl (by kernel_rfl) (by kernel_rfl) (by kernel_rfl) (fun _ _ _ h => h) (Or.inl ⟨by rfl, ?h0⟩) ⟨q11, q12⟩ ?_
      case h0 => intro w _; go_simp; (try rfl)
      refine wpAnyH_take (i := 1) (v := ?v1) rfl (by kernel_rfl) (by kernel_rfl) (by kernel_rfl) (fun _ _ _ h => h) (Or.inl ⟨by rfl, ?h1⟩) ⟨q11, q12⟩ ?_
      case h1 => intro w hS; have hS1 := hS.1; go_simp; (try rfl)
      refine wpAnyH_take (i := 3) (v := ?v3) rfl (by kernel_rfl) (by kernel_rfl) (by kernel_rfl) (fun _ _ _ h => h) (Or.inl ⟨by rfl, ?h3⟩) ⟨q11, q12⟩ ?_
      case h3 => intro w hS; have hS2 := hS.2; go_simp; (try rfl)
      simp only [Act.put, List.setIfInBounds_toArray]
      refine wpAnyH_ready (rs := [2]) (by kernel_rfl) (by simp) ?_
      refine AllReadyH.cons rfl (fun K1 hK1 => ?_) AllReadyH.nil
      go_simp
      refine (HBI2.out _ hd).mono ?_
      rintro e z1 ⟨rfl, hz1⟩
      have hz := hd.trans (hz1.mono hd.size)
      have G11 := HF11.out.below hz HF11.out.lt
      have G12 := HF12.out.below hz HF12.out.lt
      refine hK1.out _ _ ⟨G11.cell (j := 0) rfl, G12.cell (j := 0) rfl⟩ (fun _ => ?_)
      clear hK1 K1
      refine wpAnyH_take (i := 4) (v := .bool fx) rfl (by kernel_rfl) (by kernel_rfl) (by kernel_rfl) (fun _ _ _ h => h) (Or.inl ⟨by rfl, ?h4⟩) ⟨G11.cell (j := 0) rfl, G12.cell (j := 0) rfl⟩ ?_
      case h4 => intro w _; have hkx := HKX.out; go_simp; rw [← hkx, beq_toListBytes]
      simp only [Act.put, List.setIfInBounds_toArray]
      refine wpAnyH_done (by kernel_rfl) ?_ _
      simp only [Exit.then]
      have hzW : Below w.heap.size w z1 := HBWW.out.trans (hz.mono HBWW.out.size)
      have HPZ := Lib.hid (HP.out.below hzW)
      cases fx with
      | false =>
        have HPASS := Lib.hid (HGG.out.pass HXI.out.2.2.1 (by omega) hz HFX.out)
        clear HXI HGG G11 G12 hzW hz hz1 q11 q12
        gi_wp2
        exact HPASS.out
      | true =>
        obtain ⟨gx, hgx⟩ := HXI.out.2.2.2
        have HADD := Lib.hid (goSel_round HGG.out hz (by omega) HPZ.out HCAP.out HZZ.out HXI.out hgx HFX.out)
        simp only [progV, slV] at HADD
        rw [hgx]
        have G0 := HF0'.out.below hz HF0'.out.lt
        have G13 := HF13.out.below hz HF13.out.lt
        have t0 := G0.cell (j := 0) rfl
        have t1 := G0.cell (j := 1) rfl
        have t2 := G0.cell (j := 2) rfl
        have t3 := G0.cell (j := 3) rfl
        have t4 := G0.cell (j := 4) rfl
        have t5 := G0.cell (j := 5) rfl
        have q0 := G13.cell (j := 0) rfl
        clear G0 G13 G11 G12 hzW hz hz1 q11 q12 HXI HGG hx
        gi_wp2_with fail
        refine ⟨trivial, (CallsIn.inRound l (callsIn_wide.2 HADD.out)).mono ?_⟩
        rintro e w5 ⟨rfl, h5, h6, h7⟩
        gi_wp2
        exact ⟨h5, h6, h7⟩
    case done =>
      rintro D m xs W hD hS HG hK
      have hts := HG.2.2.2.1
      have F13 := hts.blk E13.out (by rintro (h | h | h) <;> omega)
      have hbW : Below w.heap.size W0 W := hts.below (by rintro i (h | h | h) <;> (have := HK.out; have := HBW.out.size; omega)) HBW.out.size
      have hm := HG.2.2.1
      obtain ⟨mm, a9, n9, c9, rs, s1, s2, s3, s4, s5, s6, s7, s8, s9⟩ := HG.2.2.2.2
      rw [show xs.map EIn.k = List.range (prodL (maxesP p)).toNat from hS] at s5
      have q0 := F13.cell (j := 0) rfl
      have u0 := s1.cell (j := 0) rfl
      have u1 := s1.cell (j := 1) rfl
      have HZD : Hid (Below w.heap.size w (W.putObj D (.deferred none))) := Lib.hid ((HBW.out.trans hbW).trans ⟨rfl, rfl, rfl, by simp, fun i hi => World.putObj_heap_other (by have := HBW.out.size; omega)⟩)
      have HO := Lib.hid (((ownO_put_def (o' := .deferred none) s5 hK).base (B' := w.heap.size) (by have := HBW.out.size; omega)).ebase (E' := w.heap.size) (by have := HBW.out.size; omega))
      have HAP := Lib.hid s7
      clear F13 hts hbW HG hm s1 s2 s3 s4 s5 s6 s7 s8 s9 hS
      gi_wp2
      refine ⟨by simp, .inl ⟨_, _, rfl, run_takeDeferred hK, ?_⟩⟩
      refine ⟨_, results_tmp rfl _ _ _, HZD.out, a9, n9, c9, rs, rfl, HO.out, HAP.out⟩
    case stop =>
      rintro D m c pre W hD hSp hf
      exact hf.elim
end Go.Proofs.YtmooecbdpfhnlaaGreat
/- The contracts of the laws' functions over slices of Outcomes. -/
namespace Go.Proofs.YtmooecbdpfhnlaaGreat
open Go.RowKit

end Go.Proofs.YtmooecbdpfhnlaaGreat
/- One of the call's own Outcomes is turned: its numbers, its End and its Code; marked Outcomes. -/
namespace Go.Proofs.YtmooecbdpfhnlaaGreat
open Go.RowKit

theorem rAt_set_same {rs : List OcR} {j : Nat} (r : OcR) (h : j < rs.length) : rAt (rs.set j r) j = r := by simp [rAt, List.getD_eq_getElem?_getD, h]
theorem rAt_set_other {rs : List OcR} {i j : Nat} (r : OcR) (h : i ≠ j) : rAt (rs.set j r) i = rAt rs i := by simp [rAt, List.getD_eq_getElem?_getD, show ¬ j = i from fun e => h e.symm]
theorem ApartO.put {rs : List OcR} (h : ApartO rs) (j : Nat) (hj : j < rs.length) (en co : Int) : ApartO (rs.set j ⟨(rAt rs j).vals, en, co⟩) := by
  have hv : ∀ i, (rAt (rs.set j ⟨(rAt rs j).vals, en, co⟩) i).vals = (rAt rs i).vals := fun i => by
    by_cases e : i = j
    · subst e; rw [rAt_set_same _ hj]
    · rw [rAt_set_other _ e]
  intro i k g hi hk e1 e2
  rw [hv] at e1 e2
  rw [List.length_set] at hi hk
  exact h i k g hi hk e1 e2
/-- How many marks the first i have. -/
def sumO (os : List Oc) : Nat → Nat
  | 0 => 0
  | i + 1 => sumO os i + ((oAt os i).1.length + 2)
/-- One marked. -/
def markOc (k : Nat) (o : Oc) : Oc := (marks (k : Int) o.1.length, ((k + o.1.length : Nat) : Int), ((k + o.1.length : Nat) : Int) + 1)
/-- The first i marked. -/
def MarkO (os : List Oc) (k i : Nat) : List Oc := (List.range os.length).map (fun j => if j < i then markOc (k + sumO os j) (oAt os j) else oAt os j)
/-- Its blocks lie from lo up to hi. -/
def InO (lo hi : Nat) (a : Option Addr) (n c : Nat) (rs : List OcR) : Prop := (∀ g, (Value.slice a n c).ownBlock = some g → lo ≤ g ∧ g < hi) ∧ ∀ i g, i < n → (slV (rAt rs i).vals).ownBlock = some g → lo ≤ g ∧ g < hi
end Go.Proofs.YtmooecbdpfhnlaaGreat
/- The laws' own marks on slices of Outcomes (markOutcomeS). -/
namespace Go.Proofs.YtmooecbdpfhnlaaGreat
open Go.RowKit

/-- Marked up to j. -/
def MarkedO (w : World) (lo hi B E : Nat) (a : Option Addr) (n c : Nat) (os : List Oc) (k j : Nat) (wr : World) : Prop := ∃ rs, OwnO wr B E a n c rs (MarkO os k j) ∧ ApartO rs ∧ InO lo hi a n c rs ∧ Span lo hi w wr
end Go.Proofs.YtmooecbdpfhnlaaGreat
/- The laws' own marks on slices of Outcomes, read back (heldOutcomeS). -/
namespace Go.Proofs.YtmooecbdpfhnlaaGreat
open Go.RowKit

end Go.Proofs.YtmooecbdpfhnlaaGreat
/- Slices of Outcomes as answers of a law. -/
namespace Go.Proofs.YtmooecbdpfhnlaaGreat
open Go.RowKit

/-- A slice of Outcomes, and the rows that its cells are. -/
structure OSl where
  sl : Sl
  rs : List OcR
def oslV (s : OSl) : Value := slV s.sl
/-- What it reads as. -/
def RdO (w : World) (s : OSl) (os : List Oc) : Prop := ∃ B E, OwnO w B E s.sl.1 s.sl.2.1 s.sl.2.2 s.rs os
/-- It is the call's own. -/
def OwO (w : World) (B : Nat) (s : OSl) (os : List Oc) : Prop := OwnO w B B s.sl.1 s.sl.2.1 s.sl.2.2 s.rs os ∧ ApartO s.rs
def OIn (lo hi : Nat) (s : OSl) : Prop := InO lo hi s.sl.1 s.sl.2.1 s.sl.2.2 s.rs
theorem RdO.below {w w' : World} {s : OSl} {os : List Oc} (h : RdO w s os) (hb : Below w.heap.size w w') : RdO w' s os := by
  obtain ⟨B, E, h⟩ := h
  exact ⟨B, E, h.below hb⟩
theorem OwO.below {w w' : World} {B : Nat} {s : OSl} {os : List Oc} (h : OwO w B s os) (hb : Below w.heap.size w w') : OwO w' B s os := ⟨h.1.below hb, h.2⟩
theorem OwO.reads {w : World} {B : Nat} {s : OSl} {os : List Oc} (h : OwO w B s os) : RdO w s os := ⟨B, B, h.1⟩
theorem OwnO.span {w w' : World} {B E lo hi : Nat} {a : Option Addr} {n c : Nat} {rs : List OcR} {os : List Oc} (h : OwnO w B E a n c rs os) (hs : Span lo hi w w') (hB : hi ≤ B) (hE : hi ≤ E) : OwnO w' B E a n c rs os :=
  ⟨ownsRow_span h.1 hs (fun g hg => .inr (Nat.le_trans hB (h.1.lt g hg).1)), h.2.1, h.2.2.1, fun i hi' => ⟨(h.2.2.2 i hi').1, (h.2.2.2 i hi').2.1, (h.2.2.2 i hi').2.2.1, (h.2.2.2 i hi').2.2.2.1, (h.2.2.2 i hi').2.2.2.2.span hs hE⟩⟩
theorem OwO.span {w w' : World} {B lo hi : Nat} {s : OSl} {os : List Oc} (h : OwO w B s os) (hs : Span lo hi w w') (hB : hi ≤ B) : OwO w' B s os := ⟨h.1.span hs hB hB, h.2⟩
/-- Marked from k on. -/
def MkO (w : World) (sl : Sl) (os : List Oc) (k : Nat) : Prop := ∃ B E rs, OwnO w B E sl.1 sl.2.1 sl.2.2 rs (MarkO os k sl.2.1)
theorem MkO.below {w w' : World} {s : Sl} {os : List Oc} {k : Nat} (h : MkO w s os k) (hb : Below w.heap.size w w') : MkO w' s os k := by
  obtain ⟨B, E, rs, h⟩ := h
  exact ⟨B, E, rs, h.below hb⟩
theorem MkO.reads {w : World} {s : Sl} {os : List Oc} {k : Nat} (h : MkO w s os k) : MkO w s os k := h
/-- What a law asks of an answer of Outcomes. -/
def AnsOcs (w : World) (os : List Oc) (e : Ending) (w' : World) : Prop := Below w.heap.size w w' ∧ ∃ s : OSl, e = .returned (oslV s) ∧ OwO w' w.heap.size s os
def AnsROcs (w : World) (os : List Oc) (e : Ending) (w' : World) : Prop := Below w.heap.size w w' ∧ ∃ s : OSl, e = .returned (oslV s) ∧ RdO w' s os
end Go.Proofs.YtmooecbdpfhnlaaGreat
