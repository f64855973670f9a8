/- Joined texts of this proof (ImplAddRun, BitMath, BitsBack, ImplAll, SpecAllOut, BoolConcat), in build order. -/
import Derived.Test.YtmooecbdpfhnlaaGreatK33
import Derived.Test.YtmooecbdpfhnlaaGreatK39
import Derived.Test.YtmooecbdpfhnlaaGreatK29
import Derived.Test.YtmooecbdpfhnlaaGreatK24
import Derived.Test.YtmooecbdpfhnlaaGreatK17
import Derived.Test.YtmooecbdpfhnlaaGreatK30
import Derived.Test.YtmooecbdpfhnlaaGreatK28
import Derived.Test.YtmooecbdpfhnlaaGreatK12
import Derived.Test.YtmooecbdpfhnlaaGreatK18
import Derived.Test.YtmooecbdpfhnlaaGreatK32
import Derived.Test.YtmooecbdpfhnlaaGreatK9
/- The contract of the program's addRun. -/
namespace Go.Proofs.YtmooecbdpfhnlaaGreat
open Go.RowKit

theorem byte_run (p : Prg) (ls ss : List Int) : ByteO (outR p ls ss, endR p ls ss) := by
  intro z hz
  have hz' : z ∈ outR p ls ss := hz
  unfold outR at hz'
  by_cases h : startB p ls ss = true
  · have h1 := (runX_ok h).outs z hz'
    have h2 := pow_256 (startB_ok h)
    omega
  · rw [runX_no (by simpa using h)] at hz'
    simp at hz'
theorem ints_take' {w : World} {a : Option Addr} {n j : Nat} {zs : List Int} (h : Ints w a n zs) (hj : j ≤ n) : Ints w a j (zs.take j) := by
  refine ⟨by rw [List.length_take, h.1]; omega, by have := h.2.1; omega, fun z hz => h.2.2.1 z (List.mem_of_mem_take hz), fun hp => ?_⟩
  obtain ⟨b, o, e, hb, hc⟩ := h.2.2.2 (by omega)
  refine ⟨b, o, e, hb, fun i hi => ?_⟩
  rw [hc i (by omega)]
  simp [List.getD_eq_getElem?_getD, hi]
theorem ints_drop' {w : World} {g n c j : Nat} {zs : List Int} (h : Ints w (some ⟨g, 0, none⟩) n zs) (hj : j ≤ n) (hc : n ≤ c) : Ints w (if c = j then some ⟨g, 0, none⟩ else some ⟨g, j, none⟩) (n - j) (zs.drop j) := by
  refine ⟨by rw [List.length_drop, h.1], by have := h.2.1; omega, fun z hz => h.2.2.1 z (List.mem_of_mem_drop hz), fun hp => ?_⟩
  obtain ⟨b, o, e, hb, hcc⟩ := h.2.2.2 (by omega)
  injection e with e
  injection e with e1 e2
  subst e1 e2
  rw [if_neg (by omega)]
  refine ⟨g, j, rfl, hb, fun i hi => ?_⟩
  have := hcc (j + i) (by omega)
  rw [Nat.zero_add] at this
  rw [this]
  simp [List.getD_eq_getElem?_getD]
/-- Three cells of a box of another kind are written. -/
theorem own_box3 {w : World} {B b n c : Nat} {a : Option Addr} {zs : List Int} {xs : List Value} (h : Own w B a n c zs) (hb : Blk w b 43 xs) (x y z : Value) : Own (((w.setCell ⟨b, 0, none⟩ x).setCell ⟨b, 1, none⟩ y).setCell ⟨b, 2, none⟩ z) B a n c zs := by
  have h1 := h.keep (grown_set w b 0 x) (blk_apart hb h.1 (by decide))
  have b1 := hb.set (j := 0) x
  have h2 := h1.keep (grown_set _ b 1 y) (blk_apart b1 h1.1 (by decide))
  have b2 := b1.set (j := 1) y
  exact h2.keep (grown_set _ b 2 z) (blk_apart b2 h2.1 (by decide))
set_option maxRecDepth 20000 in
set_option maxHeartbeats 3200000 in
theorem addRun_any (w : World) (D : Nat → Prop) (B N k : Nat) (os : List Oc) (r : PRow) (p : Prg) (g n c : Nat) (zs : List Int) (h : SetW w D B N k os) (hD : ∀ i, w.heap.size ≤ i → D i) (hB : B ≤ w.heap.size) (hp : ProgAt w r p) (hcap : r.body.2.1 ≤ r.body.2.2)
    (hi : Ints w (some ⟨g, 0, none⟩) n zs) (hnc : n ≤ c) (hL : p.lows.length ≤ n) (hst : startB p (zs.take p.lows.length) (zs.drop p.lows.length) = true) (hlen : os.length ≤ 100000) :
    Calls Tryz.prog 62 #[.pointer (some ⟨k, 0, none⟩), progV r, .slice (some ⟨g, 0, none⟩) n c] w fun e w' => e = .returned (.tuple #[]) ∧ SetW w' D B w'.heap.size k (addNew os (outR p (zs.take p.lows.length) (zs.drop p.lows.length), endR p (zs.take p.lows.length) (zs.drop p.lows.length))) ∧ Turn D w w' := by
  have hn1 : r.lows.2.1 = p.lows.length := hp.lows.1.symm
  obtain ⟨L, HL⟩ : ∃ L, Hid (p.lows.length = L) := ⟨_, rfl⟩
  rw [HL.out] at hL hst hn1 ⊢
  have hby := byte_run p (zs.take L) (zs.drop L)
  have hsm := rz_small p (zs.take L) (zs.drop L)
  have hol := outR_len p (zs.take L) (zs.drop L)
  obtain ⟨OS, HOS⟩ : ∃ OS, Hid (outR p (zs.take L) (zs.drop L) = OS) := ⟨_, rfl⟩
  obtain ⟨en, co, HEN⟩ : ∃ en co, Hid (endR p (zs.take L) (zs.drop L) = (en, co)) := ⟨_, _, rfl⟩
  have HRUN : Hid (∀ (w' : World) (a a' : Option Addr) (c1 c2 : Nat), Below w.heap.size w w' → Ints w' a L (zs.take L) → Ints w' a' (n - L) (zs.drop L) → Calls Tryz.prog 68 #[progV r, .slice a L c1, .slice a' (n - L) c2] w' fun e w'' => ∃ va vn vc, e = .returned (.tuple #[.agg #[.slice va vn vc, .int .i64 en, .int .i64 co], .bool true]) ∧ Own w'' w'.heap.size va vn vc OS ∧ Below w'.heap.size w' w'') := Lib.hid (fun w' a a' c1 c2 hb h1 h2 => by
    refine (implRunOf_ans r p a a' L c1 (n - L) c2 (zs.take L) (zs.drop L) w' (hp.below hb) hcap h1 h2).mono ?_
    rintro e w2 ⟨hb2, ⟨va, vn, vc⟩, rfl, ho⟩
    rw [hst, HEN.out]
    rw [HOS.out] at ho
    exact ⟨va, vn, vc, rfl, ho, hb2⟩)
  rw [HOS.out, HEN.out] at hby ⊢
  rw [HEN.out] at hsm
  rw [HOS.out] at hol
  have HBY := Lib.hid hby
  have HSM := Lib.hid hsm
  have HOL := Lib.hid hol
  have HSW := Lib.hid h
  have HDD := Lib.hid hD
  have HI := Lib.hid hi
  have hpl : p.lows.length ≤ n := by rw [HL.out]; exact hL
  clear h hD hi hby hsm hol hst hp hcap
  obtain ⟨wd, ⟨a1, n1, c1⟩, ⟨a2, n2, c2⟩, tp, ⟨a3, n3, c3⟩, ⟨a4, n4, c4⟩, rows⟩ := r
  simp only [] at hn1
  subst hn1
  simp only [progV, slV] at HRUN
  show Calls Tryz.prog 62 #[.pointer (some ⟨k, 0, none⟩), .agg #[.int .i64 wd, .slice a1 n1 c1, .slice a2 n2 c2, .int .i64 tp, .slice a3 n3 c3, .slice a4 n4 c4], .slice (some ⟨g, 0, none⟩) n c] w _
  obtain ⟨wa, HW⟩ : ∃ wa, Hid (wa = w.alloc (.cells #[.int .i64 wd, .slice a1 n1 c1, .slice a2 n2 c2, .int .i64 tp, .slice a3 n3 c3, .slice a4 n4 c4] 31)) := ⟨_, rfl⟩
  have B0 : Blk wa w.heap.size 31 [.int .i64 wd, .slice a1 n1 c1, .slice a2 n2 c2, .int .i64 tp, .slice a3 n3 c3, .slice a4 n4 c4] := by rw [HW.out]; exact Blk.new w _ _
  have hba : Below w.heap.size w wa := by rw [HW.out]; exact belA (Below.refl _ _)
  have hd : Below wa.heap.size wa wa.drew := ⟨rfl, rfl, rfl, Nat.le_refl _, fun _ _ => rfl⟩
  have HBA := Lib.hid hba
  have HDR := Lib.hid hd
  have HB0 := Lib.hid B0
  have HDR2 : Hid (Below wa.heap.size wa (wa.alloc (.cells #[.slice none 0 0, .int .i64 0, .int .i64 0] 43)).drew) := Lib.hid (belN (belA (Below.refl _ _)))
  have HXO : Hid (Blk (wa.alloc (.cells #[.slice none 0 0, .int .i64 0, .int .i64 0] 43)).drew wa.heap.size 43 [.slice none 0 0, .int .i64 0, .int .i64 0]) := Lib.hid (Blk.new wa _ _)
  have HT1 : Hid (∀ w', Below w.heap.size w w' → Ints w' (some ⟨g, 0, none⟩) n1 (zs.take n1)) := Lib.hid (fun w' hb => ints_take' (HI.out.below hb) hL)
  have HT2 : Hid (∀ w', Below w.heap.size w w' → Ints w' (if c = n1 then some ⟨g, 0, none⟩ else some ⟨g, n1, none⟩) (n - n1) (zs.drop n1)) := Lib.hid (fun w' hb => ints_drop' (HI.out.below hb) hL hnc)
  have t0 := B0.cell (j := 0) rfl
  have t1 := B0.cell (j := 1) rfl
  have t2 := B0.cell (j := 2) rfl
  have t3 := B0.cell (j := 3) rfl
  have t4 := B0.cell (j := 4) rfl
  have t5 := B0.cell (j := 5) rfl
  have hn1c : n1 ≤ c := by omega
  have hne0 : wa.heap.size ≠ w.heap.size := World.new_ne wa ⟨w.heap.size, 0, none⟩ t0
  clear B0 hba hd
  go_enter Tryz.func62, Tryz.ntmps62
  go_wp2_with fail
  rw [← HW.out]
  clear HW
  go_cut [7] (fun tv wx => ∃ (ob : Nat) (va : Option Addr) (vn vc : Nat), tv = .pointer (some ⟨ob, 0, none⟩) ∧ Blk wx ob 43 [.slice va vn vc, .int .i64 en, .int .i64 co] ∧ Own wx wa.heap.size va vn vc OS ∧ Below wa.heap.size wa wx)
  case first =>
    by_cases hcn : c = n1
    · rw [if_pos hcn] at HT2
      have hcb : (c == n1) = true := by simpa using hcn
      go_region_held3 (fun w' => w'.cell? ⟨w.heap.size, 0, none⟩ = some (.int .i64 wd) ∧ w'.cell? ⟨w.heap.size, 1, none⟩ = some (.slice a1 n1 c1) ∧ w'.cell? ⟨w.heap.size, 2, none⟩ = some (.slice a2 n2 c2) ∧ w'.cell? ⟨w.heap.size, 3, none⟩ = some (.int .i64 tp) ∧ w'.cell? ⟨w.heap.size, 4, none⟩ = some (.slice a3 n3 c3) ∧ w'.cell? ⟨w.heap.size, 5, none⟩ = some (.slice a4 n4 c4)) (first | (refine ⟨?_, ?_, ?_, ?_, ?_, ?_⟩ <;> assumption) | go_keep | (refine ⟨?_, ?_, ?_, ?_, ?_, ?_⟩ <;> go_keep)) (first
        | (go_at_call 68; refine (HRUN.out (wa.alloc (.cells #[.slice none 0 0, .int .i64 0, .int .i64 0] 43)).drew (some ⟨g, 0, none⟩) (some ⟨g, 0, none⟩) n1 0 (HBA.out.trans (HDR2.out.mono HBA.out.size)) (HT1.out _ (HBA.out.trans (HDR2.out.mono HBA.out.size))) (HT2.out _ (HBA.out.trans (HDR2.out.mono HBA.out.size)))).mono ?_; rintro e z1 ⟨va, vn, vc, rfl, hov, hz1⟩; have hz := HDR2.out.trans (hz1.mono HDR2.out.size); have XO := HXO.out.below hz1 HXO.out.lt; have XO1 := XO; have p0 := XO.cell (j := 0) rfl; have p1 := XO.cell (j := 1) rfl; have p2 := XO.cell (j := 2) rfl; have f0 := XO.frozen 0; have f1 := XO.frozen 1; have f2 := XO.frozen 2; have X := HB0.out.below hz HB0.out.lt; have x0 := X.cell (j := 0) rfl; have x1 := X.cell (j := 1) rfl; have x2 := X.cell (j := 2) rfl; have x3 := X.cell (j := 3) rfl; have x4 := X.cell (j := 4) rfl; have x5 := X.cell (j := 5) rfl; have HZ := Lib.hid hz; have HOV := Lib.hid (hov.base HDR2.out.size); have HXZ := Lib.hid XO1; have HLE := Lib.hid (Nat.le_refl wa.heap.size); clear X hz hz1 hov XO XO1)
        | (go_at_call 68; refine (HRUN.out wa.drew (some ⟨g, 0, none⟩) (some ⟨g, 0, none⟩) n1 0 (HBA.out.trans (HDR.out.mono HBA.out.size)) (HT1.out _ (HBA.out.trans (HDR.out.mono HBA.out.size))) (HT2.out _ (HBA.out.trans (HDR.out.mono HBA.out.size)))).mono ?_; rintro e z1 ⟨va, vn, vc, rfl, hov, hz1⟩; have hz := HDR.out.trans (hz1.mono HDR.out.size); have XO := Blk.new z1 43 [.slice none 0 0, .int .i64 0, .int .i64 0]; have XO1 := XO; have p0 := XO.cell (j := 0) rfl; have p1 := XO.cell (j := 1) rfl; have p2 := XO.cell (j := 2) rfl; have f0 := XO.frozen 0; have f1 := XO.frozen 1; have f2 := XO.frozen 2; have X := HB0.out.below hz HB0.out.lt; have x0 := X.cell (j := 0) rfl; have x1 := X.cell (j := 1) rfl; have x2 := X.cell (j := 2) rfl; have x3 := X.cell (j := 3) rfl; have x4 := X.cell (j := 4) rfl; have x5 := X.cell (j := 5) rfl; have hne : z1.heap.size ≠ w.heap.size := World.new_ne z1 ⟨w.heap.size, 0, none⟩ x0; have hne' := hne.symm; have HZ := Lib.hid (belA (o := .cells #[.slice none 0 0, .int .i64 0, .int .i64 0] 43) hz); have HOV := Lib.hid ((hov.base HDR.out.size).below (belA (o := .cells #[.slice none 0 0, .int .i64 0, .int .i64 0] 43) (Below.refl z1.heap.size z1))); have HXZ := Lib.hid XO1; have HLE := Lib.hid hz.size; have HZB := Lib.hid (fun (o : Obj) => belA (o := o) hz); have HOVZ := Lib.hid (fun (o : Obj) => (hov.base HDR.out.size).below (belA (o := o) (Below.refl z1.heap.size z1))); clear X hz hz1 hov XO XO1))
      all_goals
        subst hcn
        go_wp2_with fail
        go_meet
        first
          | exact ⟨_, va, vn, vc, rfl, Blk.new z1 _ _, HOVZ.out _, HZB.out _⟩
          | exact ⟨_, va, vn, vc, rfl, ((HXZ.out.set (j := 0) _).set (j := 1) _).set (j := 2) _, own_box3 HOV.out HXZ.out _ _ _, below_set (below_set (below_set HZ.out HLE.out _) HLE.out _) HLE.out _⟩
    · rw [if_neg hcn] at HT2
      have hcb : (c == n1) = false := by simpa using hcn
      go_region_held3 (fun w' => w'.cell? ⟨w.heap.size, 0, none⟩ = some (.int .i64 wd) ∧ w'.cell? ⟨w.heap.size, 1, none⟩ = some (.slice a1 n1 c1) ∧ w'.cell? ⟨w.heap.size, 2, none⟩ = some (.slice a2 n2 c2) ∧ w'.cell? ⟨w.heap.size, 3, none⟩ = some (.int .i64 tp) ∧ w'.cell? ⟨w.heap.size, 4, none⟩ = some (.slice a3 n3 c3) ∧ w'.cell? ⟨w.heap.size, 5, none⟩ = some (.slice a4 n4 c4)) (first | (refine ⟨?_, ?_, ?_, ?_, ?_, ?_⟩ <;> assumption) | go_keep | (refine ⟨?_, ?_, ?_, ?_, ?_, ?_⟩ <;> go_keep)) (first
        | (go_at_call 68; refine (HRUN.out (wa.alloc (.cells #[.slice none 0 0, .int .i64 0, .int .i64 0] 43)).drew (some ⟨g, 0, none⟩) (some ⟨g, n1, none⟩) c (c - n1) (HBA.out.trans (HDR2.out.mono HBA.out.size)) (HT1.out _ (HBA.out.trans (HDR2.out.mono HBA.out.size))) (HT2.out _ (HBA.out.trans (HDR2.out.mono HBA.out.size)))).mono ?_; rintro e z1 ⟨va, vn, vc, rfl, hov, hz1⟩; have hz := HDR2.out.trans (hz1.mono HDR2.out.size); have XO := HXO.out.below hz1 HXO.out.lt; have XO1 := XO; have p0 := XO.cell (j := 0) rfl; have p1 := XO.cell (j := 1) rfl; have p2 := XO.cell (j := 2) rfl; have f0 := XO.frozen 0; have f1 := XO.frozen 1; have f2 := XO.frozen 2; have X := HB0.out.below hz HB0.out.lt; have x0 := X.cell (j := 0) rfl; have x1 := X.cell (j := 1) rfl; have x2 := X.cell (j := 2) rfl; have x3 := X.cell (j := 3) rfl; have x4 := X.cell (j := 4) rfl; have x5 := X.cell (j := 5) rfl; have HZ := Lib.hid hz; have HOV := Lib.hid (hov.base HDR2.out.size); have HXZ := Lib.hid XO1; have HLE := Lib.hid (Nat.le_refl wa.heap.size); clear X hz hz1 hov XO XO1)
        | (go_at_call 68; refine (HRUN.out wa.drew (some ⟨g, 0, none⟩) (some ⟨g, n1, none⟩) c (c - n1) (HBA.out.trans (HDR.out.mono HBA.out.size)) (HT1.out _ (HBA.out.trans (HDR.out.mono HBA.out.size))) (HT2.out _ (HBA.out.trans (HDR.out.mono HBA.out.size)))).mono ?_; rintro e z1 ⟨va, vn, vc, rfl, hov, hz1⟩; have hz := HDR.out.trans (hz1.mono HDR.out.size); have XO := Blk.new z1 43 [.slice none 0 0, .int .i64 0, .int .i64 0]; have XO1 := XO; have p0 := XO.cell (j := 0) rfl; have p1 := XO.cell (j := 1) rfl; have p2 := XO.cell (j := 2) rfl; have f0 := XO.frozen 0; have f1 := XO.frozen 1; have f2 := XO.frozen 2; have X := HB0.out.below hz HB0.out.lt; have x0 := X.cell (j := 0) rfl; have x1 := X.cell (j := 1) rfl; have x2 := X.cell (j := 2) rfl; have x3 := X.cell (j := 3) rfl; have x4 := X.cell (j := 4) rfl; have x5 := X.cell (j := 5) rfl; have hne : z1.heap.size ≠ w.heap.size := World.new_ne z1 ⟨w.heap.size, 0, none⟩ x0; have hne' := hne.symm; have HZ := Lib.hid (belA (o := .cells #[.slice none 0 0, .int .i64 0, .int .i64 0] 43) hz); have HOV := Lib.hid ((hov.base HDR.out.size).below (belA (o := .cells #[.slice none 0 0, .int .i64 0, .int .i64 0] 43) (Below.refl z1.heap.size z1))); have HXZ := Lib.hid XO1; have HLE := Lib.hid hz.size; have HZB := Lib.hid (fun (o : Obj) => belA (o := o) hz); have HOVZ := Lib.hid (fun (o : Obj) => (hov.base HDR.out.size).below (belA (o := o) (Below.refl z1.heap.size z1))); clear X hz hz1 hov XO XO1))
      all_goals
        go_wp2_with fail
        go_meet
        first
          | exact ⟨_, va, vn, vc, rfl, Blk.new z1 _ _, HOVZ.out _, HZB.out _⟩
          | exact ⟨_, va, vn, vc, rfl, ((HXZ.out.set (j := 0) _).set (j := 1) _).set (j := 2) _, own_box3 HOV.out HXZ.out _ _ _, below_set (below_set (below_set HZ.out HLE.out _) HLE.out _) HLE.out _⟩
  case rest =>
    obtain ⟨ob, va, vn, vc, rfl, HX, HO, HB⟩ := hcut
    have hbw : Below w.heap.size w wc := HBA.out.trans (HB.mono HBA.out.size)
    have x0 := HX.cell (j := 0) rfl
    have x1 := HX.cell (j := 1) rfl
    have x2 := HX.cell (j := 2) rfl
    have hs := HB.size
    have hs0 := HBA.out.size
    have hvn := HO.len
    have hOL := HOL.out
    have hS : (0 ≤ en ∧ en ≤ 2) ∧ (0 ≤ co ∧ co ≤ 9) := HSM.out
    have h64 : In64 en ∧ In64 co := ⟨⟨by omega, by omega⟩, ⟨by omega, by omega⟩⟩
    have HADD : Hid (∀ j, Calls Tryz.prog 104 #[.pointer (some ⟨k, 0, none⟩), .agg #[.slice va vn vc, .int .i64 en, .int .i64 co]] (wc.drewN j) fun e w' => e = .returned (.tuple #[]) ∧ SetW w' D B w'.heap.size k (addNew os (OS, en, co)) ∧ Turn D w w') := Lib.hid (fun j => by
      have hbj : Below w.heap.size w (wc.drewN j) := hbw.trans ((below_drewN wc j).mono hbw.size)
      have hsj := (below_drewN wc j).size
      refine (add_any (wc.drewN j) D B w.heap.size k os va vn vc en co (OS, en, co) ((HSW.out.top).below hbj) (fun i hi => HDD.out i (by omega)) (by omega) ?_ HBY.out (by omega) (fun g hg => by have := (HO.block g hg).1; omega) hlen).mono ?_
      · exact ⟨rfl, rfl, h64.1, h64.2, (HO.below (below_drewN wc j)).base (by omega)⟩
      · rintro e w2 ⟨rfl, h1, h2⟩
        exact ⟨rfl, h1, (Turn.of_below hbj).trans h2⟩)
    clear HX HO HB hbw HSW HDD HI HT1 HT2 HRUN HBY HSM HOL hvn hOL hS hs hs0
    go_wp2_with fail
    refine (HADD.out 0).mono ?_
    rintro e w2 ⟨rfl, HF⟩
    go_wp2_with fail
    go_end0
    exact ⟨rfl, HF⟩
end Go.Proofs.YtmooecbdpfhnlaaGreat
/- The bits of an input: plain mathematics. -/
namespace Go.Proofs.YtmooecbdpfhnlaaGreat
open Go.RowKit

/-- The bit of z that counts 2 to the k. -/
def bitZ (z : Int) (k : Nat) : Bool := z / ((2 ^ k : Nat) : Int) % 2 == 1
/-- The first i of the b bits of z, the highest one first. -/
def hiTo (z : Int) (b i : Nat) : List Bool := (List.range i).map (fun j => bitZ z (b - 1 - j))
/-- The bits of the first k. -/
def inBits (ms zs : List Int) : Nat → List Bool
  | 0 => []
  | k + 1 => inBits ms zs k ++ hiTo (zs.getD k 0) (bitsN (ms.getD k 0).toNat) (bitsN (ms.getD k 0).toNat)
/-- The unit of the i-th bit. -/
def unitN (b i : Nat) : Nat := 2 ^ (b - 1) / 2 ^ i
/-- What InputBits tells. -/
noncomputable def bitsB (p : Prg) (ls ss : List Int) : List Bool := if startB p ls ss = true then inBits (maxesP p) (ls ++ ss) (maxesP p).length else []
end Go.Proofs.YtmooecbdpfhnlaaGreat
/- The bits of an input tell it: plain mathematics. -/
namespace Go.Proofs.YtmooecbdpfhnlaaGreat
open Go.RowKit

theorem bitsN_lt : ∀ n : Nat, n < 2 ^ bitsN n := by
  intro n
  induction n using Nat.strongRecOn with
  | ind n ih =>
    rcases Nat.eq_zero_or_pos n with h | h
    · subst h; rw [bitsN_zero]; decide
    · rw [bitsN_pos h, Nat.pow_succ]
      have := ih (n / 2) (by omega)
      omega
/-- A right program has at most 2 to the 10 inputs. -/
theorem count_bits {p : Prg} (hz : codeB p = 0) : ∀ k, k ≤ (maxesP p).length → countTo (maxesP p) k ≤ ((2 ^ bitsTo (p.lows ++ p.secrets) k : Nat) : Int)
  | 0, _ => by simp [countTo, bitsTo]
  | k + 1, hk => by
    have h1 := count_bits hz k (by omega)
    have h0 := (countTo_pos (code_max hz) k (by omega)).1
    obtain ⟨m0, m1⟩ := (code_max hz).2 k (by omega)
    have e : (maxesP p).getD k 0 = (tmAt (p.lows ++ p.secrets) k).1 := by rw [maxesP, maxesL_getD (by rw [maxesP, maxesL_len] at hk; omega)]
    have hb := bitsN_lt ((maxesP p).getD k 0).toNat
    have hb' : (maxesP p).getD k 0 + 1 ≤ ((2 ^ bitsN ((maxesP p).getD k 0).toNat : Nat) : Int) := by omega
    rw [countTo, bitsTo, ← e, Nat.pow_add, Int.natCast_mul]
    exact Int.mul_le_mul h1 hb' (by omega) (by omega)
theorem prod_bits {p : Prg} (hz : codeB p = 0) : prodL (maxesP p) ≤ 1024 := by
  have h := count_bits hz _ (Nat.le_refl _)
  rw [countTo_prod] at h
  obtain ⟨_, _, _, hb⟩ := code_inputs hz
  rw [maxesP_len, ← List.length_append, bitsTo_app] at h
  have hp : 2 ^ (bitsTo p.lows p.lows.length + bitsTo p.secrets p.secrets.length) ≤ 2 ^ 10 := Nat.pow_le_pow_right (by omega) hb
  have he : 2 ^ 10 = 1024 := by decide
  omega
end Go.Proofs.YtmooecbdpfhnlaaGreat
/- The contract of the program's AllOutcomes. -/
namespace Go.Proofs.YtmooecbdpfhnlaaGreat
open Go.RowKit Go.Shelf
attribute [local go_sem] Oper.semAt_some

theorem Turn.of_span {D : Nat → Prop} {lo hi : Nat} {a b : World} (h : Span lo hi a b) (hD : ∀ i, lo ≤ i → i < hi → D i) : Turn D a b :=
  ⟨h.os, h.tape, h.output, h.size, fun i hi' hd => h.block i hi' (by
    rcases Nat.lt_or_ge i lo with h1 | h1
    · exact .inl h1
    · rcases Nat.lt_or_ge i hi with h2 | h2
      · exact absurd (hD i h1 h2) hd
      · exact .inr h2)⟩
theorem Turn.mono {D D' : Nat → Prop} {a b : World} (h : Turn D a b) (hD : ∀ i, D i → D' i) : Turn D' a b :=
  ⟨h.os, h.tape, h.output, h.size, fun i hi hd => h.block i hi (fun hh => hd (hD i hh))⟩
theorem Turn.blk {D : Nat → Prop} {a b : World} {k : Nat} {t : TypeId} {xs : List Value} (h : Turn D a b) (hk : Blk a k t xs) (hd : ¬ D k) : Blk b k t xs := (h.block k hk.lt hd).trans hk
theorem ownO_put_def {w : World} {B E n c d : Nat} {a : Option Addr} {rs : List OcR} {os : List Oc} {o' : Obj} {ds : Option (List Deferred)} (h : OwnO w B E a n c rs os) (hD : w.heap[d]? = some (.deferred ds)) : OwnO (w.putObj d o') B E a n c rs os := by
  refine h.keep (grownBy_putObj' w d o') (fun g hg e => ?_) (fun i g hi hg e => ?_)
  · injection e with e
    subst e
    obtain ⟨c1, f1, e1⟩ := Go.Lib.ownsRow_kind h.1 d hg
    rw [hD] at e1
    cases e1
  · injection e with e
    subst e
    obtain ⟨c1, f1, e1⟩ := Go.Lib.ownsRow_kind (h.2.2.2 i hi).2.2.2.2.1 d hg
    rw [hD] at e1
    cases e1
/-- All outcomes of a right program, each once. -/
noncomputable def allO (p : Prg) : List Oc := if codeB p = 0 then diffL (tabOut p (prodL (maxesP p)).toNat) else []
/-- What AllOutcomes leaves. -/
def SetAns (w : World) (os : List Oc) (e : Ending) (w' : World) : Prop :=
  Below w.heap.size w w' ∧ ∃ a n c rs, e = .returned (.slice a n c) ∧ OwnO w' w.heap.size w.heap.size a n c rs os ∧ ApartO rs
/-- The set's blocks, and what is newer than m. -/
def DD (h1 m i : Nat) : Prop := i = h1 ∨ i = h1 + 1 ∨ m ≤ i
/-- Between two rounds. -/
def GoAll (W0 : World) (h1 : Nat) (p : Prg) (m : Nat) (pre : List EIn) (W : World) : Prop :=
  (∀ x ∈ pre, (x.k : Int) < prodL (maxesP p)) ∧ m ≤ W.heap.size ∧ W0.heap.size ≤ m ∧ Turn (DD h1 W0.heap.size) W0 W ∧ SetW W (DD h1 m) m W.heap.size (h1 + 1) (diffL (pre.map fun x => ocAt p x.k))
theorem GoAll.span {W0 A B : World} {h1 m : Nat} {p : Prg} {pre : List EIn} (h : GoAll W0 h1 p m pre A) (hs : Span W0.heap.size m A B) (hh : h1 + 1 < W0.heap.size) : GoAll W0 h1 p m pre B := by
  obtain ⟨q1, q2, q3, q4, q5⟩ := h
  refine ⟨q1, Nat.le_trans q2 hs.size, q3, q4.trans (Turn.of_span hs (fun i h1 _ => .inr (.inr h1))), (q5.turn (Turn.of_span (D := fun i => W0.heap.size ≤ i ∧ i < m) hs (fun i h1 h2 => ⟨h1, h2⟩)) ?_ ?_).up hs.size⟩
  · rintro i (h | h | h) ⟨g1, g2⟩ <;> omega
  · rintro i h _ ⟨g1, g2⟩; omega
/-- One round more. -/
theorem GoAll.snoc {W0 A B : World} {h1 m : Nat} {p : Prg} {pre : List EIn} {x : EIn} (h : GoAll W0 h1 p m pre A) (hx : (x.k : Int) < prodL (maxesP p)) (hh : h1 + 1 < W0.heap.size) (hs : SetW B (DD h1 m) m B.heap.size (h1 + 1) (addNew (diffL (pre.map fun x => ocAt p x.k)) (ocAt p x.k))) (ht : Turn (DD h1 m) A B) :
    A.heap.size ≤ B.heap.size ∧ Stay W0.heap.size m A B ∧ GoAll W0 h1 p m (pre ++ [x]) B := by
  obtain ⟨q1, q2, q3, q4, q5⟩ := h
  refine ⟨ht.size, fun i g1 g2 => ht.block i (by omega) (by rintro (h | h | h) <;> omega), ?_, Nat.le_trans q2 ht.size, q3, q4.trans (ht.mono (fun i h => ?_)), ?_⟩
  · intro y hy
    rcases List.mem_append.1 hy with hy | hy
    · exact q1 y hy
    · rw [List.mem_singleton] at hy; subst hy; exact hx
  · rcases h with h | h | h
    · exact .inl h
    · exact .inr (.inl h)
    · exact .inr (.inr (by omega))
  · rw [List.map_append, List.map_singleton, diffL_snoc]
    exact hs
theorem GoAll.few {W0 A : World} {h1 m : Nat} {p : Prg} {pre : List EIn} (h : GoAll W0 h1 p m pre A) (hz : codeB p = 0) : (diffL (pre.map fun x => ocAt p x.k)).length ≤ 100000 := by
  have h1024 := prod_bits hz
  have hs : ∀ o ∈ diffL (pre.map fun x => ocAt p x.k), o ∈ tabOut p (prodL (maxesP p)).toNat := by
    intro o ho
    obtain ⟨x, hx, rfl⟩ := List.mem_map.1 ((mem_diffL _).1 ho)
    exact List.mem_map.2 ⟨x.k, List.mem_range.2 (by have := h.1 x hx; omega), rfl⟩
  have := nodup_sub_len (diffL_nodup _) hs
  rw [tabOut, List.length_map, List.length_range] at this
  omega
end Go.Proofs.YtmooecbdpfhnlaaGreat
/- The contract of the model's AllOutcomes. -/
namespace Go.Proofs.YtmooecbdpfhnlaaGreat
open Go.RowKit

/-- What the model's AllOutcomes leaves. -/
def OcsAns (w : World) (os : List Oc) (e : Ending) (w' : World) : Prop :=
  Below w.heap.size w w' ∧ ∃ a n c rs, e = .returned (.slice a n c) ∧ OwnO w' w.heap.size w.heap.size a n c rs os
end Go.Proofs.YtmooecbdpfhnlaaGreat
/- The contracts of the library's slices.Grow (onto nothing), slices.Concat and slices.Repeat at bools; the program's freeSecrets. -/
namespace Go.Proofs.YtmooecbdpfhnlaaGreat
open Go.RowKit

def bsAt (bss : List (List Bool)) (i : Nat) : List Bool := bss.getD i []
/-- A slice of slices of bools. -/
def BoolsSS (w : World) (a : Option Addr) (n : Nat) (rs : List Sl) (bss : List (List Bool)) : Prop :=
  rs.length = n ∧ bss.length = n ∧ n ≤ 1048576 ∧ (0 < n → ∃ b o, a = some ⟨b, o, none⟩ ∧ b < w.heap.size ∧ ∀ i, i < n → w.cell? ⟨b, o + i, none⟩ = some (slV (slAt rs i))) ∧
  ∀ i, i < n → Bools w (slAt rs i).1 (slAt rs i).2.1 (bsAt bss i)
theorem BoolsSS.at_ {w : World} {a : Option Addr} {n : Nat} {rs : List Sl} {bss : List (List Bool)} (h : BoolsSS w a n rs bss) {k : Nat} (hk : k < n) :
    ∃ b o a1 n1 c1, a = some ⟨b, o, none⟩ ∧ b < w.heap.size ∧ Hid (slAt rs k = (a1, n1, c1)) ∧ w.cell? ⟨b, o + k, none⟩ = some (.slice a1 n1 c1) ∧ Bools w a1 n1 (bsAt bss k) := by
  obtain ⟨_, _, _, h3, h4⟩ := h
  obtain ⟨b, o, rfl, hb, hc⟩ := h3 (by omega)
  exact ⟨b, o, _, _, _, rfl, hb, rfl, hc k hk, h4 k hk⟩
theorem BoolsSS.below {w w' : World} {a : Option Addr} {n : Nat} {rs : List Sl} {bss : List (List Bool)} (h : BoolsSS w a n rs bss) (hb : Below w.heap.size w w') : BoolsSS w' a n rs bss := by
  obtain ⟨h1, h2, h0, h3, h4⟩ := h
  refine ⟨h1, h2, h0, fun hp => ?_, fun i hi => (h4 i hi).below hb⟩
  obtain ⟨b, o, rfl, hbl, hc⟩ := h3 hp
  exact ⟨b, o, rfl, Nat.lt_of_lt_of_le hbl hb.size, fun i hi => (hb.cell hbl).trans (hc i hi)⟩
theorem run_append_nothingB (w : World) (ty : TypeId) (v : Value) (B n : Nat) (xs : List Value) (hown : w.ownsRow B 4 1 v n xs) (c : Nat) : (Builtin.append_ #[39, 39] ty #[v, .slice none 0 c]).run Tryz.prog w = .ok v w := by
  obtain ⟨i0, hi, hz0, hz1, hz2⟩ := info_parts info_bool
  rcases hown.2 with ⟨rfl, rfl⟩ | ⟨g, cap, cur, rfl, _, _, hnc, _⟩
  · simp [Builtin.append_, run_underlying Tryz.underlying39, sizeOf, typeInfo, hi, Builtin.lenOf, Builtin.firstCells]
  · simp [Builtin.append_, run_underlying Tryz.underlying39, sizeOf, typeInfo, hi, Builtin.lenOf, Builtin.firstCells, hnc, storeCells]
theorem bools_one (bs : List Bool) : ∀ u ∈ bs.map Value.bool, u.oneCell' = true := by
  intro u hu
  obtain ⟨b, _, rfl⟩ := List.mem_map.1 hu
  rfl
set_option maxRecDepth 100000 in
/-- 'append(out, xs...)' of bools: out a row of the call's own, xs whatever slice of them. -/
theorem wpList_concatB {ops : Array Oper} {rest : List Oper} {o : Oper} {ac : Act} {Q : Exit → Act → World → Prop} (w : World) (hgd : o.guard = none) (s x : Operand)
    (ho : o.op = .call { callee := .builtin .append, args := #[s, x], argTypes := #[39, 39] })
    (B : Nat) (a : Option Addr) (n c : Nat) (zs : List Bool) (hs : ac.eval s = .slice a n c) (hown : OwnB w B a n c zs)
    (a2 : Option Addr) (m c2 : Nat) (ys : List Bool) (hx : ac.eval x = .slice a2 m c2) (hi2 : Bools w a2 m ys) (hn : n + m ≤ 1048576) (hB : B ≤ w.heap.size)
    (h : ∀ a1 c1 w', OwnB w' B a1 (n + m) c1 (zs ++ ys) → w.grownBy w' (Value.slice a n c).ownBlock → wpList Tryz.prog ops Q rest (ac.put o.dst (.slice a1 (n + m) c1)) w') : wpList Tryz.prog ops Q (o :: rest) ac w := by
  cases a2 with
  | none =>
    have hm : m = 0 := by
      rcases Nat.eq_zero_or_pos m with h0 | h0
      · exact h0
      · obtain ⟨b, o', e, _⟩ := hi2.2.2 h0
        cases e
    subst hm
    have hys : ys = [] := List.eq_nil_of_length_eq_zero hi2.1
    subst hys
    refine wpList_plain hgd fun K hK' => ?_
    have hrun := run_append_nothingB w o.type (.slice a n c) B n _ hown.1 c2
    unfold Oper.wp
    simp [execOp, ho, resolve, invoke, builtin, hs, hx, hrun, Result.andThen]
    exact hK' _ _ (by simpa using h a c w (by simpa using hown) (World.grownBy.refl _ _))
  | some ad =>
    obtain ⟨i0, hi, hz0, hz1, hz2⟩ := info_parts info_bool
    have hl := hi2.1
    refine wpList_append_own w hgd s x 39 ho B 4 i0 (.bool false) 1 1 Tryz.underlying39 hi hz0 hz1 hz2 rfl (by omega) (.slice a n c) n (zs.map Value.bool) hs hown.1
      ad m c2 (ys.map Value.bool) hx (by simp [hl]) ?_ (bools_one _) ?_ ?_ hB ?_
    · intro j u hj
      have hjl : j < ys.length := by have := (List.getElem?_eq_some_iff.1 hj).1; simpa using this
      obtain ⟨b, off, e, _, hc⟩ := hi2.2.2 (by omega)
      injection e with e
      subst e
      rw [Go.WideShapes.add_plain, hc j (by omega), ← hj]
      simp [bAt, List.getD_eq_getElem?_getD, hjl]
    · unfold maxLen; omega
    · omega
    · intro v' w' h1 h2 _
      have hf : ∃ a1 c1, v' = .slice a1 (n + m) c1 := by
        rcases h1.2 with ⟨e, h0⟩ | ⟨g', cap, cur, e, _⟩
        · exact ⟨none, 0, by rw [e, h0]⟩
        · exact ⟨_, _, e⟩
      obtain ⟨a1, c1, rfl⟩ := hf
      exact h a1 c1 w' ⟨by simpa using h1, hn⟩ h2
theorem below_pushB {w v w' : World} {B : Nat} {a : Option Addr} {n c : Nat} {ts : List Bool} (hb : Below B w v) (hown : OwnB v B a n c ts) (hB : B ≤ v.heap.size) (hg : v.grownBy w' (Value.slice a n c).ownBlock) : Below B w w' :=
  hb.grown hg hB (fun k hk => (hown.block k hk).1)
set_option maxHeartbeats 800000 in
theorem grow_nilB (n : Nat) (w : World) (hn : n ≤ 1048576) :
    Calls Tryz.prog 140 #[.slice none 0 0, .int .i64 (n : Int)] w fun e w' => ∃ a c, e = .returned (.slice a 0 c) ∧ OwnB w' w.heap.size a 0 c [] ∧ Below w.heap.size w w' := by
  obtain ⟨i0, hi, hz0, hz1, hz2⟩ := info_parts info_bool
  by_cases h0 : n = 0
  · subst h0
    clear hi hz0 hz1 hz2
    go_enter Tryz.func140, Tryz.ntmps140
    go_wp2
    go_ret
    exact ⟨_, _, rfl, ownB_nil _ _, Below.refl _ _⟩
  · have hpos : decide ((n : Int) > 0) = true := by simp; omega
    have hneg : decide ((n : Int) < 0) = false := by simp
    have HRUN : Hid (∀ ty, (Builtin.append_ #[39, 3] ty #[.slice none 0 0, .int .i64 (n : Int)]).run Tryz.prog w = .ok (.slice (some ⟨w.heap.size, 0, none⟩) n (grownCap w n 0 4)) (w.drew.alloc (.cells (Builtin.zeroCells (Value.bool false).cells n ++ Builtin.zeroCells (Value.bool false).cells (grownCap w n 0 4 - n)) 4))) := Lib.hid (fun ty => Go.Lib.run_append_nil_zeros w _ _ ty 4 i0 (.bool false) .i64 .i64 Tryz.underlying39 under_int hi hz0 n (by omega) (by rw [hz1]; omega) (by omega) (by rw [hz2]; omega))
    have hge := grownCap_ge w n 0 4
    have hle := grownCap_le_maxLen w n 0 4 (by unfold maxLen; omega)
    have HSZ : Hid ((Builtin.zeroCells (Value.bool false).cells n ++ Builtin.zeroCells (Value.bool false).cells (grownCap w n 0 4 - n)).size = grownCap w n 0 4) := Lib.hid (by simp [Builtin.zeroCells, Value.cells]; omega)
    obtain ⟨cs, HCS⟩ : ∃ cs : Array Value, Hid (Builtin.zeroCells (Value.bool false).cells n ++ Builtin.zeroCells (Value.bool false).cells (grownCap w n 0 4 - n) = cs) := ⟨_, rfl⟩
    obtain ⟨cap, HCAP⟩ : ∃ cap, Hid (grownCap w n 0 4 = cap) := ⟨_, rfl⟩
    rw [HCS.out] at HRUN HSZ
    rw [HCAP.out] at HRUN HSZ hge hle
    clear hi hz0 hz1 hz2 HCS HCAP
    go_enter Tryz.func140, Tryz.ntmps140
    go_wp2_with (at_builtin; refine Go.Lib.wpList_append_run _ rfl _ _ 39 3 rfl (.slice none 0 0) (.int .i64 (n : Int)) rfl rfl _ _ (HRUN.out _) ?_)
    go_ret
    have hb : Below w.heap.size w (w.drew.alloc (.cells cs 4)) := (show Below w.heap.size w w.drew from ⟨rfl, rfl, rfl, Nat.le_refl _, fun _ _ => rfl⟩).alloc (Nat.le_refl _) _
    refine ⟨_, _, rfl, ⟨⟨rfl, .inr ⟨w.heap.size, cap, cs, rfl, Nat.le_refl _, ?_, by omega, hle, by rw [HSZ.out, Nat.mul_one], by simp⟩⟩, by omega⟩, hb⟩
    exact World.alloc_heap_new w.drew _
/-- The first k, one behind the other. -/
def flatB (bss : List (List Bool)) : Nat → List Bool
  | 0 => []
  | k + 1 => flatB bss k ++ bsAt bss k
theorem flatB_mono (bss : List (List Bool)) {i j : Nat} (h : i ≤ j) : (flatB bss i).length ≤ (flatB bss j).length := by
  induction j with
  | zero => obtain rfl : i = 0 := by omega
            exact Nat.le_refl _
  | succ j ih =>
    rcases Nat.lt_or_ge i (j + 1) with h' | h'
    · have := ih (by omega); simp only [flatB, List.length_append]; omega
    · obtain rfl : i = j + 1 := by omega
      exact Nat.le_refl _
set_option maxRecDepth 20000 in
set_option maxHeartbeats 1600000 in
theorem concatB_any (a : Option Addr) (n c : Nat) (rs : List Sl) (bss : List (List Bool)) (w : World) (h : BoolsSS w a n rs bss) (hlen : (flatB bss n).length ≤ 1000000) (hn : n ≤ 1000) :
    Calls Tryz.prog 97 #[.slice a n c] w (MadeB w (flatB bss n)) := by
  go_enter Tryz.func97, Tryz.ntmps97
  go_wp2
  go_loop [3, 11] (fun q i => ∃ k : Nat, k ≤ n ∧ i = .int .i64 (k : Int) ∧ q = .int .i64 (((flatB bss k).length : Nat) : Int)) (fun _ i => n - (intOf i).toNat)
  case atStart => exact ⟨0, Nat.zero_le _, rfl, rfl⟩
  case round =>
    obtain ⟨k, hk, rfl, rfl⟩ := hrel
    by_cases hlt : k < n
    · obtain ⟨b, o, a1, n1, c1, rfl, hb, hsl, hc, hI⟩ := h.at_ hlt
      have hm := flatB_mono bss (show k + 1 ≤ n by omega)
      have he : (flatB bss (k + 1)).length = (flatB bss k).length + n1 := by rw [flatB, List.length_append, hI.1]
      obtain ⟨L, HL⟩ : ∃ L : Nat, Hid ((flatB bss k).length = L) := ⟨_, rfl⟩
      rw [HL.out] at he ⊢
      have hb2 : L + n1 ≤ 1000000 := by omega
      have hneg : decide ((L : Int) + (n1 : Int) < 0) = false := by simp; omega
      have HE := Lib.hid he
      clear hm he hI
      go_wp2
      go_round
      case rel => exact ⟨k + 1, by omega, by go_num, by rw [HE.out]; go_num⟩
      case measure => simp [intOf]; omega
    · obtain rfl : n = k := by omega
      obtain ⟨L, HL⟩ : ∃ L : Nat, Hid ((flatB bss n).length = L) := ⟨_, rfl⟩
      rw [HL.out] at hlen ⊢
      go_wp2_with fail
      refine (grow_nilB L _ (by omega)).mono ?_
      rintro e w1 ⟨ga, gc, rfl, hown, hb1⟩
      go_wp2
      go_loopw [6, 27] (fun s i wr => ∃ (k m d : Nat) (sa : Option Addr), k ≤ n ∧ i = .int .i64 (k : Int) ∧ s = .slice sa m d ∧ OwnB wr w.heap.size sa m d (flatB bss k) ∧ Below w.heap.size w wr) (fun _ i _ => n - (intOf i).toNat)
      case atStart => exact ⟨0, 0, gc, ga, Nat.zero_le _, rfl, rfl, hown, hb1⟩
      case round =>
        clear hown hb1
        obtain ⟨k, m, d, sa, hk2, rfl, rfl, hown, hbel⟩ := hrel
        by_cases hlt : k < n
        · obtain ⟨b, o, a1, n1, c1, rfl, hb, hsl, hc, hI⟩ := (h.below hbel).at_ hlt
          have hm := flatB_mono bss (show k + 1 ≤ n by omega)
          have he : (flatB bss (k + 1)).length = (flatB bss k).length + n1 := by rw [flatB, List.length_append, hI.1]
          have hml := hown.len
          have hsum : m + n1 ≤ 1048576 := by have := HL.out; omega
          have hB := hbel.size
          have HI := Lib.hid hI
          have HO := Lib.hid hown
          clear hm he hml
          go_wp2_with (at_builtin; refine wpList_concatB _ rfl _ _ rfl w.heap.size _ _ _ (flatB bss k) rfl HO.out _ _ _ (bsAt bss k) rfl HI.out hsum hB ?_)
          intro a8 c8 w8 hown8 hg8
          have hb8 := below_pushB hbel HO.out hB hg8
          have HO8 : Hid (OwnB w8 w.heap.size a8 (m + n1) c8 (flatB bss (k + 1))) := Lib.hid hown8
          clear hown8 hg8 hown HO HI hI hbel hB
          go_wp2
          go_roundw
          case rel => exact ⟨k + 1, m + n1, c8, a8, by omega, by go_num, rfl, HO8.out, hb8⟩
          case measure => simp [intOf]; omega
        · obtain rfl : n = k := by omega
          go_wp2
          go_ret
          exact ⟨_, _, _, rfl, hown, hbel⟩
theorem boolsSS_two {w : World} {b : Nat} {t : TypeId} {x y : Sl} {ts us : List Bool} (hB : Blk w b t [slV x, slV y]) (h1 : Bools w x.1 x.2.1 ts) (h2 : Bools w y.1 y.2.1 us) : BoolsSS w (some ⟨b, 0, none⟩) 2 [x, y] [ts, us] := by
  refine ⟨rfl, rfl, by omega, fun _ => ⟨b, 0, rfl, hB.lt, fun i hi => ?_⟩, fun i hi => ?_⟩
  · match i, hi with
    | 0, _ => exact hB.cell (j := 0) rfl
    | 1, _ => exact hB.cell (j := 1) rfl
  · match i, hi with
    | 0, _ => exact h1
    | 1, _ => exact h2
theorem flatB_two (ts us : List Bool) : flatB [ts, us] 2 = ts ++ us := rfl
end Go.Proofs.YtmooecbdpfhnlaaGreat
