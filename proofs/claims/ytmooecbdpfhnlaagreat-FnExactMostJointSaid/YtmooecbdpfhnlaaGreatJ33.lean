/- Joined texts of this proof (J37, J38), in build order. -/
import Derived.Test.YtmooecbdpfhnlaaGreatJ26
import Derived.Test.YtmooecbdpfhnlaaGreatJ32
import Derived.Test.YtmooecbdpfhnlaaGreatJ21
import Derived.Test.YtmooecbdpfhnlaaGreatJ11
import Derived.Test.YtmooecbdpfhnlaaGreatJ15
import Derived.Test.YtmooecbdpfhnlaaGreatJ24
import Derived.Test.YtmooecbdpfhnlaaGreatJ16
import Derived.Test.YtmooecbdpfhnlaaGreatJ12
import Derived.Test.YtmooecbdpfhnlaaGreatJ6
import Derived.Test.YtmooecbdpfhnlaaGreatJ22
import Derived.Test.YtmooecbdpfhnlaaGreatJ25
import Derived.Test.YtmooecbdpfhnlaaGreatJ7
/- Joined texts of this proof (ImplAddRun, BitMath, BitsBack, ImplAll, BoolConcat, ImplBound), in build order. -/
/- The contract of the program's addRun. -/
namespace Go.Proofs.YtmooecbdpfhnlaaGreat
open Go.RowKit

theorem byte_run (p : Prg) (ls ss : List Int) : ByteO (outR p ls ss, endR p ls ss) := by
  intro z hz
  have hz' : z ∈ outR p ls ss := hz
  unfold outR at hz'
  by_cases h : startB p ls ss = true
  · have h1 := (runX_ok h).outs z hz'
    have h2 := pow_256 (startB_ok h)
    omega
  · rw [runX_no (by simpa using h)] at hz'
    simp at hz'
theorem ints_take' {w : World} {a : Option Addr} {n j : Nat} {zs : List Int} (h : Ints w a n zs) (hj : j ≤ n) : Ints w a j (zs.take j) := by
  refine ⟨by rw [List.length_take, h.1]; omega, by have := h.2.1; omega, fun z hz => h.2.2.1 z (List.mem_of_mem_take hz), fun hp => ?_⟩
  obtain ⟨b, o, e, hb, hc⟩ := h.2.2.2 (by omega)
  refine ⟨b, o, e, hb, fun i hi => ?_⟩
  rw [hc i (by omega)]
  simp [List.getD_eq_getElem?_getD, hi]
theorem ints_drop' {w : World} {g n c j : Nat} {zs : List Int} (h : Ints w (some ⟨g, 0, none⟩) n zs) (hj : j ≤ n) (hc : n ≤ c) : Ints w (if c = j then some ⟨g, 0, none⟩ else some ⟨g, j, none⟩) (n - j) (zs.drop j) := by
  refine ⟨by rw [List.length_drop, h.1], by have := h.2.1; omega, fun z hz => h.2.2.1 z (List.mem_of_mem_drop hz), fun hp => ?_⟩
  obtain ⟨b, o, e, hb, hcc⟩ := h.2.2.2 (by omega)
  injection e with e
  injection e with e1 e2
  subst e1 e2
  rw [if_neg (by omega)]
  refine ⟨g, j, rfl, hb, fun i hi => ?_⟩
  have := hcc (j + i) (by omega)
  rw [Nat.zero_add] at this
  rw [this]
  simp [List.getD_eq_getElem?_getD]
/-- Three cells of a box of another kind are written. -/
theorem own_box3 {w : World} {B b n c : Nat} {a : Option Addr} {zs : List Int} {xs : List Value} (h : Own w B a n c zs) (hb : Blk w b 43 xs) (x y z : Value) : Own (((w.setCell ⟨b, 0, none⟩ x).setCell ⟨b, 1, none⟩ y).setCell ⟨b, 2, none⟩ z) B a n c zs := by
  have h1 := h.keep (grown_set w b 0 x) (blk_apart hb h.1 (by decide))
  have b1 := hb.set (j := 0) x
  have h2 := h1.keep (grown_set _ b 1 y) (blk_apart b1 h1.1 (by decide))
  have b2 := b1.set (j := 1) y
  exact h2.keep (grown_set _ b 2 z) (blk_apart b2 h2.1 (by decide))
set_option maxRecDepth 20000 in
set_option maxHeartbeats 3200000 in
theorem addRun_any (w : World) (D : Nat → Prop) (B N k : Nat) (os : List Oc) (r : PRow) (p : Prg) (g n c : Nat) (zs : List Int) (h : SetW w D B N k os) (hD : ∀ i, w.heap.size ≤ i → D i) (hB : B ≤ w.heap.size) (hp : ProgAt w r p) (hcap : r.body.2.1 ≤ r.body.2.2)
    (hi : Ints w (some ⟨g, 0, none⟩) n zs) (hnc : n ≤ c) (hL : p.lows.length ≤ n) (hst : startB p (zs.take p.lows.length) (zs.drop p.lows.length) = true) (hlen : os.length ≤ 100000) :
    Calls Tryz.prog 62 #[.pointer (some ⟨k, 0, none⟩), progV r, .slice (some ⟨g, 0, none⟩) n c] w fun e w' => e = .returned (.tuple #[]) ∧ SetW w' D B w'.heap.size k (addNew os (outR p (zs.take p.lows.length) (zs.drop p.lows.length), endR p (zs.take p.lows.length) (zs.drop p.lows.length))) ∧ Turn D w w' := by
  have hn1 : r.lows.2.1 = p.lows.length := hp.lows.1.symm
  obtain ⟨L, HL⟩ : ∃ L, Hid (p.lows.length = L) := ⟨_, rfl⟩
  rw [HL.out] at hL hst hn1 ⊢
  have hby := byte_run p (zs.take L) (zs.drop L)
  have hsm := rz_small p (zs.take L) (zs.drop L)
  have hol := outR_len p (zs.take L) (zs.drop L)
  obtain ⟨OS, HOS⟩ : ∃ OS, Hid (outR p (zs.take L) (zs.drop L) = OS) := ⟨_, rfl⟩
  obtain ⟨en, co, HEN⟩ : ∃ en co, Hid (endR p (zs.take L) (zs.drop L) = (en, co)) := ⟨_, _, rfl⟩
  have HRUN : Hid (∀ (w' : World) (a a' : Option Addr) (c1 c2 : Nat), Below w.heap.size w w' → Ints w' a L (zs.take L) → Ints w' a' (n - L) (zs.drop L) → Calls Tryz.prog 68 #[progV r, .slice a L c1, .slice a' (n - L) c2] w' fun e w'' => ∃ va vn vc, e = .returned (.tuple #[.agg #[.slice va vn vc, .int .i64 en, .int .i64 co], .bool true]) ∧ Own w'' w'.heap.size va vn vc OS ∧ Below w'.heap.size w' w'') := Lib.hid (fun w' a a' c1 c2 hb h1 h2 => by
    refine (implRunOf_ans r p a a' L c1 (n - L) c2 (zs.take L) (zs.drop L) w' (hp.below hb) hcap h1 h2).mono ?_
    rintro e w2 ⟨hb2, ⟨va, vn, vc⟩, rfl, ho⟩
    rw [hst, HEN.out]
    rw [HOS.out] at ho
    exact ⟨va, vn, vc, rfl, ho, hb2⟩)
  rw [HOS.out, HEN.out] at hby ⊢
  rw [HEN.out] at hsm
  rw [HOS.out] at hol
  have HBY := Lib.hid hby
  have HSM := Lib.hid hsm
  have HOL := Lib.hid hol
  have HSW := Lib.hid h
  have HDD := Lib.hid hD
  have HI := Lib.hid hi
  have hpl : p.lows.length ≤ n := by rw [HL.out]; exact hL
  clear h hD hi hby hsm hol hst hp hcap
  obtain ⟨wd, ⟨a1, n1, c1⟩, ⟨a2, n2, c2⟩, tp, ⟨a3, n3, c3⟩, ⟨a4, n4, c4⟩, rows⟩ := r
  simp only [] at hn1
  subst hn1
  simp only [progV, slV] at HRUN
  show Calls Tryz.prog 62 #[.pointer (some ⟨k, 0, none⟩), .agg #[.int .i64 wd, .slice a1 n1 c1, .slice a2 n2 c2, .int .i64 tp, .slice a3 n3 c3, .slice a4 n4 c4], .slice (some ⟨g, 0, none⟩) n c] w _
  obtain ⟨wa, HW⟩ : ∃ wa, Hid (wa = w.alloc (.cells #[.int .i64 wd, .slice a1 n1 c1, .slice a2 n2 c2, .int .i64 tp, .slice a3 n3 c3, .slice a4 n4 c4] 31)) := ⟨_, rfl⟩
  have B0 : Blk wa w.heap.size 31 [.int .i64 wd, .slice a1 n1 c1, .slice a2 n2 c2, .int .i64 tp, .slice a3 n3 c3, .slice a4 n4 c4] := by rw [HW.out]; exact Blk.new w _ _
  have hba : Below w.heap.size w wa := by rw [HW.out]; exact belA (Below.refl _ _)
  have hd : Below wa.heap.size wa wa.drew := ⟨rfl, rfl, rfl, Nat.le_refl _, fun _ _ => rfl⟩
  have HBA := Lib.hid hba
  have HDR := Lib.hid hd
  have HB0 := Lib.hid B0
  have HDR2 : Hid (Below wa.heap.size wa (wa.alloc (.cells #[.slice none 0 0, .int .i64 0, .int .i64 0] 43)).drew) := Lib.hid (belN (belA (Below.refl _ _)))
  have HXO : Hid (Blk (wa.alloc (.cells #[.slice none 0 0, .int .i64 0, .int .i64 0] 43)).drew wa.heap.size 43 [.slice none 0 0, .int .i64 0, .int .i64 0]) := Lib.hid (Blk.new wa _ _)
  have HT1 : Hid (∀ w', Below w.heap.size w w' → Ints w' (some ⟨g, 0, none⟩) n1 (zs.take n1)) := Lib.hid (fun w' hb => ints_take' (HI.out.below hb) hL)
  have HT2 : Hid (∀ w', Below w.heap.size w w' → Ints w' (if c = n1 then some ⟨g, 0, none⟩ else some ⟨g, n1, none⟩) (n - n1) (zs.drop n1)) := Lib.hid (fun w' hb => ints_drop' (HI.out.below hb) hL hnc)
  have t0 := B0.cell (j := 0) rfl
  have t1 := B0.cell (j := 1) rfl
  have t2 := B0.cell (j := 2) rfl
  have t3 := B0.cell (j := 3) rfl
  have t4 := B0.cell (j := 4) rfl
  have t5 := B0.cell (j := 5) rfl
  have hn1c : n1 ≤ c := by omega
  have hne0 : wa.heap.size ≠ w.heap.size := World.new_ne wa ⟨w.heap.size, 0, none⟩ t0
  clear B0 hba hd
  go_enter Tryz.func62, Tryz.ntmps62
  go_wp2_with fail
  rw [← HW.out]
  clear HW
  go_cut [7] (fun tv wx => ∃ (ob : Nat) (va : Option Addr) (vn vc : Nat), tv = .pointer (some ⟨ob, 0, none⟩) ∧ Blk wx ob 43 [.slice va vn vc, .int .i64 en, .int .i64 co] ∧ Own wx wa.heap.size va vn vc OS ∧ Below wa.heap.size wa wx)
  case first =>
    by_cases hcn : c = n1
    · rw [if_pos hcn] at HT2
      have hcb : (c == n1) = true := by simpa using hcn
      go_region_held3 (fun w' => w'.cell? ⟨w.heap.size, 0, none⟩ = some (.int .i64 wd) ∧ w'.cell? ⟨w.heap.size, 1, none⟩ = some (.slice a1 n1 c1) ∧ w'.cell? ⟨w.heap.size, 2, none⟩ = some (.slice a2 n2 c2) ∧ w'.cell? ⟨w.heap.size, 3, none⟩ = some (.int .i64 tp) ∧ w'.cell? ⟨w.heap.size, 4, none⟩ = some (.slice a3 n3 c3) ∧ w'.cell? ⟨w.heap.size, 5, none⟩ = some (.slice a4 n4 c4)) (first | (refine ⟨?_, ?_, ?_, ?_, ?_, ?_⟩ <;> assumption) | go_keep | (refine ⟨?_, ?_, ?_, ?_, ?_, ?_⟩ <;> go_keep)) (first
        | (go_at_call 68; refine (HRUN.out (wa.alloc (.cells #[.slice none 0 0, .int .i64 0, .int .i64 0] 43)).drew (some ⟨g, 0, none⟩) (some ⟨g, 0, none⟩) n1 0 (HBA.out.trans (HDR2.out.mono HBA.out.size)) (HT1.out _ (HBA.out.trans (HDR2.out.mono HBA.out.size))) (HT2.out _ (HBA.out.trans (HDR2.out.mono HBA.out.size)))).mono ?_; rintro e z1 ⟨va, vn, vc, rfl, hov, hz1⟩; have hz := HDR2.out.trans (hz1.mono HDR2.out.size); have XO := HXO.out.below hz1 HXO.out.lt; have XO1 := XO; have p0 := XO.cell (j := 0) rfl; have p1 := XO.cell (j := 1) rfl; have p2 := XO.cell (j := 2) rfl; have f0 := XO.frozen 0; have f1 := XO.frozen 1; have f2 := XO.frozen 2; have X := HB0.out.below hz HB0.out.lt; have x0 := X.cell (j := 0) rfl; have x1 := X.cell (j := 1) rfl; have x2 := X.cell (j := 2) rfl; have x3 := X.cell (j := 3) rfl; have x4 := X.cell (j := 4) rfl; have x5 := X.cell (j := 5) rfl; have HZ := Lib.hid hz; have HOV := Lib.hid (hov.base HDR2.out.size); have HXZ := Lib.hid XO1; have HLE := Lib.hid (Nat.le_refl wa.heap.size); clear X hz hz1 hov XO XO1)
        | (go_at_call 68; refine (HRUN.out wa.drew (some ⟨g, 0, none⟩) (some ⟨g, 0, none⟩) n1 0 (HBA.out.trans (HDR.out.mono HBA.out.size)) (HT1.out _ (HBA.out.trans (HDR.out.mono HBA.out.size))) (HT2.out _ (HBA.out.trans (HDR.out.mono HBA.out.size)))).mono ?_; rintro e z1 ⟨va, vn, vc, rfl, hov, hz1⟩; have hz := HDR.out.trans (hz1.mono HDR.out.size); have XO := Blk.new z1 43 [.slice none 0 0, .int .i64 0, .int .i64 0]; have XO1 := XO; have p0 := XO.cell (j := 0) rfl; have p1 := XO.cell (j := 1) rfl; have p2 := XO.cell (j := 2) rfl; have f0 := XO.frozen 0; have f1 := XO.frozen 1; have f2 := XO.frozen 2; have X := HB0.out.below hz HB0.out.lt; have x0 := X.cell (j := 0) rfl; have x1 := X.cell (j := 1) rfl; have x2 := X.cell (j := 2) rfl; have x3 := X.cell (j := 3) rfl; have x4 := X.cell (j := 4) rfl; have x5 := X.cell (j := 5) rfl; have hne : z1.heap.size ≠ w.heap.size := World.new_ne z1 ⟨w.heap.size, 0, none⟩ x0; have hne' := hne.symm; have HZ := Lib.hid (belA (o := .cells #[.slice none 0 0, .int .i64 0, .int .i64 0] 43) hz); have HOV := Lib.hid ((hov.base HDR.out.size).below (belA (o := .cells #[.slice none 0 0, .int .i64 0, .int .i64 0] 43) (Below.refl z1.heap.size z1))); have HXZ := Lib.hid XO1; have HLE := Lib.hid hz.size; have HZB := Lib.hid (fun (o : Obj) => belA (o := o) hz); have HOVZ := Lib.hid (fun (o : Obj) => (hov.base HDR.out.size).below (belA (o := o) (Below.refl z1.heap.size z1))); clear X hz hz1 hov XO XO1))
      all_goals
        subst hcn
        go_wp2_with fail
        go_meet
        first
          | exact ⟨_, va, vn, vc, rfl, Blk.new z1 _ _, HOVZ.out _, HZB.out _⟩
          | exact ⟨_, va, vn, vc, rfl, ((HXZ.out.set (j := 0) _).set (j := 1) _).set (j := 2) _, own_box3 HOV.out HXZ.out _ _ _, below_set (below_set (below_set HZ.out HLE.out _) HLE.out _) HLE.out _⟩
    · rw [if_neg hcn] at HT2
      have hcb : (c == n1) = false := by simpa using hcn
      go_region_held3 (fun w' => w'.cell? ⟨w.heap.size, 0, none⟩ = some (.int .i64 wd) ∧ w'.cell? ⟨w.heap.size, 1, none⟩ = some (.slice a1 n1 c1) ∧ w'.cell? ⟨w.heap.size, 2, none⟩ = some (.slice a2 n2 c2) ∧ w'.cell? ⟨w.heap.size, 3, none⟩ = some (.int .i64 tp) ∧ w'.cell? ⟨w.heap.size, 4, none⟩ = some (.slice a3 n3 c3) ∧ w'.cell? ⟨w.heap.size, 5, none⟩ = some (.slice a4 n4 c4)) (first | (refine ⟨?_, ?_, ?_, ?_, ?_, ?_⟩ <;> assumption) | go_keep | (refine ⟨?_, ?_, ?_, ?_, ?_, ?_⟩ <;> go_keep)) (first
        | (go_at_call 68; refine (HRUN.out (wa.alloc (.cells #[.slice none 0 0, .int .i64 0, .int .i64 0] 43)).drew (some ⟨g, 0, none⟩) (some ⟨g, n1, none⟩) c (c - n1) (HBA.out.trans (HDR2.out.mono HBA.out.size)) (HT1.out _ (HBA.out.trans (HDR2.out.mono HBA.out.size))) (HT2.out _ (HBA.out.trans (HDR2.out.mono HBA.out.size)))).mono ?_; rintro e z1 ⟨va, vn, vc, rfl, hov, hz1⟩; have hz := HDR2.out.trans (hz1.mono HDR2.out.size); have XO := HXO.out.below hz1 HXO.out.lt; have XO1 := XO; have p0 := XO.cell (j := 0) rfl; have p1 := XO.cell (j := 1) rfl; have p2 := XO.cell (j := 2) rfl; have f0 := XO.frozen 0; have f1 := XO.frozen 1; have f2 := XO.frozen 2; have X := HB0.out.below hz HB0.out.lt; have x0 := X.cell (j := 0) rfl; have x1 := X.cell (j := 1) rfl; have x2 := X.cell (j := 2) rfl; have x3 := X.cell (j := 3) rfl; have x4 := X.cell (j := 4) rfl; have x5 := X.cell (j := 5) rfl; have HZ := Lib.hid hz; have HOV := Lib.hid (hov.base HDR2.out.size); have HXZ := Lib.hid XO1; have HLE := Lib.hid (Nat.le_refl wa.heap.size); clear X hz hz1 hov XO XO1)
        | (go_at_call 68; refine (HRUN.out wa.drew (some ⟨g, 0, none⟩) (some ⟨g, n1, none⟩) c (c - n1) (HBA.out.trans (HDR.out.mono HBA.out.size)) (HT1.out _ (HBA.out.trans (HDR.out.mono HBA.out.size))) (HT2.out _ (HBA.out.trans (HDR.out.mono HBA.out.size)))).mono ?_; rintro e z1 ⟨va, vn, vc, rfl, hov, hz1⟩; have hz := HDR.out.trans (hz1.mono HDR.out.size); have XO := Blk.new z1 43 [.slice none 0 0, .int .i64 0, .int .i64 0]; have XO1 := XO; have p0 := XO.cell (j := 0) rfl; have p1 := XO.cell (j := 1) rfl; have p2 := XO.cell (j := 2) rfl; have f0 := XO.frozen 0; have f1 := XO.frozen 1; have f2 := XO.frozen 2; have X := HB0.out.below hz HB0.out.lt; have x0 := X.cell (j := 0) rfl; have x1 := X.cell (j := 1) rfl; have x2 := X.cell (j := 2) rfl; have x3 := X.cell (j := 3) rfl; have x4 := X.cell (j := 4) rfl; have x5 := X.cell (j := 5) rfl; have hne : z1.heap.size ≠ w.heap.size := World.new_ne z1 ⟨w.heap.size, 0, none⟩ x0; have hne' := hne.symm; have HZ := Lib.hid (belA (o := .cells #[.slice none 0 0, .int .i64 0, .int .i64 0] 43) hz); have HOV := Lib.hid ((hov.base HDR.out.size).below (belA (o := .cells #[.slice none 0 0, .int .i64 0, .int .i64 0] 43) (Below.refl z1.heap.size z1))); have HXZ := Lib.hid XO1; have HLE := Lib.hid hz.size; have HZB := Lib.hid (fun (o : Obj) => belA (o := o) hz); have HOVZ := Lib.hid (fun (o : Obj) => (hov.base HDR.out.size).below (belA (o := o) (Below.refl z1.heap.size z1))); clear X hz hz1 hov XO XO1))
      all_goals
        go_wp2_with fail
        go_meet
        first
          | exact ⟨_, va, vn, vc, rfl, Blk.new z1 _ _, HOVZ.out _, HZB.out _⟩
          | exact ⟨_, va, vn, vc, rfl, ((HXZ.out.set (j := 0) _).set (j := 1) _).set (j := 2) _, own_box3 HOV.out HXZ.out _ _ _, below_set (below_set (below_set HZ.out HLE.out _) HLE.out _) HLE.out _⟩
  case rest =>
    obtain ⟨ob, va, vn, vc, rfl, HX, HO, HB⟩ := hcut
    have hbw : Below w.heap.size w wc := HBA.out.trans (HB.mono HBA.out.size)
    have x0 := HX.cell (j := 0) rfl
    have x1 := HX.cell (j := 1) rfl
    have x2 := HX.cell (j := 2) rfl
    have hs := HB.size
    have hs0 := HBA.out.size
    have hvn := HO.len
    have hOL := HOL.out
    have hS : (0 ≤ en ∧ en ≤ 2) ∧ (0 ≤ co ∧ co ≤ 9) := HSM.out
    have h64 : In64 en ∧ In64 co := ⟨⟨by omega, by omega⟩, ⟨by omega, by omega⟩⟩
    have HADD : Hid (∀ j, Calls Tryz.prog 104 #[.pointer (some ⟨k, 0, none⟩), .agg #[.slice va vn vc, .int .i64 en, .int .i64 co]] (wc.drewN j) fun e w' => e = .returned (.tuple #[]) ∧ SetW w' D B w'.heap.size k (addNew os (OS, en, co)) ∧ Turn D w w') := Lib.hid (fun j => by
      have hbj : Below w.heap.size w (wc.drewN j) := hbw.trans ((below_drewN wc j).mono hbw.size)
      have hsj := (below_drewN wc j).size
      refine (add_any (wc.drewN j) D B w.heap.size k os va vn vc en co (OS, en, co) ((HSW.out.top).below hbj) (fun i hi => HDD.out i (by omega)) (by omega) ?_ HBY.out (by omega) (fun g hg => by have := (HO.block g hg).1; omega) hlen).mono ?_
      · exact ⟨rfl, rfl, h64.1, h64.2, (HO.below (below_drewN wc j)).base (by omega)⟩
      · rintro e w2 ⟨rfl, h1, h2⟩
        exact ⟨rfl, h1, (Turn.of_below hbj).trans h2⟩)
    clear HX HO HB hbw HSW HDD HI HT1 HT2 HRUN HBY HSM HOL hvn hOL hS hs hs0
    go_wp2_with fail
    refine (HADD.out 0).mono ?_
    rintro e w2 ⟨rfl, HF⟩
    go_wp2_with fail
    go_end0
    exact ⟨rfl, HF⟩
end Go.Proofs.YtmooecbdpfhnlaaGreat
/- The bits of an input: plain mathematics. -/
namespace Go.Proofs.YtmooecbdpfhnlaaGreat
open Go.RowKit

/-- The bit of z that counts 2 to the k. -/
def bitZ (z : Int) (k : Nat) : Bool := z / ((2 ^ k : Nat) : Int) % 2 == 1
/-- The first i of the b bits of z, the highest one first. -/
def hiTo (z : Int) (b i : Nat) : List Bool := (List.range i).map (fun j => bitZ z (b - 1 - j))
/-- The bits of the first k. -/
def inBits (ms zs : List Int) : Nat → List Bool
  | 0 => []
  | k + 1 => inBits ms zs k ++ hiTo (zs.getD k 0) (bitsN (ms.getD k 0).toNat) (bitsN (ms.getD k 0).toNat)
/-- The unit of the i-th bit. -/
def unitN (b i : Nat) : Nat := 2 ^ (b - 1) / 2 ^ i
/-- What InputBits tells. -/
noncomputable def bitsB (p : Prg) (ls ss : List Int) : List Bool := if startB p ls ss = true then inBits (maxesP p) (ls ++ ss) (maxesP p).length else []
end Go.Proofs.YtmooecbdpfhnlaaGreat
/- The bits of an input tell it: plain mathematics. -/
namespace Go.Proofs.YtmooecbdpfhnlaaGreat
open Go.RowKit

theorem bitsN_lt : ∀ n : Nat, n < 2 ^ bitsN n := by
  intro n
  induction n using Nat.strongRecOn with
  | ind n ih =>
    rcases Nat.eq_zero_or_pos n with h | h
    · subst h; rw [bitsN_zero]; decide
    · rw [bitsN_pos h, Nat.pow_succ]
      have := ih (n / 2) (by omega)
      omega
/-- A right program has at most 2 to the 10 inputs. -/
theorem count_bits {p : Prg} (hz : codeB p = 0) : ∀ k, k ≤ (maxesP p).length → countTo (maxesP p) k ≤ ((2 ^ bitsTo (p.lows ++ p.secrets) k : Nat) : Int)
  | 0, _ => by simp [countTo, bitsTo]
  | k + 1, hk => by
    have h1 := count_bits hz k (by omega)
    have h0 := (countTo_pos (code_max hz) k (by omega)).1
    obtain ⟨m0, m1⟩ := (code_max hz).2 k (by omega)
    have e : (maxesP p).getD k 0 = (tmAt (p.lows ++ p.secrets) k).1 := by rw [maxesP, maxesL_getD (by rw [maxesP, maxesL_len] at hk; omega)]
    have hb := bitsN_lt ((maxesP p).getD k 0).toNat
    have hb' : (maxesP p).getD k 0 + 1 ≤ ((2 ^ bitsN ((maxesP p).getD k 0).toNat : Nat) : Int) := by omega
    rw [countTo, bitsTo, ← e, Nat.pow_add, Int.natCast_mul]
    exact Int.mul_le_mul h1 hb' (by omega) (by omega)
theorem prod_bits {p : Prg} (hz : codeB p = 0) : prodL (maxesP p) ≤ 1024 := by
  have h := count_bits hz _ (Nat.le_refl _)
  rw [countTo_prod] at h
  obtain ⟨_, _, _, hb⟩ := code_inputs hz
  rw [maxesP_len, ← List.length_append, bitsTo_app] at h
  have hp : 2 ^ (bitsTo p.lows p.lows.length + bitsTo p.secrets p.secrets.length) ≤ 2 ^ 10 := Nat.pow_le_pow_right (by omega) hb
  have he : 2 ^ 10 = 1024 := by decide
  omega
end Go.Proofs.YtmooecbdpfhnlaaGreat
/- The contract of the program's AllOutcomes. -/
namespace Go.Proofs.YtmooecbdpfhnlaaGreat
open Go.RowKit Go.Shelf
attribute [local go_sem] Oper.semAt_some

theorem Turn.of_span {D : Nat → Prop} {lo hi : Nat} {a b : World} (h : Span lo hi a b) (hD : ∀ i, lo ≤ i → i < hi → D i) : Turn D a b :=
  ⟨h.os, h.tape, h.output, h.size, fun i hi' hd => h.block i hi' (by
    rcases Nat.lt_or_ge i lo with h1 | h1
    · exact .inl h1
    · rcases Nat.lt_or_ge i hi with h2 | h2
      · exact absurd (hD i h1 h2) hd
      · exact .inr h2)⟩
theorem Turn.mono {D D' : Nat → Prop} {a b : World} (h : Turn D a b) (hD : ∀ i, D i → D' i) : Turn D' a b :=
  ⟨h.os, h.tape, h.output, h.size, fun i hi hd => h.block i hi (fun hh => hd (hD i hh))⟩
theorem Turn.blk {D : Nat → Prop} {a b : World} {k : Nat} {t : TypeId} {xs : List Value} (h : Turn D a b) (hk : Blk a k t xs) (hd : ¬ D k) : Blk b k t xs := (h.block k hk.lt hd).trans hk
theorem ownO_put_def {w : World} {B E n c d : Nat} {a : Option Addr} {rs : List OcR} {os : List Oc} {o' : Obj} {ds : Option (List Deferred)} (h : OwnO w B E a n c rs os) (hD : w.heap[d]? = some (.deferred ds)) : OwnO (w.putObj d o') B E a n c rs os := by
  refine h.keep (grownBy_putObj' w d o') (fun g hg e => ?_) (fun i g hi hg e => ?_)
  · injection e with e
    subst e
    obtain ⟨c1, f1, e1⟩ := Go.Lib.ownsRow_kind h.1 d hg
    rw [hD] at e1
    cases e1
  · injection e with e
    subst e
    obtain ⟨c1, f1, e1⟩ := Go.Lib.ownsRow_kind (h.2.2.2 i hi).2.2.2.2.1 d hg
    rw [hD] at e1
    cases e1
/-- All outcomes of a right program, each once. -/
noncomputable def allO (p : Prg) : List Oc := if codeB p = 0 then diffL (tabOut p (prodL (maxesP p)).toNat) else []
/-- What AllOutcomes leaves. -/
def SetAns (w : World) (os : List Oc) (e : Ending) (w' : World) : Prop :=
  Below w.heap.size w w' ∧ ∃ a n c rs, e = .returned (.slice a n c) ∧ OwnO w' w.heap.size w.heap.size a n c rs os ∧ ApartO rs
/-- The set's blocks, and what is newer than m. -/
def DD (h1 m i : Nat) : Prop := i = h1 ∨ i = h1 + 1 ∨ m ≤ i
/-- Between two rounds. -/
def GoAll (W0 : World) (h1 : Nat) (p : Prg) (m : Nat) (pre : List EIn) (W : World) : Prop :=
  (∀ x ∈ pre, (x.k : Int) < prodL (maxesP p)) ∧ m ≤ W.heap.size ∧ W0.heap.size ≤ m ∧ Turn (DD h1 W0.heap.size) W0 W ∧ SetW W (DD h1 m) m W.heap.size (h1 + 1) (diffL (pre.map fun x => ocAt p x.k))
theorem GoAll.span {W0 A B : World} {h1 m : Nat} {p : Prg} {pre : List EIn} (h : GoAll W0 h1 p m pre A) (hs : Span W0.heap.size m A B) (hh : h1 + 1 < W0.heap.size) : GoAll W0 h1 p m pre B := by
  obtain ⟨q1, q2, q3, q4, q5⟩ := h
  refine ⟨q1, Nat.le_trans q2 hs.size, q3, q4.trans (Turn.of_span hs (fun i h1 _ => .inr (.inr h1))), (q5.turn (Turn.of_span (D := fun i => W0.heap.size ≤ i ∧ i < m) hs (fun i h1 h2 => ⟨h1, h2⟩)) ?_ ?_).up hs.size⟩
  · rintro i (h | h | h) ⟨g1, g2⟩ <;> omega
  · rintro i h _ ⟨g1, g2⟩; omega
/-- One round more. -/
theorem GoAll.snoc {W0 A B : World} {h1 m : Nat} {p : Prg} {pre : List EIn} {x : EIn} (h : GoAll W0 h1 p m pre A) (hx : (x.k : Int) < prodL (maxesP p)) (hh : h1 + 1 < W0.heap.size) (hs : SetW B (DD h1 m) m B.heap.size (h1 + 1) (addNew (diffL (pre.map fun x => ocAt p x.k)) (ocAt p x.k))) (ht : Turn (DD h1 m) A B) :
    A.heap.size ≤ B.heap.size ∧ Stay W0.heap.size m A B ∧ GoAll W0 h1 p m (pre ++ [x]) B := by
  obtain ⟨q1, q2, q3, q4, q5⟩ := h
  refine ⟨ht.size, fun i g1 g2 => ht.block i (by omega) (by rintro (h | h | h) <;> omega), ?_, Nat.le_trans q2 ht.size, q3, q4.trans (ht.mono (fun i h => ?_)), ?_⟩
  · intro y hy
    rcases List.mem_append.1 hy with hy | hy
    · exact q1 y hy
    · rw [List.mem_singleton] at hy; subst hy; exact hx
  · rcases h with h | h | h
    · exact .inl h
    · exact .inr (.inl h)
    · exact .inr (.inr (by omega))
  · rw [List.map_append, List.map_singleton, diffL_snoc]
    exact hs
theorem GoAll.few {W0 A : World} {h1 m : Nat} {p : Prg} {pre : List EIn} (h : GoAll W0 h1 p m pre A) (hz : codeB p = 0) : (diffL (pre.map fun x => ocAt p x.k)).length ≤ 100000 := by
  have h1024 := prod_bits hz
  have hs : ∀ o ∈ diffL (pre.map fun x => ocAt p x.k), o ∈ tabOut p (prodL (maxesP p)).toNat := by
    intro o ho
    obtain ⟨x, hx, rfl⟩ := List.mem_map.1 ((mem_diffL _).1 ho)
    exact List.mem_map.2 ⟨x.k, List.mem_range.2 (by have := h.1 x hx; omega), rfl⟩
  have := nodup_sub_len (diffL_nodup _) hs
  rw [tabOut, List.length_map, List.length_range] at this
  omega
end Go.Proofs.YtmooecbdpfhnlaaGreat
/- The contracts of the library's slices.Grow (onto nothing), slices.Concat and slices.Repeat at bools; the program's freeSecrets. -/
namespace Go.Proofs.YtmooecbdpfhnlaaGreat
open Go.RowKit

def bsAt (bss : List (List Bool)) (i : Nat) : List Bool := bss.getD i []
/-- A slice of slices of bools. -/
def BoolsSS (w : World) (a : Option Addr) (n : Nat) (rs : List Sl) (bss : List (List Bool)) : Prop :=
  rs.length = n ∧ bss.length = n ∧ n ≤ 1048576 ∧ (0 < n → ∃ b o, a = some ⟨b, o, none⟩ ∧ b < w.heap.size ∧ ∀ i, i < n → w.cell? ⟨b, o + i, none⟩ = some (slV (slAt rs i))) ∧
  ∀ i, i < n → Bools w (slAt rs i).1 (slAt rs i).2.1 (bsAt bss i)
theorem BoolsSS.at_ {w : World} {a : Option Addr} {n : Nat} {rs : List Sl} {bss : List (List Bool)} (h : BoolsSS w a n rs bss) {k : Nat} (hk : k < n) :
    ∃ b o a1 n1 c1, a = some ⟨b, o, none⟩ ∧ b < w.heap.size ∧ Hid (slAt rs k = (a1, n1, c1)) ∧ w.cell? ⟨b, o + k, none⟩ = some (.slice a1 n1 c1) ∧ Bools w a1 n1 (bsAt bss k) := by
  obtain ⟨_, _, _, h3, h4⟩ := h
  obtain ⟨b, o, rfl, hb, hc⟩ := h3 (by omega)
  exact ⟨b, o, _, _, _, rfl, hb, rfl, hc k hk, h4 k hk⟩
theorem BoolsSS.below {w w' : World} {a : Option Addr} {n : Nat} {rs : List Sl} {bss : List (List Bool)} (h : BoolsSS w a n rs bss) (hb : Below w.heap.size w w') : BoolsSS w' a n rs bss := by
  obtain ⟨h1, h2, h0, h3, h4⟩ := h
  refine ⟨h1, h2, h0, fun hp => ?_, fun i hi => (h4 i hi).below hb⟩
  obtain ⟨b, o, rfl, hbl, hc⟩ := h3 hp
  exact ⟨b, o, rfl, Nat.lt_of_lt_of_le hbl hb.size, fun i hi => (hb.cell hbl).trans (hc i hi)⟩
theorem run_append_nothingB (w : World) (ty : TypeId) (v : Value) (B n : Nat) (xs : List Value) (hown : w.ownsRow B 4 1 v n xs) (c : Nat) : (Builtin.append_ #[39, 39] ty #[v, .slice none 0 c]).run Tryz.prog w = .ok v w := by
  obtain ⟨i0, hi, hz0, hz1, hz2⟩ := info_parts info_bool
  rcases hown.2 with ⟨rfl, rfl⟩ | ⟨g, cap, cur, rfl, _, _, hnc, _⟩
  · simp [Builtin.append_, run_underlying Tryz.underlying39, sizeOf, typeInfo, hi, Builtin.lenOf, Builtin.firstCells]
  · simp [Builtin.append_, run_underlying Tryz.underlying39, sizeOf, typeInfo, hi, Builtin.lenOf, Builtin.firstCells, hnc, storeCells]
theorem bools_one (bs : List Bool) : ∀ u ∈ bs.map Value.bool, u.oneCell' = true := by
  intro u hu
  obtain ⟨b, _, rfl⟩ := List.mem_map.1 hu
  rfl
set_option maxRecDepth 100000 in
/-- 'append(out, xs...)' of bools: out a row of the call's own, xs whatever slice of them. -/
theorem wpList_concatB {ops : Array Oper} {rest : List Oper} {o : Oper} {ac : Act} {Q : Exit → Act → World → Prop} (w : World) (hgd : o.guard = none) (s x : Operand)
    (ho : o.op = .call { callee := .builtin .append, args := #[s, x], argTypes := #[39, 39] })
    (B : Nat) (a : Option Addr) (n c : Nat) (zs : List Bool) (hs : ac.eval s = .slice a n c) (hown : OwnB w B a n c zs)
    (a2 : Option Addr) (m c2 : Nat) (ys : List Bool) (hx : ac.eval x = .slice a2 m c2) (hi2 : Bools w a2 m ys) (hn : n + m ≤ 1048576) (hB : B ≤ w.heap.size)
    (h : ∀ a1 c1 w', OwnB w' B a1 (n + m) c1 (zs ++ ys) → w.grownBy w' (Value.slice a n c).ownBlock → wpList Tryz.prog ops Q rest (ac.put o.dst (.slice a1 (n + m) c1)) w') : wpList Tryz.prog ops Q (o :: rest) ac w := by
  cases a2 with
  | none =>
    have hm : m = 0 := by
      rcases Nat.eq_zero_or_pos m with h0 | h0
      · exact h0
      · obtain ⟨b, o', e, _⟩ := hi2.2.2 h0
        cases e
    subst hm
    have hys : ys = [] := List.eq_nil_of_length_eq_zero hi2.1
    subst hys
    refine wpList_plain hgd fun K hK' => ?_
    have hrun := run_append_nothingB w o.type (.slice a n c) B n _ hown.1 c2
    unfold Oper.wp
    simp [execOp, ho, resolve, invoke, builtin, hs, hx, hrun, Result.andThen]
    exact hK' _ _ (by simpa using h a c w (by simpa using hown) (World.grownBy.refl _ _))
  | some ad =>
    obtain ⟨i0, hi, hz0, hz1, hz2⟩ := info_parts info_bool
    have hl := hi2.1
    refine wpList_append_own w hgd s x 39 ho B 4 i0 (.bool false) 1 1 Tryz.underlying39 hi hz0 hz1 hz2 rfl (by omega) (.slice a n c) n (zs.map Value.bool) hs hown.1
      ad m c2 (ys.map Value.bool) hx (by simp [hl]) ?_ (bools_one _) ?_ ?_ hB ?_
    · intro j u hj
      have hjl : j < ys.length := by have := (List.getElem?_eq_some_iff.1 hj).1; simpa using this
      obtain ⟨b, off, e, _, hc⟩ := hi2.2.2 (by omega)
      injection e with e
      subst e
      rw [Go.WideShapes.add_plain, hc j (by omega), ← hj]
      simp [bAt, List.getD_eq_getElem?_getD, hjl]
    · unfold maxLen; omega
    · omega
    · intro v' w' h1 h2 _
      have hf : ∃ a1 c1, v' = .slice a1 (n + m) c1 := by
        rcases h1.2 with ⟨e, h0⟩ | ⟨g', cap, cur, e, _⟩
        · exact ⟨none, 0, by rw [e, h0]⟩
        · exact ⟨_, _, e⟩
      obtain ⟨a1, c1, rfl⟩ := hf
      exact h a1 c1 w' ⟨by simpa using h1, hn⟩ h2
theorem below_pushB {w v w' : World} {B : Nat} {a : Option Addr} {n c : Nat} {ts : List Bool} (hb : Below B w v) (hown : OwnB v B a n c ts) (hB : B ≤ v.heap.size) (hg : v.grownBy w' (Value.slice a n c).ownBlock) : Below B w w' :=
  hb.grown hg hB (fun k hk => (hown.block k hk).1)
set_option maxHeartbeats 800000 in
theorem grow_nilB (n : Nat) (w : World) (hn : n ≤ 1048576) :
    Calls Tryz.prog 140 #[.slice none 0 0, .int .i64 (n : Int)] w fun e w' => ∃ a c, e = .returned (.slice a 0 c) ∧ OwnB w' w.heap.size a 0 c [] ∧ Below w.heap.size w w' := by
  obtain ⟨i0, hi, hz0, hz1, hz2⟩ := info_parts info_bool
  by_cases h0 : n = 0
  · subst h0
    clear hi hz0 hz1 hz2
    go_enter Tryz.func140, Tryz.ntmps140
    go_wp2
    go_ret
    exact ⟨_, _, rfl, ownB_nil _ _, Below.refl _ _⟩
  · have hpos : decide ((n : Int) > 0) = true := by simp; omega
    have hneg : decide ((n : Int) < 0) = false := by simp
    have HRUN : Hid (∀ ty, (Builtin.append_ #[39, 3] ty #[.slice none 0 0, .int .i64 (n : Int)]).run Tryz.prog w = .ok (.slice (some ⟨w.heap.size, 0, none⟩) n (grownCap w n 0 4)) (w.drew.alloc (.cells (Builtin.zeroCells (Value.bool false).cells n ++ Builtin.zeroCells (Value.bool false).cells (grownCap w n 0 4 - n)) 4))) := Lib.hid (fun ty => Go.Lib.run_append_nil_zeros w _ _ ty 4 i0 (.bool false) .i64 .i64 Tryz.underlying39 under_int hi hz0 n (by omega) (by rw [hz1]; omega) (by omega) (by rw [hz2]; omega))
    have hge := grownCap_ge w n 0 4
    have hle := grownCap_le_maxLen w n 0 4 (by unfold maxLen; omega)
    have HSZ : Hid ((Builtin.zeroCells (Value.bool false).cells n ++ Builtin.zeroCells (Value.bool false).cells (grownCap w n 0 4 - n)).size = grownCap w n 0 4) := Lib.hid (by simp [Builtin.zeroCells, Value.cells]; omega)
    obtain ⟨cs, HCS⟩ : ∃ cs : Array Value, Hid (Builtin.zeroCells (Value.bool false).cells n ++ Builtin.zeroCells (Value.bool false).cells (grownCap w n 0 4 - n) = cs) := ⟨_, rfl⟩
    obtain ⟨cap, HCAP⟩ : ∃ cap, Hid (grownCap w n 0 4 = cap) := ⟨_, rfl⟩
    rw [HCS.out] at HRUN HSZ
    rw [HCAP.out] at HRUN HSZ hge hle
    clear hi hz0 hz1 hz2 HCS HCAP
    go_enter Tryz.func140, Tryz.ntmps140
    go_wp2_with (at_builtin; refine Go.Lib.wpList_append_run _ rfl _ _ 39 3 rfl (.slice none 0 0) (.int .i64 (n : Int)) rfl rfl _ _ (HRUN.out _) ?_)
    go_ret
    have hb : Below w.heap.size w (w.drew.alloc (.cells cs 4)) := (show Below w.heap.size w w.drew from ⟨rfl, rfl, rfl, Nat.le_refl _, fun _ _ => rfl⟩).alloc (Nat.le_refl _) _
    refine ⟨_, _, rfl, ⟨⟨rfl, .inr ⟨w.heap.size, cap, cs, rfl, Nat.le_refl _, ?_, by omega, hle, by rw [HSZ.out, Nat.mul_one], by simp⟩⟩, by omega⟩, hb⟩
    exact World.alloc_heap_new w.drew _
/-- The first k, one behind the other. -/
def flatB (bss : List (List Bool)) : Nat → List Bool
  | 0 => []
  | k + 1 => flatB bss k ++ bsAt bss k
theorem flatB_mono (bss : List (List Bool)) {i j : Nat} (h : i ≤ j) : (flatB bss i).length ≤ (flatB bss j).length := by
  induction j with
  | zero => obtain rfl : i = 0 := by omega
            exact Nat.le_refl _
  | succ j ih =>
    rcases Nat.lt_or_ge i (j + 1) with h' | h'
    · have := ih (by omega); simp only [flatB, List.length_append]; omega
    · obtain rfl : i = j + 1 := by omega
      exact Nat.le_refl _
set_option maxRecDepth 20000 in
set_option maxHeartbeats 1600000 in
theorem concatB_any (a : Option Addr) (n c : Nat) (rs : List Sl) (bss : List (List Bool)) (w : World) (h : BoolsSS w a n rs bss) (hlen : (flatB bss n).length ≤ 1000000) (hn : n ≤ 1000) :
    Calls Tryz.prog 97 #[.slice a n c] w (MadeB w (flatB bss n)) := by
  go_enter Tryz.func97, Tryz.ntmps97
  go_wp2
  go_loop [3, 11] (fun q i => ∃ k : Nat, k ≤ n ∧ i = .int .i64 (k : Int) ∧ q = .int .i64 (((flatB bss k).length : Nat) : Int)) (fun _ i => n - (intOf i).toNat)
  case atStart => exact ⟨0, Nat.zero_le _, rfl, rfl⟩
  case round =>
    obtain ⟨k, hk, rfl, rfl⟩ := hrel
    by_cases hlt : k < n
    · obtain ⟨b, o, a1, n1, c1, rfl, hb, hsl, hc, hI⟩ := h.at_ hlt
      have hm := flatB_mono bss (show k + 1 ≤ n by omega)
      have he : (flatB bss (k + 1)).length = (flatB bss k).length + n1 := by rw [flatB, List.length_append, hI.1]
      obtain ⟨L, HL⟩ : ∃ L : Nat, Hid ((flatB bss k).length = L) := ⟨_, rfl⟩
      rw [HL.out] at he ⊢
      have hb2 : L + n1 ≤ 1000000 := by omega
      have hneg : decide ((L : Int) + (n1 : Int) < 0) = false := by simp; omega
      have HE := Lib.hid he
      clear hm he hI
      go_wp2
      go_round
      case rel => exact ⟨k + 1, by omega, by go_num, by rw [HE.out]; go_num⟩
      case measure => simp [intOf]; omega
    · obtain rfl : n = k := by omega
      obtain ⟨L, HL⟩ : ∃ L : Nat, Hid ((flatB bss n).length = L) := ⟨_, rfl⟩
      rw [HL.out] at hlen ⊢
      go_wp2_with fail
      refine (grow_nilB L _ (by omega)).mono ?_
      rintro e w1 ⟨ga, gc, rfl, hown, hb1⟩
      go_wp2
      go_loopw [6, 27] (fun s i wr => ∃ (k m d : Nat) (sa : Option Addr), k ≤ n ∧ i = .int .i64 (k : Int) ∧ s = .slice sa m d ∧ OwnB wr w.heap.size sa m d (flatB bss k) ∧ Below w.heap.size w wr) (fun _ i _ => n - (intOf i).toNat)
      case atStart => exact ⟨0, 0, gc, ga, Nat.zero_le _, rfl, rfl, hown, hb1⟩
      case round =>
        clear hown hb1
        obtain ⟨k, m, d, sa, hk2, rfl, rfl, hown, hbel⟩ := hrel
        by_cases hlt : k < n
        · obtain ⟨b, o, a1, n1, c1, rfl, hb, hsl, hc, hI⟩ := (h.below hbel).at_ hlt
          have hm := flatB_mono bss (show k + 1 ≤ n by omega)
          have he : (flatB bss (k + 1)).length = (flatB bss k).length + n1 := by rw [flatB, List.length_append, hI.1]
          have hml := hown.len
          have hsum : m + n1 ≤ 1048576 := by have := HL.out; omega
          have hB := hbel.size
          have HI := Lib.hid hI
          have HO := Lib.hid hown
          clear hm he hml
          go_wp2_with (at_builtin; refine wpList_concatB _ rfl _ _ rfl w.heap.size _ _ _ (flatB bss k) rfl HO.out _ _ _ (bsAt bss k) rfl HI.out hsum hB ?_)
          intro a8 c8 w8 hown8 hg8
          have hb8 := below_pushB hbel HO.out hB hg8
          have HO8 : Hid (OwnB w8 w.heap.size a8 (m + n1) c8 (flatB bss (k + 1))) := Lib.hid hown8
          clear hown8 hg8 hown HO HI hI hbel hB
          go_wp2
          go_roundw
          case rel => exact ⟨k + 1, m + n1, c8, a8, by omega, by go_num, rfl, HO8.out, hb8⟩
          case measure => simp [intOf]; omega
        · obtain rfl : n = k := by omega
          go_wp2
          go_ret
          exact ⟨_, _, _, rfl, hown, hbel⟩
theorem boolsSS_two {w : World} {b : Nat} {t : TypeId} {x y : Sl} {ts us : List Bool} (hB : Blk w b t [slV x, slV y]) (h1 : Bools w x.1 x.2.1 ts) (h2 : Bools w y.1 y.2.1 us) : BoolsSS w (some ⟨b, 0, none⟩) 2 [x, y] [ts, us] := by
  refine ⟨rfl, rfl, by omega, fun _ => ⟨b, 0, rfl, hB.lt, fun i hi => ?_⟩, fun i hi => ?_⟩
  · match i, hi with
    | 0, _ => exact hB.cell (j := 0) rfl
    | 1, _ => exact hB.cell (j := 1) rfl
  · match i, hi with
    | 0, _ => exact h1
    | 1, _ => exact h2
theorem flatB_two (ts us : List Bool) : flatB [ts, us] 2 = ts ++ us := rfl
end Go.Proofs.YtmooecbdpfhnlaaGreat
/- The contracts of the program's boundIn and freeSecrets. -/
namespace Go.Proofs.YtmooecbdpfhnlaaGreat
open Go.RowKit

theorem take_getD (fr : List Bool) (k i : Nat) : (fr.take k).getD i false = if i < k then fr.getD i false else false := by
  rw [List.getD_eq_getElem?_getD, List.getElem?_take]
  split
  · rw [List.getD_eq_getElem?_getD]
  · rfl
theorem bound_zero (fr : List Bool) (zs : List Int) : boundL (fr.take 0) zs = zs := by
  cases zs <;> simp [boundL]
theorem set_zero (zs : List Int) (k i : Nat) : (zs.set k 0).getD i 0 = if k = i then 0 else zs.getD i 0 := by
  rw [List.getD_eq_getElem?_getD, List.getElem?_set, List.getD_eq_getElem?_getD]
  by_cases e : k = i
  · subst e
    by_cases h : k < zs.length <;> simp [h]
  · simp [e]
theorem bound_step {fr : List Bool} {zs : List Int} {k : Nat} : boundL (fr.take (k + 1)) zs = if fr.getD k false then (boundL (fr.take k) zs).set k 0 else boundL (fr.take k) zs := by
  refine ext_getD (by split <;> simp [boundL_len]) (fun i _ => ?_)
  by_cases hf : fr.getD k false = true
  · rw [if_pos hf, set_zero, boundL_getD, boundL_getD, take_getD, take_getD]
    by_cases e : k = i
    · subst e
      rw [if_pos (show k < k + 1 by omega), if_pos hf, if_pos rfl]
    · rw [if_neg e]
      by_cases h1 : i < k
      · rw [if_pos h1, if_pos (show i < k + 1 by omega)]
      · rw [if_neg h1, if_neg (show ¬ i < k + 1 by omega)]
  · rw [if_neg hf, boundL_getD, boundL_getD, take_getD, take_getD]
    by_cases h1 : i < k
    · rw [if_pos h1, if_pos (show i < k + 1 by omega)]
    · rw [if_neg h1]
      by_cases h2 : i < k + 1
      · obtain rfl : i = k := by omega
        rw [if_pos h2, if_neg hf]
        simp
      · rw [if_neg h2]
theorem bound_all {fr : List Bool} {zs : List Int} {n : Nat} (h : zs.length = n) : boundL (fr.take n) zs = boundL fr zs := by
  refine ext_getD (by simp [boundL_len]) (fun i hi => ?_)
  rw [boundL_len] at hi
  rw [boundL_getD, boundL_getD, take_getD, if_pos (show i < n by omega)]
theorem bound_mem {P : Int → Prop} {fs : List Bool} {zs : List Int} (h0 : P 0) (h : ∀ z ∈ zs, P z) : ∀ z ∈ boundL fs zs, P z := by
  intro z hz
  obtain ⟨i, hi, rfl⟩ := List.getElem_of_mem hz
  have e := boundL_getD fs zs i
  rw [boundL_len] at hi
  rw [List.getD_eq_getElem?_getD, List.getElem?_eq_getElem (by rw [boundL_len]; exact hi)] at e
  simp only [Option.getD_some] at e
  rw [e]
  split
  · exact h0
  · rw [List.getD_eq_getElem?_getD, List.getElem?_eq_getElem hi]
    exact h _ (List.getElem_mem hi)
theorem Own.put {w : World} {B g n c k : Nat} {zs : List Int} (h : Own w B (some ⟨g, 0, none⟩) n c zs) (z : Int) (hz : In64 z) : Own (w.setCell ⟨g, k, none⟩ (.int .i64 z)) B (some ⟨g, 0, none⟩) n c (zs.set k z) :=
  ⟨own_put h.1 k z, h.2.1, fun y hy => by
    rcases List.mem_or_eq_of_mem_set hy with hy | rfl
    · exact h.2.2 y hy
    · exact hz⟩
set_option maxHeartbeats 1600000 in
theorem boundIn_any (a af : Option Addr) (n c nf cf : Nat) (zs : List Int) (fr : List Bool) (w : World) (h : Ints w a n zs) (hz : ∀ z ∈ zs, 0 ≤ z ∧ z ≤ 255) (hf : Bools w af nf fr) (hnn : n ≤ nf) (hn : n ≤ 1000) :
    Calls Tryz.prog 58 #[.slice a n c, .slice af nf cf] w fun e w' => e = .returned (.string (strOfNums (boundL fr zs))) ∧ Below w.heap.size w w' := by
  have HL := Lib.hid h.1
  have HZ := Lib.hid hz
  have HI := Lib.hid h
  have HF := Lib.hid hf
  clear h hz hf
  go_enter Tryz.func58, Tryz.ntmps58
  go_wp2_with fail
  refine (cloneInts_any _ _ _ zs _ HI.out).mono ?_
  rintro e w1 ⟨a1, m1, c1, rfl, ho, hb1⟩
  obtain rfl : m1 = n := by rw [← ho.len, HL.out]
  have HO := Lib.hid ho
  have HB1 := Lib.hid hb1
  clear ho hb1
  go_wp2_with fail
  go_loopw [11] (fun i wr => ∃ k : Nat, k ≤ m1 ∧ i = .int .i64 (k : Int) ∧ Own wr w.heap.size a1 m1 c1 (boundL (fr.take k) zs) ∧ Below w.heap.size w wr) (fun i _ => m1 - (intOf i).toNat)
  case atStart => exact ⟨0, Nat.zero_le _, rfl, by rw [bound_zero]; exact HO.out, HB1.out⟩
  case round =>
    clear HO HB1
    obtain ⟨k, hk, rfl, hown, hbel⟩ := hrel
    by_cases hlt : k < m1
    · obtain ⟨bf, of, zf, rfl, hbf, hzf, hcf⟩ := (HF.out.below hbel).at_ (show k < nf by omega)
      have hst := bound_step (fr := fr) (zs := zs) (k := k)
      rw [show fr.getD k false = zf from hzf.out.symm] at hst
      cases zf with
      | true =>
        rw [if_pos rfl] at hst
        obtain ⟨gv, rfl, hcv, hfv, hgv⟩ := own_at (k := k) hown (by rw [hown.len]; exact hlt)
        have HP := Lib.hid (hown.put (k := k) 0 ⟨by omega, by omega⟩)
        rw [← hst] at HP
        have HB := Lib.hid (below_set hbel (b := gv) (j := k) (hown.block gv rfl).1 (.int .i64 0))
        clear hst hown hbel hbf hzf hgv
        go_wp2
        go_roundw
        case rel => exact ⟨k + 1, by omega, by go_num, HP.out, HB.out⟩
        case measure => simp [intOf]; omega
      | false =>
        rw [if_neg (by simp)] at hst
        rw [← hst] at hown
        clear hst hbf hzf
        go_wp2
        go_roundw
        case rel => exact ⟨k + 1, by omega, by go_num, hown, hbel⟩
        case measure => simp [intOf]; omega
    · obtain rfl : m1 = k := by omega
      rw [bound_all HL.out] at hown
      have HC := Lib.hid (bytesOf_any a1 m1 c1 (boundL fr zs) wr hown.ints (bound_mem (by omega) HZ.out) hn)
      clear hown
      go_wp2_with fail
      refine HC.out.mono ?_
      rintro e w2 ⟨rfl, hb2⟩
      have hF := Lib.hid (hbel.trans (hb2.mono hbel.size))
      clear hbel hb2
      go_wp2
      go_ret
      exact ⟨rfl, hF.out⟩
set_option maxHeartbeats 1600000 in
theorem freeSecrets_any (wd tp : Int) (a1 a2 a3 a4 af : Option Addr) (n1 n2 n3 n4 c1 c2 c3 c4 nf cf : Nat) (fr : List Bool) (w : World) (hf : Bools w af nf fr) (hn : n1 ≤ 1000) (hnf : nf ≤ 1000) :
    Calls Tryz.prog 57 #[.agg #[.int .i64 wd, .slice a1 n1 c1, .slice a2 n2 c2, .int .i64 tp, .slice a3 n3 c3, .slice a4 n4 c4], .slice af nf cf] w (MadeB w (List.replicate n1 false ++ fr)) := by
  obtain ⟨wa, HW⟩ : ∃ wa, Hid (wa = w.alloc (.cells #[.int .i64 wd, .slice a1 n1 c1, .slice a2 n2 c2, .int .i64 tp, .slice a3 n3 c3, .slice a4 n4 c4] 31)) := ⟨_, rfl⟩
  have B0 : Blk wa w.heap.size 31 [.int .i64 wd, .slice a1 n1 c1, .slice a2 n2 c2, .int .i64 tp, .slice a3 n3 c3, .slice a4 n4 c4] := by rw [HW.out]; exact Blk.new w _ _
  have HB : Below w.heap.size w wa := by rw [HW.out]; exact (Below.refl _ _).alloc (Nat.le_refl _) _
  have t1 := B0.cell (j := 1) rfl
  rw [HW.out] at t1
  have hmk := fun w => make_bools n1 (by omega) w
  have HOM := Lib.hid (own_madeB wa n1 (by omega))
  obtain ⟨wb, HWB⟩ : ∃ wb, Hid (wb = wa.alloc (.cells (madeCells #[.bool false] n1) 4)) := ⟨_, rfl⟩
  rw [← HWB.out] at HOM
  have hb2 : Below wa.heap.size wa wb := by rw [HWB.out]; exact (Below.refl _ _).alloc (Nat.le_refl _) _
  have HSA : Hid (wa.heap.size = w.heap.size + 1) := Lib.hid (by rw [HW.out]; simp)
  have HSB : Hid (wb.heap.size = w.heap.size + 1 + 1) := Lib.hid (by rw [HWB.out]; simp [HSA.out])
  rw [HSA.out] at HOM
  obtain ⟨wc, HWC⟩ : ∃ wc, Hid (wc = wb.alloc (.cells #[.slice (some ⟨w.heap.size + 1, 0, none⟩) n1 n1, .slice af nf cf] 39)) := ⟨_, rfl⟩
  have hb3 : Below wb.heap.size wb wc := by rw [HWC.out]; exact (Below.refl _ _).alloc (Nat.le_refl _) _
  have X : Blk wc (w.heap.size + 1 + 1) 39 [slV (some ⟨w.heap.size + 1, 0, none⟩, n1, n1), slV (af, nf, cf)] := by rw [HWC.out, ← HSB.out]; exact Blk.new wb _ _
  have HF : Hid (Below w.heap.size w wc) := Lib.hid (HB.trans ((hb2.trans (hb3.mono hb2.size)).mono HB.size))
  have HT := Lib.hid (boolsSS_two X (HOM.out.below hb3).reads (hf.below HF.out))
  have HFL : Hid ((flatB [List.replicate n1 false, fr] 2).length ≤ 1000000) := Lib.hid (by rw [flatB_two, List.length_append, List.length_replicate]; have := hf.1; omega)
  clear B0 HB hb2 hb3 X HOM hf
  go_enter Tryz.func57, Tryz.ntmps57
  go_wp2_with fail
  rw [← HW.out, ← HWB.out, ← HWC.out]
  refine (concatB_any (some ⟨w.heap.size + 1 + 1, 0, none⟩) 2 2 _ _ wc HT.out HFL.out (by omega)).mono ?_
  rintro e w2 ⟨a8, n8, c8, rfl, ho, hb⟩
  have HO := Lib.hid (ho.base HF.out.size)
  have HFF := Lib.hid (HF.out.trans (hb.mono HF.out.size))
  clear ho hb t1
  go_wp2
  go_ret
  exact ⟨a8, n8, c8, rfl, HO.out, HFF.out⟩
end Go.Proofs.YtmooecbdpfhnlaaGreat
/- Joined texts of this proof (MostMath, BoolAns, SpecMost, FreeMath, ImplOf, ImplReg), in build order. -/
/- The most outcomes: counted as they come, or for the inputs whose free ones are nought: plain mathematics. -/
namespace Go.Proofs.YtmooecbdpfhnlaaGreat
section
variable {α κ : Type} [DecidableEq α] [DecidableEq κ]
/-- How many there are so far of those that are bound as the i-th one. -/
def runN (key : Nat → κ) (out : Nat → α) (i : Nat) : Nat := (diffL (((List.range (i + 1)).filter (fun j => decide (key j = key i))).map out)).length
def fullN (key : Nat → κ) (out : Nat → α) (C k : Nat) : Nat := (diffL (((List.range C).filter (fun j => decide (key j = key k))).map out)).length
theorem last_like (key : Nat → κ) (x : κ) : ∀ C, (∃ k, k < C ∧ key k = x) → ∃ i, i < C ∧ key i = x ∧ ∀ j, j < C → key j = x → j ≤ i
  | 0, h => by obtain ⟨k, h, _⟩ := h; omega
  | C + 1, h => by
    by_cases hc : key C = x
    · exact ⟨C, by omega, hc, fun j hj _ => by omega⟩
    · obtain ⟨k, hk, he⟩ := h
      have hkC : k < C := by
        rcases Nat.lt_or_ge k C with h | h
        · exact h
        · obtain rfl : k = C := by omega
          exact absurd he hc
      obtain ⟨i, hi, h1, h2⟩ := last_like key x C ⟨k, hkC, he⟩
      refine ⟨i, by omega, h1, fun j hj hx => ?_⟩
      rcases Nat.lt_or_ge j C with h | h
      · exact h2 j h hx
      · obtain rfl : j = C := by omega
        exact absurd hx hc
theorem run_le_full (key : Nat → κ) (out : Nat → α) {C i : Nat} (hi : i < C) : runN key out i ≤ fullN key out C i := by
  refine diffL_len_sub fun x hx => ?_
  obtain ⟨j, hj, rfl⟩ := List.mem_map.1 hx
  obtain ⟨h1, h2⟩ := List.mem_filter.1 hj
  exact List.mem_map.2 ⟨j, List.mem_filter.2 ⟨List.mem_range.2 (by have := List.mem_range.1 h1; omega), h2⟩, rfl⟩
theorem full_congr (key : Nat → κ) (out : Nat → α) (C : Nat) {i k : Nat} (h : key i = key k) : fullN key out C i = fullN key out C k := by
  unfold fullN
  rw [h]
theorem full_run (key : Nat → κ) (out : Nat → α) {C i : Nat} (h : ∀ j, j < C → key j = key i → j ≤ i) : fullN key out C i ≤ runN key out i := by
  refine diffL_len_sub fun x hx => ?_
  obtain ⟨j, hj, rfl⟩ := List.mem_map.1 hx
  obtain ⟨h1, h2⟩ := List.mem_filter.1 hj
  exact List.mem_map.2 ⟨j, List.mem_filter.2 ⟨List.mem_range.2 (by have := h j (List.mem_range.1 h1) (by simpa using h2); omega), h2⟩, rfl⟩
theorem most_alike (key : Nat → κ) (out : Nat → α) (zero : Nat → Bool) (C : Nat) (hz : ∀ i, i < C → ∃ k, k < C ∧ zero k = true ∧ key k = key i) :
    mostTo (runN key out) C = mostTo (fun k => if zero k then fullN key out C k else 0) C := by
  apply Nat.le_antisymm
  · refine mostTo_le C fun i hi => ?_
    obtain ⟨k, hk, h1, h2⟩ := hz i hi
    have h3 := le_mostTo (f := fun k => if zero k then fullN key out C k else 0) C k hk
    simp only [h1, if_true] at h3
    have h4 := run_le_full key out hi
    rw [← full_congr key out C h2] at h4
    omega
  · refine mostTo_le C fun k hk => ?_
    by_cases h1 : zero k = true
    · simp only [h1, if_true]
      obtain ⟨i, hi, h2, h3⟩ := last_like key (key k) C ⟨k, hk, rfl⟩
      have h4 := full_run key out (C := C) (i := i) (fun j hj hx => h3 j hj (by rw [hx, h2]))
      have h5 := le_mostTo (f := runN key out) C i hi
      rw [full_congr key out C h2] at h4
      omega
    · simp [h1]
theorem mostTo_congr {f g : Nat → Nat} : ∀ k, (∀ i, i < k → f i = g i) → mostTo f k = mostTo g k
  | 0, _ => rfl
  | k + 1, h => by rw [mostTo, mostTo, mostTo_congr k (fun i hi => h i (by omega)), h k (by omega)]
end
end Go.Proofs.YtmooecbdpfhnlaaGreat
/- Slices of bools as answers of a law. -/
namespace Go.Proofs.YtmooecbdpfhnlaaGreat
open Go.RowKit

def AnsB (w : World) (bs : List Bool) (e : Ending) (w' : World) : Prop :=
  Below w.heap.size w w' ∧ ∃ s : Sl, e = .returned (slV s) ∧ OwnB w' w.heap.size s.1 s.2.1 s.2.2 bs
end Go.Proofs.YtmooecbdpfhnlaaGreat
/- The contracts of the model's l8Most, MostFor, MostJoint, AllOutcomes, OutcomesOf. -/
namespace Go.Proofs.YtmooecbdpfhnlaaGreat
open Go.RowKit

/-- Are the first j of the free ones nought? -/
def zeroB (L : Nat) (fr : List Bool) (zs : List Int) : Nat → Bool
  | 0 => true
  | j + 1 => zeroB L fr zs j && !(bAt fr j && (zs.getD (L + j) 0 != 0))
/-- How many outcomes there are for the input of number k, where its free ones are nought. -/
noncomputable def freeN (p : Prg) (C L : Nat) (fr : List Bool) (k : Nat) : Nat :=
  if zeroB L fr (intsAt (tabIn p C) k) fr.length then (diffL (pickTo (fun i => fitsB L fr (intsAt (tabIn p C) i) (intsAt (tabIn p C) k)) (tabOut p C) C)).length else 0
theorem tabIn_each (p : Prg) (C i : Nat) (h : i < C) : (intsAt (tabIn p C) i).length = (maxesP p).length := by rw [tabIn_at h, digs_len]
theorem mostTo_small {f : Nat → Nat} {C : Nat} (h : ∀ k, k < C → f k ≤ C) : ∀ k, k ≤ C → mostTo f k ≤ C := fun k hk => mostTo_le k (fun i hi => h i (by omega))
theorem freeN_le (p : Prg) (C L : Nat) (fr : List Bool) (k : Nat) : freeN p C L fr k ≤ C := by
  unfold freeN
  split
  · exact Nat.le_trans (diffL_len _) (pickTo_len _ _ _)
  · exact Nat.zero_le _
set_option maxRecDepth 20000 in
set_option maxHeartbeats 6400000 in
theorem l8Most_any (r : PRow) (p : Prg) (C : Nat) (af : Option Addr) (nf cf : Nat) (fr : List Bool) (w : World) (h : ProgAt w r p) (hz : codeB p = 0) (hC : prodL (maxesP p) = (C : Int)) (hC2 : C ≤ 1024) (hf : Bools w af nf fr) (hnf : nf = p.secrets.length) :
    Calls Tryz.prog 72 #[progV r, .slice af nf cf] w fun e w' => e = .returned (.int .i64 (mostTo (freeN p C p.lows.length fr) C : Nat)) ∧ Below w.heap.size w w' := by
  have hT := Lib.hid (fun (w' : World) (hw : Below w.heap.size w w') => l8Table_any r p C w' (h.below hw) hz hC hC2)
  have HN1 : Hid (r.lows.2.1 = p.lows.length) := Lib.hid h.lows.1.symm
  have hsec := (code_inputs hz).2.1
  have hlow := (code_inputs hz).1
  have HML : Hid ((maxesP p).length = p.lows.length + p.secrets.length) := Lib.hid (maxesP_len p)
  have HFL := Lib.hid hf.1
  have HF := Lib.hid hf
  have HNF := Lib.hid hnf
  clear h hz hC hf hnf
  obtain ⟨wd, ⟨a1, n1, c1⟩, ⟨a2, n2, c2⟩, tp, ⟨a3, n3, c3⟩, ⟨a4, n4, c4⟩, rows⟩ := r
  have HT : Hid (∀ w', Below w.heap.size w w' → Calls Tryz.prog 73 #[.agg #[.int .i64 wd, .slice a1 n1 c1, .slice a2 n2 c2, .int .i64 tp, .slice a3 n3 c3, .slice a4 n4 c4]] w' (Tabled w' p C)) := Lib.hid (fun w' hw => hT.out w' hw)
  simp only [] at HN1
  have hn1 := HN1.out
  have hn13 : n1 ≤ 3 := by omega
  have hnf3 : nf ≤ 3 := by have := HNF.out; omega
  clear hlow hsec
  obtain ⟨F, HFF⟩ : ∃ F : Nat → Nat, Hid (F = freeN p C n1 fr) := ⟨_, rfl⟩
  rw [← hn1, ← HFF.out]
  have HFS : Hid (∀ k, F k ≤ C) := Lib.hid (fun k => by rw [HFF.out]; exact freeN_le p C n1 fr k)
  clear hT hn1
  show Calls Tryz.prog 72 #[.agg #[.int .i64 wd, .slice a1 n1 c1, .slice a2 n2 c2, .int .i64 tp, .slice a3 n3 c3, .slice a4 n4 c4], .slice af nf cf] w _
  obtain ⟨wa, HW⟩ : ∃ wa, Hid (wa = w.alloc (.cells #[.int .i64 wd, .slice a1 n1 c1, .slice a2 n2 c2, .int .i64 tp, .slice a3 n3 c3, .slice a4 n4 c4] 31)) := ⟨_, rfl⟩
  have BX : Blk wa w.heap.size 31 [.int .i64 wd, .slice a1 n1 c1, .slice a2 n2 c2, .int .i64 tp, .slice a3 n3 c3, .slice a4 n4 c4] := by rw [HW.out]; exact Blk.new w _ _
  have HB : Below w.heap.size w wa := by rw [HW.out]; exact belA (Below.refl _ _)
  go_enter Tryz.func72, Tryz.ntmps72
  go_wp2_with fail
  rw [← HW.out]
  refine (HT.out _ HB).mono ?_
  rintro e w1 ⟨hb1, ia, oa, ic, oc, irs, ors, rfl, hin, hout⟩
  have HBW := Lib.hid (HB.trans (hb1.mono HB.size))
  have HX := Lib.hid (BX.below hb1 BX.lt)
  have HIN := Lib.hid hin.reads
  have HOUT := Lib.hid hout
  have HF1 := Lib.hid (HF.out.below HBW.out)
  have HLEN : Hid (∀ i, i < C → (intsAt (tabIn p C) i).length = n1 + nf) := Lib.hid (fun i hi => by rw [tabIn_each p C i hi, HML.out, HN1.out, HNF.out])
  obtain ⟨k0, HK0⟩ : ∃ k, Hid (w.heap.size = k) := ⟨_, rfl⟩
  have HX : Hid (Blk w1 k0 31 [.int .i64 wd, .slice a1 n1 c1, .slice a2 n2 c2, .int .i64 tp, .slice a3 n3 c3, .slice a4 n4 c4]) := Lib.hid (by rw [← HK0.out]; exact HX.out)
  clear HT HW hb1 BX HB hin hout HF
  go_wp2_with fail
  rw [HK0.out]
  go_loopw [7, 8] (fun mv nv wr => ∃ k : Nat, k ≤ C ∧ nv = .int .i64 (k : Int) ∧ mv = .int .i64 ((mostTo F k : Nat) : Int) ∧ Below w1.heap.size w1 wr) (fun _ nv _ => C - (intOf nv).toNat)
  case atStart => exact ⟨0, Nat.zero_le _, rfl, rfl, Below.refl _ _⟩
  case round =>
    obtain ⟨k, hk, rfl, rfl, hbel⟩ := hrel
    obtain ⟨M, HM⟩ : ∃ M : Nat, Hid (mostTo F k = M) := ⟨_, rfl⟩
    rw [HM.out]
    have hM : M ≤ C := by rw [← HM.out]; exact mostTo_small (fun k _ => HFS.out k) k hk
    by_cases hlt : k < C
    case neg =>
      obtain rfl : k = C := by omega
      have HF := Lib.hid (HBW.out.trans (hbel.mono HBW.out.size))
      clear hbel
      go_wp2
      go_ret
      exact ⟨by rw [HM.out]; rfl, HF.out⟩
    have HLK := Lib.hid (HLEN.out k hlt)
    obtain ⟨zs, HZS⟩ : ∃ zs, Hid (intsAt (tabIn p C) k = zs) := ⟨_, rfl⟩
    have HFK : Hid (F k = if zeroB n1 fr zs nf then (diffL (pickTo (fun i => fitsB n1 fr (intsAt (tabIn p C) i) zs) (tabOut p C) C)).length else 0) := Lib.hid (by rw [HFF.out, freeN, HZS.out, HFL.out])
    have HMS : Hid (mostTo F (k + 1) = max M (F k)) := Lib.hid (by rw [mostTo, HM.out])
    rw [HZS.out] at HLK
    have HB1 := Lib.hid hbel
    clear hbel
    go_wp2_with fail
    go_loopw [9, 10] (fun fv jv wr => ∃ j : Nat, j ≤ nf ∧ jv = .int .i64 (j : Int) ∧ fv = .bool (zeroB n1 fr zs j) ∧ Below w1.heap.size w1 wr) (fun _ jv _ => nf - (intOf jv).toNat)
    case atStart => exact ⟨0, Nat.zero_le _, rfl, rfl, HB1.out⟩
    case round =>
      clear HB1
      obtain ⟨j, hj, rfl, rfl, hbel⟩ := hrel
      obtain ⟨zb, HZB⟩ : ∃ zb, Hid (zeroB n1 fr zs j = zb) := ⟨_, rfl⟩
      rw [HZB.out]
      obtain ⟨b, o, a5, n5, c5, rfl, hb, hr5, hc5, hi5⟩ := (HIN.out.below hbel).at_ hlt
      have HN5 : Hid (n5 = n1 + nf) := Lib.hid (by have := hi5.1; rw [HZS.out] at this; have := HLK.out; omega)
      rw [HZS.out] at hi5
      have hX := HX.out.below hbel HX.out.lt
      by_cases hlj : j < nf
      · obtain ⟨b6, o6, f6, rfl, hb6, hf6, hc6⟩ := (HF1.out.below hbel).at_ hlj
        have HD : Hid (∀ q, Below w1.heap.size w1 (wr.drewN q)) := Lib.hid (fun q => hbel.trans ⟨rfl, rfl, rfl, Nat.le_refl _, fun _ _ => rfl⟩)
        have HZN : Hid (zeroB n1 fr zs (j + 1) = (zb && !(f6 && (zs.getD (n1 + j) 0 != 0)))) := Lib.hid (by rw [zeroB, HZB.out, ← hf6.out])
        cases f6 with
        | false =>
          have HE : Hid (zeroB n1 fr zs (j + 1) = zb) := Lib.hid (by rw [HZN.out]; simp)
          clear hX hi5 hr5 hc5 hbel HZN hf6 hb6
          go_wp2
          go_quiet (fail)
          rename_i nq
          have hbf := HD.out nq
          go_wp2
          go_roundw
          case rel => exact ⟨j + 1, by omega, by go_num, by rw [HE.out], hbf⟩
          case measure => simp [intOf]; omega
        | true =>
          obtain ⟨b7, o7, z, rfl, hb7, hz7, _, hc7⟩ := hi5.at_ (show n1 + j < n5 by have := HN5.out; omega)
          obtain ⟨t, HTJ⟩ : ∃ t, Hid (n1 + j = t) := ⟨_, rfl⟩
          rw [HTJ.out] at hc7
          have htl : t < n5 := by have := HTJ.out; have := HN5.out; omega
          have hw1 : IntKind.i64.wrap ((n1 : Int) + (j : Int)) = (t : Int) := by rw [IntKind.wrap_i64]; have := HTJ.out; omega
          have hw2 : wrap64 ((n1 : Int) + (j : Int)) = (t : Int) := by unfold wrap64; have := HTJ.out; omega
          have t1 := hX.cell (j := 1) rfl
          rw [← hz7.out] at HZN
          by_cases hz0 : z = 0
          · subst hz0
            have HE : Hid (zeroB n1 fr zs (j + 1) = zb) := Lib.hid (by rw [HZN.out]; simp)
            clear hX hi5 hr5 hbel HZN hf6 hb6 hb7 hz7
            go_wp2
            go_quiet (fail)
            rename_i nq
            have hbf := HD.out nq
            go_wp2
            go_roundw
            case rel => exact ⟨j + 1, by omega, by go_num, by rw [HE.out], hbf⟩
            case measure => simp [intOf]; omega
          · have hne : (z != 0) = true := by simpa using hz0
            have HE : Hid (zeroB n1 fr zs (j + 1) = false) := Lib.hid (by rw [HZN.out, hne]; simp)
            clear hX hi5 hr5 hbel HZN hf6 hb6 hb7 hz7
            go_wp2
            go_quiet (fail)
            rename_i nq
            have hbf := HD.out nq
            go_wp2
            go_roundw
            case rel => exact ⟨j + 1, by omega, by go_num, by rw [HE.out], hbf⟩
            case measure => simp [intOf]; omega
      · obtain rfl : j = nf := by omega
        rw [HZB.out] at HFK
        cases zb with
        | false =>
          have HE : Hid (mostTo F (k + 1) = M) := Lib.hid (by rw [HMS.out, HFK.out]; simp)
          clear hX hi5 hr5 hc5 hb
          go_wp2
          go_roundw
          case rel => exact ⟨k + 1, by omega, by go_num, by rw [HE.out], hbel⟩
          case measure => simp [intOf]; omega
        | true =>
          have t0 := hX.cell (j := 0) rfl
          have t1 := hX.cell (j := 1) rfl
          have t2 := hX.cell (j := 2) rfl
          have t3 := hX.cell (j := 3) rfl
          have t4 := hX.cell (j := 4) rfl
          have t5 := hX.cell (j := 5) rfl
          have hdw : Below w1.heap.size w1 wr.drew := hbel.trans ⟨rfl, rfl, rfl, Nat.le_refl _, fun _ _ => rfl⟩
          have hbl : b < wr.heap.size := hb
          have HI9 : Hid (∀ w', Below wr.heap.size wr w' → Ints w' a5 n5 zs) := Lib.hid (fun w' hb => hi5.below hb)
          have HALL : Hid (∀ w', Below wr.heap.size wr w' → Calls Tryz.prog 84 #[.agg #[.int .i64 wd, .slice a1 n1 c1, .slice a2 n2 c2, .int .i64 tp, .slice a3 n3 c3, .slice a4 n4 c4], .slice (some ⟨b, o, none⟩) C ic, .slice oa C oc, .slice a5 n5 c5, .slice af j cf] w' (MadeO w' wa.heap.size (pickTo (fun i => fitsB n1 fr (intsAt (tabIn p C) i) zs) (tabOut p C) C))) := Lib.hid (fun w' hb => by
            have hb' := hbel.trans (hb.mono hbel.size)
            exact l8All_any wd tp a1 a2 a3 a4 n1 n2 n3 n4 c1 c2 c3 c4 (some ⟨b, o, none⟩) oa a5 af C ic oc n5 c5 j cf wa.heap.size wa.heap.size irs (tabIn p C) ors (tabOut p C) zs fr w' (HIN.out.below hb') (HOUT.out.below hb') (HI9.out w' hb) (HF1.out.below hb') (fun i hi => by rw [HN5.out]; exact HLEN.out i hi) (by rw [HN5.out]; exact Nat.le_refl _))
          obtain ⟨PK, HPK⟩ : ∃ PK, Hid (pickTo (fun i => fitsB n1 fr (intsAt (tabIn p C) i) zs) (tabOut p C) C = PK) := ⟨_, rfl⟩
          rw [HPK.out] at HALL HFK
          have HFK2 : Hid (F k = (diffL PK).length) := Lib.hid (by rw [HFK.out]; rfl)
          have hdr : Below wr.heap.size wr wr.drew := ⟨rfl, rfl, rfl, Nat.le_refl _, fun _ _ => rfl⟩
          have HDR := Lib.hid hdr
          have HBE := Lib.hid hbel
          have HPL : Hid (PK.length ≤ 1024) := Lib.hid (by rw [← HPK.out]; exact Nat.le_trans (pickTo_len _ _ _) hC2)
          clear hX hi5 hr5 hb hdw hdr HFK HI9 hbel
          go_wp2_with fail
          go_region_held3 (fun w' => w'.cell? ⟨k0, 0, none⟩ = some (.int .i64 wd) ∧ w'.cell? ⟨k0, 1, none⟩ = some (.slice a1 n1 c1) ∧ w'.cell? ⟨k0, 2, none⟩ = some (.slice a2 n2 c2) ∧ w'.cell? ⟨k0, 3, none⟩ = some (.int .i64 tp) ∧ w'.cell? ⟨k0, 4, none⟩ = some (.slice a3 n3 c3) ∧ w'.cell? ⟨k0, 5, none⟩ = some (.slice a4 n4 c4) ∧ w'.cell? ⟨b, o + k, none⟩ = some (.slice a5 n5 c5)) (first | (refine ⟨?_, ?_, ?_, ?_, ?_, ?_, ?_⟩ <;> assumption) | go_keep | (refine ⟨?_, ?_, ?_, ?_, ?_, ?_, ?_⟩ <;> go_keep)) (first
            | (go_at_call 84; refine (HALL.out _ HDR.out).mono ?_; rintro e z1 ⟨pa, pn, pc, prs, rfl, hpo, hz1⟩; have xbb := HDR.out.trans (hz1.mono HDR.out.size); have Y := HX.out.below (HBE.out.trans (xbb.mono HBE.out.size)) HX.out.lt; have x0 := Y.cell (j := 0) rfl; have x1 := Y.cell (j := 1) rfl; have x2 := Y.cell (j := 2) rfl; have x3 := Y.cell (j := 3) rfl; have x4 := Y.cell (j := 4) rfl; have x5 := Y.cell (j := 5) rfl; have x6 := (Below.cell (xbb) hbl).trans hc5; clear Y; have HZ1 := Lib.hid xbb; have HPO := Lib.hid hpo; clear hpo hz1 xbb)
            | (go_at_call 74; refine (l8Different_any _ _ _ _ _ _ _ _ HPO.out).mono ?_; rintro e z2 ⟨da, dn, dc, drs, rfl, hdo, hz2⟩; have ybb := HZ1.out.trans (hz2.mono HZ1.out.size); have Y := HX.out.below (HBE.out.trans (ybb.mono HBE.out.size)) HX.out.lt; have y0 := Y.cell (j := 0) rfl; have y1 := Y.cell (j := 1) rfl; have y2 := Y.cell (j := 2) rfl; have y3 := Y.cell (j := 3) rfl; have y4 := Y.cell (j := 4) rfl; have y5 := Y.cell (j := 5) rfl; have y6 := (Below.cell (ybb) hbl).trans hc5; clear Y; have HZ2 := Lib.hid ybb; have HDN : Hid (dn = (diffL PK).length) := Lib.hid hdo.2.2.1.symm; clear hdo hz2 ybb)
            | (go_at_call 112; refine (l1Max_any _ _ _).mono ?_; rintro e z3 ⟨rfl, rfl⟩; rw [show max (M : Int) (dn : Int) = ((max M dn : Nat) : Int) by omega]))
          have HE : Hid (mostTo F (k + 1) = max M dn) := Lib.hid (by rw [HMS.out, HFK2.out, HDN.out])
          have hbf := HBE.out.trans (HZ2.out.mono HBE.out.size)
          clear x0 x1 x2 x3 x4 x5 x6 y0 y1 y2 y3 y4 y5 y6 t0 t1 t2 t3 t4 t5 HALL HZ1 HZ2 HPO
          go_wp2
          go_roundw
          case rel => exact ⟨k + 1, by omega, by go_num, by rw [HE.out], hbf⟩
          case measure => simp [intOf]; omega
end Go.Proofs.YtmooecbdpfhnlaaGreat
/- The most outcomes over all inputs, as they come and as the model counts them. -/
namespace Go.Proofs.YtmooecbdpfhnlaaGreat
open Go.RowKit

theorem digs_num : ∀ {ms zs : List Int}, (∀ m ∈ ms, 0 ≤ m) → zs.length = ms.length → (∀ i, i < ms.length → 0 ≤ zs.getD i 0 ∧ zs.getD i 0 ≤ ms.getD i 0) → ∃ n : Int, 0 ≤ n ∧ n < prodL ms ∧ digs ms n = zs
  | [], zs, _, hl, _ => ⟨0, by omega, by simp [prodL], by rw [List.eq_nil_of_length_eq_zero hl]; rfl⟩
  | m :: ms, [], _, hl, _ => by simp at hl
  | m :: ms, z :: zs, hm, hl, h => by
    obtain ⟨n, h0, h1, h2⟩ := digs_num (ms := ms) (zs := zs) (fun x hx => hm x (List.mem_cons_of_mem _ hx)) (by simpa using hl) (fun i hi => by simpa using h (i + 1) (by simpa using hi))
    have hz := h 0 (by simp)
    simp only [List.getD_cons_zero] at hz
    have hm0 := hm m List.mem_cons_self
    refine ⟨z + (m + 1) * n, ?_, ?_, ?_⟩
    · have := Int.mul_nonneg (show 0 ≤ m + 1 by omega) h0
      omega
    · rw [prodL]
      have : (m + 1) * (n + 1) ≤ (m + 1) * prodL ms := Int.mul_le_mul_of_nonneg_left (by omega) (by omega)
      rw [Int.mul_add, Int.mul_one] at this
      omega
    · rw [digs, Int.add_mul_emod_self_left, Int.add_mul_ediv_left _ _ (show m + 1 ≠ 0 by omega), Int.emod_eq_of_lt hz.1 (by omega), Int.ediv_eq_zero_of_lt hz.1 (by omega), Int.zero_add, h2]
theorem boundL_idem (fs : List Bool) (zs : List Int) : boundL fs (boundL fs zs) = boundL fs zs := by
  refine ext_getD (by rw [boundL_len]) (fun i _ => ?_)
  rw [boundL_getD, boundL_getD]
  split <;> rfl
theorem zeroB_iff {L : Nat} {fr : List Bool} {zs : List Int} : ∀ n, zeroB L fr zs n = true ↔ ∀ j, j < n → bAt fr j = true → zs.getD (L + j) 0 = 0
  | 0 => by simp [zeroB]
  | n + 1 => by
    rw [zeroB, Bool.and_eq_true, zeroB_iff n]
    constructor
    · rintro ⟨h1, h2⟩ j hj hb
      rcases Nat.lt_or_ge j n with h | h
      · exact h1 j h hb
      · obtain rfl : j = n := by omega
        rw [hb] at h2
        simpa using h2
    · intro h
      refine ⟨fun j hj => h j (by omega), ?_⟩
      have := h n (by omega)
      cases hb : bAt fr n with
      | false => rfl
      | true => rw [this hb]; rfl
theorem pickTo_filter (p : Prg) (C : Nat) (f : Nat → Bool) : ∀ k, k ≤ C → pickTo f (tabOut p C) k = ((List.range k).filter f).map (ocAt p)
  | 0, _ => rfl
  | k + 1, h => by
    rw [pickTo, pickTo_filter p C f k (by omega), List.range_succ, List.filter_append, List.map_append, tabOut_at (show k < C by omega)]
    by_cases hf : f k = true
    · simp [hf]
    · simp [hf]
/-- What is bound of the input of a number. -/
def keyN (p : Prg) (fs : List Bool) (i : Nat) : List Int := boundL fs (digs (maxesP p) (i : Int))
theorem pickTo_congr {f g : Nat → Bool} (os : List Oc) : ∀ k, (∀ i, i < k → f i = g i) → pickTo f os k = pickTo g os k
  | 0, _ => rfl
  | k + 1, h => by rw [pickTo, pickTo, pickTo_congr os k (fun i hi => h i (by omega)), h k (by omega)]
theorem fits_key (p : Prg) (fr : List Bool) (i : Nat) (zs : List Int) (hl : zs.length = (maxesP p).length) : fitsB p.lows.length fr (digs (maxesP p) (i : Int)) zs = decide (keyN p (List.replicate p.lows.length false ++ fr) i = boundL (List.replicate p.lows.length false ++ fr) zs) := by
  have := fits_bound (L := p.lows.length) (fr := fr) (a := digs (maxesP p) (i : Int)) (b := zs) (by rw [digs_len, hl])
  rw [Bool.eq_iff_iff, this, decide_eq_true_iff]
  rfl
theorem freeN_full (p : Prg) (C : Nat) (fr : List Bool) (k : Nat) (hk : k < C) :
    freeN p C p.lows.length fr k = if zeroB p.lows.length fr (digs (maxesP p) (k : Int)) fr.length then fullN (keyN p (List.replicate p.lows.length false ++ fr)) (ocAt p) C k else 0 := by
  rw [freeN, tabIn_at hk]
  have e : pickTo (fun i => fitsB p.lows.length fr (intsAt (tabIn p C) i) (digs (maxesP p) (k : Int))) (tabOut p C) C = ((List.range C).filter (fun j => decide (keyN p (List.replicate p.lows.length false ++ fr) j = keyN p (List.replicate p.lows.length false ++ fr) k))).map (ocAt p) := by
    rw [← pickTo_filter p C _ C (Nat.le_refl _)]
    refine pickTo_congr _ _ (fun i hi => ?_)
    rw [tabIn_at hi, fits_key p fr i _ (digs_len _ _)]
    rfl
  rw [e]
  rfl
/-- As they come, or as the model counts them. -/
theorem most_free (p : Prg) (C : Nat) (fr : List Bool) (hz : codeB p = 0) (hC : prodL (maxesP p) = (C : Int)) (_hl : fr.length = p.secrets.length) :
    mostTo (runN (keyN p (List.replicate p.lows.length false ++ fr)) (ocAt p)) C = mostTo (freeN p C p.lows.length fr) C := by
  rw [mostTo_congr (f := freeN p C p.lows.length fr) C (fun k hk => freeN_full p C fr k hk)]
  refine most_alike _ _ (fun k => zeroB p.lows.length fr (digs (maxesP p) (k : Int)) fr.length) C (fun i hi => ?_)
  have hm : ∀ m ∈ maxesP p, 0 ≤ m := fun m h => (wide_of_max hz m h).1
  obtain ⟨n, h0, h1, h2⟩ := digs_num (ms := maxesP p) (zs := keyN p (List.replicate p.lows.length false ++ fr) i) hm (by rw [keyN, boundL_len, digs_len]) (fun j hj => by
    have hd := digs_le hm (i : Int) j hj
    rw [keyN, boundL_getD]
    split
    · exact ⟨by omega, by omega⟩
    · exact hd)
  have hn : ((n.toNat : Nat) : Int) = n := by omega
  refine ⟨n.toNat, by omega, ?_, ?_⟩
  · rw [zeroB_iff, hn, h2, keyN]
    intro j hj hb
    rw [boundL_getD, all_getD]
    have : fr.getD (p.lows.length + j - p.lows.length) false = true := by rw [Nat.add_sub_cancel_left]; exact hb
    rw [this]
    simp
  · rw [keyN, hn, h2, keyN, boundL_idem]
end Go.Proofs.YtmooecbdpfhnlaaGreat
/- The contract of the program's OutcomesOf. -/
namespace Go.Proofs.YtmooecbdpfhnlaaGreat
open Go.RowKit Go.Shelf
attribute [local go_sem] Oper.semAt_some

theorem ownsRow_turn {D : Nat → Prop} {w w' : World} {B t size n : Nat} {v : Value} {xs : List Value} (h : w.ownsRow B t size v n xs) (hs : Turn D w w') (hv : ∀ g, v.ownBlock = some g → ¬ D g) : w'.ownsRow B t size v n xs := by
  refine ⟨h.1, ?_⟩
  rcases h.2 with hn | ⟨g, cap, cur, hv', hb, hg, rest⟩
  · exact .inl hn
  · exact .inr ⟨g, cap, cur, hv', hb, (hs.block g (Array.getElem?_eq_some_iff.1 hg).1 (hv g (by rw [hv']; rfl))).trans hg, rest⟩
theorem OwnB.turn {D : Nat → Prop} {w w' : World} {B n c : Nat} {a : Option Addr} {bs : List Bool} (h : OwnB w B a n c bs) (hs : Turn D w w') (hv : ∀ g, (Value.slice a n c).ownBlock = some g → ¬ D g) : OwnB w' B a n c bs := ⟨ownsRow_turn h.1 hs hv, h.2⟩
/-- The different outcomes of the inputs that are bound so. -/
noncomputable def selO (p : Prg) (f : Nat → Bool) (ks : List Nat) : List Oc := diffL ((ks.filter f).map (ocAt p))
/-- Between two rounds. -/
def GoSel (W0 : World) (h1 : Nat) (p : Prg) (f : Nat → Bool) (m : Nat) (pre : List EIn) (W : World) : Prop :=
  (∀ x ∈ pre, (x.k : Int) < prodL (maxesP p)) ∧ m ≤ W.heap.size ∧ W0.heap.size ≤ m ∧ Turn (DD h1 W0.heap.size) W0 W ∧ SetW W (DD h1 m) m W.heap.size (h1 + 1) (selO p f (pre.map EIn.k))
theorem GoSel.span {W0 A B : World} {h1 m : Nat} {p : Prg} {f : Nat → Bool} {pre : List EIn} (h : GoSel W0 h1 p f m pre A) (hs : Span W0.heap.size m A B) (hh : h1 + 1 < W0.heap.size) : GoSel W0 h1 p f m pre B := by
  obtain ⟨q1, q2, q3, q4, q5⟩ := h
  refine ⟨q1, Nat.le_trans q2 hs.size, q3, q4.trans (Turn.of_span hs (fun i h1 _ => .inr (.inr h1))), (q5.turn (Turn.of_span (D := fun i => W0.heap.size ≤ i ∧ i < m) hs (fun i h1 h2 => ⟨h1, h2⟩)) ?_ ?_).up hs.size⟩
  · rintro i (h | h | h) ⟨g1, g2⟩ <;> omega
  · rintro i h _ ⟨g1, g2⟩; omega
theorem selO_snoc (p : Prg) (f : Nat → Bool) (pre : List EIn) (x : EIn) : selO p f ((pre ++ [x]).map EIn.k) = if f x.k then addNew (selO p f (pre.map EIn.k)) (ocAt p x.k) else selO p f (pre.map EIn.k) := by
  unfold selO
  rw [List.map_append, List.filter_append, List.map_append]
  by_cases h : f x.k = true
  · simp [h, diffL_snoc]
  · simp [h]
theorem GoSel.step {W0 A B : World} {h1 m : Nat} {p : Prg} {f : Nat → Bool} {pre : List EIn} {x : EIn} (h : GoSel W0 h1 p f m pre A) (hx : (x.k : Int) < prodL (maxesP p)) (hh : h1 + 1 < W0.heap.size) (hs : SetW B (DD h1 m) m B.heap.size (h1 + 1) (selO p f ((pre ++ [x]).map EIn.k))) (ht : Turn (DD h1 m) A B) :
    A.heap.size ≤ B.heap.size ∧ Stay W0.heap.size m A B ∧ GoSel W0 h1 p f m (pre ++ [x]) B := by
  obtain ⟨q1, q2, q3, q4, q5⟩ := h
  refine ⟨ht.size, fun i g1 g2 => ht.block i (by omega) (by rintro (h | h | h) <;> omega), ?_, Nat.le_trans q2 ht.size, q3, q4.trans (ht.mono (fun i h => ?_)), hs⟩
  · intro y hy
    rcases List.mem_append.1 hy with hy | hy
    · exact q1 y hy
    · rw [List.mem_singleton] at hy; subst hy; exact hx
  · rcases h with h | h | h
    · exact .inl h
    · exact .inr (.inl h)
    · exact .inr (.inr (by omega))
theorem GoSel.few {W0 A : World} {h1 m : Nat} {p : Prg} {f : Nat → Bool} {pre : List EIn} (h : GoSel W0 h1 p f m pre A) (hz : codeB p = 0) : (selO p f (pre.map EIn.k)).length ≤ 100000 := by
  have h1024 := prod_bits hz
  have hs : ∀ o ∈ selO p f (pre.map EIn.k), o ∈ tabOut p (prodL (maxesP p)).toNat := by
    intro o ho
    obtain ⟨k, hk, rfl⟩ := List.mem_map.1 ((mem_diffL _).1 ho)
    obtain ⟨x, hx, rfl⟩ := List.mem_map.1 (List.mem_filter.1 hk).1
    exact List.mem_map.2 ⟨x.k, List.mem_range.2 (by have := h.1 x hx; omega), rfl⟩
  have := nodup_sub_len (diffL_nodup _) hs
  rw [tabOut, List.length_map, List.length_range] at this
  have hl : (selO p f (pre.map EIn.k)).length ≤ (prodL (maxesP p)).toNat := this
  omega
/-- A round that passes its input over: only new blocks. -/
theorem GoSel.pass {W0 A B : World} {h1 m : Nat} {p : Prg} {f : Nat → Bool} {pre : List EIn} {x : EIn} (h : GoSel W0 h1 p f m pre A) (hx : (x.k : Int) < prodL (maxesP p)) (hh : h1 + 1 < W0.heap.size) (hb : Below A.heap.size A B) (hf : f x.k = false) :
    A.heap.size ≤ B.heap.size ∧ Stay W0.heap.size m A B ∧ GoSel W0 h1 p f m (pre ++ [x]) B := by
  refine h.step hx hh ?_ (Turn.of_below hb)
  rw [selO_snoc, hf]
  exact (h.2.2.2.2.below hb).up hb.size
theorem goSel_round {W0 W W1 : World} {h1 m g : Nat} {p : Prg} {f : Nat → Bool} {pre : List EIn} {x : EIn} {r : PRow} (HG : GoSel W0 h1 p f m pre W) (hb : Below W.heap.size W W1) (hh : h1 + 1 < W0.heap.size) (hp : ProgAt W1 r p) (hcap : r.body.2.1 ≤ r.body.2.2) (hz : codeB p = 0)
    (hx : infoE (maxesP p) (maxesP p).length (W0.heap.size + 2) m x W) (hg : x.a = some ⟨g, 0, none⟩) (hf : f x.k = true) :
    Calls Tryz.prog 62 #[.pointer (some ⟨h1 + 1, 0, none⟩), progV r, .slice (some ⟨g, 0, none⟩) (maxesP p).length x.c] W1 fun e w' => e = .returned (.tuple #[]) ∧ W.heap.size ≤ w'.heap.size ∧ Stay W0.heap.size m W w' ∧ GoSel W0 h1 p f m (pre ++ [x]) w' := by
  have hok : atOk p (x.k : Int) = true := by
    have := hx.2.2.1
    simp [atOk, hz, this]
  have hD : ∀ i, W1.heap.size ≤ i → DD h1 m i := fun i hi => Or.inr (Or.inr (Nat.le_trans HG.2.1 (Nat.le_trans hb.size hi)))
  have hs := at_start hok
  have e1 : atL p (x.k : Int) = (digs (maxesP p) (x.k : Int)).take p.lows.length := by rw [atL, if_pos hok]
  have e2 : atS p (x.k : Int) = (digs (maxesP p) (x.k : Int)).drop p.lows.length := by rw [atS, if_pos hok]
  have hi : Ints W1 (some ⟨g, 0, none⟩) (maxesP p).length (digs (maxesP p) (x.k : Int)) := by rw [← hg]; exact hx.1.ints.below hb
  rw [e1, e2] at hs
  have hset := (HG.2.2.2.2.below hb).up hb.size
  have hmW : m ≤ W1.heap.size := Nat.le_trans HG.2.1 hb.size
  have hxc : (maxesP p).length ≤ x.c := hx.1.cap
  have hll : p.lows.length ≤ (maxesP p).length := by rw [maxesP_len]; omega
  have hfew := HG.few hz
  obtain ⟨os, hos⟩ : ∃ os, selO p f (pre.map EIn.k) = os := ⟨_, rfl⟩
  obtain ⟨zs, hzs⟩ : ∃ zs, digs (maxesP p) (x.k : Int) = zs := ⟨_, rfl⟩
  rw [hos] at hset hfew
  rw [hzs] at hs hi e1 e2
  have hadd := addRun_any W1 (DD h1 m) m W1.heap.size (h1 + 1) os r p g (maxesP p).length x.c zs hset hD hmW hp hcap hi hxc hll hs hfew
  refine hadd.mono ?_
  rintro e w' ⟨rfl, h2, h3⟩
  rw [← e1, ← e2, ← hos] at h2
  exact ⟨rfl, HG.step hx.2.2.1 hh (by rw [selO_snoc, hf]; exact h2) ((Turn.of_below hb).trans h3)⟩
/-- What OutcomesOf tells. -/
noncomputable def ofO (p : Prg) (ls ss : List Int) (fr : List Bool) : List Oc :=
  if (startB p ls ss && decide (fr.length = p.secrets.length)) = true then selO p (fun k => decide (keyN p (List.replicate p.lows.length false ++ fr) k = boundL (List.replicate p.lows.length false ++ fr) (ls ++ ss))) (List.range (prodL (maxesP p)).toNat) else []
theorem key_str (p : Prg) {fs : List Bool} {i : Nat} {zs : List Int} (hz : codeB p = 0) (hi : ∀ z ∈ zs, 0 ≤ z ∧ z ≤ 255) : (strOfNums (boundL fs (digs (maxesP p) (i : Int))) == strOfNums (boundL fs zs)) = decide (keyN p fs i = boundL fs zs) := by
  rw [bytes_beq, Bool.eq_iff_iff, decide_eq_true_iff, decide_eq_true_iff]
  constructor
  · exact fun h => str_inj (bound_mem (by omega) (digs_in _ (wide_of_max hz))) (bound_mem (by omega) hi) h
  · exact fun h => by rw [← h]; rfl
set_option maxRecDepth 100000 in
set_option maxHeartbeats 4000000 in
theorem implOutcomesOf_no (r : PRow) (p : Prg) (a a' af : Option Addr) (n c n' c' nf cf : Nat) (ls ss : List Int) (fr : List Bool) (w : World) (h : ProgAt w r p) (hcap : r.body.2.1 ≤ r.body.2.2) (h1 : Ints w a n ls) (h2 : Ints w a' n' ss) (_hf : Bools w af nf fr) (hno : (startB p ls ss && decide (nf = n')) = false) :
    Calls Tryz.prog 18 #[progV r, .slice a n c, .slice a' n' c', .slice af nf cf] w fun e w' => e = .returned (.slice none 0 0) ∧ Below w.heap.size w w' := by
  have HP := Lib.hid h
  have HI1 := Lib.hid h1
  have HI2 := Lib.hid h2
  have HCAP := Lib.hid hcap
  clear h h1 h2 hcap
  obtain ⟨s, HS⟩ : ∃ s, Hid (startB p ls ss = s) := ⟨_, rfl⟩
  rw [HS.out] at hno
  have HNO := Lib.hid hno
  clear hno
  obtain ⟨wd, ⟨a1, n1, c1⟩, ⟨a2, n2, c2⟩, tp, ⟨a3, n3, c3⟩, ⟨a4, n4, c4⟩, rows⟩ := r
  show Calls Tryz.prog 18 #[.agg #[.int .i64 wd, .slice a1 n1 c1, .slice a2 n2 c2, .int .i64 tp, .slice a3 n3 c3, .slice a4 n4 c4], .slice a n c, .slice a' n' c', .slice af nf cf] w _
  obtain ⟨wa, HW⟩ : ∃ wa, Hid (wa = w.alloc (.cells #[.int .i64 wd, .slice a1 n1 c1, .slice a2 n2 c2, .int .i64 tp, .slice a3 n3 c3, .slice a4 n4 c4] 31)) := ⟨_, rfl⟩
  have B0 : Blk wa w.heap.size 31 [.int .i64 wd, .slice a1 n1 c1, .slice a2 n2 c2, .int .i64 tp, .slice a3 n3 c3, .slice a4 n4 c4] := by rw [HW.out]; exact Blk.new w _ _
  have HB : Below w.heap.size w wa := by rw [HW.out]; exact belA (Below.refl _ _)
  have t0 := B0.cell (j := 0) rfl
  have t1 := B0.cell (j := 1) rfl
  have t2 := B0.cell (j := 2) rfl
  have t3 := B0.cell (j := 3) rfl
  have t4 := B0.cell (j := 4) rfl
  have t5 := B0.cell (j := 5) rfl
  rw [HW.out] at t0 t1 t2 t3 t4 t5
  go_enter Tryz.func18, Tryz.ntmps18
  go_wp2_with fail
  rw [← HW.out]
  refine (implStartOf_ans ⟨wd, (a1, n1, c1), (a2, n2, c2), tp, (a3, n3, c3), (a4, n4, c4), rows⟩ p a a' n c n' c' ls ss _ (HP.out.below HB) HCAP.out (HI1.out.below HB) (HI2.out.below HB)).mono ?_
  rintro e w1 ⟨hb1, ⟨⟨va, vn, vc⟩, ⟨ca, cn, cc⟩, rws⟩, rfl, _⟩
  simp only [envV, slV, HS.out]
  have HF := Lib.hid (HB.trans ((hb1.trans (((Below.refl w1.heap.size w1).alloc (Nat.le_refl _) (.cells #[.slice va vn vc, .slice ca cn cc] 90)).mono hb1.size)).mono HB.size))
  clear t0 t1 t2 t3 t4 t5 B0 HB hb1
  cases s with
  | false =>
    go_wp2
    go_ret
    exact ⟨rfl, HF.out⟩
  | true =>
    have hne : ((nf : Int) != (n' : Int)) = true := by have := HNO.out; simp at this; simp; omega
    go_wp2
    go_ret
    exact ⟨rfl, HF.out⟩
end Go.Proofs.YtmooecbdpfhnlaaGreat
/- Many sets of outcomes at once, by what is bound: a map from keys to sets; each set's blocks are its own. -/
namespace Go.Proofs.YtmooecbdpfhnlaaGreat
open Go.RowKit Go.Shelf

/-- None of these blocks is a row of numbers. -/
def NoInt (w : World) (D : Nat → Prop) : Prop := ∀ i, D i → ∀ c f, w.heap[i]? ≠ some (.cells c 2 f)
theorem NoInt.own {w : World} {D : Nat → Prop} (h : NoInt w D) {B : Nat} {a : Option Addr} {n c : Nat} {zs : List Int} (ho : Own w B a n c zs) {g : Nat} (hg : (Value.slice a n c).ownBlock = some g) : ¬ D g := by
  intro hd
  obtain ⟨c1, f1, h1⟩ := Go.Lib.ownsRow_kind ho.1 g hg
  exact h g hd _ _ h1
theorem SetW.widen {w : World} {D D' : Nat → Prop} {B N k : Nat} {os : List Oc} (h : SetW w D B N k os) (hD : ∀ i, D i → D' i) : SetW w D' B N k os := by
  obtain ⟨m, a, n, c, rs, h1, h2, h3, h4, h5, h6, h7, h8, h9⟩ := h
  exact ⟨m, a, n, c, rs, h1, hD _ h2, h3, hD _ h4, h5, fun g hg => hD _ (h6 g hg), h7, h8, h9⟩
/-- A set's own blocks alone. -/
theorem SetW.tight {w : World} {D : Nat → Prop} {B N k : Nat} {os : List Oc} (h : SetW w D B N k os) : ∃ D', (∀ i, D' i → D i ∧ i < w.heap.size) ∧ NoInt w D' ∧ SetW w D' B N k os := by
  obtain ⟨m, a, n, c, rs, h1, h2, h3, h4, h5, h6, h7, h8, h9⟩ := h
  refine ⟨fun i => i = k ∨ i = m ∨ (Value.slice a n c).ownBlock = some i, ?_, ?_, ⟨m, a, n, c, rs, h1, .inl rfl, h3, .inr (.inl rfl), h5, fun g hg => .inr (.inr hg), h7, h8, h9⟩⟩
  · rintro i (rfl | rfl | hi)
    · exact ⟨h2, h1.lt⟩
    · exact ⟨h4, h3.lt⟩
    · exact ⟨h6 i hi, (h5.block i hi).2⟩
  · rintro i (rfl | rfl | hi) c1 f1 e
    · rw [show w.heap[i]? = _ from h1] at e
      injection e with e
      injection e with _ e _
      exact absurd e (by decide)
    · obtain ⟨es, cl, e2, _⟩ := h3
      rw [e2] at e
      cases e
    · obtain ⟨c2, f2, e2⟩ := Go.Lib.ownsRow_kind h5.1 i hi
      rw [e2] at e
      injection e with e
      injection e with _ e _
      exact absurd e (by decide)
/-- Another set turns. -/
theorem SetW.other {w w' : World} {D D' : Nat → Prop} {B N k : Nat} {os : List Oc} (h : SetW w D B N k os) (hd : ∀ i, D i → i < w.heap.size ∧ ¬ D' i) (hn : NoInt w D') (ht : Turn (fun i => D' i ∨ w.heap.size ≤ i) w w') : SetW w' D B N k os := by
  obtain ⟨m, a, n, c, rs, h1, h2, h3, h4, h5, h6, h7, h8, h9⟩ := h
  have hm := h3.lt
  obtain ⟨es, cl, e1, e2, e3⟩ := h3
  have hk : ∀ i, i < w.heap.size → ¬ D' i → w'.heap[i]? = w.heap[i]? := fun i hi hd' => ht.block i hi (fun hh => hh.elim hd' (fun hh => by omega))
  refine ⟨m, a, n, c, rs, (hk k h1.lt (hd k h2).2).trans h1, h2, ⟨es, cl, (hk m hm (hd m h4).2).trans e1, e2, e3⟩, h4, ?_, h6, h7, h8, h9⟩
  refine ⟨⟨h5.1.1, ?_⟩, h5.2.1, h5.2.2.1, fun i hi => ?_⟩
  · rcases h5.1.2 with hn' | ⟨g, cap, cur, e, hb, hg, r⟩
    · exact .inl hn'
    · have hog : (Value.slice a n c).ownBlock = some g := by rw [e]; rfl
      exact .inr ⟨g, cap, cur, e, hb, (hk g (h5.block g hog).2 (hd g (h6 g hog)).2).trans hg, r⟩
  · obtain ⟨q1, q2, q3, q4, q5⟩ := h5.2.2.2 i hi
    refine ⟨q1, q2, q3, q4, ⟨⟨q5.1.1, ?_⟩, q5.2⟩⟩
    rcases q5.1.2 with hn' | ⟨g, cap, cur, e, hb, hg, r⟩
    · exact .inl hn'
    · have ho : (slV (rAt rs i).vals).ownBlock = some g := by rw [slV, e]; rfl
      exact .inr ⟨g, cap, cur, e, hb, (hk g (q5.block g ho).2 (hn.own q5 ho)).trans hg, r⟩
/-- The sets by their keys. -/
structure Reg (W : World) (mb m : Nat) (p : Prg) (fs : List Bool) (ks : List Nat) (es : List (List Int × Nat)) (Ds : Nat → Nat → Prop) : Prop where
  map : MapW W mb ((es.map fun e => strOfNums e.1).map Value.string) (es.map fun e => .pointer (some ⟨e.2, 0, none⟩))
  bytes : ∀ e ∈ es, ∀ z ∈ e.1, 0 ≤ z ∧ z ≤ 255
  nodup : (es.map fun e => e.1).Nodup
  has : ∀ k ∈ ks, keyN p fs k ∈ es.map fun e => e.1
  sets : ∀ j κ b, es[j]? = some (κ, b) → SetW W (Ds j) m W.heap.size b (selO p (fun k => decide (keyN p fs k = κ)) ks) ∧ NoInt W (Ds j) ∧ ∀ i, Ds j i → m ≤ i ∧ i < W.heap.size
  apart : ∀ i j, i < es.length → j < es.length → i ≠ j → ∀ x, Ds i x → ¬ Ds j x
theorem nodup_at {α : Type} {l : List α} (h : l.Nodup) {i j : Nat} {x : α} (hi : l[i]? = some x) (hj : l[j]? = some x) : i = j := by
  obtain ⟨h1, e1⟩ := List.getElem?_eq_some_iff.1 hi
  obtain ⟨h2, e2⟩ := List.getElem?_eq_some_iff.1 hj
  have hp := List.pairwise_iff_getElem.1 h
  rcases Nat.lt_trichotomy i j with hlt | rfl | hlt
  · exact absurd (e1.trans e2.symm) (hp i j h1 h2 hlt)
  · rfl
  · exact absurd (e2.trans e1.symm) (hp j i h2 h1 hlt)
theorem zero_set (w : World) : (zeroValue 96).run Tryz.prog w = .ok (.pointer none) w := by kernel_rfl
section
variable {W W' : World} {mb m : Nat} {p : Prg} {fs : List Bool} {ks : List Nat} {es : List (List Int × Nat)} {Ds : Nat → Nat → Prop}
/-- A look-up. -/
theorem Reg.find (h : Reg W mb m p fs ks es Ds) (κ : List Int) (hκ : ∀ z ∈ κ, 0 ≤ z ∧ z ≤ 255) :
    ∃ v, (Instr.lookup 150 (.map (some mb)) (.string (strOfNums κ)) false).run Tryz.prog W = .ok v W ∧
      ((κ ∉ (es.map fun e => e.1) ∧ v = .pointer none) ∨ ∃ (j b : Nat), es[j]? = some (κ, b) ∧ v = .pointer (some ⟨b, 0, none⟩)) := by
  obtain ⟨v, hr, hv⟩ := h.map.lookup keyLaw_str (t := 150) Tryz.underlying150 (.pointer none) (zero_set W) (strOfNums κ)
  refine ⟨v, hr, ?_⟩
  rcases hv with ⟨hn, rfl⟩ | ⟨j, h1, h2⟩
  · refine .inl ⟨fun hm => hn ?_, rfl⟩
    obtain ⟨e, he, rfl⟩ := List.mem_map.1 hm
    exact List.mem_map.2 ⟨e, he, rfl⟩
  · rw [List.getElem?_map] at h1 h2
    cases he : es[j]? with
    | none => rw [he] at h1; cases h1
    | some e =>
      rw [he] at h1 h2
      simp only [Option.map_some, Option.some.injEq] at h1 h2
      have := str_inj (h.bytes e (List.mem_of_getElem? he)) hκ h1
      subst this
      exact .inr ⟨j, e.2, by rw [he], h2.symm⟩
/-- What turns elsewhere: new blocks alone, or what lies below. -/
theorem Reg.keep {D' : Nat → Prop} (h : Reg W mb m p fs ks es Ds) (ht : Turn D' W W') (hm : ¬ D' mb) (hd : ∀ i, m ≤ i → i < W.heap.size → ¬ D' i) : Reg W' mb m p fs ks es Ds := by
  have hml := h.map.lt
  obtain ⟨es', cl, e1, e2, e3⟩ := h.map
  refine ⟨⟨es', cl, (ht.block mb hml hm).trans e1, e2, e3⟩, h.bytes, h.nodup, h.has, fun j κ b hj => ?_, h.apart⟩
  obtain ⟨s1, s2, s3⟩ := h.sets j κ b hj
  refine ⟨(s1.turn ht (fun i hi => hd i (s3 i hi).1 (s3 i hi).2) (fun i h1 h2 => hd i h1 h2)).up ht.size, fun i hi c f e => s2 i hi c f ?_, fun i hi => ⟨(s3 i hi).1, Nat.lt_of_lt_of_le (s3 i hi).2 ht.size⟩⟩
  rw [← e]
  exact (ht.block i (s3 i hi).2 (hd i (s3 i hi).1 (s3 i hi).2)).symm
theorem selO_nil (p : Prg) {f : Nat → Bool} {ks : List Nat} (h : ∀ k ∈ ks, f k = false) : selO p f ks = [] := by
  unfold selO
  rw [List.filter_eq_nil_iff.2 (fun k hk => by rw [h k hk]; simp)]
  rfl
/-- A new set. -/
theorem Reg.fresh {b : Nat} {κ : List Int} {D : Nat → Prop} (h : Reg W mb m p fs ks es Ds) (hκ : ∀ z ∈ κ, 0 ≤ z ∧ z ≤ 255) (hn : κ ∉ es.map fun e => e.1)
    (hmap : MapW W' mb (((es.map fun e => strOfNums e.1) ++ [strOfNums κ]).map Value.string) ((es.map fun e => (.pointer (some ⟨e.2, 0, none⟩) : Value)) ++ [.pointer (some ⟨b, 0, none⟩)])) (ht : Turn (fun i => i = mb) W W') (hmb : mb < m)
    (hs : SetW W' D m W'.heap.size b []) (hi : NoInt W' D) (hD : ∀ i, D i → W.heap.size ≤ i ∧ i < W'.heap.size) (hm : m ≤ W.heap.size) : Reg W' mb m p fs ks (es ++ [(κ, b)]) (fun j => if j = es.length then D else Ds j) := by
  refine ⟨by simpa using hmap, fun e he => ?_, ?_, fun k hk => ?_, fun j κ' b' hj => ?_, fun i j hi' hj' hij x => ?_⟩
  · rcases List.mem_append.1 he with he | he
    · exact h.bytes e he
    · rw [List.mem_singleton] at he; subst he; exact hκ
  · rw [List.map_append, List.nodup_append]
    refine ⟨h.nodup, by simp, fun a ha b hb => ?_⟩
    have : b = κ := by simpa using hb
    subst this
    exact fun e => hn (e ▸ ha)
  · rw [List.map_append]; exact List.mem_append_left _ (h.has k hk)
  · by_cases e : j = es.length
    · subst e
      rw [List.getElem?_append_right (Nat.le_refl _), Nat.sub_self] at hj
      simp only [List.getElem?_cons_zero, Option.some.injEq, Prod.mk.injEq] at hj
      obtain ⟨rfl, rfl⟩ := hj
      simp only [if_true]
      rw [selO_nil p (fun k hk => decide_eq_false (fun e => hn (by rw [← e]; exact h.has k hk)))]
      exact ⟨hs, hi, fun i hi => ⟨Nat.le_trans hm (hD i hi).1, (hD i hi).2⟩⟩
    · have hjl : j < es.length := by
        have := (List.getElem?_eq_some_iff.1 hj).1
        simp at this; omega
      rw [List.getElem?_append_left hjl] at hj
      obtain ⟨s1, s2, s3⟩ := h.sets j κ' b' hj
      simp only [if_neg e]
      refine ⟨(s1.turn ht (fun i hi e => by have := (s3 i hi).1; omega) (fun i h1 _ e => by omega)).up ht.size, fun i hi c f e => s2 i hi c f ?_, fun i hi => ⟨(s3 i hi).1, Nat.lt_of_lt_of_le (s3 i hi).2 ht.size⟩⟩
      rw [← e]
      exact (ht.block i (s3 i hi).2 (fun e => by have := (s3 i hi).1; omega)).symm
  · simp only [List.length_append, List.length_singleton] at hi' hj'
    have low : ∀ q, q < es.length → ∀ x, Ds q x → x < W.heap.size := fun q hq x hx => by
      have : es[q]? = some (es[q].1, es[q].2) := by rw [List.getElem?_eq_getElem hq]
      exact ((h.sets q _ _ this).2.2 x hx).2
    by_cases e1 : i = es.length
    · rw [if_pos e1, if_neg (by omega)]
      intro hx hx'
      have := low j (by omega) x hx'
      have := (hD x hx).1
      omega
    · rw [if_neg e1]
      by_cases e2 : j = es.length
      · rw [if_pos e2]
        intro hx hx'
        have := low i (by omega) x hx
        have := (hD x hx').1
        omega
      · rw [if_neg e2]
        exact h.apart i j (by omega) (by omega) hij x
/-- One of them has an outcome more. -/
theorem Reg.more {j b k : Nat} {κ : List Int} (h : Reg W mb m p fs ks es Ds) (hj : es[j]? = some (κ, b)) (hk : keyN p fs k = κ) (hm : m ≤ W.heap.size) (hmb : mb < m)
    (hs : SetW W' (fun i => Ds j i ∨ W.heap.size ≤ i) m W'.heap.size b (addNew (selO p (fun k => decide (keyN p fs k = κ)) ks) (ocAt p k))) (ht : Turn (fun i => Ds j i ∨ W.heap.size ≤ i) W W') : ∃ Ds', Reg W' mb m p fs (ks ++ [k]) es Ds' := by
  obtain ⟨D', d1, d2, d3⟩ := hs.tight
  obtain ⟨s1, s2, s3⟩ := h.sets j κ b hj
  have hjl : j < es.length := (List.getElem?_eq_some_iff.1 hj).1
  have hmbD : ¬ (Ds j mb ∨ W.heap.size ≤ mb) := by
    rintro (hh | hh)
    · have := (s3 mb hh).1; omega
    · omega
  have hml := h.map.lt
  obtain ⟨es', cl, e1, e2, e3⟩ := h.map
  have snoc : ∀ κ', selO p (fun k => decide (keyN p fs k = κ')) (ks ++ [k]) = if keyN p fs k = κ' then addNew (selO p (fun k => decide (keyN p fs k = κ')) ks) (ocAt p k) else selO p (fun k => decide (keyN p fs k = κ')) ks := fun κ' => by
    unfold selO
    rw [List.filter_append, List.map_append]
    by_cases hh : keyN p fs k = κ'
    · simp [hh, diffL_snoc]
    · simp [hh]
  refine ⟨fun i => if i = j then D' else Ds i, ⟨es', cl, (ht.block mb hml hmbD).trans e1, e2, e3⟩, h.bytes, h.nodup, fun k' hk' => ?_, fun i κ' b' hi => ?_, fun i i' hi hi' hii x => ?_⟩
  · rcases List.mem_append.1 hk' with hk' | hk'
    · exact h.has k' hk'
    · rw [List.mem_singleton] at hk'
      subst hk'
      rw [hk]
      exact List.mem_map.2 ⟨(κ, b), List.mem_of_getElem? hj, rfl⟩
  · by_cases e : i = j
    · subst e
      rw [hj] at hi
      simp only [Option.some.injEq, Prod.mk.injEq] at hi
      obtain ⟨rfl, rfl⟩ := hi
      simp only [if_true]
      rw [snoc, if_pos hk]
      refine ⟨d3, d2, fun x hx => ⟨?_, (d1 x hx).2⟩⟩
      rcases (d1 x hx).1 with hh | hh
      · exact (s3 x hh).1
      · omega
    · have hil : i < es.length := (List.getElem?_eq_some_iff.1 hi).1
      obtain ⟨r1, r2, r3⟩ := h.sets i κ' b' hi
      have hne : keyN p fs k ≠ κ' := fun hh => e (nodup_at h.nodup (x := κ') (by rw [List.getElem?_map, hi]; rfl) (by rw [List.getElem?_map, hj]; simp [← hk, hh]))
      simp only [if_neg e]
      rw [snoc, if_neg hne]
      refine ⟨(r1.other (fun x hx => ⟨(r3 x hx).2, fun hh => h.apart i j hil hjl e x hx hh⟩) s2 ht).up ht.size, fun x hx c f ee => r2 x hx c f ?_, fun x hx => ⟨(r3 x hx).1, Nat.lt_of_lt_of_le (r3 x hx).2 ht.size⟩⟩
      rw [← ee]
      refine (ht.block x (r3 x hx).2 ?_).symm
      rintro (hh | hh)
      · exact h.apart i j hil hjl e x hx hh
      · have := (r3 x hx).2; omega
  · have low : ∀ q, q < es.length → ∀ x, Ds q x → x < W.heap.size := fun q hq x hx => by
      have : es[q]? = some (es[q].1, es[q].2) := by rw [List.getElem?_eq_getElem hq]
      exact ((h.sets q _ _ this).2.2 x hx).2
    by_cases e1 : i = j
    · rw [if_pos e1, if_neg (by omega)]
      intro hx hx'
      rcases (d1 x hx).1 with hh | hh
      · exact h.apart j i' hjl hi' (by omega) x hh hx'
      · have := low i' hi' x hx'; omega
    · rw [if_neg e1]
      by_cases e2 : i' = j
      · rw [if_pos e2]
        intro hx hx'
        rcases (d1 x hx').1 with hh | hh
        · exact h.apart i j hi hjl e1 x hx hh
        · have := low i hi x hx; omega
      · rw [if_neg e2]
        exact h.apart i i' hi hi' hii x
end
/-- The most so far. -/
noncomputable def mostK (p : Prg) (fs : List Bool) (ks : List Nat) : Nat := mostTo (fun i => (selO p (fun k => decide (keyN p fs k = keyN p fs (ks.getD i 0))) (ks.take (i + 1))).length) ks.length
theorem mostK_snoc (p : Prg) (fs : List Bool) (ks : List Nat) (k : Nat) : mostK p fs (ks ++ [k]) = max (mostK p fs ks) (selO p (fun j => decide (keyN p fs j = keyN p fs k)) (ks ++ [k])).length := by
  unfold mostK
  rw [List.length_append, List.length_singleton, mostTo]
  congr 1
  · refine mostTo_congr _ (fun i hi => ?_)
    rw [List.getD_eq_getElem?_getD, List.getElem?_append_left hi, ← List.getD_eq_getElem?_getD, List.take_append_of_le_length (by omega)]
  · rw [List.getD_eq_getElem?_getD, List.getElem?_append_right (Nat.le_refl _), Nat.sub_self, List.take_of_length_le (by simp)]
    rfl
theorem mostK_range (p : Prg) (fs : List Bool) (C : Nat) : mostK p fs (List.range C) = mostTo (runN (keyN p fs) (ocAt p)) C := by
  unfold mostK
  rw [List.length_range]
  refine mostTo_congr _ (fun i hi => ?_)
  have e1 : (List.range C).getD i 0 = i := by simp [List.getD_eq_getElem?_getD, hi]
  have e2 : (List.range C).take (i + 1) = List.range (i + 1) := by
    rw [List.take_range]
    congr 1
    omega
  rw [e1, e2]
  rfl
end Go.Proofs.YtmooecbdpfhnlaaGreat
