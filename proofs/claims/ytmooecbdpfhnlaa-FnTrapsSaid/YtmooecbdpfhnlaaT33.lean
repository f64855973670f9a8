/- The contract of the program's ofTerm (a method of its reckoner). -/
import Derived.Test.YtmooecbdpfhnlaaT32
import Derived.Deep.RegionWith
namespace Go.Proofs.Ytmooecbdpfhnlaa
open Go.RowKit

theorem not_small {z : Nat} (h : z < 256) : bits .xor .i64 (-1) (z : Int) = -(z : Int) - 1 := by
  show IntKind.i64.wrap ((BitVec.ofInt 64 (-1) ^^^ BitVec.ofInt 64 (z : Int)).toNat : Int) = _
  rw [show BitVec.ofInt 64 (-1) = BitVec.allOnes 64 from rfl, BitVec.allOnes_xor, BitVec.toNat_not, ofInt_small h, IntKind.wrap_i64]
  omega
/-- A way through a region that ends in a panic: nothing is left of it. -/
theorem panic_end {P : Program} {w : World} {T : Prop} (h : T) (_ : wpAny P .any #[] (fun _ _ _ => True) 0 #[] ⟨#[], []⟩ w) : T := h
/-- What a Term makes of what it takes, ahead of the mask. -/
def zT (V : List Int) (C : List (List Int)) (t : Tm) (inn : List Nat) : Int :=
  if t.1 = 3 then -((inn.getD 0 0 : Nat) : Int) - 1 else if t.1 = 4 then -((inn.getD 0 0 : Nat) : Int)
  else if 5 ≤ t.1 ∧ t.1 ≤ 16 then zTwo t.1 (inn.getD 0 0) (inn.getD 1 0) else ((valT 0 V C t inn).1 : Int)
theorem valT_any (S S' : Nat) (V : List Int) (C : List (List Int)) (t : Tm) (inn : List Nat) (h : ¬ (3 ≤ t.1 ∧ t.1 ≤ 16)) (h2 : 0 ≤ takesI t.1) : valT S V C t inn = valT S' V C t inn := by
  have hx : t.1 = 0 ∨ t.1 = 1 ∨ t.1 = 2 ∨ t.1 = 17 := by
    unfold takesI at h2
    repeat' split at h2
    all_goals omega
  obtain ⟨x, y⟩ := t
  simp only [] at hx
  rcases hx with rfl | rfl | rfl | rfl
  all_goals simp [valT]
theorem zT_mod {W : Nat} (hW1 : 1 ≤ W) (hW : W ≤ 8) {V : List Int} {C : List (List Int)} (he : InEnv (2 ^ W) V C) {t : Tm} (ht : t.1 = 0 → t.2 < ((2 ^ W : Nat) : Int)) (h2 : 0 ≤ takesI t.1) {inn : List Nat} (hi : ∀ x ∈ inn, x < 2 ^ W) : zT V C t inn % ((2 ^ W : Nat) : Int) = ((valT (2 ^ W) V C t inn).1 : Int) := by
  have hlt := valT_lt hW1 he ht hi
  have h0 : 0 < 2 ^ W := Nat.pow_pos (by omega)
  have g := getD_nat h0 hi
  unfold zT
  by_cases h3 : t.1 = 3
  · rw [if_pos h3]
    have e : (valT (2 ^ W) V C t inn).1 = 2 ^ W - 1 - inn.getD 0 0 := by
      unfold valT
      rw [if_neg (by omega), if_neg (by omega), if_neg (by omega), if_neg (by omega), if_pos (.inl h3), h3]
      rfl
    have := g 0
    rw [e, show -((inn.getD 0 0 : Nat) : Int) - 1 = ((2 ^ W - 1 - inn.getD 0 0 : Nat) : Int) + ((2 ^ W : Nat) : Int) * (-1) by omega, Int.add_mul_emod_self_left, ← natmod, Nat.mod_eq_of_lt (by omega)]
  rw [if_neg h3]
  by_cases h4 : t.1 = 4
  · rw [if_pos h4]
    have e : (valT (2 ^ W) V C t inn).1 = (2 ^ W - inn.getD 0 0) % 2 ^ W := by
      unfold valT
      rw [if_neg (by omega), if_neg (by omega), if_neg (by omega), if_neg (by omega), if_pos (.inr h4), h4]
      rfl
    have := g 0
    rw [e, natmod, show ((2 ^ W - inn.getD 0 0 : Nat) : Int) = -((inn.getD 0 0 : Nat) : Int) + ((2 ^ W : Nat) : Int) by omega, Int.add_emod_right]
  rw [if_neg h4]
  by_cases h5 : 5 ≤ t.1 ∧ t.1 ≤ 16
  · rw [if_pos h5]
    have e : (valT (2 ^ W) V C t inn).1 = opN (2 ^ W) t.1 (inn.getD 0 0) (inn.getD 1 0) := by
      unfold valT
      rw [if_neg (by omega), if_neg (by omega), if_neg (by omega), if_neg (by omega), if_neg (by omega)]
    rw [e]
    exact zTwo_mod _ hW1 hW (g 0) (g 1) h5.1 h5.2
  · rw [if_neg h5, valT_any 0 (2 ^ W) V C t inn (by omega) h2, ← natmod, Nat.mod_eq_of_lt hlt]

structure KBox (w wi : World) (c0 c1 : List Value) : Prop where
  rck : Blk wi w.heap.size 104 c0
  trm : Blk wi (w.heap.size + 1) 94 c1
  bel : Below w.heap.size w wi
theorem KBox.below {w wi wj : World} {c0 c1 : List Value} (h : KBox w wi c0 c1) (hb : Below wi.heap.size wi wj) : KBox w wj c0 c1 :=
  ⟨h.rck.below hb h.rck.lt, h.trm.below hb h.trm.lt, h.bel.trans (hb.mono h.bel.size)⟩
theorem kbox_new (w : World) (c0 c1 : List Value) : KBox w ((w.alloc (.cells c0.toArray 104)).alloc (.cells c1.toArray 94)) c0 c1 :=
  ⟨(Blk.new w _ _).alloc _, by simpa using Blk.new (w.alloc _) 94 c1, ((Below.refl _ _).alloc (Nat.le_refl _) _).alloc (by simp) _⟩
/-- What ofTerm is asked: a Term that names what there is, and as many values as it takes. -/
structure Asked (S : Nat) (v : Envr) (x : Int) (y q : Nat) (inn : List Nat) : Prop where
  named : nameOk S v.vars.length v.cells.length (x, (y : Int)) = true
  takes : takesI x = (q : Int)
  len : inn.length = q
  small : ∀ z ∈ inn, z < 256
  byte : y ≤ 255
theorem Asked.cases {S : Nat} {v : Envr} {x : Int} {y q : Nat} {inn : List Nat} (h : Asked S v x y q inn) : ((x = 0 ∨ x = 1) ∧ q = 0 ∨ x = 2 ∧ q = 1 ∨ (x = 3 ∨ x = 4) ∧ q = 1 ∨ x = 17 ∧ q = 3 ∨ (5 ≤ x ∧ x ≤ 16) ∧ q = 2) := by
  have e := h.takes
  unfold takesI at e
  repeat' split at e
  all_goals omega
set_option maxRecDepth 20000 in
set_option maxHeartbeats 3200000 in
theorem ofTerm_val (g : Int) (er : ERow) (PL : Bool) (S : Nat) (v : Envr) (x : Int) (y : Nat) (a : Option Addr) (q c : Nat) (inn : List Nat) (w : World) (he : EnvAt w er v) (ha : Asked S v x y q inn) (hi : Ints w a q (zl inn)) (hin : InEnv S v.vars v.cells) (hp : PL = true ∨ (valT S v.vars v.cells (x, (y : Int)) inn).2 = 0) :
    Calls Try.prog 117 #[reckV g er PL, .agg #[.int .i64 x, .int .i64 (y : Int)], .slice a q c] w fun e w' => e = .returned (.int .i64 (zT v.vars v.cells (x, (y : Int)) inn)) ∧ Below w.heap.size w w' := by
  obtain ⟨R, HR⟩ : ∃ R, Hid (zT v.vars v.cells (x, (y : Int)) inn = R) := ⟨_, rfl⟩
  rw [HR.out]
  have h0 : ∀ z ∈ v.vars, 0 ≤ z := fun z hz => (hin.1 z hz).1
  have hc0 : ∀ cs ∈ v.cells, ∀ z ∈ cs, 0 ≤ z := fun cs hcs z hz => (hin.2 cs hcs z hz).1
  have HEV := Lib.hid he.vars
  have HEC := Lib.hid he.cells
  have HTWO : Hid (∀ (op : Int) (z0 z1 : Nat) (w' : World), z0 < 256 → z1 < 256 → 5 ≤ op → op ≤ 16 → (PL = true ∨ ¬ (z1 = 0 ∧ (op = 8 ∨ op = 9))) → Calls Try.prog 152 #[reckV g er PL, .int .i64 op, .int .i64 (z0 : Int), .int .i64 (z1 : Int)] w' fun e w'' => e = .returned (.int .i64 (zTwo op z0 z1)) ∧ Below w'.heap.size w' w'') := Lib.hid (fun op z0 z1 w' q1 q2 q3 q4 q5 => ofTwo_val g er PL op z0 z1 w' q1 q2 q3 q4 q5)
  have HCELL : Hid (∀ (i : Nat) (w' : World), Below w.heap.size w w' → y < v.cells.length → (PL = true ∨ i < (v.cells.getD y []).length) → Calls Try.prog 151 #[reckV g er PL, .int .i64 (y : Int), .int .i64 (i : Int)] w' fun e w'' => e = .returned (.int .i64 (if i < (v.cells.getD y []).length then (v.cells.getD y []).getD i 0 else 0)) ∧ Below w'.heap.size w' w'') := Lib.hid (fun i w' hb hy hpi => by
    by_cases hil : i < (v.cells.getD y []).length
    · rw [if_pos hil]
      exact cell_in g er PL v.cells y i w' (HEC.out.below hb) hy hil
    · rw [if_neg hil]
      have hpl : PL = true := by
        rcases hpi with h | h
        · exact h
        · exact absurd h hil
      subst hpl
      exact cell_plain g er v.cells y i w' (HEC.out.below hb) hy hil)
  have HA := Lib.hid ha
  have hl1 := HEV.out.1
  have hl2 := HEC.out.2.1
  have hcs := ha.cases
  have hnm := ha.named
  have hyb := ha.byte
  have hsm := ha.small
  have hln := ha.len
  clear ha he
  obtain ⟨⟨b1, m1, e1⟩, ⟨b2, m2, e2⟩, rws⟩ := er
  simp only [] at HEV HEC
  show Calls Try.prog 117 #[.agg #[.int .i64 g, .slice b1 m1 e1, .slice b2 m2 e2, .bool PL], .agg #[.int .i64 x, .int .i64 (y : Int)], .slice a q c] w _
  obtain ⟨wa, HW⟩ : ∃ wa, Hid (wa = ((w.alloc (.cells #[.int .i64 g, .slice b1 m1 e1, .slice b2 m2 e2, .bool PL] 104)).alloc (.cells #[.int .i64 x, .int .i64 (y : Int)] 94))) := ⟨_, rfl⟩
  have BX : KBox w wa [.int .i64 g, .slice b1 m1 e1, .slice b2 m2 e2, .bool PL] [.int .i64 x, .int .i64 (y : Int)] := by rw [HW.out]; exact kbox_new w _ _
  have t0 := BX.trm.cell (j := 0) rfl
  have t1 := BX.trm.cell (j := 1) rfl
  simp only [reckV, slV] at HTWO HCELL
  simp only [] at hl1 hl2
  rw [hl1, hl2] at hnm
  rcases hcs with ⟨h01, rfl⟩ | ⟨rfl, rfl⟩ | ⟨h34, rfl⟩ | ⟨rfl, rfl⟩ | ⟨h516, rfl⟩
  · rcases h01 with rfl | rfl
    · have hR : R = (y : Int) := by rw [← HR.out]; simp [zT, valT]
      subst hR
      go_enter Try.func117, Try.ntmps117
      go_upto_region 1 with fail
      rw [← HW.out]
      go_wp2
      go_ret
      exact ⟨rfl, BX.bel⟩
    · have hyl : y < m1 := by simpa [nameOk] using hnm
      obtain ⟨b', o', z, rfl, hb', hz, hinz, hcz⟩ := (HEV.out.below BX.bel).at_ hyl
      have hzr : 0 ≤ z := by rw [hz.out]; exact h0 _ (getD_mem (by omega))
      have hR : R = z := by
        rw [← HR.out]
        simp [zT, valT]
        rw [← List.getD_eq_getElem?_getD, ← hz.out]; omega
      subst hR
      have s1 := BX.rck.cell (j := 1) rfl
      have hm1 := HEV.out.2.1
      clear hzr hz hinz hnm
      go_enter Try.func117, Try.ntmps117
      go_upto_region 1 with fail
      rw [← HW.out]
      go_wp2
      go_ret
      exact ⟨rfl, BX.bel⟩
  · have hyl : y < m2 := by simpa [nameOk] using hnm
    obtain ⟨g5, o5, z0, rfl, hg5, hz0, hc5⟩ := nats_at (hi.below BX.bel) (k := 0) (by omega)
    have HV : Hid (R = if z0 < (v.cells.getD y []).length then (v.cells.getD y []).getD z0 0 else 0) := Lib.hid (by
      rw [← HR.out]
      unfold zT valT
      simp only [Int.toNat_natCast]
      rw [if_neg (by decide), if_neg (by decide), if_neg (by decide), if_neg (by decide), if_neg (by decide), if_pos (by trivial), hz0.out]
      by_cases hil : z0 < (v.cells.getD y []).length
      · rw [if_pos hil, if_pos hil]
        have h1 : 0 ≤ (v.cells.getD y []).getD z0 0 := by
          have hyl2 : y < v.cells.length := by omega
          have hm : v.cells.getD y [] ∈ v.cells := by rw [List.getD_eq_getElem?_getD, List.getElem?_eq_getElem hyl2]; exact List.getElem_mem hyl2
          exact hc0 _ hm _ (getD_mem hil)
        show ((((v.cells.getD y []).getD z0 0).toNat : Nat) : Int) = _
        omega
      · rw [if_neg hil, if_neg hil]; rfl)
    have hpz : PL = true ∨ z0 < (v.cells.getD y []).length := by
      rcases hp with h | h
      · exact .inl h
      · refine .inr ?_
        unfold valT at h
        simp only [Int.toNat_natCast] at h
        rw [if_neg (by decide), if_neg (by decide), if_pos (by trivial), hz0.out] at h
        by_cases hil : z0 < (v.cells.getD y []).length
        · exact hil
        · rw [if_neg hil] at h; exact absurd h (by decide)
    have HC1 : Hid (∀ p' : Lat wa, Calls Try.prog 151 #[.agg #[.int .i64 g, .slice b1 m1 e1, .slice b2 m2 e2, .bool PL], .int .i64 (y : Int), .int .i64 (z0 : Int)] p'.wd fun e w'' => e = .returned (.int .i64 R) ∧ Below p'.wd.heap.size p'.wd w'') := Lib.hid (fun p' => by rw [HV.out]; exact HCELL.out z0 p'.wd (BX.bel.trans (p'.ok.mono BX.bel.size)) (by omega) hpz)
    have f1 := lat_cell BX.trm.lt (BX.trm.cell (j := 0) rfl)
    have f2 := lat_cell BX.trm.lt (BX.trm.cell (j := 1) rfl)
    have f4 := lat_cell hg5 hc5
    rw [Nat.add_zero] at f4
    have s0 := lat_cell BX.rck.lt (BX.rck.cell (j := 0) rfl)
    have s1 := lat_cell BX.rck.lt (BX.rck.cell (j := 1) rfl)
    have s2 := lat_cell BX.rck.lt (BX.rck.cell (j := 2) rfl)
    have s3 := lat_cell BX.rck.lt (BX.rck.cell (j := 3) rfl)
    clear hnm HR hc5
    go_enter Try.func117, Try.ntmps117
    go_upto_region 1 with fail
    rw [← HW.out]
    go_wp2
    refine wp_region_lat (by kernel_rfl) (by kernel_rfl) ?_
    repeat (go_big_quiet_step ((go_at_call 151; exact lat_calls (HC1.out _))))
    refine wpQuiet_nil ?_
    intro _ hw'
    obtain ⟨⟨wq, hwq⟩, hw''⟩ := hw'
    subst hw''
    have B1 := BX.below hwq
    clear f1 f2 f4 s0 s1 s2 s3 HC1 t0 t1
    go_wp2
    go_ret
    exact ⟨rfl, B1.bel⟩
  · obtain ⟨g5, o5, z0, rfl, hg5, hz0, hc5⟩ := nats_at (hi.below BX.bel) (k := 0) (by omega)
    rw [Nat.add_zero] at hc5
    have hz256 : z0 < 256 := by rw [← hz0.out]; exact getD_nat (by omega) hsm 0
    rcases h34 with rfl | rfl
    · have hR : R = -(z0 : Int) - 1 := by rw [← HR.out, ← hz0.out]; rfl
      subst hR
      have hxr := not_small hz256
      clear hz0 hnm
      go_enter Try.func117, Try.ntmps117
      go_upto_region 1 with fail
      rw [← HW.out]
      go_wp2
      go_ret
      exact ⟨by first | rfl | go_num, BX.bel⟩
    · have hR : R = -(z0 : Int) := by rw [← HR.out, ← hz0.out]; rfl
      subst hR
      clear hz0 hnm
      go_enter Try.func117, Try.ntmps117
      go_upto_region 1 with fail
      rw [← HW.out]
      go_wp2
      go_ret
      exact ⟨by first | rfl | go_num, BX.bel⟩
  · obtain ⟨g5, o5, z0, rfl, hg5, hz0, hc5⟩ := nats_at (hi.below BX.bel) (k := 0) (by omega)
    obtain ⟨g6, o6, z1, e6, hg6, hz1, hc6⟩ := nats_at (hi.below BX.bel) (k := 1) (by omega)
    obtain ⟨g7, o7, z2, e7, hg7, hz2, hc7⟩ := nats_at (hi.below BX.bel) (k := 2) (by omega)
    injection e6 with e6
    injection e6 with e61 e62
    injection e7 with e7
    injection e7 with e71 e72
    subst e61 e62 e71 e72
    rw [Nat.add_zero] at hc5
    have HV : Hid (R = ((if z0 = 0 then z2 else z1 : Nat) : Int)) := Lib.hid (by
      rw [← HR.out]
      unfold zT valT
      simp only []
      rw [if_neg (by decide), if_neg (by decide), if_neg (by decide), if_neg (by decide), if_neg (by decide), if_neg (by decide), if_pos (by trivial), hz0.out, hz1.out, hz2.out])
    clear hnm hi HR
    by_cases hz00 : z0 = 0
    · subst hz00
      have hR : R = (z2 : Int) := HV.out
      subst hR
      go_enter Try.func117, Try.ntmps117
      go_upto_region 1 with fail
      rw [← HW.out]
      go_wp2
      go_ret
      exact ⟨rfl, BX.bel⟩
    · have hne : ((z0 : Int) != 0) = true := by simp; omega
      have hR : R = (z1 : Int) := by rw [HV.out, if_neg hz00]
      subst hR
      clear hz00
      go_enter Try.func117, Try.ntmps117
      go_upto_region 1 with fail
      rw [← HW.out]
      go_wp2
      go_ret
      exact ⟨rfl, BX.bel⟩
  · obtain ⟨g5, o5, z0, rfl, hg5, hz0, hc5⟩ := nats_at (hi.below BX.bel) (k := 0) (by omega)
    obtain ⟨g6, o6, z1, e6, hg6, hz1, hc6⟩ := nats_at (hi.below BX.bel) (k := 1) (by omega)
    injection e6 with e6
    injection e6 with e61 e62
    subst e61 e62
    rw [Nat.add_zero] at hc5
    have hz256 : z0 < 256 := by rw [← hz0.out]; exact getD_nat (by omega) hsm 0
    have hz257 : z1 < 256 := by rw [← hz1.out]; exact getD_nat (by omega) hsm 1
    have HV : Hid (R = zTwo x z0 z1) := Lib.hid (by
      rw [← HR.out]
      unfold zT
      simp only []
      rw [if_neg (by omega), if_neg (by omega), if_pos h516, hz0.out, hz1.out])
    have hpz : PL = true ∨ ¬ (z1 = 0 ∧ (x = 8 ∨ x = 9)) := by
      rcases hp with h | h
      · exact .inl h
      · refine .inr fun hh => ?_
        unfold valT at h
        simp only [] at h
        rw [if_neg (by omega), if_neg (by omega), if_neg (by omega), if_neg (by omega), if_neg (by omega), hz1.out, if_pos hh] at h
        exact absurd h (by simp)
    have HC1 : Hid (∀ p' : Lat wa, Calls Try.prog 152 #[.agg #[.int .i64 g, .slice b1 m1 e1, .slice b2 m2 e2, .bool PL], .int .i64 x, .int .i64 (z0 : Int), .int .i64 (z1 : Int)] p'.wd fun e w'' => e = .returned (.int .i64 R) ∧ Below p'.wd.heap.size p'.wd w'') := Lib.hid (fun p' => by rw [HV.out]; exact HTWO.out x z0 z1 p'.wd hz256 hz257 h516.1 h516.2 hpz)
    have f1 := lat_cell BX.trm.lt (BX.trm.cell (j := 0) rfl)
    have f2 := lat_cell BX.trm.lt (BX.trm.cell (j := 1) rfl)
    have f4 := lat_cell hg5 hc5
    have f5 := lat_cell hg5 hc6
    have s0 := lat_cell BX.rck.lt (BX.rck.cell (j := 0) rfl)
    have s1 := lat_cell BX.rck.lt (BX.rck.cell (j := 1) rfl)
    have s2 := lat_cell BX.rck.lt (BX.rck.cell (j := 2) rfl)
    have s3 := lat_cell BX.rck.lt (BX.rck.cell (j := 3) rfl)
    have j0 : (x == 0) = false := by simp; omega
    have j1 : (x == 1) = false := by simp; omega
    have j2 : (x == 2) = false := by simp; omega
    have j3 : (x == 3) = false := by simp; omega
    have j4 : (x == 4) = false := by simp; omega
    have j17 : (x == 17) = false := by simp; omega
    clear hnm HR hc5 hc6 h516 hpz hp hi
    go_enter Try.func117, Try.ntmps117
    go_upto_region 1 with fail
    rw [← HW.out]
    go_wp2
    refine wp_region_lat (by kernel_rfl) (by kernel_rfl) ?_
    repeat (go_big_quiet_step ((go_at_call 152; exact lat_calls (HC1.out _))))
    refine wpQuiet_nil ?_
    intro _ hw'
    obtain ⟨⟨wq, hwq⟩, hw''⟩ := hw'
    subst hw''
    have B1 := BX.below hwq
    clear f1 f2 f4 f5 s0 s1 s2 s3 HC1 t0 t1
    go_wp2
    go_ret
    exact ⟨rfl, B1.bel⟩
set_option maxRecDepth 20000 in
set_option maxHeartbeats 3200000 in
theorem ofTerm_panic (g : Int) (er : ERow) (S : Nat) (v : Envr) (x : Int) (y : Nat) (a : Option Addr) (q c : Nat) (inn : List Nat) (w : World) (he : EnvAt w er v) (ha : Asked S v x y q inn) (hi : Ints w a q (zl inn)) (hp : (valT S v.vars v.cells (x, (y : Int)) inn).2 ≠ 0) :
    Calls Try.prog 117 #[reckV g er false, .agg #[.int .i64 x, .int .i64 (y : Int)], .slice a q c] w fun e w' => e = .panicked (trapC (valT S v.vars v.cells (x, (y : Int)) inn).2) ∧ Below w.heap.size w w' := by
  have HTWO : Hid (∀ (op : Int) (z0 : Nat) (w' : World), (op = 8 ∨ op = 9) → Calls Try.prog 152 #[reckV g er false, .int .i64 op, .int .i64 (z0 : Int), .int .i64 0] w' fun e w'' => e = .panicked (trapC 1) ∧ Below w'.heap.size w' w'') := Lib.hid (fun op z0 w' q1 => ofTwo_panic g er op z0 w' q1)
  have HCELL : Hid (∀ (i : Nat) (w' : World), Below w.heap.size w w' → y < v.cells.length → ¬ i < (v.cells.getD y []).length → Calls Try.prog 151 #[reckV g er false, .int .i64 (y : Int), .int .i64 (i : Int)] w' fun e w'' => e = .panicked (trapC 2) ∧ Below w'.heap.size w' w'') := Lib.hid (fun i w' hb hy hil => cell_panic g er v.cells y i w' (he.cells.below hb) hy hil)
  have hcs := ha.cases
  have hnm := ha.named
  have hyb := ha.byte
  clear ha he
  obtain ⟨⟨b1, m1, e1⟩, ⟨b2, m2, e2⟩, rws⟩ := er
  show Calls Try.prog 117 #[.agg #[.int .i64 g, .slice b1 m1 e1, .slice b2 m2 e2, .bool false], .agg #[.int .i64 x, .int .i64 (y : Int)], .slice a q c] w _
  obtain ⟨wa, HW⟩ : ∃ wa, Hid (wa = ((w.alloc (.cells #[.int .i64 g, .slice b1 m1 e1, .slice b2 m2 e2, .bool false] 104)).alloc (.cells #[.int .i64 x, .int .i64 (y : Int)] 94))) := ⟨_, rfl⟩
  have BX : KBox w wa [.int .i64 g, .slice b1 m1 e1, .slice b2 m2 e2, .bool false] [.int .i64 x, .int .i64 (y : Int)] := by rw [HW.out]; exact kbox_new w _ _
  have t0 := BX.trm.cell (j := 0) rfl
  have t1 := BX.trm.cell (j := 1) rfl
  have s0 := BX.rck.cell (j := 0) rfl
  have s1 := BX.rck.cell (j := 1) rfl
  have s2 := BX.rck.cell (j := 2) rfl
  have s3 := BX.rck.cell (j := 3) rfl
  have hd : Below wa.heap.size wa wa.drew := ⟨rfl, rfl, rfl, Nat.le_refl _, fun _ _ => rfl⟩
  have HBD := Lib.hid (BX.bel.trans (hd.mono BX.bel.size))
  simp only [reckV, slV] at HTWO HCELL
  rcases hcs with ⟨h01, rfl⟩ | ⟨rfl, rfl⟩ | ⟨h34, rfl⟩ | ⟨rfl, rfl⟩ | ⟨h516, rfl⟩
  · exfalso
    rcases h01 with rfl | rfl <;> simp [valT] at hp
  · have hyl : y < v.cells.length := by simpa [nameOk] using hnm
    obtain ⟨g5, o5, z0, rfl, hg5, hz0, hc5⟩ := nats_at (hi.below BX.bel) (k := 0) (by omega)
    rw [Nat.add_zero] at hc5
    have HV : Hid ((valT S v.vars v.cells (2, (y : Int)) inn).2 = 2 ∧ ¬ z0 < (v.cells.getD y []).length) := Lib.hid (by
      unfold valT at hp ⊢
      simp only [Int.toNat_natCast] at hp ⊢
      rw [if_neg (by decide), if_neg (by decide), if_pos (by trivial), hz0.out] at hp ⊢
      by_cases hil : z0 < (v.cells.getD y []).length
      · rw [if_pos hil] at hp; exact absurd rfl hp
      · rw [if_neg hil]; exact ⟨rfl, hil⟩)
    rw [HV.out.1]
    have HC1 := Lib.hid (HCELL.out z0 wa.drew (BX.bel.trans (hd.mono BX.bel.size)) hyl HV.out.2)
    clear hnm hp hz0 HV HTWO HCELL hi
    go_enter Try.func117, Try.ntmps117
    go_upto_region 1 with fail
    rw [← HW.out]
    clear HW
    go_wp2_with fail
    go_region_with ((go_at_call 151; refine (HC1.out).mono ?_; rintro e w1 ⟨rfl, hb1⟩; refine panic_end (P := Try.prog) (w := w1) ⟨rfl, rfl, HBD.out.trans (hb1.mono HBD.out.size)⟩ ?_))
    all_goals exact True.intro
  · exfalso
    unfold valT at hp
    simp only [] at hp
    rw [if_neg (by omega), if_neg (by omega), if_neg (by omega), if_neg (by omega), if_pos h34] at hp
    exact absurd rfl hp
  · exfalso
    simp [valT] at hp
  · obtain ⟨g5, o5, z0, rfl, hg5, hz0, hc5⟩ := nats_at (hi.below BX.bel) (k := 0) (by omega)
    obtain ⟨g6, o6, z1, e6, hg6, hz1, hc6⟩ := nats_at (hi.below BX.bel) (k := 1) (by omega)
    injection e6 with e6
    injection e6 with e61 e62
    subst e61 e62
    rw [Nat.add_zero] at hc5
    have HV : Hid ((valT S v.vars v.cells (x, (y : Int)) inn).2 = 1 ∧ z1 = 0 ∧ (x = 8 ∨ x = 9)) := Lib.hid (by
      unfold valT at hp ⊢
      simp only [] at hp ⊢
      rw [if_neg (by omega), if_neg (by omega), if_neg (by omega), if_neg (by omega), if_neg (by omega), hz1.out] at hp ⊢
      by_cases hh : z1 = 0 ∧ (x = 8 ∨ x = 9)
      · rw [if_pos hh]; exact ⟨rfl, hh⟩
      · rw [if_neg hh] at hp; exact absurd rfl hp)
    rw [HV.out.1]
    obtain ⟨_, rfl, h89⟩ := HV.out
    have HC1 := Lib.hid (HTWO.out x z0 wa.drew h89)
    clear hnm hp hz0 hz1 HV HTWO HCELL hi h516
    have j0 : (x == 0) = false := by simp; omega
    have j1 : (x == 1) = false := by simp; omega
    have j2 : (x == 2) = false := by simp; omega
    have j3 : (x == 3) = false := by simp; omega
    have j4 : (x == 4) = false := by simp; omega
    have j17 : (x == 17) = false := by simp; omega
    clear h89
    go_enter Try.func117, Try.ntmps117
    go_upto_region 1 with fail
    rw [← HW.out]
    clear HW
    go_wp2_with fail
    go_region_with ((go_at_call 152; refine (HC1.out).mono ?_; rintro e w1 ⟨rfl, hb1⟩; refine panic_end (P := Try.prog) (w := w1) ⟨rfl, rfl, HBD.out.trans (hb1.mono HBD.out.size)⟩ ?_))
    all_goals exact True.intro
end Go.Proofs.Ytmooecbdpfhnlaa
