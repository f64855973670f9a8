/- Joined texts of this proof (ImplRepeat, ImplMostFor, SpecMostFor, SpecAllOut, SpecOut), in build order. -/
import Derived.Test.YtmooecbdpfhnlaaGreatJ15
import Derived.Test.YtmooecbdpfhnlaaGreatJ4
import Derived.Laws.CopyOwn
import Derived.Test.YtmooecbdpfhnlaaGreatJ39
import Derived.Test.YtmooecbdpfhnlaaGreatJ21
import Derived.Test.YtmooecbdpfhnlaaGreatJ38
import Derived.Test.YtmooecbdpfhnlaaGreatJ10
import Derived.Test.YtmooecbdpfhnlaaGreatJ29
import Derived.Test.YtmooecbdpfhnlaaGreatJ30
import Derived.Test.YtmooecbdpfhnlaaGreatJ27
import Derived.Test.YtmooecbdpfhnlaaGreatJ37
/- The contract of slices.Repeat at bools, of one true and a small count. -/
namespace Go.Proofs.YtmooecbdpfhnlaaGreat
open Go.RowKit

set_option maxHeartbeats 1600000 in
theorem mul64_0 (w : World) : Calls Tryz.prog 153 #[.int .u64 1, .int .u64 0] w fun e w' => e = .returned (.tuple #[.int .u64 0, .int .u64 0]) ∧ w = w' := by
  go_enter Tryz.func153, Tryz.ntmps153
  go_wp2
  go_ret2
  exact ⟨by kernel_rfl, rfl⟩
set_option maxHeartbeats 1600000 in
theorem mul_0 (w : World) : Calls Tryz.prog 108 #[.int .u64 1, .int .u64 0] w fun e w' => e = .returned (.tuple #[.int .u64 0, .int .u64 0]) ∧ w = w' := by
  go_enter Tryz.func108, Tryz.ntmps108
  go_wp2_with fail
  refine (mul64_0 _).mono ?_
  rintro e w1 ⟨rfl, rfl⟩
  go_wp2
  go_ret2
  exact ⟨rfl, rfl⟩
set_option maxHeartbeats 1600000 in
theorem mul64_1 (w : World) : Calls Tryz.prog 153 #[.int .u64 1, .int .u64 1] w fun e w' => e = .returned (.tuple #[.int .u64 0, .int .u64 1]) ∧ w = w' := by
  go_enter Tryz.func153, Tryz.ntmps153
  go_wp2
  go_ret2
  exact ⟨by kernel_rfl, rfl⟩
set_option maxHeartbeats 1600000 in
theorem mul_1 (w : World) : Calls Tryz.prog 108 #[.int .u64 1, .int .u64 1] w fun e w' => e = .returned (.tuple #[.int .u64 0, .int .u64 1]) ∧ w = w' := by
  go_enter Tryz.func108, Tryz.ntmps108
  go_wp2_with fail
  refine (mul64_1 _).mono ?_
  rintro e w1 ⟨rfl, rfl⟩
  go_wp2
  go_ret2
  exact ⟨rfl, rfl⟩
set_option maxHeartbeats 1600000 in
theorem mul64_2 (w : World) : Calls Tryz.prog 153 #[.int .u64 1, .int .u64 2] w fun e w' => e = .returned (.tuple #[.int .u64 0, .int .u64 2]) ∧ w = w' := by
  go_enter Tryz.func153, Tryz.ntmps153
  go_wp2
  go_ret2
  exact ⟨by kernel_rfl, rfl⟩
set_option maxHeartbeats 1600000 in
theorem mul_2 (w : World) : Calls Tryz.prog 108 #[.int .u64 1, .int .u64 2] w fun e w' => e = .returned (.tuple #[.int .u64 0, .int .u64 2]) ∧ w = w' := by
  go_enter Tryz.func108, Tryz.ntmps108
  go_wp2_with fail
  refine (mul64_2 _).mono ?_
  rintro e w1 ⟨rfl, rfl⟩
  go_wp2
  go_ret2
  exact ⟨rfl, rfl⟩
set_option maxHeartbeats 1600000 in
theorem mul64_3 (w : World) : Calls Tryz.prog 153 #[.int .u64 1, .int .u64 3] w fun e w' => e = .returned (.tuple #[.int .u64 0, .int .u64 3]) ∧ w = w' := by
  go_enter Tryz.func153, Tryz.ntmps153
  go_wp2
  go_ret2
  exact ⟨by kernel_rfl, rfl⟩
set_option maxHeartbeats 1600000 in
theorem mul_3 (w : World) : Calls Tryz.prog 108 #[.int .u64 1, .int .u64 3] w fun e w' => e = .returned (.tuple #[.int .u64 0, .int .u64 3]) ∧ w = w' := by
  go_enter Tryz.func108, Tryz.ntmps108
  go_wp2_with fail
  refine (mul64_3 _).mono ?_
  rintro e w1 ⟨rfl, rfl⟩
  go_wp2
  go_ret2
  exact ⟨rfl, rfl⟩
theorem mul_small (n : Nat) (hn : n ≤ 3) (w : World) : Calls Tryz.prog 108 #[.int .u64 1, .int .u64 (n : Int)] w fun e w' => e = .returned (.tuple #[.int .u64 0, .int .u64 (n : Int)]) ∧ w = w' := by
  obtain rfl | rfl | rfl | rfl : n = 0 ∨ n = 1 ∨ n = 2 ∨ n = 3 := by omega
  · exact mul_0 w
  · exact mul_1 w
  · exact mul_2 w
  · exact mul_3 w
/-- So many are laid. -/
def trueTo (n j : Nat) : List Value := List.replicate j (.bool true) ++ List.replicate (n - j) (.bool false)
theorem trueTo_len {n j : Nat} (h : j ≤ n) : (trueTo n j).length = n := by simp [trueTo]; omega
theorem trueTo_splice {n j c : Nat} (h : j + c ≤ n) : splice (trueTo n j) j (List.replicate c (.bool true)) = trueTo n (j + c) := by
  unfold splice trueTo
  rw [List.take_append_of_le_length (by simp), List.length_replicate, List.drop_append, List.length_replicate, List.drop_replicate, List.drop_replicate, List.take_of_length_le (by simp), show j - (j + c) = 0 by omega, List.replicate_zero, List.nil_append, show n - j - (j + c - j) = n - (j + c) by omega, ← List.append_assoc, List.replicate_append_replicate]
theorem own_true {w : World} {B h n : Nat} (hh : w.heap[h]? = some (.cells (trueTo n n).toArray 4 (0, 0))) (hB : B ≤ h) (hn : n ≤ 1048576) : OwnB w B (some ⟨h, 0, none⟩) n n (List.replicate n true) := by
  have e : trueTo n n = (List.replicate n true).map Value.bool := by simp [trueTo]
  refine ⟨⟨by simp, .inr ⟨h, n, (trueTo n n).toArray, rfl, hB, hh, Nat.le_refl _, by unfold maxLen; omega, by simp [trueTo_len], ?_⟩⟩, hn⟩
  rw [← e]
  simp [List.take_of_length_le, trueTo_len]
theorem trueTo_at {n j i : Nat} (h : i < j) : (trueTo n j)[i]? = some (.bool true) := by
  unfold trueTo
  rw [List.getElem?_append_left (by simpa using h)]
  simp [h]
set_option maxRecDepth 20000 in
set_option maxHeartbeats 3200000 in
theorem repeat_any (n g : Nat) (hn : n ≤ 3) (w : World) (h : w.cell? ⟨g, 0, none⟩ = some (.bool true)) (hg : g < w.heap.size) : Calls Tryz.prog 67 #[.slice (some ⟨g, 0, none⟩) 1 1, .int .i64 (n : Int)] w (MadeB w (List.replicate n true)) := by
  have hmk := make_bools n (by omega) w
  have hneg : decide ((n : Int) < 0) = false := by simp
  have hwr : IntKind.u64.wrap (n : Int) = (n : Int) := by unfold IntKind.wrap; simp [IntKind.bits, IntKind.signed]; omega
  have hwr2 : IntKind.i64.wrap (n : Int) = (n : Int) := by rw [IntKind.wrap_i64]; omega
  obtain ⟨W1, HW1⟩ : ∃ W1, Hid (W1 = w.alloc (.cells (madeCells #[.bool false] n) 4)) := ⟨_, rfl⟩
  have hb1 : Below w.heap.size w W1 := by rw [HW1.out]; exact (Below.refl _ _).alloc (Nat.le_refl _) _
  have hcells : W1.heap[w.heap.size]? = some (.cells (trueTo n 0).toArray 4 (0, 0)) := by
    rw [HW1.out, World.alloc_heap_new]
    congr 2
    apply Array.ext'
    rw [toList_madeCells_one]
    simp [trueTo]
  have HSRC : Hid (W1.cell? ⟨g, 0, none⟩ = some (.bool true)) := Lib.hid ((hb1.cell (by exact hg)).trans h)
  have HH := Lib.hid hcells
  have HB1 := Lib.hid hb1
  clear hcells hb1 h
  obtain ⟨b, HBS⟩ : ∃ b, Hid (w.heap.size = b) := ⟨_, rfl⟩
  rw [HBS.out] at HH
  rw [HW1.out] at HH HB1 HSRC
  have hu := Tryz.underlying39
  have hsz : (Tryz.prog.info? 4).map (·.size) = some 1 := by kernel_rfl
  have hone : ∀ c, ∀ v ∈ List.replicate c (Value.bool true), v.oneCell' = true := fun c v hv => by rw [List.eq_of_mem_replicate hv]; rfl
  go_enter Tryz.func67, Tryz.ntmps67
  go_wp2_with fail
  refine (mul_small n hn _).mono ?_
  rintro e w1 ⟨rfl, rfl⟩
  go_wp2_with (refine wpList_copy_splice rfl (.tmp 31) (.tmp 32) 39 39 rfl 4 hu hsz (some ⟨w.heap.size, 0, none⟩) (some ⟨g, 0, none⟩) n n 1 1 rfl rfl b 0 (trueTo n 0) 4 HH.out (List.replicate (min 1 n) (.bool true)) (by simp) (fun _ => ⟨by rw [HBS.out], _, rfl, fun j v hj => by
    have hj0 : j < min 1 n := by have := (List.getElem?_eq_some_iff.1 hj).1; simpa using this
    obtain rfl : j = 0 := by omega
    have hv : v = .bool true := List.eq_of_mem_replicate (List.mem_of_getElem? hj)
    subst hv
    simpa [Addr.add] using HSRC.out⟩) (by rw [trueTo_len (by omega)]; simp; omega) (hone _) w.heap.size w HB1.out (by rw [HBS.out]; exact Nat.le_refl _) ?_)
  intro w2 hw2 hb2
  rw [trueTo_splice (by omega)] at hw2
  obtain ⟨c0, HC0⟩ : ∃ c0, Hid (min 1 n = c0) := ⟨_, rfl⟩
  have hc0 : c0 ≤ n ∧ (0 < n → 1 ≤ c0) := by have := HC0.out; omega
  rw [Nat.zero_add, HC0.out] at hw2
  rw [HC0.out]
  have HW2 := Lib.hid hw2
  have HB2 := Lib.hid hb2
  clear hw2 hb2 hmk HH HB1 HSRC HW1
  go_wp2_with fail
  go_loopw [8] (fun q wr => ∃ j : Nat, j ≤ n ∧ (0 < n → 1 ≤ j) ∧ q = .int .i64 (j : Int) ∧ Hid (wr.heap[b]? = some (.cells (trueTo n j).toArray 4 (0, 0))) ∧ Below w.heap.size w wr) (fun q _ => n - (intOf q).toNat)
  case atStart => exact ⟨c0, hc0.1, hc0.2, rfl, HW2.out, HB2.out⟩
  case round =>
    clear HW2 HB2
    obtain ⟨j, hj, hj1, rfl, hcells, hbel⟩ := hrel
    by_cases hlt : j < n
    · have hnj : n ≠ j := by omega
      have hnj' : (n == j) = false := by simpa using hnj
      have hjl : j ≤ n := hj
      obtain ⟨c, HC⟩ : ∃ c, Hid (min j (n - j) = c) := ⟨_, rfl⟩
      have hc : 1 ≤ c ∧ j + c ≤ n ∧ c ≤ j := by have := HC.out; have := hj1 (by omega); omega
      have HCE : Hid (wr.drew.heap[b]? = some (.cells (trueTo n j).toArray 4 (0, 0))) := Lib.hid hcells.out
      have HBD : Hid (Below w.heap.size w wr.drew) := Lib.hid (hbel.trans ⟨rfl, rfl, rfl, Nat.le_refl _, fun _ _ => rfl⟩)
      have HSR : Hid (∀ (i : Nat) v, (List.replicate c (Value.bool true))[i]? = some v → wr.drew.cell? ((⟨w.heap.size, 0, none⟩ : Addr).add i) = some v) := Lib.hid (fun i v hi => by
        have hic : i < c := by have := (List.getElem?_eq_some_iff.1 hi).1; simpa using this
        have hv : v = .bool true := List.eq_of_mem_replicate (List.mem_of_getElem? hi)
        subst hv
        rw [Go.WideShapes.add_plain, HBS.out, Nat.zero_add]
        have h0 := HCE.out
        have h1 := trueTo_at (n := n) (j := j) (i := i) (by omega)
        simp [World.cell?, h0, h1])
      have hlen := trueTo_len hj
      have hwj : IntKind.i64.wrap ((j : Int) + (c : Int)) = (j : Int) + (c : Int) := by rw [IntKind.wrap_i64]; omega
      clear hcells hbel
      go_wp2
      go_region_held3 (fun _ => True) (exact True.intro) ((refine step_copy_splice rfl (.tmp 41) (.tmp 44) 39 39 rfl 4 hu hsz (some ⟨w.heap.size, j, none⟩) (some ⟨w.heap.size, 0, none⟩) (n - j) (n - j) j n (by rfl) (by rfl) b j (trueTo n j) 4 HCE.out (List.replicate c (.bool true)) (by rw [List.length_replicate]; exact HC.out.symm) (fun _ => ⟨by rw [HBS.out], _, rfl, HSR.out⟩) (by rw [hlen, List.length_replicate]; omega) (hone _) w.heap.size w HBD.out (by rw [HBS.out]; exact Nat.le_refl _) ?_; intro w5 hw5 hb5; rw [trueTo_splice hc.2.1] at hw5))
      clear HCE HBD HSR
      go_wp2
      go_roundw
      case rel => exact ⟨j + c, hc.2.1, by omega, by go_num, hw5, hb5⟩
      case measure => simp [intOf]; omega
    · obtain rfl : n = j := by omega
      have HO := Lib.hid (own_true (B := w.heap.size) hcells.out (by rw [HBS.out]; exact Nat.le_refl _) (by omega))
      clear hcells
      go_wp2
      go_ret
      exact ⟨_, _, _, rfl, by rw [HBS.out]; rw [HBS.out] at HO; exact HO.out, hbel⟩
end Go.Proofs.YtmooecbdpfhnlaaGreat
/- The contracts of the program's MostFor and MostJoint. -/
namespace Go.Proofs.YtmooecbdpfhnlaaGreat
open Go.RowKit

/-- The most outcomes with these free. -/
noncomputable def mostN (p : Prg) (fr : List Bool) : Nat := mostTo (runN (keyN p (List.replicate p.lows.length false ++ fr)) (ocAt p)) (prodL (maxesP p)).toNat
def oneFr (n s : Nat) : List Bool := (List.replicate n false).set s true
noncomputable def mostForB (p : Prg) (s : Int) : Int := if (codeB p == 0 && (decide (0 ≤ s) && decide (s ≤ (p.secrets.length : Int) - 1))) = true then ((mostN p (oneFr p.secrets.length s.toNat) : Nat) : Int) else -1
noncomputable def mostJointB (p : Prg) : Int := if codeB p = 0 then ((mostN p (List.replicate p.secrets.length true) : Nat) : Int) else -1
set_option maxRecDepth 100000 in
set_option maxHeartbeats 3200000 in
theorem implMostJoint_any (r : PRow) (p : Prg) (w : World) (h : ProgAt w r p) (hcap : r.body.2.1 ≤ r.body.2.2) :
    Calls Tryz.prog 21 #[progV r] w fun e w' => e = .returned (.int .i64 (mostJointB p)) ∧ Below w.heap.size w w' := by
  have HC : Hid (∀ w', Below w.heap.size w w' → Calls Tryz.prog 65 #[progV r] w' fun e w'' => e = .returned (.bool (codeB p == 0)) ∧ Below w'.heap.size w' w'') := Lib.hid (fun w' hw => implProgOk_any r p w' (h.below hw) hcap)
  have HSL : Hid (r.secrets.2.1 = p.secrets.length) := Lib.hid h.secrets.1.symm
  have HLL : Hid (r.lows.2.1 = p.lows.length) := Lib.hid h.lows.1.symm
  have HP := Lib.hid h
  have HCAP := Lib.hid hcap
  clear h hcap
  obtain ⟨R, HR⟩ : ∃ R, Hid (mostJointB p = R) := ⟨_, rfl⟩
  rw [HR.out]
  obtain ⟨wd, ⟨a1, n1, c1⟩, ⟨a2, n2, c2⟩, tp, ⟨a3, n3, c3⟩, ⟨a4, n4, c4⟩, rows⟩ := r
  simp only [progV, slV] at HC
  simp only [] at HSL HLL
  show Calls Tryz.prog 21 #[.agg #[.int .i64 wd, .slice a1 n1 c1, .slice a2 n2 c2, .int .i64 tp, .slice a3 n3 c3, .slice a4 n4 c4]] w _
  obtain ⟨wa, HW⟩ : ∃ v, Hid (v = w.alloc (.cells #[.int .i64 wd, .slice a1 n1 c1, .slice a2 n2 c2, .int .i64 tp, .slice a3 n3 c3, .slice a4 n4 c4] 31)) := ⟨_, rfl⟩
  obtain ⟨k, HK⟩ : ∃ k, Hid (w.heap.size = k) := ⟨_, rfl⟩
  have B0 : Blk wa k 31 [.int .i64 wd, .slice a1 n1 c1, .slice a2 n2 c2, .int .i64 tp, .slice a3 n3 c3, .slice a4 n4 c4] := by rw [HW.out, ← HK.out]; exact Blk.new w _ _
  have HB : Below w.heap.size w wa := by rw [HW.out]; exact (Below.refl _ w).alloc (Nat.le_refl _) _
  have t0 := B0.cell (j := 0) rfl
  have t1 := B0.cell (j := 1) rfl
  have t2 := B0.cell (j := 2) rfl
  have t3 := B0.cell (j := 3) rfl
  have t4 := B0.cell (j := 4) rfl
  have t5 := B0.cell (j := 5) rfl
  rw [HW.out, ← HK.out] at t0 t1 t2 t3 t4 t5
  by_cases hz : codeB p = 0
  case neg =>
    have hzz : (codeB p == 0) = false := by simpa using hz
    rw [hzz] at HC
    have HA : Hid (R = -1) := Lib.hid (by rw [← HR.out, mostJointB, if_neg hz])
    rw [HA.out]
    go_enter Tryz.func21, Tryz.ntmps21
    go_wp2_with fail
    rw [← HW.out, HK.out]
    refine (HC.out _ HB).mono ?_
    rintro e w1 ⟨rfl, hb1⟩
    have HF := Lib.hid (HB.trans (hb1.mono HB.size))
    clear t0 t1 t2 t3 t4 t5 B0
    go_wp2
    go_ret
    exact ⟨rfl, HF.out⟩
  case pos =>
    have hzz : (codeB p == 0) = true := by simpa using hz
    rw [hzz] at HC
    obtain ⟨l1, l2, _, _⟩ := code_inputs hz
    have hn1 : n1 ≤ 3 := by have := HLL.out; omega
    have hn2 : n2 ≤ 3 := by have := HSL.out; omega
    have HA : Hid (R = ((mostN p (List.replicate n2 true) : Nat) : Int)) := Lib.hid (by rw [← HR.out, mostJointB, if_pos hz, HSL.out])
    have HZ := Lib.hid hz
    clear hz hzz l1 l2
    go_enter Tryz.func21, Tryz.ntmps21
    go_wp2_with fail
    rw [← HW.out, HK.out]
    refine (HC.out _ HB).mono ?_
    rintro e w1 ⟨rfl, hb1⟩
    have X0 := B0.below hb1 B0.lt
    have hw1 := HB.trans (hb1.mono HB.size)
    have HW1 := Lib.hid hw1
    have HX := Lib.hid X0
    have t0 := X0.cell (j := 0) rfl
    have t1 := X0.cell (j := 1) rfl
    have t2 := X0.cell (j := 2) rfl
    have t3 := X0.cell (j := 3) rfl
    have t4 := X0.cell (j := 4) rfl
    have t5 := X0.cell (j := 5) rfl
    have hk1 := X0.lt
    have qn : w1.heap.size ≠ k := by omega
    have qn' := qn.symm
    have hbx : Below w1.heap.size w1 (w1.alloc (.cells #[.bool true] 4)).drew := belN (belA (Below.refl _ _))
    have HBX := Lib.hid hbx
    have HREP : Hid (Calls Tryz.prog 67 #[.slice (some ⟨w1.heap.size, 0, none⟩) 1 1, .int .i64 (n2 : Int)] (w1.alloc (.cells #[.bool true] 4)).drew (MadeB (w1.alloc (.cells #[.bool true] 4)).drew (List.replicate n2 true))) := Lib.hid (repeat_any n2 w1.heap.size hn2 _ ((Blk.new w1 4 [.bool true]).cell (j := 0) rfl) (by show w1.heap.size < (w1.alloc _).heap.size; simp))
    have HMO : Hid (∀ (w' : World) (x : Option Addr) (m d : Nat), Below w1.heap.size w1 w' → Bools w' x m (List.replicate n1 false ++ List.replicate n2 true) → Calls Tryz.prog 66 #[.agg #[.int .i64 wd, .slice a1 n1 c1, .slice a2 n2 c2, .int .i64 tp, .slice a3 n3 c3, .slice a4 n4 c4], .slice x m d] w' fun e w'' => e = .returned (.int .i64 R) ∧ Below w'.heap.size w' w'') := Lib.hid (fun w' x m d hb hx => by
      rw [HA.out, mostN, ← HLL.out]
      exact mostWith_any ⟨wd, (a1, n1, c1), (a2, n2, c2), tp, (a3, n3, c3), (a4, n4, c4), rows⟩ p x m d _ w' ((HP.out.below hw1).below hb) HCAP.out HZ.out hx (by have := hx.1; simp at this; have := HLL.out; have := HSL.out; omega))
    clear HC HB HW hb1 hw1 hbx B0 X0 HA HR
    go_wp2_with fail
    go_region_held3 (fun w' => w'.cell? ⟨k, 0, none⟩ = some (.int .i64 wd) ∧ w'.cell? ⟨k, 1, none⟩ = some (.slice a1 n1 c1) ∧ w'.cell? ⟨k, 2, none⟩ = some (.slice a2 n2 c2) ∧ w'.cell? ⟨k, 3, none⟩ = some (.int .i64 tp) ∧ w'.cell? ⟨k, 4, none⟩ = some (.slice a3 n3 c3) ∧ w'.cell? ⟨k, 5, none⟩ = some (.slice a4 n4 c4)) (first | (refine ⟨?_, ?_, ?_, ?_, ?_, ?_⟩ <;> assumption) | go_keep | (refine ⟨?_, ?_, ?_, ?_, ?_, ?_⟩ <;> go_keep)) (first
      | (go_at_call 67; refine HREP.out.mono ?_; rintro e z1 ⟨xa, xn, xc, rfl, hxo, hz1⟩; have hz := HBX.out.trans (hz1.mono HBX.out.size); have Y := HX.out.below hz HX.out.lt; have x0 := Y.cell (j := 0) rfl; have x1 := Y.cell (j := 1) rfl; have x2 := Y.cell (j := 2) rfl; have x3 := Y.cell (j := 3) rfl; have x4 := Y.cell (j := 4) rfl; have x5 := Y.cell (j := 5) rfl; clear Y; have HZ1 := Lib.hid hz; have HXO := Lib.hid hxo.reads; have HXN : Hid (xn = n2) := Lib.hid (by have := hxo.len; simp at this; omega); clear hxo hz1 hz)
      | (go_at_call 57; refine (freeSecrets_any wd tp a1 a2 a3 a4 _ n1 n2 n3 n4 c1 c2 c3 c4 _ _ _ _ HXO.out (by omega) (by rw [HXN.out]; omega)).mono ?_; rintro e z2 ⟨ya, yn, yc, rfl, hyo, hz2⟩; have hz := HZ1.out.trans (hz2.mono HZ1.out.size); have Y := HX.out.below hz HX.out.lt; have y0 := Y.cell (j := 0) rfl; have y1 := Y.cell (j := 1) rfl; have y2 := Y.cell (j := 2) rfl; have y3 := Y.cell (j := 3) rfl; have y4 := Y.cell (j := 4) rfl; have y5 := Y.cell (j := 5) rfl; clear Y; have HZ2 := Lib.hid hz; have HYO := Lib.hid hyo.reads; clear hyo hz2 hz)
      | (go_at_call 66; refine (HMO.out _ _ _ _ HZ2.out HYO.out).mono ?_; rintro e z3 ⟨rfl, hz3⟩; have hz := HZ2.out.trans (hz3.mono HZ2.out.size); have Y := HX.out.below hz HX.out.lt; have v0 := Y.cell (j := 0) rfl; have v1 := Y.cell (j := 1) rfl; have v2 := Y.cell (j := 2) rfl; have v3 := Y.cell (j := 3) rfl; have v4 := Y.cell (j := 4) rfl; have v5 := Y.cell (j := 5) rfl; clear Y; have HZ3 := Lib.hid hz; clear hz3 hz))
    have HF := Lib.hid (HW1.out.trans (HZ3.out.mono HW1.out.size))
    go_wp2
    go_ret
    exact ⟨rfl, HF.out⟩

set_option maxRecDepth 100000 in
set_option maxHeartbeats 3200000 in
theorem implMostFor_any (r : PRow) (p : Prg) (s : Int) (w : World) (h : ProgAt w r p) (hcap : r.body.2.1 ≤ r.body.2.2) (_hs : In64 s) :
    Calls Tryz.prog 24 #[progV r, .int .i64 s] w fun e w' => e = .returned (.int .i64 (mostForB p s)) ∧ Below w.heap.size w w' := by
  have HC : Hid (∀ w', Below w.heap.size w w' → Calls Tryz.prog 65 #[progV r] w' fun e w'' => e = .returned (.bool (codeB p == 0)) ∧ Below w'.heap.size w' w'') := Lib.hid (fun w' hw => implProgOk_any r p w' (h.below hw) hcap)
  have HSL : Hid (r.secrets.2.1 = p.secrets.length) := Lib.hid h.secrets.1.symm
  have HLL : Hid (r.lows.2.1 = p.lows.length) := Lib.hid h.lows.1.symm
  have hbig : r.secrets.2.1 ≤ 1048576 := h.secrets.2.1
  have HP := Lib.hid h
  have HCAP := Lib.hid hcap
  clear h hcap
  obtain ⟨R, HR⟩ : ∃ R, Hid (mostForB p s = R) := ⟨_, rfl⟩
  rw [HR.out]
  obtain ⟨wd, ⟨a1, n1, c1⟩, ⟨a2, n2, c2⟩, tp, ⟨a3, n3, c3⟩, ⟨a4, n4, c4⟩, rows⟩ := r
  simp only [progV, slV] at HC
  simp only [] at HSL HLL hbig
  show Calls Tryz.prog 24 #[.agg #[.int .i64 wd, .slice a1 n1 c1, .slice a2 n2 c2, .int .i64 tp, .slice a3 n3 c3, .slice a4 n4 c4], .int .i64 s] w _
  obtain ⟨wa, HW⟩ : ∃ v, Hid (v = w.alloc (.cells #[.int .i64 wd, .slice a1 n1 c1, .slice a2 n2 c2, .int .i64 tp, .slice a3 n3 c3, .slice a4 n4 c4] 31)) := ⟨_, rfl⟩
  obtain ⟨k, HK⟩ : ∃ k, Hid (w.heap.size = k) := ⟨_, rfl⟩
  have B0 : Blk wa k 31 [.int .i64 wd, .slice a1 n1 c1, .slice a2 n2 c2, .int .i64 tp, .slice a3 n3 c3, .slice a4 n4 c4] := by rw [HW.out, ← HK.out]; exact Blk.new w _ _
  have HB : Below w.heap.size w wa := by rw [HW.out]; exact (Below.refl _ w).alloc (Nat.le_refl _) _
  have t0 := B0.cell (j := 0) rfl
  have t1 := B0.cell (j := 1) rfl
  have t2 := B0.cell (j := 2) rfl
  have t3 := B0.cell (j := 3) rfl
  have t4 := B0.cell (j := 4) rfl
  have t5 := B0.cell (j := 5) rfl
  rw [HW.out, ← HK.out] at t0 t1 t2 t3 t4 t5
  obtain ⟨wi, HWI⟩ : ∃ q, Hid ((decide (0 ≤ s) && decide (s ≤ (n2 : Int) - 1)) = q) := ⟨_, rfl⟩
  have HIW : Hid (∀ w' : World, Calls Tryz.prog 70 #[.int .i64 s, .int .i64 0, .int .i64 ((n2 : Int) - 1)] w' fun e w'' => e = .returned (.bool wi) ∧ w'' = w') := Lib.hid (fun w' => by rw [← HWI.out]; exact (isWithin_any s 0 ((n2 : Int) - 1) w').mono (fun e w'' ⟨h1, h2⟩ => ⟨h1, h2.symm⟩))
  have hwr : IntKind.i64.wrap ((n2 : Int) - 1) = (n2 : Int) - 1 := by rw [IntKind.wrap_i64]; omega
  have hwr0 : IntKind.i64.wrap (n2 : Int) = (n2 : Int) := by rw [IntKind.wrap_i64]; omega
  go_enter Tryz.func24, Tryz.ntmps24
  by_cases hz : codeB p = 0
  case neg =>
    have hzz : (codeB p == 0) = false := by simpa using hz
    rw [hzz] at HC
    have HA : Hid (R = -1) := Lib.hid (by rw [← HR.out, mostForB, hzz]; rfl)
    rw [HA.out]
    go_wp2_with fail
    rw [← HW.out, HK.out]
    refine (HC.out _ HB).mono ?_
    rintro e w1 ⟨rfl, hb1⟩
    have HF := Lib.hid (HB.trans (hb1.mono HB.size))
    clear t0 t1 t2 t3 t4 t5 B0
    go_wp2
    go_ret
    exact ⟨rfl, HF.out⟩
  case pos =>
    have hzz : (codeB p == 0) = true := by simpa using hz
    rw [hzz] at HC
    go_wp2_with fail
    rw [← HW.out, HK.out]
    refine (HC.out _ HB).mono ?_
    rintro e w1 ⟨rfl, hb1⟩
    have X0 := B0.below hb1 B0.lt
    have hw1 := HB.trans (hb1.mono HB.size)
    cases wi with
    | false =>
      have HA : Hid (R = -1) := Lib.hid (by rw [← HR.out, mostForB, hzz, ← HSL.out, HWI.out]; rfl)
      have HF := Lib.hid hw1
      clear t0 t1 t2 t3 t4 t5 B0 X0
      go_wp2_with fail
      refine (HIW.out _).mono ?_
      rintro e w2 ⟨rfl, rfl⟩
      go_wp2
      go_ret
      exact ⟨by rw [HA.out]; rfl, HF.out⟩
    | true =>
      obtain ⟨l1, l2, _, _⟩ := code_inputs hz
      have hn1 : n1 ≤ 3 := by have := HLL.out; omega
      have hn2 : n2 ≤ 3 := by have := HSL.out; omega
      have hw := HWI.out
      simp only [Bool.and_eq_true, decide_eq_true_eq] at hw
      obtain ⟨sn, HSN⟩ : ∃ sn : Nat, Hid (s = (sn : Int)) := ⟨s.toNat, Lib.hid (by omega)⟩
      have hsn : sn < n2 := by have := HSN.out; omega
      have HA : Hid (R = ((mostN p (oneFr n2 sn) : Nat) : Int)) := Lib.hid (by
        rw [← HR.out, mostForB, hzz, ← HSL.out, HWI.out, HSN.out]
        rfl)
      have HZ := Lib.hid hz
      have HW1 := Lib.hid hw1
      have hmk := make_bools n2 (by omega) w1
      have HOM := Lib.hid (own_madeB w1 n2 (by omega))
      obtain rfl := HSN.out
      clear hz hzz l1 l2 hw HWI t0 t1 t2 t3 t4 t5 HC HB HW hb1 hw1 HR
      go_wp2_with fail
      refine (HIW.out _).mono ?_
      rintro e w2 ⟨rfl, rfl⟩
      have hcl := HOM.out.cellB hsn
      have hfr := HOM.out.frozenB (k := sn)
      obtain ⟨w3, HW3⟩ : ∃ v, Hid (v = w2.alloc (.cells ((madeCells #[.bool false] n2).setIfInBounds sn (.bool true)) 4)) := ⟨_, rfl⟩
      have hE : (w2.alloc (.cells (madeCells #[.bool false] n2) 4)).setCell ⟨w2.heap.size, sn, none⟩ (.bool true) = w2.alloc (.cells ((madeCells #[.bool false] n2).setIfInBounds sn (.bool true)) 4) := by go_simp
      have HO3 : Hid (OwnB w3 w2.heap.size (some ⟨w2.heap.size, 0, none⟩) n2 n2 (oneFr n2 sn)) := Lib.hid (by rw [HW3.out, ← hE]; exact HOM.out.put (k := sn) true)
      have hb3 : Below w2.heap.size w2 w3 := by rw [HW3.out]; exact belA (Below.refl _ _)
      have HB3 := Lib.hid hb3
      have X3 := X0.below hb3 X0.lt
      have HX := Lib.hid X3
      have t0 := X3.cell (j := 0) rfl
      have t1 := X3.cell (j := 1) rfl
      have t2 := X3.cell (j := 2) rfl
      have t3 := X3.cell (j := 3) rfl
      have t4 := X3.cell (j := 4) rfl
      have t5 := X3.cell (j := 5) rfl
      have HMO : Hid (∀ (w' : World) (x : Option Addr) (m d : Nat), Below w3.heap.size w3 w' → Bools w' x m (List.replicate n1 false ++ oneFr n2 sn) → Calls Tryz.prog 66 #[.agg #[.int .i64 wd, .slice a1 n1 c1, .slice a2 n2 c2, .int .i64 tp, .slice a3 n3 c3, .slice a4 n4 c4], .slice x m d] w' fun e w'' => e = .returned (.int .i64 R) ∧ Below w'.heap.size w' w'') := Lib.hid (fun w' x m d hb hx => by
        rw [HA.out, mostN, ← HLL.out]
        exact mostWith_any ⟨wd, (a1, n1, c1), (a2, n2, c2), tp, (a3, n3, c3), (a4, n4, c4), rows⟩ p x m d _ w' ((HP.out.below (HW1.out.trans (hb3.mono HW1.out.size))).below hb) HCAP.out HZ.out hx (by have := hx.1; simp [oneFr] at this; have := HLL.out; have := HSL.out; omega))
      generalize bAt (List.replicate n2 false) sn = y at hcl
      clear HOM hb3 B0 X0 X3 HA hE
      go_wp2_with fail
      rw [← HW3.out]
      have hdb : Below w3.heap.size w3 w3.drew := ⟨rfl, rfl, rfl, Nat.le_refl _, fun _ _ => rfl⟩
      have HDB := Lib.hid hdb
      have HDO := Lib.hid (HO3.out.reads.below hdb)
      clear hmk hcl hfr HW3 hdb
      go_region_held3 (fun w' => w'.cell? ⟨k, 0, none⟩ = some (.int .i64 wd) ∧ w'.cell? ⟨k, 1, none⟩ = some (.slice a1 n1 c1) ∧ w'.cell? ⟨k, 2, none⟩ = some (.slice a2 n2 c2) ∧ w'.cell? ⟨k, 3, none⟩ = some (.int .i64 tp) ∧ w'.cell? ⟨k, 4, none⟩ = some (.slice a3 n3 c3) ∧ w'.cell? ⟨k, 5, none⟩ = some (.slice a4 n4 c4)) (first | (refine ⟨?_, ?_, ?_, ?_, ?_, ?_⟩ <;> assumption) | go_keep | (refine ⟨?_, ?_, ?_, ?_, ?_, ?_⟩ <;> go_keep)) (first
        | (go_at_call 57; refine (freeSecrets_any wd tp a1 a2 a3 a4 _ n1 n2 n3 n4 c1 c2 c3 c4 _ _ _ _ HDO.out (by omega) (by omega)).mono ?_; rintro e z2 ⟨ya, yn, yc, rfl, hyo, hz2⟩; have hz := HDB.out.trans (hz2.mono HDB.out.size); have Y := HX.out.below hz HX.out.lt; have y0 := Y.cell (j := 0) rfl; have y1 := Y.cell (j := 1) rfl; have y2 := Y.cell (j := 2) rfl; have y3 := Y.cell (j := 3) rfl; have y4 := Y.cell (j := 4) rfl; have y5 := Y.cell (j := 5) rfl; clear Y; have HZ2 := Lib.hid hz; have HYO := Lib.hid hyo.reads; clear hyo hz2 hz)
        | (go_at_call 66; refine (HMO.out _ _ _ _ HZ2.out HYO.out).mono ?_; rintro e z3 ⟨rfl, hz3⟩; have hz := HZ2.out.trans (hz3.mono HZ2.out.size); have Y := HX.out.below hz HX.out.lt; have v0 := Y.cell (j := 0) rfl; have v1 := Y.cell (j := 1) rfl; have v2 := Y.cell (j := 2) rfl; have v3 := Y.cell (j := 3) rfl; have v4 := Y.cell (j := 4) rfl; have v5 := Y.cell (j := 5) rfl; clear Y; have HZ3 := Lib.hid hz; clear hz3 hz))
      have HF := Lib.hid (HW1.out.trans ((HB3.out.trans (HZ3.out.mono HB3.out.size)).mono HW1.out.size))
      go_wp2
      go_ret
      exact ⟨rfl, HF.out⟩
end Go.Proofs.YtmooecbdpfhnlaaGreat
/- The contracts of the model's MostFor and MostJoint. -/
namespace Go.Proofs.YtmooecbdpfhnlaaGreat
open Go.RowKit

theorem specMost_any (r : PRow) (p : Prg) (af : Option Addr) (nf cf : Nat) (fr : List Bool) (w : World) (h : ProgAt w r p) (hz : codeB p = 0) (hf : Bools w af nf fr) (hnf : nf = p.secrets.length) :
    Calls Tryz.prog 72 #[progV r, .slice af nf cf] w fun e w' => e = .returned (.int .i64 ((mostN p fr : Nat) : Int)) ∧ Below w.heap.size w w' := by
  have h1024 := prod_bits hz
  have hpos := prodL_pos (fun m hm => (wide_of_max hz m hm).1)
  have hC : prodL (maxesP p) = (((prodL (maxesP p)).toNat : Nat) : Int) := by omega
  refine (l8Most_any r p (prodL (maxesP p)).toNat af nf cf fr w h hz hC (by omega) hf hnf).mono ?_
  rintro e w' ⟨rfl, hb⟩
  exact ⟨by rw [mostN, most_free p _ fr hz hC (by rw [hf.1, hnf])], hb⟩
set_option maxRecDepth 100000 in
set_option maxHeartbeats 3200000 in
theorem specMostFor_any (r : PRow) (p : Prg) (s : Int) (w : World) (h : ProgAt w r p) (_hs : In64 s) :
    Calls Tryz.prog 25 #[progV r, .int .i64 s] w fun e w' => e = .returned (.int .i64 (mostForB p s)) ∧ Below w.heap.size w w' := by
  have HC : Hid (∀ w', Below w.heap.size w w' → Calls Tryz.prog 51 #[progV r] w' fun e w'' => e = .returned (.bool (codeB p == 0)) ∧ Below w'.heap.size w' w'') := Lib.hid (fun w' hw => specProgOk_any r p w' (h.below hw))
  have HSL : Hid (r.secrets.2.1 = p.secrets.length) := Lib.hid h.secrets.1.symm
  have HLL : Hid (r.lows.2.1 = p.lows.length) := Lib.hid h.lows.1.symm
  have hbig : r.secrets.2.1 ≤ 1048576 := h.secrets.2.1
  have HP := Lib.hid h
  clear h
  obtain ⟨R, HR⟩ : ∃ R, Hid (mostForB p s = R) := ⟨_, rfl⟩
  rw [HR.out]
  obtain ⟨wd, ⟨a1, n1, c1⟩, ⟨a2, n2, c2⟩, tp, ⟨a3, n3, c3⟩, ⟨a4, n4, c4⟩, rows⟩ := r
  simp only [progV, slV] at HC
  simp only [] at HSL HLL hbig
  show Calls Tryz.prog 25 #[.agg #[.int .i64 wd, .slice a1 n1 c1, .slice a2 n2 c2, .int .i64 tp, .slice a3 n3 c3, .slice a4 n4 c4], .int .i64 s] w _
  obtain ⟨wa, HW⟩ : ∃ v, Hid (v = w.alloc (.cells #[.int .i64 wd, .slice a1 n1 c1, .slice a2 n2 c2, .int .i64 tp, .slice a3 n3 c3, .slice a4 n4 c4] 31)) := ⟨_, rfl⟩
  obtain ⟨k, HK⟩ : ∃ k, Hid (w.heap.size = k) := ⟨_, rfl⟩
  have B0 : Blk wa k 31 [.int .i64 wd, .slice a1 n1 c1, .slice a2 n2 c2, .int .i64 tp, .slice a3 n3 c3, .slice a4 n4 c4] := by rw [HW.out, ← HK.out]; exact Blk.new w _ _
  have HB : Below w.heap.size w wa := by rw [HW.out]; exact (Below.refl _ w).alloc (Nat.le_refl _) _
  have t0 := B0.cell (j := 0) rfl
  have t1 := B0.cell (j := 1) rfl
  have t2 := B0.cell (j := 2) rfl
  have t3 := B0.cell (j := 3) rfl
  have t4 := B0.cell (j := 4) rfl
  have t5 := B0.cell (j := 5) rfl
  rw [HW.out, ← HK.out] at t0 t1 t2 t3 t4 t5
  obtain ⟨wi, HWI⟩ : ∃ q, Hid ((decide (0 ≤ s) && decide (s ≤ (n2 : Int) - 1)) = q) := ⟨_, rfl⟩
  have HIW : Hid (∀ w' : World, Calls Tryz.prog 71 #[.int .i64 s, .int .i64 0, .int .i64 ((n2 : Int) - 1)] w' fun e w'' => e = .returned (.bool wi) ∧ w'' = w') := Lib.hid (fun w' => by rw [← HWI.out]; exact l1In_any s 0 ((n2 : Int) - 1) w')
  have hwr : IntKind.i64.wrap ((n2 : Int) - 1) = (n2 : Int) - 1 := by rw [IntKind.wrap_i64]; omega
  go_enter Tryz.func25, Tryz.ntmps25
  by_cases hz : codeB p = 0
  case neg =>
    have hzz : (codeB p == 0) = false := by simpa using hz
    rw [hzz] at HC
    have HA : Hid (R = -1) := Lib.hid (by rw [← HR.out, mostForB, hzz]; rfl)
    rw [HA.out]
    go_wp2_with fail
    rw [← HW.out, HK.out]
    refine (HC.out _ HB).mono ?_
    rintro e w1 ⟨rfl, hb1⟩
    have HF := Lib.hid (HB.trans (hb1.mono HB.size))
    clear t0 t1 t2 t3 t4 t5 B0
    go_wp2
    go_ret
    exact ⟨rfl, HF.out⟩
  case pos =>
    have hzz : (codeB p == 0) = true := by simpa using hz
    rw [hzz] at HC
    go_wp2_with fail
    rw [← HW.out, HK.out]
    refine (HC.out _ HB).mono ?_
    rintro e w1 ⟨rfl, hb1⟩
    have X0 := B0.below hb1 B0.lt
    have hw1 := HB.trans (hb1.mono HB.size)
    have t0 := X0.cell (j := 0) rfl
    have t1 := X0.cell (j := 1) rfl
    have t2 := X0.cell (j := 2) rfl
    have t3 := X0.cell (j := 3) rfl
    have t4 := X0.cell (j := 4) rfl
    have t5 := X0.cell (j := 5) rfl
    cases wi with
    | false =>
      have HA : Hid (R = -1) := Lib.hid (by rw [← HR.out, mostForB, hzz, ← HSL.out, HWI.out]; rfl)
      have HF := Lib.hid hw1
      clear B0 X0
      go_wp2_with fail
      refine (HIW.out _).mono ?_
      rintro e w2 ⟨rfl, rfl⟩
      go_wp2
      go_ret
      exact ⟨by rw [HA.out]; rfl, HF.out⟩
    | true =>
      obtain ⟨l1, l2, _, _⟩ := code_inputs hz
      have hn2 : n2 ≤ 3 := by have := HSL.out; omega
      have hw := HWI.out
      simp only [Bool.and_eq_true, decide_eq_true_eq] at hw
      obtain ⟨sn, HSN⟩ : ∃ sn : Nat, Hid (s = (sn : Int)) := ⟨s.toNat, Lib.hid (by omega)⟩
      have hsn : sn < n2 := by have := HSN.out; omega
      have HA : Hid (R = ((mostN p (oneFr n2 sn) : Nat) : Int)) := Lib.hid (by
        rw [← HR.out, mostForB, hzz, ← HSL.out, HWI.out, HSN.out]
        rfl)
      have HZ := Lib.hid hz
      have HW1 := Lib.hid hw1
      have hmk := make_bools n2 (by omega) w1
      have HOM := Lib.hid (own_madeB w1 n2 (by omega))
      obtain rfl := HSN.out
      clear hz hzz l1 l2 hw HWI HC HB HW hb1 hw1 HR
      go_wp2_with fail
      refine (HIW.out _).mono ?_
      rintro e w2 ⟨rfl, rfl⟩
      have hcl := HOM.out.cellB hsn
      have hfr := HOM.out.frozenB (k := sn)
      obtain ⟨w3, HW3⟩ : ∃ v, Hid (v = w2.alloc (.cells ((madeCells #[.bool false] n2).setIfInBounds sn (.bool true)) 4)) := ⟨_, rfl⟩
      have hE : (w2.alloc (.cells (madeCells #[.bool false] n2) 4)).setCell ⟨w2.heap.size, sn, none⟩ (.bool true) = w2.alloc (.cells ((madeCells #[.bool false] n2).setIfInBounds sn (.bool true)) 4) := by go_simp
      have HO3 : Hid (OwnB w3 w2.heap.size (some ⟨w2.heap.size, 0, none⟩) n2 n2 (oneFr n2 sn)) := Lib.hid (by rw [HW3.out, ← hE]; exact HOM.out.put (k := sn) true)
      have hb3 : Below w2.heap.size w2 w3 := by rw [HW3.out]; exact (Below.refl _ _).alloc (Nat.le_refl _) _
      have HB3 := Lib.hid hb3
      have X3 := X0.below hb3 X0.lt
      have t0 := X3.cell (j := 0) rfl
      have t1 := X3.cell (j := 1) rfl
      have t2 := X3.cell (j := 2) rfl
      have t3 := X3.cell (j := 3) rfl
      have t4 := X3.cell (j := 4) rfl
      have t5 := X3.cell (j := 5) rfl
      rw [HW3.out] at t0 t1 t2 t3 t4 t5
      have HMO := Lib.hid (specMost_any ⟨wd, (a1, n1, c1), (a2, n2, c2), tp, (a3, n3, c3), (a4, n4, c4), rows⟩ p _ n2 n2 (oneFr n2 sn) w3 (HP.out.below (HW1.out.trans (hb3.mono HW1.out.size))) HZ.out HO3.out.reads HSL.out)
      simp only [progV, slV] at HMO
      rw [← HA.out] at HMO
      generalize bAt (List.replicate n2 false) sn = y at hcl
      clear HOM hb3 B0 X0 X3 HA hE
      go_wp2_with fail
      rw [← HW3.out]
      refine HMO.out.mono ?_
      rintro e w4 ⟨rfl, hb4⟩
      have HF := Lib.hid (HW1.out.trans ((HB3.out.trans (hb4.mono HB3.out.size)).mono HW1.out.size))
      clear hb4 t0 t1 t2 t3 t4 t5 hmk hcl hfr
      go_wp2
      go_ret
      exact ⟨rfl, HF.out⟩
set_option maxRecDepth 100000 in
set_option maxHeartbeats 3200000 in
theorem specMostJoint_any (r : PRow) (p : Prg) (w : World) (h : ProgAt w r p) :
    Calls Tryz.prog 45 #[progV r] w fun e w' => e = .returned (.int .i64 (mostJointB p)) ∧ Below w.heap.size w w' := by
  have HC : Hid (∀ w', Below w.heap.size w w' → Calls Tryz.prog 51 #[progV r] w' fun e w'' => e = .returned (.bool (codeB p == 0)) ∧ Below w'.heap.size w' w'') := Lib.hid (fun w' hw => specProgOk_any r p w' (h.below hw))
  have HSL : Hid (r.secrets.2.1 = p.secrets.length) := Lib.hid h.secrets.1.symm
  have hbig : r.secrets.2.1 ≤ 1048576 := h.secrets.2.1
  have HP := Lib.hid h
  clear h
  obtain ⟨R, HR⟩ : ∃ R, Hid (mostJointB p = R) := ⟨_, rfl⟩
  rw [HR.out]
  obtain ⟨wd, ⟨a1, n1, c1⟩, ⟨a2, n2, c2⟩, tp, ⟨a3, n3, c3⟩, ⟨a4, n4, c4⟩, rows⟩ := r
  simp only [progV, slV] at HC
  simp only [] at HSL hbig
  show Calls Tryz.prog 45 #[.agg #[.int .i64 wd, .slice a1 n1 c1, .slice a2 n2 c2, .int .i64 tp, .slice a3 n3 c3, .slice a4 n4 c4]] w _
  obtain ⟨wa, HW⟩ : ∃ v, Hid (v = w.alloc (.cells #[.int .i64 wd, .slice a1 n1 c1, .slice a2 n2 c2, .int .i64 tp, .slice a3 n3 c3, .slice a4 n4 c4] 31)) := ⟨_, rfl⟩
  obtain ⟨k, HK⟩ : ∃ k, Hid (w.heap.size = k) := ⟨_, rfl⟩
  have B0 : Blk wa k 31 [.int .i64 wd, .slice a1 n1 c1, .slice a2 n2 c2, .int .i64 tp, .slice a3 n3 c3, .slice a4 n4 c4] := by rw [HW.out, ← HK.out]; exact Blk.new w _ _
  have HB : Below w.heap.size w wa := by rw [HW.out]; exact (Below.refl _ w).alloc (Nat.le_refl _) _
  have t0 := B0.cell (j := 0) rfl
  have t1 := B0.cell (j := 1) rfl
  have t2 := B0.cell (j := 2) rfl
  have t3 := B0.cell (j := 3) rfl
  have t4 := B0.cell (j := 4) rfl
  have t5 := B0.cell (j := 5) rfl
  rw [HW.out, ← HK.out] at t0 t1 t2 t3 t4 t5
  go_enter Tryz.func45, Tryz.ntmps45
  by_cases hz : codeB p = 0
  case neg =>
    have hzz : (codeB p == 0) = false := by simpa using hz
    rw [hzz] at HC
    have HA : Hid (R = -1) := Lib.hid (by rw [← HR.out, mostJointB, if_neg hz])
    rw [HA.out]
    go_wp2_with fail
    rw [← HW.out, HK.out]
    refine (HC.out _ HB).mono ?_
    rintro e w1 ⟨rfl, hb1⟩
    have HF := Lib.hid (HB.trans (hb1.mono HB.size))
    clear t0 t1 t2 t3 t4 t5 B0
    go_wp2
    go_ret
    exact ⟨rfl, HF.out⟩
  case pos =>
    have hzz : (codeB p == 0) = true := by simpa using hz
    rw [hzz] at HC
    have HA : Hid (R = ((mostN p (List.replicate n2 true) : Nat) : Int)) := Lib.hid (by rw [← HR.out, mostJointB, if_pos hz, HSL.out])
    have HZ := Lib.hid hz
    go_wp2_with fail
    rw [← HW.out, HK.out]
    refine (HC.out _ HB).mono ?_
    rintro e w1 ⟨rfl, hb1⟩
    have X0 := B0.below hb1 B0.lt
    have hw1 := HB.trans (hb1.mono HB.size)
    have HX := Lib.hid X0
    have HW1 := Lib.hid hw1
    have t2 := X0.cell (j := 2) rfl
    have hmk := make_bools n2 (by omega) w1
    have HOM := Lib.hid (own_madeB w1 n2 (by omega))
    have HBM : Hid (Below w1.heap.size w1 (w1.alloc (.cells (madeCells #[.bool false] n2) 4))) := Lib.hid ((Below.refl _ _).alloc (Nat.le_refl _) _)
    clear hz hzz HC HB HW hb1 hw1 HR B0 X0 t0 t1 t3 t4 t5
    go_wp2_with fail
    go_loopw [4] (fun i wr => ∃ j : Nat, j ≤ n2 ∧ i = .int .i64 (j : Int) ∧ OwnB wr w1.heap.size (some ⟨w1.heap.size, 0, none⟩) n2 n2 (List.replicate j true ++ List.replicate (n2 - j) false) ∧ Below w1.heap.size w1 wr) (fun i _ => n2 - (intOf i).toNat)
    case atStart => exact ⟨0, Nat.zero_le _, rfl, by simpa using HOM.out, HBM.out⟩
    case round =>
      clear HOM HBM hmk t2
      obtain ⟨j, hj, rfl, hown, hbel⟩ := hrel
      by_cases hlt : j < n2
      · have hcl := hown.cellB hlt
        have hfr := hown.frozenB (k := j)
        have hput := hown.put (k := j) true
        rw [set_true n2 j hlt] at hput
        have HP2 := Lib.hid hput
        have HB2 := Lib.hid (below_set hbel (b := w1.heap.size) (j := j) (Nat.le_refl _) (.bool true))
        generalize bAt (List.replicate j true ++ List.replicate (n2 - j) false) j = y at hcl
        clear hput hown hbel
        go_wp2
        go_roundw
        case rel => exact ⟨j + 1, by omega, by go_num, HP2.out, HB2.out⟩
        case measure => simp [intOf]; omega
      · obtain rfl : n2 = j := by omega
        rw [Nat.sub_self, List.replicate_zero, List.append_nil] at hown
        have Y := HX.out.below hbel HX.out.lt
        have t0 := Y.cell (j := 0) rfl
        have t1 := Y.cell (j := 1) rfl
        have t2 := Y.cell (j := 2) rfl
        have t3 := Y.cell (j := 3) rfl
        have t4 := Y.cell (j := 4) rfl
        have t5 := Y.cell (j := 5) rfl
        have HMO := Lib.hid (specMost_any ⟨wd, (a1, n1, c1), (a2, n2, c2), tp, (a3, n3, c3), (a4, n4, c4), rows⟩ p _ n2 n2 (List.replicate n2 true) wr (HP.out.below (HW1.out.trans (hbel.mono HW1.out.size))) HZ.out hown.reads HSL.out)
        simp only [progV, slV] at HMO
        rw [← HA.out] at HMO
        have HBE := Lib.hid hbel
        clear Y hown hbel HA
        go_wp2_with fail
        refine HMO.out.mono ?_
        rintro e w4 ⟨rfl, hb4⟩
        have HF := Lib.hid (HW1.out.trans ((HBE.out.trans (hb4.mono HBE.out.size)).mono HW1.out.size))
        clear hb4 t0 t1 t2 t3 t4 t5
        go_wp2
        go_ret
        exact ⟨rfl, HF.out⟩
end Go.Proofs.YtmooecbdpfhnlaaGreat
/- The contract of the model's AllOutcomes. -/
namespace Go.Proofs.YtmooecbdpfhnlaaGreat
open Go.RowKit

/-- What the model's AllOutcomes leaves. -/
def OcsAns (w : World) (os : List Oc) (e : Ending) (w' : World) : Prop :=
  Below w.heap.size w w' ∧ ∃ a n c rs, e = .returned (.slice a n c) ∧ OwnO w' w.heap.size w.heap.size a n c rs os
end Go.Proofs.YtmooecbdpfhnlaaGreat
/- The contract of the model's OutcomesOf. -/
namespace Go.Proofs.YtmooecbdpfhnlaaGreat
open Go.RowKit

theorem of_pick {p : Prg} {ls ss : List Int} {fr : List Bool} {C : Nat} (h : startB p ls ss = true) (hf : fr.length = p.secrets.length) (hC : prodL (maxesP p) = (C : Int)) :
    diffL (pickTo (fun i => fitsB p.lows.length fr (intsAt (tabIn p C) i) (ls ++ ss)) (tabOut p C) C) = ofO p ls ss fr := by
  have e : (startB p ls ss && decide (fr.length = p.secrets.length)) = true := by rw [h, decide_eq_true hf]; rfl
  rw [ofO, if_pos e, pickTo_filter p C _ C (Nat.le_refl _), hC]
  show _ = diffL (((List.range C).filter _).map _)
  congr 2
  refine List.filter_congr (fun i hi => ?_)
  rw [tabIn_at (List.mem_range.1 hi), fits_key p fr i _ (start_in h).1]
set_option maxRecDepth 100000 in
set_option maxHeartbeats 6400000 in
theorem specOutcomesOf_any (r : PRow) (p : Prg) (a a' af : Option Addr) (n c n' c' nf cf : Nat) (ls ss : List Int) (fr : List Bool) (w : World) (h : ProgAt w r p) (h1 : Ints w a n ls) (h2 : Ints w a' n' ss) (hf : Bools w af nf fr) :
    Calls Tryz.prog 32 #[progV r, .slice a n c, .slice a' n' c', .slice af nf cf] w (OcsAns w (ofO p ls ss fr)) := by
  have HC : Hid (∀ w', Below w.heap.size w w' → Calls Tryz.prog 83 #[progV r, .slice a n c, .slice a' n' c', .slice af nf cf] w' fun e w'' => e = .returned (.bool (startB p ls ss && decide (nf = r.secrets.2.1))) ∧ Below w'.heap.size w' w'') := Lib.hid (fun w' hw => l8Right_any r p a a' af n c n' c' nf cf ls ss w' (h.below hw) (h1.below hw) (h2.below hw))
  have HT : Hid (∀ (C : Nat) w', Below w.heap.size w w' → codeB p = 0 → prodL (maxesP p) = (C : Int) → C ≤ 1024 → Calls Tryz.prog 73 #[progV r] w' (Tabled w' p C)) := Lib.hid (fun C w' hw => l8Table_any r p C w' (h.below hw))
  have HSL : Hid (r.secrets.2.1 = p.secrets.length) := Lib.hid h.secrets.1.symm
  have HLL : Hid (r.lows.2.1 = p.lows.length) := Lib.hid h.lows.1.symm
  have HFL := Lib.hid hf.1
  have HI1 := Lib.hid h1
  have HI2 := Lib.hid h2
  have HBF := Lib.hid hf
  clear h h1 h2 hf
  obtain ⟨ok, HOK⟩ : ∃ ok, Hid ((startB p ls ss && decide (nf = r.secrets.2.1)) = ok) := ⟨_, rfl⟩
  rw [HOK.out] at HC
  obtain ⟨wd, ⟨a1, n1, c1⟩, ⟨a2, n2, c2⟩, tp, ⟨a3, n3, c3⟩, ⟨a4, n4, c4⟩, rows⟩ := r
  simp only [progV, slV] at HC HT
  simp only [] at HOK HSL HLL
  show Calls Tryz.prog 32 #[.agg #[.int .i64 wd, .slice a1 n1 c1, .slice a2 n2 c2, .int .i64 tp, .slice a3 n3 c3, .slice a4 n4 c4], .slice a n c, .slice a' n' c', .slice af nf cf] w _
  obtain ⟨wa, HW⟩ : ∃ v, Hid (v = w.alloc (.cells #[.int .i64 wd, .slice a1 n1 c1, .slice a2 n2 c2, .int .i64 tp, .slice a3 n3 c3, .slice a4 n4 c4] 31)) := ⟨_, rfl⟩
  obtain ⟨k, HK⟩ : ∃ k, Hid (w.heap.size = k) := ⟨_, rfl⟩
  have B0 : Blk wa k 31 [.int .i64 wd, .slice a1 n1 c1, .slice a2 n2 c2, .int .i64 tp, .slice a3 n3 c3, .slice a4 n4 c4] := by rw [HW.out, ← HK.out]; exact Blk.new w _ _
  have HB : Below w.heap.size w wa := by rw [HW.out]; exact (Below.refl _ w).alloc (Nat.le_refl _) _
  have t0 := B0.cell (j := 0) rfl
  have t1 := B0.cell (j := 1) rfl
  have t2 := B0.cell (j := 2) rfl
  have t3 := B0.cell (j := 3) rfl
  have t4 := B0.cell (j := 4) rfl
  have t5 := B0.cell (j := 5) rfl
  rw [HW.out, ← HK.out] at t0 t1 t2 t3 t4 t5
  go_enter Tryz.func32, Tryz.ntmps32
  cases ok with
  | false =>
    have HA : Hid (ofO p ls ss fr = []) := Lib.hid (by
      have := HOK.out
      rw [ofO, if_neg]
      rw [HFL.out, ← HSL.out, this]
      decide)
    rw [HA.out]
    go_wp2_with fail
    rw [← HW.out, HK.out]
    refine (HC.out _ HB).mono ?_
    rintro e w1 ⟨rfl, hb1⟩
    have HF2 := Lib.hid (HB.trans (hb1.mono HB.size))
    clear t0 t1 t2 t3 t4 t5 B0
    go_wp2
    go_ret
    exact ⟨belA HF2.out, _, _, _, [], rfl, ownO_empty w1 _ _ HF2.out.size⟩
  | true =>
    have hok := HOK.out
    simp only [Bool.and_eq_true, decide_eq_true_eq] at hok
    obtain ⟨hst, hnf⟩ := hok
    have hz := startB_ok hst
    have h1024 := prod_bits hz
    have hpos := prodL_pos (fun m hm => (wide_of_max hz m hm).1)
    obtain ⟨C, HCC⟩ : ∃ C : Nat, Hid (prodL (maxesP p) = (C : Int)) := ⟨(prodL (maxesP p)).toNat, Lib.hid (by omega)⟩
    have hC : C ≤ 1024 := by have := HCC.out; omega
    have HA := Lib.hid (of_pick hst (fr := fr) (by rw [HFL.out, hnf, HSL.out]) HCC.out)
    rw [← HA.out]
    have HZ := Lib.hid hz
    have hsi := (start_in hst).1
    rw [maxesP_len] at hsi
    have HLEN : Hid (n + n' = n1 + nf) := Lib.hid (by have e1 := HI1.out.1; have e2 := HI2.out.1; rw [List.length_append] at hsi; have := HLL.out; have := HSL.out; omega)
    obtain ⟨l1, l2, _, _⟩ := code_inputs hz
    have hn3 : n + n' ≤ 6 := by have := HLEN.out; have := HLL.out; have := HSL.out; omega
    have HTI : Hid (∀ i, i < C → (intsAt (tabIn p C) i).length = n + n') := Lib.hid (fun i hi => by rw [tabIn_each p C i hi, maxesP_len]; have := HLEN.out; have := HLL.out; have := HSL.out; omega)
    rw [← HLL.out]
    obtain ⟨PK, HPK⟩ : ∃ PK, Hid (pickTo (fun i => fitsB n1 fr (intsAt (tabIn p C) i) (ls ++ ss)) (tabOut p C) C = PK) := ⟨_, rfl⟩
    rw [HPK.out]
    clear hz h1024 hpos hst hnf HA hsi l1 l2
    go_wp2_with fail
    rw [← HW.out, HK.out]
    refine (HC.out _ HB).mono ?_
    rintro e w1 ⟨rfl, hb1⟩
    have X0 := B0.below hb1 B0.lt
    have t0 := X0.cell (j := 0) rfl
    have t1 := X0.cell (j := 1) rfl
    have t2 := X0.cell (j := 2) rfl
    have t3 := X0.cell (j := 3) rfl
    have t4 := X0.cell (j := 4) rfl
    have t5 := X0.cell (j := 5) rfl
    have hw1 := HB.trans (hb1.mono HB.size)
    clear B0
    go_wp2_with fail
    refine (HT.out C w1 hw1 HZ.out HCC.out hC).mono ?_
    rintro e w2 ⟨hb2, ia, oa, ic, oc, irs, ors, rfl, hin, hout⟩
    have hw2 := hw1.trans (hb2.mono hw1.size)
    have HW2 := Lib.hid hw2
    have X2 := X0.below hb2 X0.lt
    have HX2 := Lib.hid X2
    have hk2 := X2.lt
    have HI12 := Lib.hid (fun (w' : World) (hb : Below w2.heap.size w2 w') => (HI1.out.below hw2).below hb)
    have HI22 := Lib.hid (fun (w' : World) (hb : Below w2.heap.size w2 w') => (HI2.out.below hw2).below hb)
    have HALL : Hid (∀ (w' : World) (x : Option Addr) (d : Nat), Below w2.heap.size w2 w' → Ints w' x (n + n') (ls ++ ss) → Calls Tryz.prog 84 #[.agg #[.int .i64 wd, .slice a1 n1 c1, .slice a2 n2 c2, .int .i64 tp, .slice a3 n3 c3, .slice a4 n4 c4], .slice ia C ic, .slice oa C oc, .slice x (n + n') d, .slice af nf cf] w' (MadeO w' w1.heap.size PK)) := Lib.hid (fun w' x d hb hx => by
      rw [← HPK.out]
      exact l8All_any wd tp a1 a2 a3 a4 n1 n2 n3 n4 c1 c2 c3 c4 ia oa x af C ic oc (n + n') d nf cf w1.heap.size w1.heap.size irs (tabIn p C) ors (tabOut p C) (ls ++ ss) fr w' (hin.reads.below hb) (hout.below hb) hx ((HBF.out.below hw2).below hb) HTI.out (by rw [HLEN.out]; exact Nat.le_refl _))
    have hws := hw1.size
    have HWS := Lib.hid hws
    have t0 := X2.cell (j := 0) rfl
    have t1 := X2.cell (j := 1) rfl
    have t2 := X2.cell (j := 2) rfl
    have t3 := X2.cell (j := 3) rfl
    have t4 := X2.cell (j := 4) rfl
    have t5 := X2.cell (j := 5) rfl
    clear hin hout hb1 hb2 hw1 hw2 HC HT HB HW X0 X2
    go_wp2_with fail
    have qn : w2.heap.size ≠ k := by omega
    have qn' := qn.symm
    go_region_held3 (fun w' => w'.cell? ⟨k, 0, none⟩ = some (.int .i64 wd) ∧ w'.cell? ⟨k, 1, none⟩ = some (.slice a1 n1 c1) ∧ w'.cell? ⟨k, 2, none⟩ = some (.slice a2 n2 c2) ∧ w'.cell? ⟨k, 3, none⟩ = some (.int .i64 tp) ∧ w'.cell? ⟨k, 4, none⟩ = some (.slice a3 n3 c3) ∧ w'.cell? ⟨k, 5, none⟩ = some (.slice a4 n4 c4)) (first | (refine ⟨?_, ?_, ?_, ?_, ?_, ?_⟩ <;> assumption) | go_keep | (refine ⟨?_, ?_, ?_, ?_, ?_, ?_⟩ <;> go_keep)) (first
      | (refine step_ints _ (by rfl) _ _ (by rfl) w2.heap.size _ 0 0 [] (by rfl) (by first | exact own_emptyB _ _ _ rfl (by omega) | exact own_drew (own_emptyB _ _ _ rfl (by omega)) | exact own_emptyB _ _ _ (by simp) (by omega) | exact own_drew (own_emptyB _ _ _ (by simp) (by omega))) _ n c ls (by rfl) (HI12.out _ (by repeat' (first | exact Below.refl _ _ | refine belA ?_ | refine belN ?_))) (by omega) (by first | (simp; done) | (simp; omega)) ?_; intro a8 k8 w8 x8 y8; have x8 := own_zero x8; rw [Nat.zero_add]
         have hb8 : Below w2.heap.size w2 w8 := belK (by repeat' (first | exact Below.refl _ _ | refine belA ?_ | refine belN ?_)) y8 (by first | (simp; done) | (simp; omega)) (by simp [Value.ownBlock])
         have Y := HX2.out.below hb8 HX2.out.lt
         have u0 := Y.cell (j := 0) rfl
         have u1 := Y.cell (j := 1) rfl
         have u2 := Y.cell (j := 2) rfl
         have u3 := Y.cell (j := 3) rfl
         have u4 := Y.cell (j := 4) rfl
         have u5 := Y.cell (j := 5) rfl
         clear Y y8)
      | (go_at_call 84; refine (HALL.out _ _ _ HB9.out HX9.out).mono ?_; rintro e z1 ⟨pa, pn, pc, prs, rfl, hpo, hz1⟩; have hz := HB9.out.trans (hz1.mono HB9.out.size); have Y := HX2.out.below hz HX2.out.lt; have x0 := Y.cell (j := 0) rfl; have x1 := Y.cell (j := 1) rfl; have x2 := Y.cell (j := 2) rfl; have x3 := Y.cell (j := 3) rfl; have x4 := Y.cell (j := 4) rfl; have x5 := Y.cell (j := 5) rfl; clear Y; have HZ1 := Lib.hid hz; have HPO := Lib.hid hpo; clear hpo hz1 hz)
      | (go_at_call 74; refine (l8Different_any _ _ _ _ _ _ _ _ HPO.out).mono ?_; rintro e z2 ⟨da, dn, dc, drs, rfl, hdo, hz2⟩; have hz := HZ1.out.trans (hz2.mono HZ1.out.size); have Y := HX2.out.below hz HX2.out.lt; have y0 := Y.cell (j := 0) rfl; have y1 := Y.cell (j := 1) rfl; have y2 := Y.cell (j := 2) rfl; have y3 := Y.cell (j := 3) rfl; have y4 := Y.cell (j := 4) rfl; have y5 := Y.cell (j := 5) rfl; clear Y; have HZ2 := Lib.hid hz; have HDO := Lib.hid hdo; clear hdo hz2 hz)
      | (refine step_ints _ (by rfl) _ _ (by rfl) w2.heap.size _ _ _ _ (by rfl) (by first | exact x8 | exact own_drew x8) _ n' c' ss (by rfl) (HI22.out _ (by first | exact hb8 | exact belN hb8)) (by omega) (by have := hb8.size; first | omega | (simp; omega)) ?_; intro a9 k9 w9 x9 y9
         have hb9 : Below w2.heap.size w2 w9 := belK (by first | exact hb8 | exact belN hb8) y9 (by have := hb8.size; first | omega | (simp; omega)) (fun g e => (x8.block g e).1)
         have Y := HX2.out.below hb9 HX2.out.lt
         have v0 := Y.cell (j := 0) rfl
         have v1 := Y.cell (j := 1) rfl
         have v2 := Y.cell (j := 2) rfl
         have v3 := Y.cell (j := 3) rfl
         have v4 := Y.cell (j := 4) rfl
         have v5 := Y.cell (j := 5) rfl
         have HX9 := Lib.hid x9.ints
         have HB9 := Lib.hid hb9
         clear Y x9 y9 hb9))
    have HO := Lib.hid ((HDO.out.base (B' := w.heap.size) (by have := HW2.out.size; have := HZ1.out.size; omega)).ebase (E' := w.heap.size) HWS.out)
    have HF := Lib.hid (HW2.out.trans (HZ2.out.mono HW2.out.size))
    go_wp2
    go_ret
    exact ⟨HF.out, da, dn, dc, drs, rfl, HO.out⟩
end Go.Proofs.YtmooecbdpfhnlaaGreat
