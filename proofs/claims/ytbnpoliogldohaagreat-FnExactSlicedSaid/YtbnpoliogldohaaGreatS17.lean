/- Joined texts of this proof (ImplInputs, ImplRoom, ImplStmt, ImplStmts, MachMath, SpecEndOf), in build order. -/
import Derived.Test.YtbnpoliogldohaaGreatS16
import Derived.Test.YtbnpoliogldohaaGreatS10
import Derived.Lib.Strings
import Derived.Lib.Walk
import Derived.Lib.BitFns
import Derived.Test.YtbnpoliogldohaaGreatS7
/- The contracts of the program's inputListOk, bitsOfMaxes, inputsOk (and of math/bits.Len64 on numbers of eight bits). -/
namespace Go.Proofs.YtbnpoliogldohaaGreat
open Go.RowKit

theorem bitLen_bitsN : ∀ (f x : Nat), x < 2 ^ f → Lib.bitLenAux f x = bitsN x
  | 0, x, h => by
    have : x = 0 := by simpa using h
    subst this
    rw [bitsN_zero]; rfl
  | f + 1, x, h => by
    unfold Lib.bitLenAux
    rcases Nat.eq_zero_or_pos x with rfl | hp
    · rw [bitsN_zero]; rfl
    · rw [if_neg (by omega), bitsN_pos hp, bitLen_bitsN f (x / 2) (by rw [Nat.pow_succ] at h; omega)]; omega
theorem wrapS (n : Int) (h0 : 0 ≤ n) (h1 : n ≤ 1048576) : wrap64 n = n := by unfold wrap64; omega
set_option maxHeartbeats 1600000 in
set_option maxRecDepth 100000 in
theorem len64_any (x : Int) (w : World) (h0 : 0 ≤ x) (h1 : x < 256) : Calls Tryz.prog 210 #[.int .u64 x] w fun e w' => e = .returned (.int .i64 (bitsN x.toNat : Int)) ∧ w = w' := by
  have hb : x.toNat < Lib.len8tab.size := by rw [Lib.len8tab_size]; omega
  have e := Lib.len8_of x h0 (by omega)
  have e2 : Lib.bitLen x.toNat = bitsN x.toNat := bitLen_bitsN 64 _ (by omega)
  rw [e2] at e
  unfold Lib.len8 at e
  rw [getElem?_pos Lib.len8tab x.toNat hb] at e
  have h8 : bitsN x.toNat ≤ 8 := bitsN_le 8 _ (by omega)
  have HE : Hid (wrap64 (wrap64 ((Lib.len8tab[x.toNat]'hb).toNat : Int)) = (bitsN x.toNat : Int)) := by
    show _ = _
    rw [show ((Lib.len8tab[x.toNat]'hb).toNat : Int) = (bitsN x.toNat : Int) from e, wrapS (bitsN x.toNat : Int) (by omega) (by omega), wrapS (bitsN x.toNat : Int) (by omega) (by omega)]
  clear e e2 h8
  go_enter Tryz.func210, Tryz.ntmps210
  go_wp2
  go_ret
  exact ⟨ret_int HE.out, rfl⟩
/-- The greatest values are of eight bits. -/
def Small (ts : List Tm) : Prop := ∀ i, i < ts.length → 0 ≤ (tmAt ts i).1 ∧ (tmAt ts i).1 ≤ 255
theorem small_of {S : Nat} {low : Bool} {ts : List Tm} (hS : S ≤ 256) (h : inputsB S low ts = true) : Small ts := by
  intro i hi
  simp only [inputsB, Bool.and_eq_true, decide_eq_true_eq] at h
  have := List.all_eq_true.1 h.1 _ (tmAt_mem hi)
  simp only [inpOk, Bool.and_eq_true, decide_eq_true_eq] at this
  omega
theorem inpOk_eq (S : Nat) (low : Bool) (x y : Int) : inpOk S low (x, y) = ((decide (0 ≤ x) && decide (x ≤ (S : Int) - 1)) && (decide (0 ≤ y) && decide (y ≤ if low then 0 else 99))) := by
  cases low
  · simp [inpOk]
  · rw [Bool.eq_iff_iff]
    simp [inpOk]
    omega
theorem inputs_long {S : Nat} {low : Bool} {ts : List Tm} (h : 3 < ts.length) : inputsB S low ts = false := by
  unfold inputsB; rw [decide_eq_false (by omega), Bool.and_false]
theorem bitsTo_le {w : World} {a : Option Addr} {n : Nat} {ts : List Tm} (h : Terms w a n ts) : ∀ k, k ≤ n → bitsTo ts k ≤ 63 * k
  | 0, _ => Nat.le_refl _
  | k + 1, hk => by
    have ih := bitsTo_le h k (by omega)
    obtain ⟨b, o, x, y, _, _, hz, hin1, _⟩ := h.at_ (k := k) (by omega)
    have := bits63 hin1
    simp only [bitsTo, hz.out]
    omega
set_option maxHeartbeats 1600000 in
theorem bitsOfMaxes_six (a : Option Addr) (n c : Nat) (ts : List Tm) (w : World) (h : Terms w a n ts) (hs : Small ts) (h3 : n ≤ 6) :
    Calls Tryz.prog 173 #[.slice a n c] w fun e w' => e = .returned (.int .i64 (bitsTo ts ts.length : Int)) ∧ Below w.heap.size w w' := by
  have HL := Lib.hid h.1
  rw [HL.out]
  go_enter Tryz.func173, Tryz.ntmps173
  go_wp2
  go_loopw [3, 8] (fun q i wr => ∃ k : Nat, k ≤ n ∧ i = .int .i64 (k : Int) ∧ bitsTo ts k ≤ 63 * k ∧ q = .int .i64 (bitsTo ts k : Int) ∧ Below w.heap.size w wr) (fun _ i _ => n - (intOf i).toNat)
  case atStart => exact ⟨0, Nat.zero_le _, rfl, Nat.le_refl _, rfl, Below.refl _ _⟩
  case round =>
    obtain ⟨k, hk, rfl, hq, rfl, hbel⟩ := hrel
    by_cases hlt : k < n
    · obtain ⟨b, o, x, y, rfl, hb, hz, hin1, hin2, hc1, hc2⟩ := (h.below (Nat.le_refl _) hbel).at_ hlt
      have hx := hs k (by rw [HL.out]; exact hlt)
      rw [hz.out] at hx
      obtain ⟨hx0, hx1⟩ := hx
      simp only [] at hx0 hx1
      have hb63 := bits63 hin1
      have hst : bitsTo ts (k + 1) = bitsTo ts k + bitsN x.toNat := by simp only [bitsTo, hz.out]
      have HS := Lib.hid hst
      clear hst
      generalize bitsTo ts k = Q at hq HS ⊢
      go_wp2_with fail
      refine (len64_any _ _ hx0 (by omega)).mono ?_
      rintro e w1 ⟨rfl, rfl⟩
      generalize bitsN x.toNat = V at hb63 HS ⊢
      go_wp2
      go_roundw
      case rel => exact ⟨k + 1, by omega, by go_num, by rw [HS.out]; omega, by rw [HS.out]; go_num, hbel.alloc hbel.size _⟩
      case measure => simp [intOf]; omega
    · obtain rfl : n = k := by omega
      obtain ⟨Q, HQ⟩ : ∃ Q, Hid (bitsTo ts n = Q) := ⟨_, rfl⟩
      rw [HQ.out] at hq ⊢
      go_wp2
      go_ret
      exact ⟨ret_int (by rw [HQ.out]), hbel⟩
theorem bitsOfMaxes_any (a : Option Addr) (n c : Nat) (ts : List Tm) (w : World) (h : Terms w a n ts) (hs : Small ts) (h3 : n ≤ 3) :
    Calls Tryz.prog 173 #[.slice a n c] w fun e w' => e = .returned (.int .i64 (bitsTo ts ts.length : Int)) ∧ Below w.heap.size w w' := bitsOfMaxes_six a n c ts w h hs (by omega)
set_option maxHeartbeats 3200000 in
theorem inputListOk_any (r : PRow) (W : Nat) (a : Option Addr) (n c : Nat) (low : Bool) (B : Int) (hB : B = if low then 0 else 99) (ts : List Tm) (w : World) (hW : r.width = (W : Int)) (h8 : W ≤ 8) (h : Terms w a n ts) :
    Calls Tryz.prog 172 #[progV r, .slice a n c, .int .i64 B] w fun e w' => e = .returned (.bool (inputsB (2 ^ W) low ts)) ∧ Below w.heap.size w w' := by
  have HC0 : Hid (∀ w' : World, Calls Tryz.prog 179 #[progV r] w' fun e w'' => e = .returned (.int .i64 (((2 ^ W : Nat) : Int) - 1)) ∧ Below w'.heap.size w' w'') := Lib.hid (fun w' => greatestValue_any r W w' hW h8)
  obtain ⟨wd, ⟨a1, n1, c1⟩, ⟨a2, n2, c2⟩, tp, ⟨a3, n3, c3⟩, ⟨a4, n4, c4⟩, rows⟩ := r
  clear hW
  have hS : 2 ^ W ≤ 2 ^ 8 := Nat.pow_le_pow_right (by omega) h8
  obtain ⟨S, HS⟩ : ∃ S : Nat, Hid (2 ^ W = S) := ⟨_, Lib.hid rfl⟩
  simp only [HS.out] at hS HC0 ⊢
  clear HS h8
  show Calls Tryz.prog 172 #[.agg #[.int .i64 wd, .slice a1 n1 c1, .slice a2 n2 c2, .int .i64 tp, .slice a3 n3 c3, .slice a4 n4 c4], .slice a n c, .int .i64 B] w _
  have HL := Lib.hid h.1
  have hbd := h.2.1
  have HQ := Lib.hid (inpOk_eq S low)
  rw [← hB] at HQ
  clear hB
  obtain ⟨wa, HW⟩ : ∃ wa, Hid (wa = w.alloc (.cells #[.int .i64 wd, .slice a1 n1 c1, .slice a2 n2 c2, .int .i64 tp, .slice a3 n3 c3, .slice a4 n4 c4] 28)) := ⟨_, rfl⟩
  have BX : Blk wa w.heap.size 28 [.int .i64 wd, .slice a1 n1 c1, .slice a2 n2 c2, .int .i64 tp, .slice a3 n3 c3, .slice a4 n4 c4] := by rw [HW.out]; exact Blk.new w _ _
  have HB : Below w.heap.size w wa := by rw [HW.out]; exact (Below.refl _ _).alloc (Nat.le_refl _) _
  by_cases hn : n ≤ 3
  case neg =>
    have hd : decide ((n : Int) > 3) = true := by simp; omega
    have HF := Lib.hid (inputs_long (S := S) (low := low) (ts := ts) (by rw [HL.out]; omega))
    go_enter Tryz.func172, Tryz.ntmps172
    go_wp2
    rw [← HW.out]
    go_ret
    exact ⟨ret_bool HF.out.symm, HB⟩
  have hd : decide ((n : Int) > 3) = false := by simp; omega
  have HF : Hid (InpTo S low ts n → inputsB S low ts = true) := Lib.hid (fun hg => by unfold inputsB; rw [inpTo_all (by rw [HL.out]; exact hg), decide_eq_true (by rw [HL.out]; exact hn)]; rfl)
  go_enter Tryz.func172, Tryz.ntmps172
  go_wp2
  rw [← HW.out]
  go_loopw [14] (fun i wr => ∃ k : Nat, k ≤ n ∧ i = .int .i64 (k : Int) ∧ InpTo S low ts k ∧ Below wa.heap.size wa wr) (fun i _ => n - (intOf i).toNat)
  case atStart => exact ⟨0, Nat.zero_le _, rfl, fun i hi => absurd hi (by omega), Below.refl _ _⟩
  case round =>
    obtain ⟨k, hk, rfl, hg, hbl⟩ := hrel
    by_cases hlt : k < n
    · have hbel := HB.trans (hbl.mono HB.size)
      obtain ⟨b, o, x, y, rfl, hb, hz, hin1, hin2, hc1, hc2⟩ := (h.below (Nat.le_refl _) hbel).at_ hlt
      obtain ⟨wb, HWb⟩ : ∃ wb, Hid (wb = wr.alloc (.cells #[.int .i64 x, .int .i64 y] 68)) := ⟨_, rfl⟩
      have BI : Blk wb wr.heap.size 68 [.int .i64 x, .int .i64 y] := by rw [HWb.out]; exact Blk.new wr _ _
      have B1 : Blk wb w.heap.size 28 [.int .i64 wd, .slice a1 n1 c1, .slice a2 n2 c2, .int .i64 tp, .slice a3 n3 c3, .slice a4 n4 c4] := by rw [HWb.out]; exact (BX.below hbl BX.lt).alloc _
      have hblb : Below wa.heap.size wa wb := by rw [HWb.out]; exact hbl.alloc hbl.size _
      have f1 := lat_cell BI.lt (BI.cell (j := 0) rfl)
      have f2 := lat_cell BI.lt (BI.cell (j := 1) rfl)
      have g0 := lat_cell B1.lt (B1.cell (j := 0) rfl)
      have g1 := lat_cell B1.lt (B1.cell (j := 1) rfl)
      have g2 := lat_cell B1.lt (B1.cell (j := 2) rfl)
      have g3 := lat_cell B1.lt (B1.cell (j := 3) rfl)
      have g4 := lat_cell B1.lt (B1.cell (j := 4) rfl)
      have g5 := lat_cell B1.lt (B1.cell (j := 5) rfl)
      have HC1 : Hid (∀ p : Lat wb, Calls Tryz.prog 179 #[.agg #[.int .i64 wd, .slice a1 n1 c1, .slice a2 n2 c2, .int .i64 tp, .slice a3 n3 c3, .slice a4 n4 c4]] p.wd fun e w' => e = .returned (.int .i64 ((S : Int) - 1)) ∧ Below p.wd.heap.size p.wd w') := Lib.hid (fun p => HC0.out p.wd)
      clear B1 BI hbl hbel
      have HQ2 := Lib.hid (HQ.out x y)
      by_cases hA : 0 ≤ x ∧ x ≤ (S : Int) - 1
      case neg =>
        have hda : (decide (0 ≤ x) && decide (x ≤ (S : Int) - 1)) = false := by rw [← Bool.not_eq_true]; simpa using hA
        have HC2 := Lib.hid (isWithin_lat (w := wb) (v := false) x 0 ((S : Int) - 1) hda)
        have HF2 := Lib.hid (show inpOk S low (x, y) = false by rw [HQ2.out, hda]; rfl)
        clear hda hA HQ2
        go_wp2
        rw [← HWb.out]
        refine wp_region_lat (by kernel_rfl) (by kernel_rfl) ?_
        repeat (go_big_quiet_step (first | (go_at_call 179; exact lat_calls (HC1.out _)) | (go_at_call 88; exact lat_calls (HC2.out _))))
        refine wpQuiet_nil ?_
        intro _ hw'
        obtain ⟨⟨wq, hwq⟩, hw''⟩ := hw'
        subst hw''
        have ht := hblb.trans (hwq.mono hblb.size)
        have ht2 := HB.trans (ht.mono HB.size)
        clear f1 f2 g0 g1 g2 g3 g4 g5 HC1 HC2
        go_wp2
        go_ret
        exact ⟨ret_bool (inp_bad (by rw [HL.out]; exact hlt) hz HF2.out).symm, ht2⟩
      have hda : (decide (0 ≤ x) && decide (x ≤ (S : Int) - 1)) = true := by simpa using hA
      have HC2 := Lib.hid (isWithin_lat (w := wb) (v := true) x 0 ((S : Int) - 1) hda)
      by_cases hY : 0 ≤ y ∧ y ≤ B
      case neg =>
        have hd2 : (decide (0 ≤ y) && decide (y ≤ B)) = false := by rw [← Bool.not_eq_true]; simpa using hY
        have HC3 := Lib.hid (isWithin_lat (w := wb) (v := false) y 0 B hd2)
        have HF2 := Lib.hid (show inpOk S low (x, y) = false by rw [HQ2.out, hda, hd2]; rfl)
        clear hda hd2 hA hY HQ2
        go_wp2
        rw [← HWb.out]
        refine wp_region_lat (by kernel_rfl) (by kernel_rfl) ?_
        repeat (go_big_quiet_step (first | (go_at_call 179; exact lat_calls (HC1.out _)) | (go_at_call 88; first | with_reducible exact lat_calls (HC2.out _) | with_reducible exact lat_calls (HC3.out _))))
        refine wpQuiet_nil ?_
        intro _ hw'
        obtain ⟨⟨wq, hwq⟩, hw''⟩ := hw'
        subst hw''
        have ht := hblb.trans (hwq.mono hblb.size)
        have ht2 := HB.trans (ht.mono HB.size)
        clear f1 f2 g0 g1 g2 g3 g4 g5 HC1 HC2 HC3
        go_wp2
        go_ret
        exact ⟨ret_bool (inp_bad (by rw [HL.out]; exact hlt) hz HF2.out).symm, ht2⟩
      have hd2 : (decide (0 ≤ y) && decide (y ≤ B)) = true := by simpa using hY
      have HC3 := Lib.hid (isWithin_lat (w := wb) (v := true) y 0 B hd2)
      have HF2 := Lib.hid (show inpOk S low (x, y) = true by rw [HQ2.out, hda, hd2]; rfl)
      clear hda hd2 hA hY HQ2
      go_wp2
      rw [← HWb.out]
      refine wp_region_lat (by kernel_rfl) (by kernel_rfl) ?_
      repeat (go_big_quiet_step (first | (go_at_call 179; exact lat_calls (HC1.out _)) | (go_at_call 88; first | with_reducible exact lat_calls (HC2.out _) | with_reducible exact lat_calls (HC3.out _))))
      refine wpQuiet_nil ?_
      intro _ hw'
      obtain ⟨⟨wq, hwq⟩, hw''⟩ := hw'
      subst hw''
      have ht := hblb.trans (hwq.mono hblb.size)
      clear f1 f2 g0 g1 g2 g3 g4 g5 HC1 HC2 HC3
      go_wp2
      go_roundw
      case rel => exact ⟨k + 1, by omega, by go_num, hg.succ hz HF2.out, ht⟩
      case measure => simp [intOf]; omega
    · obtain rfl : n = k := by omega
      go_wp2
      go_ret
      exact ⟨ret_bool (HF.out hg).symm, HB.trans (hbl.mono HB.size)⟩
end Go.Proofs.YtbnpoliogldohaaGreat
/- The contracts of the program's inputsOk and roomOk. -/
namespace Go.Proofs.YtbnpoliogldohaaGreat
open Go.RowKit

set_option maxHeartbeats 3200000 in
theorem inputsOk_any (r : PRow) (p : Prg) (W : Nat) (w : World) (hW : r.width = (W : Int)) (h8 : W ≤ 8) (h : ProgAt w r p) :
    Calls Tryz.prog 114 #[progV r] w fun e w' => e = .returned (.bool (inpB p)) ∧ Below w.heap.size w w' := by
  have HP := Lib.hid h
  have HI : Hid (∀ (w' : World) (a : Option Addr) (n c : Nat) (ts : List Tm), Terms w' a n ts → (Calls Tryz.prog 172 #[progV r, .slice a n c, .int .i64 0] w' fun e w'' => e = .returned (.bool (inputsB (2 ^ W) true ts)) ∧ Below w'.heap.size w' w'') ∧ (Calls Tryz.prog 172 #[progV r, .slice a n c, .int .i64 99] w' fun e w'' => e = .returned (.bool (inputsB (2 ^ W) false ts)) ∧ Below w'.heap.size w' w'')) :=
    Lib.hid (fun w' a n c ts ht => ⟨inputListOk_any r W a n c true 0 rfl ts w' hW h8 ht, inputListOk_any r W a n c false 99 rfl ts w' hW h8 ht⟩)
  have hS : 2 ^ W ≤ 2 ^ 8 := Nat.pow_le_pow_right (by omega) h8
  have hw := h.width
  rw [hW] at hw
  obtain ⟨wd, ⟨a1, n1, c1⟩, ⟨a2, n2, c2⟩, tp, ⟨a3, n3, c3⟩, ⟨a4, n4, c4⟩, rows⟩ := r
  obtain ⟨pw, pl, ps, pt, pa, pb⟩ := p
  simp only [] at hw
  subst hw
  obtain ⟨S, HS⟩ : ∃ S : Nat, Hid (2 ^ W = S) := ⟨_, Lib.hid rfl⟩
  have h1 := h.lows
  have h2 := h.secrets
  simp only [] at h1 h2
  have L1 := Lib.hid h1.1
  have L2 := Lib.hid h2.1
  obtain ⟨X1, H1⟩ : ∃ X1, Hid (inputsB S true pl = X1) := ⟨_, rfl⟩
  obtain ⟨X2, H2⟩ : ∃ X2, Hid (inputsB S false ps = X2) := ⟨_, rfl⟩
  obtain ⟨N1, HN1⟩ : ∃ N, Hid (bitsTo pl pl.length = N) := ⟨_, rfl⟩
  obtain ⟨N2, HN2⟩ : ∃ N, Hid (bitsTo ps ps.length = N) := ⟨_, rfl⟩
  obtain ⟨Z, HZ⟩ : ∃ Z, Hid (inpB ⟨(W : Int), pl, ps, pt, pa, pb⟩ = Z) := ⟨_, rfl⟩
  have hZ : Z = ((X1 && X2) && decide (N1 + N2 ≤ 10)) := by rw [← HZ.out]; simp only [inpB, Int.toNat_natCast, HS.out, H1.out, H2.out, HN1.out, HN2.out]
  rw [HZ.out]
  have HZ := Lib.hid hZ
  simp only [HS.out] at HI hS
  clear hZ HS h hW h8
  show Calls Tryz.prog 114 #[.agg #[.int .i64 wd, .slice a1 n1 c1, .slice a2 n2 c2, .int .i64 tp, .slice a3 n3 c3, .slice a4 n4 c4]] w _
  obtain ⟨wa, HW⟩ : ∃ wa, Hid (wa = w.alloc (.cells #[.int .i64 wd, .slice a1 n1 c1, .slice a2 n2 c2, .int .i64 tp, .slice a3 n3 c3, .slice a4 n4 c4] 28)) := ⟨_, rfl⟩
  have B : Blk wa w.heap.size 28 [.int .i64 wd, .slice a1 n1 c1, .slice a2 n2 c2, .int .i64 tp, .slice a3 n3 c3, .slice a4 n4 c4] := by rw [HW.out]; exact Blk.new w _ _
  have HB : Below w.heap.size w wa := by rw [HW.out]; exact (Below.refl _ _).alloc (Nat.le_refl _) _
  have T1 := Lib.hid h1
  have T2 := Lib.hid h2
  clear h1 h2
  go_enter Tryz.func114, Tryz.ntmps114
  go_wp2_with fail
  rw [← HW.out]
  refine ((HI.out _ _ _ _ _ (T1.out.below (Nat.le_refl _) HB)).1).mono ?_
  rintro e w1 ⟨rfl, hb1⟩
  simp only [H1.out]
  have B := B.below hb1 B.lt
  have HB := HB.trans (hb1.mono HB.size)
  clear hb1 HW
  have t0 := B.cell (j := 0) rfl
  have t1 := B.cell (j := 1) rfl
  have t2 := B.cell (j := 2) rfl
  have t3 := B.cell (j := 3) rfl
  have t4 := B.cell (j := 4) rfl
  have t5 := B.cell (j := 5) rfl
  cases X1 with
  | false =>
    have hz := HZ.out
    rw [Bool.false_and, Bool.false_and] at hz
    subst hz
    go_wp2
    go_ret
    exact ⟨rfl, HB⟩
  | true =>
  go_wp2_with fail
  refine ((HI.out _ _ _ _ _ (T2.out.below (Nat.le_refl _) HB)).2).mono ?_
  rintro e w2 ⟨rfl, hb2⟩
  simp only [H2.out]
  clear t0 t1 t2 t3 t4 t5
  have B := B.below hb2 B.lt
  have HB := HB.trans (hb2.mono HB.size)
  clear hb2
  have t0 := B.cell (j := 0) rfl
  have t1 := B.cell (j := 1) rfl
  have t2 := B.cell (j := 2) rfl
  have t3 := B.cell (j := 3) rfl
  have t4 := B.cell (j := 4) rfl
  have t5 := B.cell (j := 5) rfl
  cases X2 with
  | false =>
    have hz := HZ.out
    rw [Bool.and_false, Bool.false_and] at hz
    subst hz
    go_wp2
    go_ret
    exact ⟨rfl, HB⟩
  | true =>
  have hz := HZ.out
  rw [Bool.and_self, Bool.true_and] at hz
  have hl1 : n1 ≤ 3 := by have q := H1.out; simp only [inputsB, Bool.and_eq_true, decide_eq_true_eq] at q; have := L1.out; omega
  have hl2 : n2 ≤ 3 := by have q := H2.out; simp only [inputsB, Bool.and_eq_true, decide_eq_true_eq] at q; have := L2.out; omega
  have hs1 := small_of (by omega) H1.out
  have hs2 := small_of (by omega) H2.out
  have f1 := lat_cell B.lt t1
  have f2 := lat_cell B.lt t2
  have HC1 : Hid (∀ p : Lat w2, Calls Tryz.prog 173 #[.slice a1 n1 c1] p.wd fun e w' => e = .returned (.int .i64 (N1 : Int)) ∧ Below p.wd.heap.size p.wd w') := Lib.hid (fun p => by
    rw [← HN1.out]; exact bitsOfMaxes_any _ _ _ _ _ (T1.out.below (Nat.le_refl _) (HB.trans (p.ok.mono HB.size))) hs1 hl1)
  have HC2 : Hid (∀ p : Lat w2, Calls Tryz.prog 173 #[.slice a2 n2 c2] p.wd fun e w' => e = .returned (.int .i64 (N2 : Int)) ∧ Below p.wd.heap.size p.wd w') := Lib.hid (fun p => by
    rw [← HN2.out]; exact bitsOfMaxes_any _ _ _ _ _ (T2.out.below (Nat.le_refl _) (HB.trans (p.ok.mono HB.size))) hs2 hl2)
  have hb1 : N1 ≤ 189 := by
    have : ∀ k, k ≤ pl.length → bitsTo pl k ≤ 63 * k := fun k hk => bitsTo_le T1.out k (by have := L1.out; omega)
    have := this _ (Nat.le_refl _)
    have := HN1.out; have := L1.out; omega
  have hb2 : N2 ≤ 189 := by
    have : ∀ k, k ≤ ps.length → bitsTo ps k ≤ 63 * k := fun k hk => bitsTo_le T2.out k (by have := L2.out; omega)
    have := this _ (Nat.le_refl _)
    have := HN2.out; have := L2.out; omega
  have HD : Hid (decide ((N1 : Int) + (N2 : Int) ≤ 10) = Z) := Lib.hid (by rw [hz]; exact decide_eq_decide.2 (by omega))
  clear hs1 hs2 t0 t1 t2 t3 t4 t5 hz
  go_wp2
  refine wp_region_lat (by kernel_rfl) (by kernel_rfl) ?_
  repeat (go_big_quiet_step ((go_at_call 173; first | with_reducible exact lat_calls (HC1.out _) | with_reducible exact lat_calls (HC2.out _))))
  refine wpQuiet_nil ?_
  intro _ hw'
  obtain ⟨⟨wq, hwq⟩, hw''⟩ := hw'
  subst hw''
  have ht := HB.trans (hwq.mono HB.size)
  clear f1 f2 HC1 HC2
  go_wp2
  go_ret
  exact ⟨ret_bool HD.out, ht⟩
set_option maxHeartbeats 1600000 in
theorem roomOk_any (r : PRow) (p : Prg) (w : World) (h : ProgAt w r p) :
    Calls Tryz.prog 115 #[progV r] w fun e w' => e = .returned (.bool (roomB p)) ∧ Below w.heap.size w w' := by
  obtain ⟨wd, ⟨a1, n1, c1⟩, ⟨a2, n2, c2⟩, tp, ⟨a3, n3, c3⟩, ⟨a4, n4, c4⟩, rows⟩ := r
  obtain ⟨pw, pl, ps, pt, pa, pb⟩ := p
  obtain ⟨e1, e2, i1, i2, h1, h2, h3, h4⟩ := h
  simp only [] at e1 e2 i1 i2 h1 h2 h3 h4
  subst e1 e2
  clear h1 h2
  show Calls Tryz.prog 115 #[.agg #[.int .i64 wd, .slice a1 n1 c1, .slice a2 n2 c2, .int .i64 tp, .slice a3 n3 c3, .slice a4 n4 c4]] w _
  have HB : Below w.heap.size w (w.alloc (.cells #[.int .i64 wd, .slice a1 n1 c1, .slice a2 n2 c2, .int .i64 tp, .slice a3 n3 c3, .slice a4 n4 c4] 28)) := (Below.refl _ _).alloc (Nat.le_refl _) _
  have HT3 := Lib.hid (h3.below HB)
  have HL3 := Lib.hid h3.1
  have HL4 := Lib.hid h4.2.1
  have hn3 := h3.2.1
  have hn4 := h4.2.2.1
  obtain ⟨R, HR⟩ : ∃ R, Hid (roomB ⟨wd, pl, ps, tp, pa, pb⟩ = R) := ⟨_, rfl⟩
  have hroom : roomB ⟨wd, pl, ps, tp, pa, pb⟩ = ((decide (0 ≤ tp) && decide (tp ≤ 6)) && decide (n3 ≤ 2) && decide (n4 ≤ 40) && pa.all (fun z => decide (1 ≤ z) && decide (z ≤ 6))) := by
    simp only [roomB, HL3.out, HL4.out]
  rw [HR.out] at hroom
  have HRM := Lib.hid hroom
  simp only [HR.out]
  clear hroom h3 h4 HR
  go_enter Tryz.func115, Tryz.ntmps115
  by_cases ht : 0 ≤ tp ∧ tp ≤ 6
  case neg =>
    have hd : (decide (0 ≤ tp) && decide (tp ≤ 6)) = false := by rw [← Bool.not_eq_true]; simpa using ht
    go_wp2_with (go_at_call 88; refine (isWithin_any _ _ _ _).mono ?_; rintro e w' ⟨rfl, rfl⟩; rw [hd])
    go_ret
    exact ⟨ret_bool (by rw [HRM.out, hd]; rfl), HB⟩
  have hd : (decide (0 ≤ tp) && decide (tp ≤ 6)) = true := by simpa using ht
  have HD := Lib.hid hd
  clear hd ht
  by_cases ha : n3 ≤ 2
  case neg =>
    have hd2 : decide ((n3 : Int) > 2) = true := by simp; omega
    go_wp2_with (go_at_call 88; refine (isWithin_any _ _ _ _).mono ?_; rintro e w' ⟨rfl, rfl⟩; rw [HD.out])
    go_ret
    exact ⟨ret_bool (by rw [HRM.out, HD.out, decide_eq_false ha]; rfl), HB⟩
  have hd2 : decide ((n3 : Int) > 2) = false := by simp; omega
  by_cases hs : n4 ≤ 40
  case neg =>
    have hd3 : decide ((n4 : Int) > 40) = true := by simp; omega
    go_wp2_with (go_at_call 88; refine (isWithin_any _ _ _ _).mono ?_; rintro e w' ⟨rfl, rfl⟩; rw [HD.out])
    go_ret
    exact ⟨ret_bool (by rw [HRM.out, HD.out, decide_eq_true ha, decide_eq_false hs]; rfl), HB⟩
  have hd3 : decide ((n4 : Int) > 40) = false := by simp; omega
  have HX : Hid (R = pa.all (fun z => decide (1 ≤ z) && decide (z ≤ 6))) := Lib.hid (by rw [HRM.out, HD.out, decide_eq_true ha, decide_eq_true hs]; simp only [Bool.true_and])
  clear HRM
  go_wp2_with (go_at_call 88; refine (isWithin_any _ _ _ _).mono ?_; rintro e w' ⟨rfl, rfl⟩; rw [HD.out])
  go_loop [24] (fun i => ∃ k : Nat, k ≤ n3 ∧ i = .int .i64 (k : Int) ∧ CellsTo pa k) (fun i => n3 - (intOf i).toNat)
  case atStart => exact ⟨0, Nat.zero_le _, rfl, fun i hi => absurd hi (by omega)⟩
  case round =>
    obtain ⟨k, hk, rfl, hg⟩ := hrel
    by_cases hlt : k < n3
    · obtain ⟨b, o, z, rfl, hb, hz, hin, hc⟩ := HT3.out.at_ hlt
      by_cases h0 : 1 ≤ z ∧ z ≤ 6
      · have hd : (decide (1 ≤ z) && decide (z ≤ 6)) = true := by simp [h0]
        go_wp2_with (go_at_call 88; refine (isWithin_any _ _ _ _).mono ?_; rintro e w' ⟨rfl, rfl⟩; rw [hd])
        go_round
        case rel => exact ⟨k + 1, by omega, by go_num, hg.succ hz (by omega) (by omega)⟩
        case measure => simp [intOf]; omega
      · have hd : (decide (1 ≤ z) && decide (z ≤ 6)) = false := by rw [← Bool.not_eq_true]; simpa using h0
        go_wp2_with (go_at_call 88; refine (isWithin_any _ _ _ _).mono ?_; rintro e w' ⟨rfl, rfl⟩; rw [hd])
        go_ret
        exact ⟨ret_bool (by rw [HX.out]; exact (cells_bad (by rw [HL3.out]; exact hlt) hz h0).symm), HB⟩
    · obtain rfl : n3 = k := by omega
      go_wp2
      go_ret
      exact ⟨ret_bool (by rw [HX.out]; exact ((cellsTo_all pa).2 (by rw [HL3.out]; exact hg)).symm), HB⟩
end Go.Proofs.YtbnpoliogldohaaGreat
/- The contracts of the program's countVariables, isTemp, isVariable, isArray, termFits, mayStand, numberOfStmtOk, stmtOk, stmtsOk (written by tools/gen_implstmt.py). -/
namespace Go.Proofs.YtbnpoliogldohaaGreat
open Go.RowKit

/-- A Term that may stand, as the program asks it. -/
def fitB (S V A : Nat) (t : Tm) : Bool :=
  if t.1 = 0 then decide (t.2 ≤ (S : Int) - 1) else if t.1 = 1 then decide (0 ≤ t.2) && decide (t.2 < (V : Int)) else if t.1 = 2 then decide (0 ≤ t.2) && decide (t.2 < (A : Int)) else t.1 != 17
def mayB (S V A : Nat) (ts : List Tm) : Bool := (decide (ts.length ≤ 40) && expB ts) && ts.all (fitB S V A)
theorem expB_each {ts : List Tm} (h : expB ts = true) {t : Tm} (ht : t ∈ ts) : tOkB t = true := by
  obtain ⟨k, hk, rfl⟩ := List.getElem_of_mem ht
  obtain ⟨_, hr⟩ := (expB_iff _).1 h
  obtain ⟨d, hd, _⟩ := runD_take hr k
  have := (runD_at hr hk hd).1
  rwa [tmAt, List.getD_eq_getElem?_getD, List.getElem?_eq_getElem hk] at this
theorem fit_eq {S V A : Nat} {t : Tm} (h : tOkB t = true) : fitB S V A t = ((t.1 != 17) && nameOk S V A t) := by
  have h2 := ((tOkB_iff _).1 h).2.1
  obtain ⟨x, y⟩ := t
  simp only [] at h2
  unfold fitB nameOk
  simp only []
  by_cases h0 : x = 0
  · subst h0; rw [if_pos rfl, if_pos rfl, Bool.eq_iff_iff]; simp; omega
  rw [if_neg h0, if_neg h0]
  by_cases h1 : x = 1
  · subst h1; rw [if_pos rfl, if_pos rfl, Bool.eq_iff_iff]; simp; omega
  rw [if_neg h1, if_neg h1]
  by_cases h2' : x = 2
  · subst h2'; rw [if_pos rfl, if_pos rfl, Bool.eq_iff_iff]; simp; omega
  rw [if_neg h2', if_neg h2', Bool.and_true]
theorem mayB_eq (S V A : Nat) (ts : List Tm) : mayB S V A ts = bodyB S V A ts := by
  unfold mayB bodyB namesB
  cases he : expB ts with
  | false => simp
  | true =>
    have : ts.all (fitB S V A) = (ts.all (fun t => t.1 != 17) && ts.all (nameOk S V A)) := by
      rw [Bool.eq_iff_iff]
      simp only [Bool.and_eq_true, List.all_eq_true]
      constructor
      · intro h
        exact ⟨fun t ht => by have := h t ht; rw [fit_eq (expB_each he ht), Bool.and_eq_true] at this; exact this.1, fun t ht => by have := h t ht; rw [fit_eq (expB_each he ht), Bool.and_eq_true] at this; exact this.2⟩
      · intro h t ht
        rw [fit_eq (expB_each he ht), Bool.and_eq_true]
        exact ⟨h.1 t ht, h.2 t ht⟩
    rw [this]
    cases decide (ts.length ≤ 40) <;> simp
theorem body_pos {S V A : Nat} {ts : List Tm} (h : bodyB S V A ts = true) : 0 < ts.length := by
  rcases Nat.eq_zero_or_pos ts.length with h0 | h0
  · have : ts = [] := List.eq_nil_of_length_eq_zero h0
    subst this
    simp [bodyB, namesB, expB, runD] at h
  · exact h0
/-- A right statement, as the program asks it. -/
def stmtI (S I T A : Nat) (s : Stm) : Bool :=
  ((decide (0 ≤ s.op) && decide (s.op ≤ 9)) && numOk I T A s.op s.n) &&
  (if s.op = 1 then bodyB S (I + T) A s.at_ && bodyB S (I + T) A s.exp
   else if s.op = 0 ∨ s.op = 2 ∨ s.op = 6 then decide (s.at_.length = 0) && bodyB S (I + T) A s.exp
   else decide (s.at_.length = 0) && decide (s.exp.length = 0))
theorem stmtI_eq (S I T A : Nat) (s : Stm) : stmtI S I T A s = stmtB S I T A s := by
  obtain ⟨x, y, ts, us⟩ := s
  unfold stmtI stmtB
  simp only []
  cases hin : (decide (0 ≤ x) && decide (x ≤ 9)) with
  | false => simp
  | true =>
  cases hn : numOk I T A x y with
  | false => simp
  | true =>
  by_cases h1 : x = 1
  · subst h1
    rw [if_pos rfl, show bears 1 = true from rfl]
    cases ha : bodyB S (I + T) A ts with
    | false => simp
    | true => cases hb : bodyB S (I + T) A us with
      | false => simp
      | true => simp [body_pos ha, body_pos hb]
  rw [if_neg h1]
  have k1 : (x == 1) = false := by simpa using h1
  by_cases h2 : x = 0 ∨ x = 2 ∨ x = 6
  · rw [if_pos h2, show bears x = true by rcases h2 with rfl | rfl | rfl <;> rfl, k1]
    cases hb : bodyB S (I + T) A us with
    | false => simp
    | true =>
      rw [Bool.eq_iff_iff]
      simp [body_pos hb]
  rw [if_neg h2, show bears x = false by simp only [bears, Bool.or_eq_false_iff, beq_eq_false_iff_ne]; omega, k1]
  rw [Bool.eq_iff_iff]
  simp
  constructor
  · rintro ⟨h1, h2⟩; exact ⟨h2, h1⟩
  · rintro ⟨h1, h2⟩; exact ⟨h2, h1⟩

theorem firstTemp_lim (r : PRow) (W I T A : Nat) (w : World) (hr : Lim r W I T A) : Calls Tryz.prog 141 #[progV r] w fun e w' => e = .returned (.int .i64 (I : Int)) ∧ Below w.heap.size w w' := by
  refine (firstTemp_any r w (by have := hr.inputs; have := hr.few; omega) (by have := hr.inputs; have := hr.few; omega)).mono fun e w' ⟨he, hb⟩ => ⟨?_, hb⟩
  rw [he]
  exact ret_int (by have := hr.inputs; omega)
set_option maxHeartbeats 800000 in
theorem countVariables_any (r : PRow) (W I T A : Nat) (w : World) (hr : Lim r W I T A) : Calls Tryz.prog 86 #[progV r] w fun e w' => e = .returned (.int .i64 ((I + T : Nat) : Int)) ∧ Below w.heap.size w w' := by
  have HF : Hid (∀ w' : World, Calls Tryz.prog 141 #[progV r] w' fun e w'' => e = .returned (.int .i64 (I : Int)) ∧ Below w'.heap.size w' w'') := Lib.hid (fun w' => firstTemp_lim r W I T A w' hr)
  have e1 := hr.inputs
  have e2 := hr.temps
  have e3 := hr.arrays
  have hI := hr.few
  have hT := hr.fewT
  have hA := hr.fewA
  obtain ⟨wd, ⟨a1, n1, c1⟩, ⟨a2, n2, c2⟩, tp, ⟨a3, n3, c3⟩, ⟨a4, n4, c4⟩, rows⟩ := r
  simp only [] at e1 e2 e3
  subst e2 e3
  show Calls Tryz.prog 86 #[.agg #[.int .i64 wd, .slice a1 n1 c1, .slice a2 n2 c2, .int .i64 (T : Int), .slice a3 n3 c3, .slice a4 n4 c4]] w _
  obtain ⟨wa, HW⟩ : ∃ wa, Hid (wa = w.alloc (.cells #[.int .i64 wd, .slice a1 n1 c1, .slice a2 n2 c2, .int .i64 (T : Int), .slice a3 n3 c3, .slice a4 n4 c4] 28)) := ⟨_, rfl⟩
  have B0 : Blk wa w.heap.size 28 [.int .i64 wd, .slice a1 n1 c1, .slice a2 n2 c2, .int .i64 (T : Int), .slice a3 n3 c3, .slice a4 n4 c4] := by rw [HW.out]; exact Blk.new w _ _
  have HB : Below w.heap.size w wa := by rw [HW.out]; exact (Below.refl _ _).alloc (Nat.le_refl _) _
  clear hr
  have g0 := lat_cell B0.lt (B0.cell (j := 0) rfl)
  have g1 := lat_cell B0.lt (B0.cell (j := 1) rfl)
  have g2 := lat_cell B0.lt (B0.cell (j := 2) rfl)
  have g3 := lat_cell B0.lt (B0.cell (j := 3) rfl)
  have g4 := lat_cell B0.lt (B0.cell (j := 4) rfl)
  have g5 := lat_cell B0.lt (B0.cell (j := 5) rfl)
  have HC1 : Hid (∀ p : Lat wa, Calls Tryz.prog 141 #[.agg #[.int .i64 wd, .slice a1 n1 c1, .slice a2 n2 c2, .int .i64 (T : Int), .slice a3 n3 c3, .slice a4 n4 c4]] p.wd fun e w' => e = .returned (.int .i64 (I : Int)) ∧ Below p.wd.heap.size p.wd w') := Lib.hid (fun p => HF.out p.wd)
  go_enter Tryz.func86, Tryz.ntmps86
  go_wp2
  rw [← HW.out]
  refine wp_region_lat (by kernel_rfl) (by kernel_rfl) ?_
  repeat (go_big_quiet_step ((go_at_call 141; exact lat_calls (HC1.out _))))
  refine wpQuiet_nil ?_
  intro _ hw'
  obtain ⟨⟨wq, hwq⟩, hw''⟩ := hw'
  subst hw''
  have ht := HB.trans (hwq.mono HB.size)
  clear g0 g1 g2 g3 g4 g5 HC1
  go_wp2
  go_ret
  exact ⟨ret_int (by omega), ht⟩
set_option maxHeartbeats 800000 in
theorem isTemp_any (r : PRow) (W I T A : Nat) (z : Int) (w : World) (hr : Lim r W I T A) : Calls Tryz.prog 231 #[progV r, .int .i64 z] w fun e w' => e = .returned (.bool (decide ((I : Int) ≤ z) && decide (z ≤ (I : Int) + (T : Int) - 1))) ∧ Below w.heap.size w w' := by
  have HF : Hid (∀ w' : World, Calls Tryz.prog 141 #[progV r] w' fun e w'' => e = .returned (.int .i64 (I : Int)) ∧ Below w'.heap.size w' w'') := Lib.hid (fun w' => firstTemp_lim r W I T A w' hr)
  have HV : Hid (∀ w' : World, Calls Tryz.prog 86 #[progV r] w' fun e w'' => e = .returned (.int .i64 ((I + T : Nat) : Int)) ∧ Below w'.heap.size w' w'') := Lib.hid (fun w' => countVariables_any r W I T A w' hr)
  have e1 := hr.inputs
  have e2 := hr.temps
  have e3 := hr.arrays
  have hI := hr.few
  have hT := hr.fewT
  have hA := hr.fewA
  obtain ⟨wd, ⟨a1, n1, c1⟩, ⟨a2, n2, c2⟩, tp, ⟨a3, n3, c3⟩, ⟨a4, n4, c4⟩, rows⟩ := r
  simp only [] at e1 e2 e3
  subst e2 e3
  show Calls Tryz.prog 231 #[.agg #[.int .i64 wd, .slice a1 n1 c1, .slice a2 n2 c2, .int .i64 (T : Int), .slice a3 n3 c3, .slice a4 n4 c4], .int .i64 z] w _
  obtain ⟨wa, HW⟩ : ∃ wa, Hid (wa = w.alloc (.cells #[.int .i64 wd, .slice a1 n1 c1, .slice a2 n2 c2, .int .i64 (T : Int), .slice a3 n3 c3, .slice a4 n4 c4] 28)) := ⟨_, rfl⟩
  have B0 : Blk wa w.heap.size 28 [.int .i64 wd, .slice a1 n1 c1, .slice a2 n2 c2, .int .i64 (T : Int), .slice a3 n3 c3, .slice a4 n4 c4] := by rw [HW.out]; exact Blk.new w _ _
  have HB : Below w.heap.size w wa := by rw [HW.out]; exact (Below.refl _ _).alloc (Nat.le_refl _) _
  clear hr
  obtain ⟨V, HVV⟩ : ∃ V : Nat, Hid (I + T = V) := ⟨_, rfl⟩
  simp only [HVV.out] at HV
  go_enter Tryz.func231, Tryz.ntmps231
  go_wp2_with fail
  rw [← HW.out]
  refine (HF.out _).mono ?_
  rintro e w1 ⟨rfl, hb1⟩
  have B0 := B0.below hb1 B0.lt
  have HB := HB.trans (hb1.mono HB.size)
  clear hb1 HW
  have t0 := B0.cell (j := 0) rfl
  have t1 := B0.cell (j := 1) rfl
  have t2 := B0.cell (j := 2) rfl
  have t3 := B0.cell (j := 3) rfl
  have t4 := B0.cell (j := 4) rfl
  have t5 := B0.cell (j := 5) rfl
  by_cases h1 : (I : Int) ≤ z
  · go_wp2_with fail
    refine (HV.out _).mono ?_
    rintro e w2 ⟨rfl, hb2⟩
    have HB := HB.trans (hb2.mono HB.size)
    clear t0 t1 t2 t3 t4 t5
    by_cases h2 : z < (V : Int)
    · go_wp2
      go_ret
      exact ⟨ret_bool (by have hv := HVV.out; rw [Bool.eq_iff_iff]; simp <;> omega), HB⟩
    · go_wp2
      go_ret
      exact ⟨ret_bool (by have hv := HVV.out; rw [Bool.eq_iff_iff]; simp <;> omega), HB⟩
  · go_wp2
    go_ret
    exact ⟨ret_bool (by rw [Bool.eq_iff_iff]; simp <;> omega), HB⟩
set_option maxHeartbeats 800000 in
theorem isVariable_any (r : PRow) (W I T A : Nat) (z : Int) (w : World) (hr : Lim r W I T A) : Calls Tryz.prog 249 #[progV r, .int .i64 z] w fun e w' => e = .returned (.bool (decide (0 ≤ z) && decide (z < ((I + T : Nat) : Int)))) ∧ Below w.heap.size w w' := by
  have HV : Hid (∀ w' : World, Calls Tryz.prog 86 #[progV r] w' fun e w'' => e = .returned (.int .i64 ((I + T : Nat) : Int)) ∧ Below w'.heap.size w' w'') := Lib.hid (fun w' => countVariables_any r W I T A w' hr)
  have e1 := hr.inputs
  have e2 := hr.temps
  have e3 := hr.arrays
  have hI := hr.few
  have hT := hr.fewT
  have hA := hr.fewA
  obtain ⟨wd, ⟨a1, n1, c1⟩, ⟨a2, n2, c2⟩, tp, ⟨a3, n3, c3⟩, ⟨a4, n4, c4⟩, rows⟩ := r
  simp only [] at e1 e2 e3
  subst e2 e3
  show Calls Tryz.prog 249 #[.agg #[.int .i64 wd, .slice a1 n1 c1, .slice a2 n2 c2, .int .i64 (T : Int), .slice a3 n3 c3, .slice a4 n4 c4], .int .i64 z] w _
  obtain ⟨wa, HW⟩ : ∃ wa, Hid (wa = w.alloc (.cells #[.int .i64 wd, .slice a1 n1 c1, .slice a2 n2 c2, .int .i64 (T : Int), .slice a3 n3 c3, .slice a4 n4 c4] 28)) := ⟨_, rfl⟩
  have B0 : Blk wa w.heap.size 28 [.int .i64 wd, .slice a1 n1 c1, .slice a2 n2 c2, .int .i64 (T : Int), .slice a3 n3 c3, .slice a4 n4 c4] := by rw [HW.out]; exact Blk.new w _ _
  have HB : Below w.heap.size w wa := by rw [HW.out]; exact (Below.refl _ _).alloc (Nat.le_refl _) _
  clear hr
  obtain ⟨V, HVV⟩ : ∃ V : Nat, Hid (I + T = V) := ⟨_, rfl⟩
  simp only [HVV.out] at HV ⊢
  by_cases h1 : 0 ≤ z
  · go_enter Tryz.func249, Tryz.ntmps249
    go_wp2_with fail
    rw [← HW.out]
    refine (HV.out _).mono ?_
    rintro e w2 ⟨rfl, hb2⟩
    have HB := HB.trans (hb2.mono HB.size)
    by_cases h2 : z < (V : Int)
    · go_wp2
      go_ret
      exact ⟨ret_bool (by rw [Bool.eq_iff_iff]; simp <;> omega), HB⟩
    · go_wp2
      go_ret
      exact ⟨ret_bool (by rw [Bool.eq_iff_iff]; simp <;> omega), HB⟩
  · go_enter Tryz.func249, Tryz.ntmps249
    go_wp2
    rw [← HW.out]
    go_ret
    exact ⟨ret_bool (by rw [Bool.eq_iff_iff]; simp <;> omega), HB⟩
set_option maxHeartbeats 800000 in
theorem isArray_any (r : PRow) (W I T A : Nat) (z : Int) (w : World) (hr : Lim r W I T A) : Calls Tryz.prog 232 #[progV r, .int .i64 z] w fun e w' => e = .returned (.bool (decide (0 ≤ z) && decide (z < (A : Int)))) ∧ Below w.heap.size w w' := by
  have e1 := hr.inputs
  have e2 := hr.temps
  have e3 := hr.arrays
  have hI := hr.few
  have hT := hr.fewT
  have hA := hr.fewA
  obtain ⟨wd, ⟨a1, n1, c1⟩, ⟨a2, n2, c2⟩, tp, ⟨a3, n3, c3⟩, ⟨a4, n4, c4⟩, rows⟩ := r
  simp only [] at e1 e2 e3
  subst e2 e3
  show Calls Tryz.prog 232 #[.agg #[.int .i64 wd, .slice a1 n1 c1, .slice a2 n2 c2, .int .i64 (T : Int), .slice a3 n3 c3, .slice a4 n4 c4], .int .i64 z] w _
  have HB : Below w.heap.size w (w.alloc (.cells #[.int .i64 wd, .slice a1 n1 c1, .slice a2 n2 c2, .int .i64 (T : Int), .slice a3 n3 c3, .slice a4 n4 c4] 28)) := (Below.refl _ _).alloc (Nat.le_refl _) _
  clear hr
  by_cases h1 : 0 ≤ z
  · by_cases h2 : z < (n3 : Int)
    · go_enter Tryz.func232, Tryz.ntmps232
      go_wp2
      go_ret
      exact ⟨ret_bool (by rw [Bool.eq_iff_iff]; simp <;> omega), HB⟩
    · go_enter Tryz.func232, Tryz.ntmps232
      go_wp2
      go_ret
      exact ⟨ret_bool (by rw [Bool.eq_iff_iff]; simp <;> omega), HB⟩
  · go_enter Tryz.func232, Tryz.ntmps232
    go_wp2
    go_ret
    exact ⟨ret_bool (by rw [Bool.eq_iff_iff]; simp <;> omega), HB⟩
end Go.Proofs.YtbnpoliogldohaaGreat
/- The contracts of the program's termFits, mayStand, numberOfStmtOk, stmtOk, stmtsOk (written by tools/gen_implstmts.py). -/
namespace Go.Proofs.YtbnpoliogldohaaGreat
open Go.RowKit

set_option maxHeartbeats 1600000 in
theorem termFits_any (r : PRow) (W I T A : Nat) (x y : Int) (w : World) (hr : Lim r W I T A) : Calls Tryz.prog 230 #[progV r, .agg #[.int .i64 x, .int .i64 y]] w fun e w' => e = .returned (.bool (fitB (2 ^ W) (I + T) A (x, y))) ∧ Below w.heap.size w w' := by
  have HG : Hid (∀ w' : World, Calls Tryz.prog 179 #[progV r] w' fun e w'' => e = .returned (.int .i64 (((2 ^ W : Nat) : Int) - 1)) ∧ Below w'.heap.size w' w'') := Lib.hid (fun w' => greatestValue_any r W w' hr.width hr.small)
  have HV : Hid (∀ (w' : World), Calls Tryz.prog 249 #[progV r, .int .i64 y] w' fun e w'' => e = .returned (.bool (decide (0 ≤ y) && decide (y < ((I + T : Nat) : Int)))) ∧ Below w'.heap.size w' w'') := Lib.hid (fun w' => isVariable_any r W I T A y w' hr)
  have HA : Hid (∀ (w' : World), Calls Tryz.prog 232 #[progV r, .int .i64 y] w' fun e w'' => e = .returned (.bool (decide (0 ≤ y) && decide (y < (A : Int)))) ∧ Below w'.heap.size w' w'') := Lib.hid (fun w' => isArray_any r W I T A y w' hr)
  have hS : 2 ^ W ≤ 2 ^ 8 := Nat.pow_le_pow_right (by omega) hr.small
  have e1 := hr.inputs
  have e2 := hr.temps
  have e3 := hr.arrays
  have hI := hr.few
  have hT := hr.fewT
  have hA := hr.fewA
  obtain ⟨wd, ⟨a1, n1, c1⟩, ⟨a2, n2, c2⟩, tp, ⟨a3, n3, c3⟩, ⟨a4, n4, c4⟩, rows⟩ := r
  simp only [] at e1 e2 e3
  subst e2 e3
  obtain ⟨S, HS⟩ : ∃ S : Nat, Hid (2 ^ W = S) := ⟨_, Lib.hid rfl⟩
  simp only [HS.out] at hS HG ⊢
  obtain ⟨R, HR⟩ : ∃ R, Hid (fitB S (I + T) n3 (x, y) = R) := ⟨_, rfl⟩
  rw [HR.out]
  show Calls Tryz.prog 230 #[.agg #[.int .i64 wd, .slice a1 n1 c1, .slice a2 n2 c2, .int .i64 (T : Int), .slice a3 n3 c3, .slice a4 n4 c4], .agg #[.int .i64 x, .int .i64 y]] w _
  obtain ⟨wa, HW⟩ : ∃ wa, Hid (wa = (w.alloc (.cells #[.int .i64 wd, .slice a1 n1 c1, .slice a2 n2 c2, .int .i64 (T : Int), .slice a3 n3 c3, .slice a4 n4 c4] 28)).alloc (.cells #[.int .i64 x, .int .i64 y] 138)) := ⟨_, rfl⟩
  have B0 : Blk wa w.heap.size 28 [.int .i64 wd, .slice a1 n1 c1, .slice a2 n2 c2, .int .i64 (T : Int), .slice a3 n3 c3, .slice a4 n4 c4] := by rw [HW.out]; exact (Blk.new w _ _).alloc _
  have B1 : Blk wa (w.heap.size + 1) 138 [.int .i64 x, .int .i64 y] := by rw [HW.out]; simpa using Blk.new (w.alloc _) 138 [.int .i64 x, .int .i64 y]
  have HB : Below w.heap.size w wa := by rw [HW.out]; exact ((Below.refl _ _).alloc (Nat.le_refl _) _).alloc (by simp) _
  clear hr HS
  by_cases h0 : x = 0
  · subst h0
    have hR : R = decide (y ≤ (S : Int) - 1) := by rw [← HR.out]; rfl
    subst hR
    clear HR
    have g0 := lat_cell B0.lt (B0.cell (j := 0) rfl)
    have g1 := lat_cell B0.lt (B0.cell (j := 1) rfl)
    have g2 := lat_cell B0.lt (B0.cell (j := 2) rfl)
    have g3 := lat_cell B0.lt (B0.cell (j := 3) rfl)
    have g4 := lat_cell B0.lt (B0.cell (j := 4) rfl)
    have g5 := lat_cell B0.lt (B0.cell (j := 5) rfl)
    have f0 := lat_cell B1.lt (B1.cell (j := 0) rfl)
    have f1 := lat_cell B1.lt (B1.cell (j := 1) rfl)
    have HC1 : Hid (∀ p : Lat wa, Calls Tryz.prog 179 #[.agg #[.int .i64 wd, .slice a1 n1 c1, .slice a2 n2 c2, .int .i64 (T : Int), .slice a3 n3 c3, .slice a4 n4 c4]] p.wd fun e w' => e = .returned (.int .i64 ((S : Int) - 1)) ∧ Below p.wd.heap.size p.wd w') := Lib.hid (fun p => HG.out p.wd)
    have s0 := B1.cell (j := 0) rfl
    go_enter Tryz.func230, Tryz.ntmps230
    go_wp2
    rw [← HW.out]
    refine wp_region_lat (by kernel_rfl) (by kernel_rfl) ?_
    repeat (go_big_quiet_step ((go_at_call 179; exact lat_calls (HC1.out _))))
    refine wpQuiet_nil ?_
    intro _ hw'
    obtain ⟨⟨wq, hwq⟩, hw''⟩ := hw'
    subst hw''
    have ht := HB.trans (hwq.mono HB.size)
    clear g0 g1 g2 g3 g4 g5 f0 f1 HC1 s0
    go_wp2
    go_ret
    exact ⟨ret_bool rfl, ht⟩
  by_cases h1 : x = 1
  · subst h1
    have hR : R = (decide (0 ≤ y) && decide (y < ((I + T : Nat) : Int))) := by rw [← HR.out]; rfl
    subst hR
    clear HR
    go_enter Tryz.func230, Tryz.ntmps230
    go_wp2_with fail
    rw [← HW.out]
    refine (HV.out _).mono ?_
    rintro e w1 ⟨rfl, hb1⟩
    have HB := HB.trans (hb1.mono HB.size)
    go_wp2
    go_ret
    exact ⟨ret_bool rfl, HB⟩
  by_cases h2 : x = 2
  · subst h2
    have hR : R = (decide (0 ≤ y) && decide (y < (n3 : Int))) := by rw [← HR.out]; rfl
    subst hR
    clear HR
    go_enter Tryz.func230, Tryz.ntmps230
    go_wp2_with fail
    rw [← HW.out]
    refine (HA.out _).mono ?_
    rintro e w1 ⟨rfl, hb1⟩
    have HB := HB.trans (hb1.mono HB.size)
    go_wp2
    go_ret
    exact ⟨ret_bool rfl, HB⟩
  have k0 : (x == 0) = false := by simpa using h0
  have k1 : (x == 1) = false := by simpa using h1
  have k2 : (x == 2) = false := by simpa using h2
  have hR : R = (x != 17) := by rw [← HR.out]; unfold fitB; rw [if_neg h0, if_neg h1, if_neg h2]
  subst hR
  clear HR h0 h1 h2
  go_enter Tryz.func230, Tryz.ntmps230
  go_wp2
  rw [← HW.out]
  go_ret
  exact ⟨ret_bool rfl, HB⟩
set_option maxHeartbeats 1600000 in
theorem mayStand_any (r : PRow) (W I T A : Nat) (a : Option Addr) (n c : Nat) (ts : List Tm) (w : World) (hr : Lim r W I T A) (h : Terms w a n ts) : Calls Tryz.prog 207 #[progV r, .slice a n c] w fun e w' => e = .returned (.bool (bodyB (2 ^ W) (I + T) A ts)) ∧ Below w.heap.size w w' := by
  rw [← mayB_eq]
  have HF : Hid (∀ (x y : Int) (w' : World), Calls Tryz.prog 230 #[progV r, .agg #[.int .i64 x, .int .i64 y]] w' fun e w'' => e = .returned (.bool (fitB (2 ^ W) (I + T) A (x, y))) ∧ Below w'.heap.size w' w'') := Lib.hid (fun x y w' => termFits_any r W I T A x y w' hr)
  have e1 := hr.inputs
  have e2 := hr.temps
  have e3 := hr.arrays
  have hI := hr.few
  have hT := hr.fewT
  have hA := hr.fewA
  obtain ⟨wd, ⟨a1, n1, c1⟩, ⟨a2, n2, c2⟩, tp, ⟨a3, n3, c3⟩, ⟨a4, n4, c4⟩, rows⟩ := r
  simp only [] at e1 e2 e3
  subst e2 e3
  have HL := Lib.hid h.1
  have hbd := h.2.1
  obtain ⟨f, HFF⟩ : ∃ f, Hid (fitB (2 ^ W) (I + T) n3 = f) := ⟨_, rfl⟩
  have HM : Hid (mayB (2 ^ W) (I + T) n3 ts = ((decide (n ≤ 40) && expB ts) && ts.all f)) := Lib.hid (by simp only [mayB, HL.out, HFF.out])
  rw [HM.out]
  simp only [HFF.out] at HF
  clear HM HFF hr
  show Calls Tryz.prog 207 #[.agg #[.int .i64 wd, .slice a1 n1 c1, .slice a2 n2 c2, .int .i64 (T : Int), .slice a3 n3 c3, .slice a4 n4 c4], .slice a n c] w _
  obtain ⟨wa, HW⟩ : ∃ wa, Hid (wa = w.alloc (.cells #[.int .i64 wd, .slice a1 n1 c1, .slice a2 n2 c2, .int .i64 (T : Int), .slice a3 n3 c3, .slice a4 n4 c4] 28)) := ⟨_, rfl⟩
  have B0 : Blk wa w.heap.size 28 [.int .i64 wd, .slice a1 n1 c1, .slice a2 n2 c2, .int .i64 (T : Int), .slice a3 n3 c3, .slice a4 n4 c4] := by rw [HW.out]; exact Blk.new w _ _
  have HB : Below w.heap.size w wa := by rw [HW.out]; exact (Below.refl _ _).alloc (Nat.le_refl _) _
  by_cases hn : n ≤ 40
  case neg =>
    have hd : decide ((n : Int) > 40) = true := by simp; omega
    go_enter Tryz.func207, Tryz.ntmps207
    go_wp2
    rw [← HW.out]
    go_ret
    exact ⟨ret_bool (by rw [decide_eq_false hn]; rfl), HB⟩
  have hd : decide ((n : Int) > 40) = false := by simp; omega
  obtain ⟨X, HX⟩ : ∃ X, Hid (expB ts = X) := ⟨_, rfl⟩
  rw [HX.out, decide_eq_true hn]
  go_enter Tryz.func207, Tryz.ntmps207
  go_wp2_with fail
  rw [← HW.out]
  refine (expOk_any _ _ _ _ _ (h.below (Nat.le_refl _) HB)).mono ?_
  rintro e w1 ⟨rfl, hb1⟩
  rw [HX.out]
  have B0 := B0.below hb1 B0.lt
  have HB := HB.trans (hb1.mono HB.size)
  clear hb1 HW
  cases X with
  | false =>
    go_wp2
    go_ret
    exact ⟨ret_bool rfl, HB⟩
  | true =>
  go_wp2
  go_loopw [17] (fun i wr => ∃ k : Nat, k ≤ n ∧ i = .int .i64 (k : Int) ∧ AllTo f ts k ∧ Below w1.heap.size w1 wr) (fun i _ => n - (intOf i).toNat)
  case atStart => exact ⟨0, Nat.zero_le _, rfl, AllTo.zero _ _, Below.refl _ _⟩
  case round =>
    obtain ⟨k, hk, rfl, hg, hbl⟩ := hrel
    have hbel := HB.trans (hbl.mono HB.size)
    by_cases hlt : k < n
    · obtain ⟨b, o, x, y, rfl, hb, hz, hin1, hin2, hc1, hc2⟩ := (h.below (Nat.le_refl _) hbel).at_ hlt
      obtain ⟨wb, HWb⟩ : ∃ wb, Hid (wb = wr.alloc (.cells #[.int .i64 x, .int .i64 y] 138)) := ⟨_, rfl⟩
      have hblb : Below w1.heap.size w1 wb := by rw [HWb.out]; exact hbl.alloc hbl.size _
      have B1 := (B0.below hbl B0.lt).alloc (.cells #[.int .i64 x, .int .i64 y] 138)
      have t0 := B1.cell (j := 0) rfl
      have t1 := B1.cell (j := 1) rfl
      have t2 := B1.cell (j := 2) rfl
      have t3 := B1.cell (j := 3) rfl
      have t4 := B1.cell (j := 4) rfl
      have t5 := B1.cell (j := 5) rfl
      obtain ⟨q, HQ⟩ : ∃ q, Hid (f (x, y) = q) := ⟨_, rfl⟩
      cases q with
      | true =>
        go_wp2_with fail
        rw [← HWb.out]
        refine (HF.out _ _ _).mono ?_
        rintro e w2 ⟨rfl, hb2⟩
        rw [HQ.out]
        have ht := hblb.trans (hb2.mono hblb.size)
        clear t0 t1 t2 t3 t4 t5 hc1 hc2
        go_wp2
        go_roundw
        case rel => exact ⟨k + 1, by omega, by go_num, hg.succ hz HQ.out, ht⟩
        case measure => simp [intOf]; omega
      | false =>
        go_wp2_with fail
        rw [← HWb.out]
        refine (HF.out _ _ _).mono ?_
        rintro e w2 ⟨rfl, hb2⟩
        rw [HQ.out]
        have ht := hblb.trans (hb2.mono hblb.size)
        have ht2 := HB.trans (ht.mono HB.size)
        clear t0 t1 t2 t3 t4 t5 hc1 hc2
        go_wp2
        go_ret
        exact ⟨ret_bool (all_bad (by rw [HL.out]; exact hlt) hz HQ.out).symm, ht2⟩
    · obtain rfl : n = k := by omega
      go_wp2
      go_ret
      exact ⟨ret_bool (allTo_all (by rw [HL.out]; exact hg)).symm, hbel⟩
theorem isWithin_bel (x lo hi : Int) (w : World) : Calls Tryz.prog 88 #[.int .i64 x, .int .i64 lo, .int .i64 hi] w fun e w' => e = .returned (.bool (decide (lo ≤ x) && decide (x ≤ hi))) ∧ Below w.heap.size w w' :=
  (isWithin_any x lo hi w).mono fun _ _ ⟨he, hw⟩ => ⟨he, by rw [← hw]; exact Below.refl _ _⟩
set_option maxHeartbeats 1600000 in
theorem numberOfStmtOk_any (r : PRow) (W I T A : Nat) (x y : Int) (b1 b2 : Option Addr) (m1 m2 d1 d2 : Nat) (w : World) (hr : Lim r W I T A) : Calls Tryz.prog 211 #[progV r, .agg #[.int .i64 x, .int .i64 y, .slice b1 m1 d1, .slice b2 m2 d2]] w fun e w' => e = .returned (.bool (numOk I T A x y)) ∧ Below w.heap.size w w' := by
  have HV : Hid (∀ (w' : World), Calls Tryz.prog 231 #[progV r, .int .i64 y] w' fun e w'' => e = .returned (.bool (decide ((I : Int) ≤ y) && decide (y ≤ (I : Int) + (T : Int) - 1))) ∧ Below w'.heap.size w' w'') := Lib.hid (fun w' => isTemp_any r W I T A y w' hr)
  have HA : Hid (∀ (w' : World), Calls Tryz.prog 232 #[progV r, .int .i64 y] w' fun e w'' => e = .returned (.bool (decide (0 ≤ y) && decide (y ≤ (A : Int) - 1))) ∧ Below w'.heap.size w' w'') := Lib.hid (fun w' => (isArray_any r W I T A y w' hr).mono fun _ _ ⟨he, hb⟩ => ⟨by rw [he]; exact ret_bool (by rw [Bool.eq_iff_iff]; simp <;> omega), hb⟩)
  have e1 := hr.inputs
  have e2 := hr.temps
  have e3 := hr.arrays
  have hI := hr.few
  have hT := hr.fewT
  have hA := hr.fewA
  obtain ⟨wd, ⟨a1, n1, c1⟩, ⟨a2, n2, c2⟩, tp, ⟨a3, n3, c3⟩, ⟨a4, n4, c4⟩, rows⟩ := r
  simp only [] at e1 e2 e3
  subst e2 e3
  obtain ⟨R, HR⟩ : ∃ R, Hid (numOk I T n3 x y = R) := ⟨_, rfl⟩
  rw [HR.out]
  show Calls Tryz.prog 211 #[.agg #[.int .i64 wd, .slice a1 n1 c1, .slice a2 n2 c2, .int .i64 (T : Int), .slice a3 n3 c3, .slice a4 n4 c4], .agg #[.int .i64 x, .int .i64 y, .slice b1 m1 d1, .slice b2 m2 d2]] w _
  obtain ⟨wa, HW⟩ : ∃ wa, Hid (wa = (w.alloc (.cells #[.int .i64 wd, .slice a1 n1 c1, .slice a2 n2 c2, .int .i64 (T : Int), .slice a3 n3 c3, .slice a4 n4 c4] 28)).alloc (.cells #[.int .i64 x, .int .i64 y, .slice b1 m1 d1, .slice b2 m2 d2] 74)) := ⟨_, rfl⟩
  have B0 : Blk wa w.heap.size 28 [.int .i64 wd, .slice a1 n1 c1, .slice a2 n2 c2, .int .i64 (T : Int), .slice a3 n3 c3, .slice a4 n4 c4] := by rw [HW.out]; exact (Blk.new w _ _).alloc _
  have B1 : Blk wa (w.heap.size + 1) 74 [.int .i64 x, .int .i64 y, .slice b1 m1 d1, .slice b2 m2 d2] := by rw [HW.out]; simpa using Blk.new (w.alloc _) 74 [.int .i64 x, .int .i64 y, .slice b1 m1 d1, .slice b2 m2 d2]
  have HB : Below w.heap.size w wa := by rw [HW.out]; exact ((Below.refl _ _).alloc (Nat.le_refl _) _).alloc (by simp) _
  clear hr
  by_cases h0 : x = 0
  · subst h0
    have hR : R = (decide ((I : Int) ≤ y) && decide (y ≤ (I : Int) + (T : Int) - 1)) := by rw [← HR.out]; rfl
    subst hR
    clear HR
    go_enter Tryz.func211, Tryz.ntmps211
    go_wp2_with fail
    rw [← HW.out]
    refine (HV.out _).mono ?_
    rintro e w1 ⟨rfl, hb1⟩
    have HB := HB.trans (hb1.mono HB.size)
    go_wp2
    go_ret
    exact ⟨ret_bool rfl, HB⟩
  by_cases h1 : x = 1
  · subst h1
    have hR : R = (decide (0 ≤ y) && decide (y ≤ (n3 : Int) - 1)) := by rw [← HR.out]; rfl
    subst hR
    clear HR
    go_enter Tryz.func211, Tryz.ntmps211
    go_wp2_with fail
    rw [← HW.out]
    refine (HA.out _).mono ?_
    rintro e w1 ⟨rfl, hb1⟩
    have HB := HB.trans (hb1.mono HB.size)
    go_wp2
    go_ret
    exact ⟨ret_bool rfl, HB⟩
  by_cases h5 : x = 5
  · subst h5
    have hR : R = (decide (0 ≤ y) && decide (y ≤ 4)) := by rw [← HR.out]; rfl
    subst hR
    clear HR
    go_enter Tryz.func211, Tryz.ntmps211
    go_wp2_with fail
    rw [← HW.out]
    refine (isWithin_bel _ _ _ _).mono ?_
    rintro e w1 ⟨rfl, hb1⟩
    have HB := HB.trans (hb1.mono HB.size)
    go_wp2
    go_ret
    exact ⟨ret_bool rfl, HB⟩
  by_cases h7 : x = 7
  · subst h7
    have hR : R = (decide (0 ≤ y) && decide (y ≤ 9)) := by rw [← HR.out]; rfl
    subst hR
    clear HR
    go_enter Tryz.func211, Tryz.ntmps211
    go_wp2_with fail
    rw [← HW.out]
    refine (isWithin_bel _ _ _ _).mono ?_
    rintro e w1 ⟨rfl, hb1⟩
    have HB := HB.trans (hb1.mono HB.size)
    go_wp2
    go_ret
    exact ⟨ret_bool rfl, HB⟩
  by_cases h9 : x = 9
  · subst h9
    have hR : R = (decide (0 ≤ y) && decide (y ≤ 9)) := by rw [← HR.out]; rfl
    subst hR
    clear HR
    go_enter Tryz.func211, Tryz.ntmps211
    go_wp2_with fail
    rw [← HW.out]
    refine (isWithin_bel _ _ _ _).mono ?_
    rintro e w1 ⟨rfl, hb1⟩
    have HB := HB.trans (hb1.mono HB.size)
    go_wp2
    go_ret
    exact ⟨ret_bool rfl, HB⟩
  have k0 : (x == 0) = false := by simpa using h0
  have k1 : (x == 1) = false := by simpa using h1
  have k5 : (x == 5) = false := by simpa using h5
  have k7 : (x == 7) = false := by simpa using h7
  have k9 : (x == 9) = false := by simpa using h9
  have hR : R = (y == 0) := by rw [← HR.out]; unfold numOk; rw [if_neg h0, if_neg h1, if_neg h5, if_neg (by omega)]
  subst hR
  clear HR h0 h1 h5 h7 h9
  go_enter Tryz.func211, Tryz.ntmps211
  go_wp2
  rw [← HW.out]
  go_ret
  exact ⟨ret_bool rfl, HB⟩
set_option maxHeartbeats 3200000 in
theorem stmtOk_any (r : PRow) (W I T A : Nat) (x y : Int) (b1 b2 : Option Addr) (m1 m2 d1 d2 : Nat) (ts us : List Tm) (w : World) (hr : Lim r W I T A) (h1 : Terms w b1 m1 ts) (h2 : Terms w b2 m2 us) :
    Calls Tryz.prog 174 #[progV r, .agg #[.int .i64 x, .int .i64 y, .slice b1 m1 d1, .slice b2 m2 d2]] w fun e w' => e = .returned (.bool (stmtB (2 ^ W) I T A ⟨x, y, ts, us⟩)) ∧ Below w.heap.size w w' := by
  rw [← stmtI_eq]
  have HN : Hid (∀ (w' : World), Calls Tryz.prog 211 #[progV r, .agg #[.int .i64 x, .int .i64 y, .slice b1 m1 d1, .slice b2 m2 d2]] w' fun e w'' => e = .returned (.bool (numOk I T A x y)) ∧ Below w'.heap.size w' w'') := Lib.hid (fun w' => numberOfStmtOk_any r W I T A x y b1 b2 m1 m2 d1 d2 w' hr)
  have HM : Hid (∀ (w' : World) (a : Option Addr) (n c : Nat) (vs : List Tm), Terms w' a n vs → Calls Tryz.prog 207 #[progV r, .slice a n c] w' fun e w'' => e = .returned (.bool (bodyB (2 ^ W) (I + T) A vs)) ∧ Below w'.heap.size w' w'') := Lib.hid (fun w' a n c vs ht => mayStand_any r W I T A a n c vs w' hr ht)
  have e1 := hr.inputs
  have e2 := hr.temps
  have e3 := hr.arrays
  have hI := hr.few
  have hT := hr.fewT
  have hA := hr.fewA
  obtain ⟨wd, ⟨a1, n1, c1⟩, ⟨a2, n2, c2⟩, tp, ⟨a3, n3, c3⟩, ⟨a4, n4, c4⟩, rows⟩ := r
  simp only [] at e1 e2 e3
  subst e2 e3
  have L1 := Lib.hid h1.1
  have L2 := Lib.hid h2.1
  have hm1 := h1.2.1
  have hm2 := h2.2.1
  obtain ⟨G, HG⟩ : ∃ G, Hid (bodyB (2 ^ W) (I + T) n3 = G) := ⟨_, rfl⟩
  obtain ⟨N, HNN⟩ : ∃ N, Hid (numOk I T n3 x y = N) := ⟨_, rfl⟩
  obtain ⟨R, HR⟩ : ∃ R, Hid (stmtI (2 ^ W) I T n3 ⟨x, y, ts, us⟩ = R) := ⟨_, rfl⟩
  have hR := HR.out
  simp only [stmtI, L1.out, L2.out, HG.out, HNN.out] at hR
  rw [HR.out]
  have HR := Lib.hid hR
  simp only [HG.out] at HM
  simp only [HNN.out] at HN
  clear hR HG hr
  have T1 := Lib.hid h1
  have T2 := Lib.hid h2
  clear h1 h2
  obtain ⟨Y1, HY1⟩ : ∃ Y, Hid (G ts = Y) := ⟨_, rfl⟩
  obtain ⟨Y2, HY2⟩ : ∃ Y, Hid (G us = Y) := ⟨_, rfl⟩
  simp only [HY1.out, HY2.out] at HR
  show Calls Tryz.prog 174 #[.agg #[.int .i64 wd, .slice a1 n1 c1, .slice a2 n2 c2, .int .i64 (T : Int), .slice a3 n3 c3, .slice a4 n4 c4], .agg #[.int .i64 x, .int .i64 y, .slice b1 m1 d1, .slice b2 m2 d2]] w _
  obtain ⟨wa, HW⟩ : ∃ wa, Hid (wa = (w.alloc (.cells #[.int .i64 wd, .slice a1 n1 c1, .slice a2 n2 c2, .int .i64 (T : Int), .slice a3 n3 c3, .slice a4 n4 c4] 28)).alloc (.cells #[.int .i64 x, .int .i64 y, .slice b1 m1 d1, .slice b2 m2 d2] 74)) := ⟨_, rfl⟩
  have B0 : Blk wa w.heap.size 28 [.int .i64 wd, .slice a1 n1 c1, .slice a2 n2 c2, .int .i64 (T : Int), .slice a3 n3 c3, .slice a4 n4 c4] := by rw [HW.out]; exact (Blk.new w _ _).alloc _
  have B1 : Blk wa (w.heap.size + 1) 74 [.int .i64 x, .int .i64 y, .slice b1 m1 d1, .slice b2 m2 d2] := by rw [HW.out]; simpa using Blk.new (w.alloc _) 74 [.int .i64 x, .int .i64 y, .slice b1 m1 d1, .slice b2 m2 d2]
  have HB : Below w.heap.size w wa := by rw [HW.out]; exact ((Below.refl _ _).alloc (Nat.le_refl _) _).alloc (by simp) _
  by_cases hx : 0 ≤ x ∧ x ≤ 9
  case neg =>
    have hin : (decide (0 ≤ x) && decide (x ≤ 9)) = false := by rw [← Bool.not_eq_true]; simpa using hx
    have hR := HR.out
    rw [hin, Bool.false_and, Bool.false_and] at hR
    subst hR
    go_enter Tryz.func174, Tryz.ntmps174
    go_wp2_with (go_at_call 88; refine (isWithin_any _ _ _ _).mono ?_; rintro e w' ⟨rfl, rfl⟩; rw [hin])
    rw [← HW.out]
    go_ret
    exact ⟨rfl, HB⟩
  have hin : (decide (0 ≤ x) && decide (x ≤ 9)) = true := by simpa using hx
  rw [hin, Bool.true_and] at HR
  go_enter Tryz.func174, Tryz.ntmps174
  go_wp2_with (go_at_call 88; refine (isWithin_any _ _ _ _).mono ?_; rintro e w' ⟨rfl, rfl⟩; rw [hin])
  rw [← HW.out]
  refine (HN.out _).mono ?_
  rintro e w1 ⟨rfl, hb1⟩
  have B0 := B0.below hb1 (Nat.lt_of_lt_of_le B0.lt (Nat.le_refl _))
  have B1 := B1.below hb1 B1.lt
  have HB := HB.trans (hb1.mono HB.size)
  clear hb1 HW hin HN
  have t0 := B0.cell (j := 0) rfl
  have t1 := B0.cell (j := 1) rfl
  have t2 := B0.cell (j := 2) rfl
  have t3 := B0.cell (j := 3) rfl
  have t4 := B0.cell (j := 4) rfl
  have t5 := B0.cell (j := 5) rfl
  have s0 := B1.cell (j := 0) rfl
  have s1 := B1.cell (j := 1) rfl
  have s2 := B1.cell (j := 2) rfl
  have s3 := B1.cell (j := 3) rfl
  cases N with
  | false =>
    have hR := HR.out
    rw [Bool.false_and] at hR
    subst hR
    go_wp2
    go_ret
    exact ⟨rfl, HB⟩
  | true =>
  rw [Bool.true_and] at HR
  by_cases hx1 : x = 1
  · subst hx1
    rw [if_pos rfl] at HR
    go_wp2_with fail
    refine (HM.out _ _ _ _ _ (T1.out.below (Nat.le_refl _) HB)).mono ?_
    rintro e w2 ⟨rfl, hb2⟩
    rw [HY1.out]
    have B0 := B0.below hb2 B0.lt
    have B1 := B1.below hb2 B1.lt
    have HB := HB.trans (hb2.mono HB.size)
    clear t0 t1 t2 t3 t4 t5 s0 s1 s2 s3 hb2
    have t0 := B0.cell (j := 0) rfl
    have t1 := B0.cell (j := 1) rfl
    have t2 := B0.cell (j := 2) rfl
    have t3 := B0.cell (j := 3) rfl
    have t4 := B0.cell (j := 4) rfl
    have t5 := B0.cell (j := 5) rfl
    have s0 := B1.cell (j := 0) rfl
    have s1 := B1.cell (j := 1) rfl
    have s2 := B1.cell (j := 2) rfl
    have s3 := B1.cell (j := 3) rfl
    cases Y1 with
    | false =>
      have hR := HR.out
      rw [Bool.false_and] at hR
      subst hR
      go_wp2
      go_ret
      exact ⟨rfl, HB⟩
    | true =>
    rw [Bool.true_and] at HR
    have hR := HR.out
    subst hR
    go_wp2_with fail
    refine (HM.out _ _ _ _ _ (T2.out.below (Nat.le_refl _) HB)).mono ?_
    rintro e w3 ⟨rfl, hb3⟩
    rw [HY2.out]
    have HB := HB.trans (hb3.mono HB.size)
    clear t0 t1 t2 t3 t4 t5 s0 s1 s2 s3
    go_wp2
    go_ret
    exact ⟨rfl, HB⟩
  rw [if_neg hx1] at HR
  have k1 : (x == 1) = false := by simpa using hx1
  by_cases hx2 : x = 0 ∨ x = 2 ∨ x = 6
  · rw [if_pos hx2] at HR
    by_cases hz : m1 = 0
    · subst hz
      rw [decide_eq_true rfl, Bool.true_and] at HR
      have hR := HR.out
      subst hR
      rcases hx2 with rfl | rfl | rfl
      all_goals
        go_wp2_with fail
        refine (HM.out _ _ _ _ _ (T2.out.below (Nat.le_refl _) HB)).mono ?_
        rintro e w3 ⟨rfl, hb3⟩
        rw [HY2.out]
        have HB := HB.trans (hb3.mono HB.size)
        clear t0 t1 t2 t3 t4 t5 s0 s1 s2 s3
        go_wp2
        go_ret
        exact ⟨rfl, HB⟩
    · rw [decide_eq_false hz, Bool.false_and] at HR
      have hR := HR.out
      subst hR
      have hz2 : ((m1 : Int) == 0) = false := by simp; omega
      rcases hx2 with rfl | rfl | rfl
      all_goals
        go_wp2
        go_ret
        exact ⟨rfl, HB⟩
  rw [if_neg hx2] at HR
  have k0 : (x == 0) = false := by simp; omega
  have k2 : (x == 2) = false := by simp; omega
  have k6 : (x == 6) = false := by simp; omega
  clear hx1 hx2 hx
  by_cases hz : m1 = 0
  · subst hz
    rw [decide_eq_true rfl, Bool.true_and] at HR
    by_cases hz2 : m2 = 0
    · subst hz2
      have hR := HR.out
      rw [decide_eq_true rfl] at hR
      subst hR
      go_wp2
      go_ret
      exact ⟨rfl, HB⟩
    · have hR := HR.out
      rw [decide_eq_false hz2] at hR
      subst hR
      have hz3 : ((m2 : Int) == 0) = false := by simp; omega
      go_wp2
      go_ret
      exact ⟨rfl, HB⟩
  · have hR := HR.out
    rw [decide_eq_false hz, Bool.false_and] at hR
    subst hR
    have hz3 : ((m1 : Int) == 0) = false := by simp; omega
    go_wp2
    go_ret
    exact ⟨rfl, HB⟩
set_option maxHeartbeats 3200000 in
theorem stmtsOk_any (r : PRow) (p : Prg) (W I T A : Nat) (w : World) (h : ProgAt w r p) (hr : Lim r W I T A) :
    Calls Tryz.prog 116 #[progV r] w fun e w' => e = .returned (.bool (p.body.all (stmtB (2 ^ W) I T A))) ∧ Below w.heap.size w w' := by
  have HX : Hid (∀ (x y : Int) (b1 b2 : Option Addr) (m1 m2 d1 d2 : Nat) (ts us : List Tm) (w' : World), Terms w' b1 m1 ts → Terms w' b2 m2 us → Calls Tryz.prog 174 #[progV r, .agg #[.int .i64 x, .int .i64 y, .slice b1 m1 d1, .slice b2 m2 d2]] w' fun e w'' => e = .returned (.bool (stmtB (2 ^ W) I T A ⟨x, y, ts, us⟩)) ∧ Below w'.heap.size w' w'') :=
    Lib.hid (fun x y b1 b2 m1 m2 d1 d2 ts us w' h1 h2 => stmtOk_any r W I T A x y b1 b2 m1 m2 d1 d2 ts us w' hr h1 h2)
  have h4 := h.body
  clear h
  have e1 := hr.inputs
  have e2 := hr.temps
  have e3 := hr.arrays
  have hI := hr.few
  have hT := hr.fewT
  have hA := hr.fewA
  obtain ⟨wd, ⟨a1, n1, c1⟩, ⟨a2, n2, c2⟩, tp, ⟨a3, n3, c3⟩, ⟨a4, n4, c4⟩, rows⟩ := r
  simp only [] at e1 e2 e3
  subst e2 e3
  clear hr
  obtain ⟨pw, pl, ps, pt, pa, pb⟩ := p
  simp only [] at h4
  obtain ⟨f, HF⟩ : ∃ f, Hid (stmtB (2 ^ W) I T n3 = f) := ⟨_, rfl⟩
  simp only [HF.out] at HX ⊢
  clear HF
  show Calls Tryz.prog 116 #[.agg #[.int .i64 wd, .slice a1 n1 c1, .slice a2 n2 c2, .int .i64 (T : Int), .slice a3 n3 c3, .slice a4 n4 c4]] w _
  have HL := Lib.hid h4.2.1
  have hbd := h4.2.2.1
  obtain ⟨wa, HW⟩ : ∃ wa, Hid (wa = w.alloc (.cells #[.int .i64 wd, .slice a1 n1 c1, .slice a2 n2 c2, .int .i64 (T : Int), .slice a3 n3 c3, .slice a4 n4 c4] 28)) := ⟨_, rfl⟩
  have B0 : Blk wa w.heap.size 28 [.int .i64 wd, .slice a1 n1 c1, .slice a2 n2 c2, .int .i64 (T : Int), .slice a3 n3 c3, .slice a4 n4 c4] := by rw [HW.out]; exact Blk.new w _ _
  have HB : Below w.heap.size w wa := by rw [HW.out]; exact (Below.refl _ _).alloc (Nat.le_refl _) _
  go_enter Tryz.func116, Tryz.ntmps116
  go_wp2
  rw [← HW.out]
  go_loopw [8] (fun i wr => ∃ k : Nat, k ≤ n4 ∧ i = .int .i64 (k : Int) ∧ StTo f pb k ∧ Below wa.heap.size wa wr) (fun i _ => n4 - (intOf i).toNat)
  case atStart => exact ⟨0, Nat.zero_le _, rfl, StTo.zero _ _, Below.refl _ _⟩
  case round =>
    obtain ⟨k, hk, rfl, hg, hbl⟩ := hrel
    have hbel := HB.trans (hbl.mono HB.size)
    by_cases hlt : k < n4
    · obtain ⟨b, o, x, y, p1, m1, d1, p2, m2, d2, ts, us, rfl, hb, hz, hin1, hin2, hc1, hc2, hc3, hc4, hT1, hT2⟩ := (h4.below hbel).at_ hlt
      obtain ⟨wb, HWb⟩ : ∃ wb, Hid (wb = wr.alloc (.cells #[.int .i64 x, .int .i64 y, .slice p1 m1 d1, .slice p2 m2 d2] 74)) := ⟨_, rfl⟩
      have hwb : Below wr.heap.size wr wb := by rw [HWb.out]; exact (Below.refl _ _).alloc (Nat.le_refl _) _
      have hblb : Below wa.heap.size wa wb := hbl.trans (hwb.mono hbl.size)
      have t5' := (B0.below hbl B0.lt).cell (j := 5) rfl
      have B1 := (B0.below hbl B0.lt).alloc (.cells #[.int .i64 x, .int .i64 y, .slice p1 m1 d1, .slice p2 m2 d2] 74)
      have t0 := B1.cell (j := 0) rfl
      have t1 := B1.cell (j := 1) rfl
      have t2 := B1.cell (j := 2) rfl
      have t3 := B1.cell (j := 3) rfl
      have t4 := B1.cell (j := 4) rfl
      have t5 := B1.cell (j := 5) rfl
      obtain ⟨q, HQ⟩ : ∃ q, Hid (f ⟨x, y, ts, us⟩ = q) := ⟨_, rfl⟩
      have HC : Hid (Calls Tryz.prog 174 #[.agg #[.int .i64 wd, .slice a1 n1 c1, .slice a2 n2 c2, .int .i64 (T : Int), .slice a3 n3 c3, .slice (some ⟨b, o, none⟩) n4 c4], .agg #[.int .i64 x, .int .i64 y, .slice p1 m1 d1, .slice p2 m2 d2]] wb fun e w' => e = .returned (.bool q) ∧ Below wb.heap.size wb w') := Lib.hid (by
        rw [← HQ.out]; exact HX.out _ _ _ _ _ _ _ _ _ _ _ (hT1.below (Nat.le_refl _) hwb) (hT2.below (Nat.le_refl _) hwb))
      clear hT1 hT2
      cases q with
      | true =>
        go_wp2_with fail
        rw [← HWb.out]
        refine HC.out.mono ?_
        rintro e w2 ⟨rfl, hb2⟩
        have ht := hblb.trans (hb2.mono hblb.size)
        clear t0 t1 t2 t3 t4 t5 t5' hc1 hc2 hc3 hc4 HC
        go_wp2
        go_roundw
        case rel => exact ⟨k + 1, by omega, by go_num, hg.succ hz HQ.out, ht⟩
        case measure => simp [intOf]; omega
      | false =>
        go_wp2_with fail
        rw [← HWb.out]
        refine HC.out.mono ?_
        rintro e w2 ⟨rfl, hb2⟩
        have ht := hblb.trans (hb2.mono hblb.size)
        have ht2 := HB.trans (ht.mono HB.size)
        clear t0 t1 t2 t3 t4 t5 t5' hc1 hc2 hc3 hc4 HC
        go_wp2
        go_ret
        exact ⟨ret_bool (st_bad (by rw [HL.out]; exact hlt) hz HQ.out).symm, ht2⟩
    · obtain rfl : n4 = k := by omega
      go_wp2
      go_ret
      exact ⟨ret_bool (stTo_all (by rw [HL.out]; exact hg)).symm, hbel⟩
end Go.Proofs.YtbnpoliogldohaaGreat
/- Plain mathematics: a stack of labels that is walked once leads to the same ends as the nesting of bodies. -/
namespace Go.Proofs.YtbnpoliogldohaaGreat

/-- The walk from a place on, the stack's top first. -/
def mach (ss : List Stm) (st : List Tm) (i : Nat) : Int × Int :=
  if i < ss.length then
    if opensB (opAt ss i) then mach ss ((opAt ss i, -1) :: st) (i + 1)
    else match st with
      | [] => (-1, -1)
      | (o, s) :: r =>
        if secondB (opAt ss i) then (if takesB o s (opAt ss i) then mach ss ((o, (i : Int)) :: r) (i + 1) else (-1, -1))
        else if opAt ss i = 4 then (if mayEndB o s then (if r.isEmpty then (s, (i : Int)) else mach ss r (i + 1)) else (-1, -1))
        else mach ss ((o, s) :: r) (i + 1)
  else (-1, -1)
termination_by ss.length - i

section
variable {ss : List Stm} {i : Nat} {st r : List Tm} {o s : Int}
theorem mach_past (h : ss.length ≤ i) : mach ss st i = (-1, -1) := by rw [mach.eq_def ss st i, if_neg (by omega)]
theorem mach_open (h : i < ss.length) (ho : opensB (opAt ss i) = true) : mach ss st i = mach ss ((opAt ss i, -1) :: st) (i + 1) := by rw [mach.eq_def ss st i, if_pos h, if_pos ho]
theorem mach_second (h : i < ss.length) (hs : secondB (opAt ss i) = true) : mach ss ((o, s) :: r) i = if takesB o s (opAt ss i) then mach ss ((o, (i : Int)) :: r) (i + 1) else (-1, -1) := by
  have ho : ¬ opensB (opAt ss i) = true := by
    simp only [secondB, Bool.or_eq_true, beq_iff_eq] at hs
    simp only [opensB, Bool.or_eq_true, beq_iff_eq]; omega
  rw [mach, if_pos h, if_neg ho]
  simp only [hs, if_true]
theorem mach_stop (h : i < ss.length) (h4 : opAt ss i = 4) : mach ss ((o, s) :: r) i = if mayEndB o s then (if r.isEmpty then (s, (i : Int)) else mach ss r (i + 1)) else (-1, -1) := by
  rw [mach, if_pos h, if_neg (by rw [h4]; decide)]
  simp only [h4, show secondB 4 = false from rfl, if_true]
  rfl
theorem mach_plain (h : i < ss.length) (ho : opensB (opAt ss i) = false) (hs : secondB (opAt ss i) = false) (h4 : opAt ss i ≠ 4) : mach ss ((o, s) :: r) i = mach ss ((o, s) :: r) (i + 1) := by
  rw [mach, if_pos h, if_neg (by rw [ho]; simp)]
  simp only [hs, if_neg h4]
  rfl
end
theorem opens_iff (x : Int) : opensB x = true ↔ (x = 2 ∨ x = 5 ∨ x = 8) := by simp only [opensB, Bool.or_eq_true, beq_iff_eq]; omega
theorem second_iff (x : Int) : secondB x = true ↔ (x = 3 ∨ x = 9) := by simp only [secondB, Bool.or_eq_true, beq_iff_eq]
/-- A body ends at a statement that ends one, or behind all. -/
theorem block_lands (ss : List Stm) : ∀ (d i j : Nat), ss.length - i ≤ d → i ≤ ss.length → blockOf ss i = (j : Int) → j < ss.length → opAt ss j = 3 ∨ opAt ss j = 9 ∨ opAt ss j = 4
  | 0, i, j, hd, hi, hb, hj => by
    rw [block_past (by omega)] at hb
    omega
  | d + 1, i, j, hd, hi, hb, hj => by
    by_cases hlt : i < ss.length
    case neg => rw [block_past (by omega)] at hb; omega
    by_cases hs : opAt ss i = 3 ∨ opAt ss i = 9 ∨ opAt ss i = 4
    · rw [block_stop hlt hs] at hb
      obtain rfl : i = j := by omega
      exact hs
    by_cases ho : opAt ss i = 2 ∨ opAt ss i = 5 ∨ opAt ss i = 8
    case neg =>
      rw [block_next hlt hs ho] at hb
      exact block_lands ss d (i + 1) j (by omega) (by omega) hb hj
    have hin := end_in ss hlt
    by_cases he : (endOf ss i).2 < 0
    · rw [block_bad hlt ho he] at hb; omega
    rw [block_over hlt ho (by omega)] at hb
    rcases hin with q | q
    · rw [q] at he; simp only [] at he; omega
    · exact block_lands ss d _ j (by omega) (by omega) hb hj
/-- From the stack's walk: over a body. -/
def Over (ss : List Stm) (i : Nat) : Prop := ∀ st : List Tm, st ≠ [] → (blockOf ss i = -1 → mach ss st i = (-1, -1)) ∧ ∀ j : Nat, blockOf ss i = (j : Int) → mach ss st i = mach ss st j
theorem isAt_neg (ss : List Stm) (op : Int) : isAt ss (-1) op = false := by simp [isAt]
theorem isAt_len (ss : List Stm) (op : Int) : isAt ss (ss.length : Int) op = false := by
  simp only [isAt, Bool.and_eq_false_iff, decide_eq_false_iff_not]; omega
theorem isAt_in {ss : List Stm} {m : Nat} (op : Int) (h : m < ss.length) : isAt ss (m : Int) op = (opAt ss m == op) := by
  simp only [isAt, Int.toNat_natCast]
  rw [decide_eq_true (by omega), decide_eq_true (by omega)]
  rfl
theorem mach_one {ss : List Stm} {i : Nat} (hi : i < ss.length) (ho : opAt ss i = 2 ∨ opAt ss i = 5 ∨ opAt ss i = 8) (IH : ∀ j, i < j → j ≤ ss.length → Over ss j) (st : List Tm) :
    mach ss st i = if (endOf ss i).2 < 0 then (-1, -1) else if st.isEmpty then endOf ss i else mach ss st ((endOf ss i).2.toNat + 1) := by
  rw [mach_open hi ((opens_iff _).2 ho)]
  obtain ⟨M, hM⟩ : ∃ M, blockOf ss (i + 1) = M := ⟨_, rfl⟩
  rw [end_eq hi hM]
  have hin := block_in ss (i := i + 1) (by omega)
  rw [hM] at hin
  obtain ⟨x, hx⟩ : ∃ x, opAt ss i = x := ⟨_, rfl⟩
  rw [hx] at ho ⊢
  have hO := IH (i + 1) (by omega) (by omega) ((x, -1) :: st) (by simp)
  rw [hM] at hO
  rcases hin with rfl | hin
  · rw [hO.1 rfl]
    simp only [isAt_neg]
    rcases ho with rfl | rfl | rfl <;> simp
  obtain ⟨m, rfl⟩ : ∃ m : Nat, M = (m : Int) := ⟨M.toNat, by omega⟩
  rw [hO.2 m rfl]
  clear hO
  rcases Nat.lt_or_ge m ss.length with hm | hm
  case inr =>
    obtain rfl : m = ss.length := by omega
    rw [mach_past (Nat.le_refl _)]
    simp only [isAt_len]
    rcases ho with rfl | rfl | rfl <;> simp
  have hl := block_lands ss _ (i + 1) m (Nat.le_refl _) (by omega) hM hm
  simp only [isAt_in _ hm, Int.toNat_natCast]
  obtain ⟨y, hy⟩ : ∃ y, opAt ss m = y := ⟨_, rfl⟩
  rw [hy] at hl
  -- the second body
  obtain ⟨E, hE⟩ : ∃ E, blockOf ss (m + 1) = E := ⟨_, rfl⟩
  have hinE := block_in ss (i := m + 1) (by omega)
  rw [hE] at hinE
  have two : ∀ o : Int, (o = 2 ∨ o = 8) → mach ss ((o, (m : Int)) :: st) (m + 1) = if isAt ss E 4 then (if st.isEmpty then ((m : Int), E) else mach ss st (E.toNat + 1)) else (-1, -1) := fun o hoo => by
    have hO := IH (m + 1) (by omega) (by omega) ((o, (m : Int)) :: st) (by simp)
    rw [hE] at hO
    rcases hinE with rfl | hinE
    · rw [hO.1 rfl, isAt_neg]; rfl
    obtain ⟨e, rfl⟩ : ∃ e : Nat, E = (e : Int) := ⟨E.toNat, by omega⟩
    rw [hO.2 e rfl]
    rcases Nat.lt_or_ge e ss.length with he | he
    case inr =>
      obtain rfl : e = ss.length := by omega
      rw [mach_past (Nat.le_refl _), isAt_len]; rfl
    have hl2 := block_lands ss _ (m + 1) e (Nat.le_refl _) (by omega) hE he
    rw [isAt_in _ he]
    rcases hl2 with h3 | h9 | h4
    · rw [mach_second he (by rw [h3]; rfl), h3]
      rw [if_neg (by simp [takesB]; omega), if_neg (by decide)]
    · rw [mach_second he (by rw [h9]; rfl), h9]
      rw [if_neg (by simp [takesB]; omega), if_neg (by decide)]
    · rw [mach_stop he h4, h4, if_pos (show mayEndB o (m : Int) = true by simp [mayEndB]), if_pos (show ((4 : Int) == 4) = true by decide), Int.toNat_natCast]
  rw [hE, hy]
  rcases ho with rfl | rfl | rfl
  · rcases hl with rfl | rfl | rfl
    · rw [mach_second hm (by rw [hy]; rfl), hy, if_pos (by decide), two 2 (.inl rfl)]
      by_cases h4 : isAt ss E 4 = true
      · have := isAt_range h4
        simp [h4]
        omega
      · simp [h4]
    · rw [mach_second hm (by rw [hy]; rfl), hy, if_neg (by decide)]
      simp
    · rw [mach_stop hm hy, if_pos (by decide)]
      simp
      omega
  · rcases hl with rfl | rfl | rfl
    · rw [mach_second hm (by rw [hy]; rfl), hy, if_neg (by decide)]
      simp
    · rw [mach_second hm (by rw [hy]; rfl), hy, if_neg (by decide)]
      simp
    · rw [mach_stop hm hy, if_pos (by decide)]
      simp
      omega
  · rcases hl with rfl | rfl | rfl
    · rw [mach_second hm (by rw [hy]; rfl), hy, if_neg (by decide)]
      simp
    · rw [mach_second hm (by rw [hy]; rfl), hy, if_pos (by decide), two 8 (.inr rfl)]
      by_cases h4 : isAt ss E 4 = true
      · have := isAt_range h4
        simp [h4]
        omega
      · simp [h4]
    · rw [mach_stop hm hy, if_neg (by decide)]
      simp
theorem over_all (ss : List Stm) : ∀ (d i : Nat), ss.length - i ≤ d → i ≤ ss.length → Over ss i
  | 0, i, hd, hi => by
    intro st hst
    rw [block_past (by omega)]
    exact ⟨fun h => by omega, fun j hj => congrArg (mach ss st) (by omega)⟩
  | d + 1, i, hd, hi => by
    have IH : ∀ j, i < j → j ≤ ss.length → Over ss j := fun j h1 h2 => over_all ss d j (by omega) h2
    intro st hst
    by_cases hlt : i < ss.length
    case neg =>
      rw [block_past (by omega)]
      exact ⟨fun h => by omega, fun j hj => congrArg (mach ss st) (by omega)⟩
    by_cases hs : opAt ss i = 3 ∨ opAt ss i = 9 ∨ opAt ss i = 4
    · rw [block_stop hlt hs]
      exact ⟨fun h => by omega, fun j hj => congrArg (mach ss st) (by omega)⟩
    by_cases ho : opAt ss i = 2 ∨ opAt ss i = 5 ∨ opAt ss i = 8
    case neg =>
      rw [block_next hlt hs ho]
      obtain ⟨⟨o, s⟩, r, rfl⟩ : ∃ t r, st = t :: r := List.exists_cons_of_ne_nil hst
      rw [mach_plain hlt (by rw [← Bool.not_eq_true, opens_iff]; exact ho) (by rw [← Bool.not_eq_true, second_iff]; omega) (by omega)]
      exact IH (i + 1) (by omega) (by omega) _ hst
    rw [mach_one hlt ho IH st]
    have hin := end_in ss hlt
    have hne : st.isEmpty = false := by cases st with
      | nil => exact absurd rfl hst
      | cons => rfl
    by_cases he : (endOf ss i).2 < 0
    · rw [if_pos he, block_bad hlt ho he]
      exact ⟨fun _ => rfl, fun j hj => by omega⟩
    · rw [if_neg he, hne, block_over hlt ho (by omega), if_neg (by simp)]
      rcases hin with q | q
      · rw [q] at he; simp only [] at he; omega
      · exact IH _ (by omega) (by omega) st hst
/-- The walk with an empty stack, from a statement that opens a block. -/
theorem mach_end {ss : List Stm} {i : Nat} (hi : i < ss.length) (ho : opAt ss i = 2 ∨ opAt ss i = 5 ∨ opAt ss i = 8) : mach ss [] i = endOf ss i := by
  rw [mach_one hi ho (fun j _ h2 => over_all ss _ j (Nat.le_refl _) h2) []]
  have hin := end_in ss hi
  by_cases he : (endOf ss i).2 < 0
  · rw [if_pos he]
    rcases hin with q | q
    · exact q.symm
    · omega
  · rw [if_neg he]; rfl
end Go.Proofs.YtbnpoliogldohaaGreat
/- The contract of the model's EndOf. -/
namespace Go.Proofs.YtbnpoliogldohaaGreat
open Go.RowKit

/-- What EndOf answers. -/
def endB (ss : List Stm) (z : Int) : Int × Int := if 0 ≤ z ∧ z ≤ (ss.length : Int) - 1 ∧ ss.length ≤ 40 then endOf ss z.toNat else (-1, -1)
end Go.Proofs.YtbnpoliogldohaaGreat
