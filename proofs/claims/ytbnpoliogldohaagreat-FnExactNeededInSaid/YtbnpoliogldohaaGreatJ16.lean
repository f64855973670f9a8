/- Joined texts of this proof (ImplInputs, InputMath), in build order. -/
import Derived.Test.YtbnpoliogldohaaGreatJ15
import Derived.Test.YtbnpoliogldohaaGreatJ10
import Derived.Lib.Strings
import Derived.Lib.Walk
import Derived.Lib.BitFns
/- The contracts of the program's inputListOk, bitsOfMaxes, inputsOk (and of math/bits.Len64 on numbers of eight bits). -/
namespace Go.Proofs.YtbnpoliogldohaaGreat
open Go.RowKit

theorem bitLen_bitsN : ∀ (f x : Nat), x < 2 ^ f → Lib.bitLenAux f x = bitsN x
  | 0, x, h => by
    have : x = 0 := by simpa using h
    subst this
    rw [bitsN_zero]; rfl
  | f + 1, x, h => by
    unfold Lib.bitLenAux
    rcases Nat.eq_zero_or_pos x with rfl | hp
    · rw [bitsN_zero]; rfl
    · rw [if_neg (by omega), bitsN_pos hp, bitLen_bitsN f (x / 2) (by rw [Nat.pow_succ] at h; omega)]; omega
theorem wrapS (n : Int) (h0 : 0 ≤ n) (h1 : n ≤ 1048576) : wrap64 n = n := by unfold wrap64; omega
set_option maxHeartbeats 1600000 in
set_option maxRecDepth 100000 in
theorem len64_any (x : Int) (w : World) (h0 : 0 ≤ x) (h1 : x < 256) : Calls Tryz.prog 210 #[.int .u64 x] w fun e w' => e = .returned (.int .i64 (bitsN x.toNat : Int)) ∧ w = w' := by
  have hb : x.toNat < Lib.len8tab.size := by rw [Lib.len8tab_size]; omega
  have e := Lib.len8_of x h0 (by omega)
  have e2 : Lib.bitLen x.toNat = bitsN x.toNat := bitLen_bitsN 64 _ (by omega)
  rw [e2] at e
  unfold Lib.len8 at e
  rw [getElem?_pos Lib.len8tab x.toNat hb] at e
  have h8 : bitsN x.toNat ≤ 8 := bitsN_le 8 _ (by omega)
  have HE : Hid (wrap64 (wrap64 ((Lib.len8tab[x.toNat]'hb).toNat : Int)) = (bitsN x.toNat : Int)) := by
    show _ = _
    rw [show ((Lib.len8tab[x.toNat]'hb).toNat : Int) = (bitsN x.toNat : Int) from e, wrapS (bitsN x.toNat : Int) (by omega) (by omega), wrapS (bitsN x.toNat : Int) (by omega) (by omega)]
  clear e e2 h8
  go_enter Tryz.func210, Tryz.ntmps210
  go_wp2
  go_ret
  exact ⟨ret_int HE.out, rfl⟩
/-- The greatest values are of eight bits. -/
def Small (ts : List Tm) : Prop := ∀ i, i < ts.length → 0 ≤ (tmAt ts i).1 ∧ (tmAt ts i).1 ≤ 255
theorem small_of {S : Nat} {low : Bool} {ts : List Tm} (hS : S ≤ 256) (h : inputsB S low ts = true) : Small ts := by
  intro i hi
  simp only [inputsB, Bool.and_eq_true, decide_eq_true_eq] at h
  have := List.all_eq_true.1 h.1 _ (tmAt_mem hi)
  simp only [inpOk, Bool.and_eq_true, decide_eq_true_eq] at this
  omega
theorem inpOk_eq (S : Nat) (low : Bool) (x y : Int) : inpOk S low (x, y) = ((decide (0 ≤ x) && decide (x ≤ (S : Int) - 1)) && (decide (0 ≤ y) && decide (y ≤ if low then 0 else 99))) := by
  cases low
  · simp [inpOk]
  · rw [Bool.eq_iff_iff]
    simp [inpOk]
    omega
theorem inputs_long {S : Nat} {low : Bool} {ts : List Tm} (h : 3 < ts.length) : inputsB S low ts = false := by
  unfold inputsB; rw [decide_eq_false (by omega), Bool.and_false]
theorem bitsTo_le {w : World} {a : Option Addr} {n : Nat} {ts : List Tm} (h : Terms w a n ts) : ∀ k, k ≤ n → bitsTo ts k ≤ 63 * k
  | 0, _ => Nat.le_refl _
  | k + 1, hk => by
    have ih := bitsTo_le h k (by omega)
    obtain ⟨b, o, x, y, _, _, hz, hin1, _⟩ := h.at_ (k := k) (by omega)
    have := bits63 hin1
    simp only [bitsTo, hz.out]
    omega
set_option maxHeartbeats 1600000 in
theorem bitsOfMaxes_six (a : Option Addr) (n c : Nat) (ts : List Tm) (w : World) (h : Terms w a n ts) (hs : Small ts) (h3 : n ≤ 6) :
    Calls Tryz.prog 173 #[.slice a n c] w fun e w' => e = .returned (.int .i64 (bitsTo ts ts.length : Int)) ∧ Below w.heap.size w w' := by
  have HL := Lib.hid h.1
  rw [HL.out]
  go_enter Tryz.func173, Tryz.ntmps173
  go_wp2
  go_loopw [3, 8] (fun q i wr => ∃ k : Nat, k ≤ n ∧ i = .int .i64 (k : Int) ∧ bitsTo ts k ≤ 63 * k ∧ q = .int .i64 (bitsTo ts k : Int) ∧ Below w.heap.size w wr) (fun _ i _ => n - (intOf i).toNat)
  case atStart => exact ⟨0, Nat.zero_le _, rfl, Nat.le_refl _, rfl, Below.refl _ _⟩
  case round =>
    obtain ⟨k, hk, rfl, hq, rfl, hbel⟩ := hrel
    by_cases hlt : k < n
    · obtain ⟨b, o, x, y, rfl, hb, hz, hin1, hin2, hc1, hc2⟩ := (h.below (Nat.le_refl _) hbel).at_ hlt
      have hx := hs k (by rw [HL.out]; exact hlt)
      rw [hz.out] at hx
      obtain ⟨hx0, hx1⟩ := hx
      simp only [] at hx0 hx1
      have hb63 := bits63 hin1
      have hst : bitsTo ts (k + 1) = bitsTo ts k + bitsN x.toNat := by simp only [bitsTo, hz.out]
      have HS := Lib.hid hst
      clear hst
      generalize bitsTo ts k = Q at hq HS ⊢
      go_wp2_with fail
      refine (len64_any _ _ hx0 (by omega)).mono ?_
      rintro e w1 ⟨rfl, rfl⟩
      generalize bitsN x.toNat = V at hb63 HS ⊢
      go_wp2
      go_roundw
      case rel => exact ⟨k + 1, by omega, by go_num, by rw [HS.out]; omega, by rw [HS.out]; go_num, hbel.alloc hbel.size _⟩
      case measure => simp [intOf]; omega
    · obtain rfl : n = k := by omega
      obtain ⟨Q, HQ⟩ : ∃ Q, Hid (bitsTo ts n = Q) := ⟨_, rfl⟩
      rw [HQ.out] at hq ⊢
      go_wp2
      go_ret
      exact ⟨ret_int (by rw [HQ.out]), hbel⟩
theorem bitsOfMaxes_any (a : Option Addr) (n c : Nat) (ts : List Tm) (w : World) (h : Terms w a n ts) (hs : Small ts) (h3 : n ≤ 3) :
    Calls Tryz.prog 173 #[.slice a n c] w fun e w' => e = .returned (.int .i64 (bitsTo ts ts.length : Int)) ∧ Below w.heap.size w w' := bitsOfMaxes_six a n c ts w h hs (by omega)
set_option maxHeartbeats 3200000 in
theorem inputListOk_any (r : PRow) (W : Nat) (a : Option Addr) (n c : Nat) (low : Bool) (B : Int) (hB : B = if low then 0 else 99) (ts : List Tm) (w : World) (hW : r.width = (W : Int)) (h8 : W ≤ 8) (h : Terms w a n ts) :
    Calls Tryz.prog 172 #[progV r, .slice a n c, .int .i64 B] w fun e w' => e = .returned (.bool (inputsB (2 ^ W) low ts)) ∧ Below w.heap.size w w' := by
  have HC0 : Hid (∀ w' : World, Calls Tryz.prog 179 #[progV r] w' fun e w'' => e = .returned (.int .i64 (((2 ^ W : Nat) : Int) - 1)) ∧ Below w'.heap.size w' w'') := Lib.hid (fun w' => greatestValue_any r W w' hW h8)
  obtain ⟨wd, ⟨a1, n1, c1⟩, ⟨a2, n2, c2⟩, tp, ⟨a3, n3, c3⟩, ⟨a4, n4, c4⟩, rows⟩ := r
  clear hW
  have hS : 2 ^ W ≤ 2 ^ 8 := Nat.pow_le_pow_right (by omega) h8
  obtain ⟨S, HS⟩ : ∃ S : Nat, Hid (2 ^ W = S) := ⟨_, Lib.hid rfl⟩
  simp only [HS.out] at hS HC0 ⊢
  clear HS h8
  show Calls Tryz.prog 172 #[.agg #[.int .i64 wd, .slice a1 n1 c1, .slice a2 n2 c2, .int .i64 tp, .slice a3 n3 c3, .slice a4 n4 c4], .slice a n c, .int .i64 B] w _
  have HL := Lib.hid h.1
  have hbd := h.2.1
  have HQ := Lib.hid (inpOk_eq S low)
  rw [← hB] at HQ
  clear hB
  obtain ⟨wa, HW⟩ : ∃ wa, Hid (wa = w.alloc (.cells #[.int .i64 wd, .slice a1 n1 c1, .slice a2 n2 c2, .int .i64 tp, .slice a3 n3 c3, .slice a4 n4 c4] 28)) := ⟨_, rfl⟩
  have BX : Blk wa w.heap.size 28 [.int .i64 wd, .slice a1 n1 c1, .slice a2 n2 c2, .int .i64 tp, .slice a3 n3 c3, .slice a4 n4 c4] := by rw [HW.out]; exact Blk.new w _ _
  have HB : Below w.heap.size w wa := by rw [HW.out]; exact (Below.refl _ _).alloc (Nat.le_refl _) _
  by_cases hn : n ≤ 3
  case neg =>
    have hd : decide ((n : Int) > 3) = true := by simp; omega
    have HF := Lib.hid (inputs_long (S := S) (low := low) (ts := ts) (by rw [HL.out]; omega))
    go_enter Tryz.func172, Tryz.ntmps172
    go_wp2
    rw [← HW.out]
    go_ret
    exact ⟨ret_bool HF.out.symm, HB⟩
  have hd : decide ((n : Int) > 3) = false := by simp; omega
  have HF : Hid (InpTo S low ts n → inputsB S low ts = true) := Lib.hid (fun hg => by unfold inputsB; rw [inpTo_all (by rw [HL.out]; exact hg), decide_eq_true (by rw [HL.out]; exact hn)]; rfl)
  go_enter Tryz.func172, Tryz.ntmps172
  go_wp2
  rw [← HW.out]
  go_loopw [14] (fun i wr => ∃ k : Nat, k ≤ n ∧ i = .int .i64 (k : Int) ∧ InpTo S low ts k ∧ Below wa.heap.size wa wr) (fun i _ => n - (intOf i).toNat)
  case atStart => exact ⟨0, Nat.zero_le _, rfl, fun i hi => absurd hi (by omega), Below.refl _ _⟩
  case round =>
    obtain ⟨k, hk, rfl, hg, hbl⟩ := hrel
    by_cases hlt : k < n
    · have hbel := HB.trans (hbl.mono HB.size)
      obtain ⟨b, o, x, y, rfl, hb, hz, hin1, hin2, hc1, hc2⟩ := (h.below (Nat.le_refl _) hbel).at_ hlt
      obtain ⟨wb, HWb⟩ : ∃ wb, Hid (wb = wr.alloc (.cells #[.int .i64 x, .int .i64 y] 68)) := ⟨_, rfl⟩
      have BI : Blk wb wr.heap.size 68 [.int .i64 x, .int .i64 y] := by rw [HWb.out]; exact Blk.new wr _ _
      have B1 : Blk wb w.heap.size 28 [.int .i64 wd, .slice a1 n1 c1, .slice a2 n2 c2, .int .i64 tp, .slice a3 n3 c3, .slice a4 n4 c4] := by rw [HWb.out]; exact (BX.below hbl BX.lt).alloc _
      have hblb : Below wa.heap.size wa wb := by rw [HWb.out]; exact hbl.alloc hbl.size _
      have f1 := lat_cell BI.lt (BI.cell (j := 0) rfl)
      have f2 := lat_cell BI.lt (BI.cell (j := 1) rfl)
      have g0 := lat_cell B1.lt (B1.cell (j := 0) rfl)
      have g1 := lat_cell B1.lt (B1.cell (j := 1) rfl)
      have g2 := lat_cell B1.lt (B1.cell (j := 2) rfl)
      have g3 := lat_cell B1.lt (B1.cell (j := 3) rfl)
      have g4 := lat_cell B1.lt (B1.cell (j := 4) rfl)
      have g5 := lat_cell B1.lt (B1.cell (j := 5) rfl)
      have HC1 : Hid (∀ p : Lat wb, Calls Tryz.prog 179 #[.agg #[.int .i64 wd, .slice a1 n1 c1, .slice a2 n2 c2, .int .i64 tp, .slice a3 n3 c3, .slice a4 n4 c4]] p.wd fun e w' => e = .returned (.int .i64 ((S : Int) - 1)) ∧ Below p.wd.heap.size p.wd w') := Lib.hid (fun p => HC0.out p.wd)
      clear B1 BI hbl hbel
      have HQ2 := Lib.hid (HQ.out x y)
      by_cases hA : 0 ≤ x ∧ x ≤ (S : Int) - 1
      case neg =>
        have hda : (decide (0 ≤ x) && decide (x ≤ (S : Int) - 1)) = false := by rw [← Bool.not_eq_true]; simpa using hA
        have HC2 := Lib.hid (isWithin_lat (w := wb) (v := false) x 0 ((S : Int) - 1) hda)
        have HF2 := Lib.hid (show inpOk S low (x, y) = false by rw [HQ2.out, hda]; rfl)
        clear hda hA HQ2
        go_wp2
        rw [← HWb.out]
        refine wp_region_lat (by kernel_rfl) (by kernel_rfl) ?_
        repeat (go_big_quiet_step (first | (go_at_call 179; exact lat_calls (HC1.out _)) | (go_at_call 88; exact lat_calls (HC2.out _))))
        refine wpQuiet_nil ?_
        intro _ hw'
        obtain ⟨⟨wq, hwq⟩, hw''⟩ := hw'
        subst hw''
        have ht := hblb.trans (hwq.mono hblb.size)
        have ht2 := HB.trans (ht.mono HB.size)
        clear f1 f2 g0 g1 g2 g3 g4 g5 HC1 HC2
        go_wp2
        go_ret
        exact ⟨ret_bool (inp_bad (by rw [HL.out]; exact hlt) hz HF2.out).symm, ht2⟩
      have hda : (decide (0 ≤ x) && decide (x ≤ (S : Int) - 1)) = true := by simpa using hA
      have HC2 := Lib.hid (isWithin_lat (w := wb) (v := true) x 0 ((S : Int) - 1) hda)
      by_cases hY : 0 ≤ y ∧ y ≤ B
      case neg =>
        have hd2 : (decide (0 ≤ y) && decide (y ≤ B)) = false := by rw [← Bool.not_eq_true]; simpa using hY
        have HC3 := Lib.hid (isWithin_lat (w := wb) (v := false) y 0 B hd2)
        have HF2 := Lib.hid (show inpOk S low (x, y) = false by rw [HQ2.out, hda, hd2]; rfl)
        clear hda hd2 hA hY HQ2
        go_wp2
        rw [← HWb.out]
        refine wp_region_lat (by kernel_rfl) (by kernel_rfl) ?_
        repeat (go_big_quiet_step (first | (go_at_call 179; exact lat_calls (HC1.out _)) | (go_at_call 88; first | with_reducible exact lat_calls (HC2.out _) | with_reducible exact lat_calls (HC3.out _))))
        refine wpQuiet_nil ?_
        intro _ hw'
        obtain ⟨⟨wq, hwq⟩, hw''⟩ := hw'
        subst hw''
        have ht := hblb.trans (hwq.mono hblb.size)
        have ht2 := HB.trans (ht.mono HB.size)
        clear f1 f2 g0 g1 g2 g3 g4 g5 HC1 HC2 HC3
        go_wp2
        go_ret
        exact ⟨ret_bool (inp_bad (by rw [HL.out]; exact hlt) hz HF2.out).symm, ht2⟩
      have hd2 : (decide (0 ≤ y) && decide (y ≤ B)) = true := by simpa using hY
      have HC3 := Lib.hid (isWithin_lat (w := wb) (v := true) y 0 B hd2)
      have HF2 := Lib.hid (show inpOk S low (x, y) = true by rw [HQ2.out, hda, hd2]; rfl)
      clear hda hd2 hA hY HQ2
      go_wp2
      rw [← HWb.out]
      refine wp_region_lat (by kernel_rfl) (by kernel_rfl) ?_
      repeat (go_big_quiet_step (first | (go_at_call 179; exact lat_calls (HC1.out _)) | (go_at_call 88; first | with_reducible exact lat_calls (HC2.out _) | with_reducible exact lat_calls (HC3.out _))))
      refine wpQuiet_nil ?_
      intro _ hw'
      obtain ⟨⟨wq, hwq⟩, hw''⟩ := hw'
      subst hw''
      have ht := hblb.trans (hwq.mono hblb.size)
      clear f1 f2 g0 g1 g2 g3 g4 g5 HC1 HC2 HC3
      go_wp2
      go_roundw
      case rel => exact ⟨k + 1, by omega, by go_num, hg.succ hz HF2.out, ht⟩
      case measure => simp [intOf]; omega
    · obtain rfl : n = k := by omega
      go_wp2
      go_ret
      exact ⟨ret_bool (HF.out hg).symm, HB.trans (hbl.mono HB.size)⟩
end Go.Proofs.YtbnpoliogldohaaGreat
/- Inputs in plain mathematics: how many there are, their numbers, their bits. -/
namespace Go.Proofs.YtbnpoliogldohaaGreat
open Go.RowKit

/-- The Maxes. -/
def maxesL (ts : List Tm) : List Int := ts.map (fun t => t.1)
def maxesP (p : Prg) : List Int := maxesL (p.lows ++ p.secrets)
/-- Right Maxes: at most six, of eight bits each. -/
def MaxOk (ms : List Int) : Prop := ms.length ≤ 6 ∧ ∀ i, i < ms.length → 0 ≤ ms.getD i 0 ∧ ms.getD i 0 ≤ 255
/-- How many the first k make. -/
def countTo (ms : List Int) : Nat → Int
  | 0 => 1
  | k + 1 => countTo ms k * (ms.getD k 0 + 1)
/-- Answers. -/
noncomputable def countB (p : Prg) : Int := if codeB p = 0 then countTo (maxesP p) (maxesP p).length else -1
noncomputable def bitsInB (p : Prg) : Int := if codeB p = 0 then ((bitsTo p.lows p.lows.length + bitsTo p.secrets p.secrets.length : Nat) : Int) else -1
/-- The number of the values from the i-th on. -/
def numFrom (ms zs : List Int) : Nat → Int
  | 0 => 0
  | k + 1 => numFrom ms zs k * (ms.getD (ms.length - 1 - k) 0 + 1) + zs.getD (ms.length - 1 - k) 0
end Go.Proofs.YtbnpoliogldohaaGreat
