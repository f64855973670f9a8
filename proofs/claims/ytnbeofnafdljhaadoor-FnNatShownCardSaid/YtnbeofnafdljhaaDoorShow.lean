/- The contracts of the two functions ShowNat: each answers the decimal digits. -/
import Derived.Test.YtnbeofnafdljhaaDoorNatOk
import Derived.Test.YtnbeofnafdljhaaDoorInt
import Derived.Test.YtnbeofnafdljhaaDoorBuilder
import Derived.Test.YtnbeofnafdljhaaDoorMath
namespace Go.Proofs.YtnbeofnafdljhaaDoor
open Go.RowKit
set_option maxRecDepth 100000

/-- The text behind the highest limb and j more. -/
def showTo (zs : List Int) : Nat → List UInt8
  | 0 => Lib.itoa (zs.getD (zs.length - 1) 0)
  | j + 1 => showTo zs j ++ (Lib.itoa (zs.getD (zs.length - 2 - j) 0 + 10000)).drop 1
/-- What ShowNat answers. -/
def showL (zs : List Int) : List UInt8 := if okB zs then (if zs.length = 0 then [48] else showTo zs (zs.length - 1)) else []

theorem nDig (u : Nat) (h : u < 100000) : (Lib.decDigits u).length ≤ 5 ∧ 1 ≤ (Lib.decDigits u).length := by
  by_cases h1 : u < 10
  · rw [digs_small h1]; simp
  rw [digs_big (by omega)]
  by_cases h2 : u / 10 < 10
  · rw [digs_small h2]; simp
  rw [digs_big (n := u / 10) (by omega)]
  by_cases h3 : u / 10 / 10 < 10
  · rw [digs_small h3]; simp
  rw [digs_big (n := u / 10 / 10) (by omega)]
  by_cases h4 : u / 10 / 10 / 10 < 10
  · rw [digs_small h4]; simp
  rw [digs_big (n := u / 10 / 10 / 10) (by omega)]
  rw [digs_small (n := u / 10 / 10 / 10 / 10) (by omega)]; simp
theorem itoa_len {n : Int} (h0 : 0 ≤ n) (h1 : n < 100000) : (Lib.itoa n).length ≤ 5 ∧ 1 ≤ (Lib.itoa n).length := by
  unfold Lib.itoa; rw [if_neg (by omega)]; exact nDig _ (by omega)
theorem showTo_len {zs : List Int} (hg : Good zs) (j : Nat) : (showTo zs j).length ≤ 5 * (j + 1) := by
  induction j with
  | zero => have := hg.getD (zs.length - 1); have := itoa_len (n := zs.getD (zs.length - 1) 0) (by omega) (by omega); simp only [showTo]; omega
  | succ j ih =>
    have h1 := hg.getD (zs.length - 2 - j)
    have := itoa_len (n := zs.getD (zs.length - 2 - j) 0 + 10000) (by omega) (by omega)
    simp only [showTo, List.length_append, List.length_drop]; omega

/-- A table of the library's, in a later world. -/
theorem tab_later {w w' : World} (h : Lib.TabIs Tryd.prog w "internal/strconv.uint64pow10" .u64 Lib.pow10Tab) (hb : Below w.heap.size w w') : Lib.TabIs Tryd.prog w' "internal/strconv.uint64pow10" .u64 Lib.pow10Tab :=
  Lib.tabBelow_of_tabIs h w' hb

theorem format_any (n : Int) (w : World) (h0 : 0 ≤ n) (h1 : n < 100000) (htab : Lib.TabIs Tryd.prog w "internal/strconv.uint64pow10" .u64 Lib.pow10Tab) :
    Calls Tryd.prog 31 #[.int .i64 n, .int .i64 10] w fun e w' => e = .returned (.string ⟨(Lib.itoa n).toArray⟩) ∧ Below w.heap.size w w' := by
  refine (Tryd.strconv_FormatInt_10 n (by omega) (by omega) w htab).mono ?_
  rintro e w' ⟨rfl, k, os, rfl⟩
  exact ⟨rfl, Lib.below_grow _ _ (Nat.le_refl _) _ _⟩

theorem strCells_list (l : List UInt8) : Lib.strCells ⟨l.toArray⟩ = Lib.byteCells l := rfl

theorem drop_str (l : List UInt8) : (⟨l.toArray⟩ : ByteArray).extract 1 (⟨l.toArray⟩ : ByteArray).size = ⟨(l.drop 1).toArray⟩ := by
  apply ByteArray.ext
  simp [ByteArray.size]
  exact List.take_of_length_le (by simp)

theorem showTo_next {zs : List Int} {n k : Nat} {z : Int} (hl : zs.length = n) (hk : 0 < k) (hkn : k ≤ n - 1) (hz : Hid (z = zs.getD (k - 1) 0)) :
    showTo zs (n - 1 - k) ++ (Lib.itoa (10000 + z)).drop 1 = showTo zs (n - 1 - (k - 1)) := by
  have e : n - 1 - (k - 1) = n - 1 - k + 1 := by omega
  rw [e, showTo, hl, show n - 2 - (n - 1 - k) = k - 1 by omega, ← hz.out, Int.add_comm]

set_option maxHeartbeats 800000 in
theorem text_any (a : Option Addr) (n c : Nat) (zs : List Int) (w : World) (h : Ints w a n zs) (hg : Good zs) (hn : n ≤ 100) (hp : 0 < n) (htab : Lib.TabIs Tryd.prog w "internal/strconv.uint64pow10" .u64 Lib.pow10Tab) :
    Calls Tryd.prog 21 #[.slice a n c] w fun e w' => e = .returned (.string ⟨(showTo zs (n - 1)).toArray⟩) ∧ Below w.heap.size w w' := by
  have HL := Lib.hid h.1
  have HTAB := Lib.hid htab
  clear htab
  have hne : ((n : Int) == 0) = false := by simp; omega
  obtain ⟨b, o, z, rfl, hb, hz, hin, hc⟩ := h.at_ (k := n - 1) (by omega)
  have hzb := hg.getD (n - 1)
  rw [← hz.out] at hzb
  have hbd := Lib.fresh_isBuilder 58 5 w
  have hb0 : Below w.heap.size w (w.alloc (.cells #[.pointer none, .slice none 0 0] 58)) := (Below.refl _ _).alloc (Nat.le_refl _) _
  go_enter Tryd.func21, Tryd.ntmps21
  go_wp2_with fail
  refine (format_any z _ hzb.1 (by omega) (tab_later HTAB.out hb0)).mono ?_
  rintro e w1 ⟨rfl, hb1⟩
  have hbd1 := isBuilder_below hbd hb1
  have ht1 := hb0.trans (hb1.mono hb0.size)
  have hlz := itoa_len (n := z) (by omega) (by omega)
  clear hbd hb0 hb1
  go_wp2_with fail
  refine (writeString_any w.heap.size w.heap.size [] _ _ hbd1 (by show 0 + (Lib.itoa z).toArray.size ≤ _; simp; omega) ht1.size).mono ?_
  rintro e w2 ⟨rfl, hbd2, hb2⟩
  rw [List.nil_append, strCells_list] at hbd2
  have ht2 := ht1.trans hb2
  have hst : Lib.itoa z = showTo zs 0 := by simp only [showTo]; rw [HL.out, hz.out]
  rw [hst] at hbd2
  clear hbd1 hb2 hst
  go_wp2_with fail
  go_loopw [5] (fun iv wr => ∃ k : Nat, k ≤ n - 1 ∧ iv = .int .i64 ((k : Int) - 1) ∧ Lib.IsBuilder 58 5 w.heap.size w.heap.size (Lib.byteCells (showTo zs (n - 1 - k))) wr ∧ Below w.heap.size w wr) (fun iv _ => (intOf iv + 1).toNat)
  case atStart => exact ⟨n - 1, Nat.le_refl _, by go_num, by rw [Nat.sub_self]; exact .inr hbd2, ht2⟩
  case round =>
    clear hbd2 ht1 ht2 hc
    obtain ⟨k, hk, rfl, hbd, hbel⟩ := hrel
    by_cases hpk : 0 < k
    · obtain ⟨b', o', y, e, hb', hy, hin', hcy⟩ := (h.below hbel).at_ (k := k - 1) (by omega)
      injection e with e
      injection e with e1 e2
      subst e1 e2
      have hyb := hg.getD (k - 1)
      rw [← hy.out] at hyb
      have HN := Lib.hid (showTo_next HL.out hpk hk hy)
      have hly := itoa_len (n := 10000 + y) (by omega) (by omega)
      have hls := showTo_len hg (n - 1 - k)
      obtain ⟨t, HT⟩ : ∃ t, Hid (Lib.itoa (10000 + y) = t) := ⟨_, rfl⟩
      rw [HT.out] at HN hly
      obtain ⟨bt, HBT⟩ : ∃ bt : ByteArray, Hid (bt = ⟨t.toArray⟩) := ⟨_, rfl⟩
      have hbts : 1 ≤ bt.size := by rw [HBT.out]; show 1 ≤ t.toArray.size; simp; omega
      obtain ⟨bd, HBD⟩ : ∃ bd : ByteArray, Hid (bt.extract 1 bt.size = bd) := ⟨_, rfl⟩
      have hbdl : Hid (bd = ⟨(t.drop 1).toArray⟩) := by show _ = _; rw [← HBD.out, HBT.out]; exact drop_str t
      go_wp2_with fail
      refine (format_any (10000 + y) _ (by omega) (by omega) (tab_later HTAB.out hbel)).mono ?_
      rintro e w1 ⟨rfl, hb1⟩
      rw [HT.out, ← HBT.out]
      have hbd1 := isBuilder_below hbd hb1
      have ht1 := hbel.trans (hb1.mono hbel.size)
      clear hbd hbel hb1 hcy
      go_wp2_with fail
      rw [HBD.out]
      refine (writeString_any w.heap.size w.heap.size _ bd _ hbd1 (by rw [hbdl.out]; show (Lib.byteCells _).length + (t.drop 1).toArray.size ≤ _; simp [Lib.byteCells]; omega) ht1.size).mono ?_
      rintro e w2 ⟨rfl, hbd2, hb2⟩
      rw [hbdl.out, strCells_list, ← Lib.byteCells_append, HN.out] at hbd2
      have ht2 := ht1.trans hb2
      clear hbd1 hb2 ht1
      go_wp2_with fail
      go_roundw
      case rel => exact ⟨k - 1, by omega, by go_num, .inr hbd2, ht2⟩
      case measure => simp [intOf]; omega
    · obtain rfl : k = 0 := by omega
      go_wp2_with fail
      refine (Tryd.Builder_String_any w.heap.size w.heap.size _ _ hbd hbel.size).mono ?_
      rintro e w1 ⟨rfl, hb1⟩
      go_wp2_with fail
      go_ret
      exact ⟨ret_str (by simp), hbel.trans hb1⟩

theorem showL_no {zs : List Int} (h : okB zs = false) : showL zs = [] := by unfold showL; rw [h]; rfl
theorem showL_nil {zs : List Int} (h : okB zs = true) (h0 : zs.length = 0) : showL zs = [48] := by unfold showL; rw [h, if_pos rfl, if_pos h0]
theorem showL_yes {zs : List Int} {n : Nat} (h : okB zs = true) (hl : zs.length = n) (h0 : 0 < n) : showL zs = showTo zs (n - 1) := by unfold showL; rw [h, if_pos rfl, if_neg (by omega), hl]

set_option maxHeartbeats 400000 in
theorem textNil_any (a : Option Addr) (c : Nat) (w : World) :
    Calls Tryd.prog 21 #[.slice a 0 c] w fun e w' => e = .returned (.string ⟨#[48]⟩) ∧ w = w' := by
  go_enter Tryd.func21, Tryd.ntmps21
  go_wp2_with fail
  go_ret
  exact ⟨rfl, rfl⟩

set_option maxHeartbeats 400000 in
theorem showNat_any (a : Option Addr) (n c : Nat) (zs : List Int) (w : World) (h : Ints w a n zs) (htab : Lib.TabIs Tryd.prog w "internal/strconv.uint64pow10" .u64 Lib.pow10Tab) :
    Calls Tryd.prog 11 #[.slice a n c] w fun e w' => e = .returned (.string ⟨(showL zs).toArray⟩) ∧ Below w.heap.size w w' := by
  have HL := Lib.hid h.1
  have HTAB := Lib.hid htab
  clear htab
  cases hok : okB zs with
  | false =>
    go_enter Tryd.func11, Tryd.ntmps11
    go_wp2_with (go_at_call 20; refine (natOk_any _ _ _ zs _ h).mono ?_; rintro e w1 ⟨rfl, rfl⟩; rw [hok])
    go_ret
    exact ⟨ret_str (by rw [showL_no hok]), Below.refl _ _⟩
  | true =>
    have HOK := Lib.hid hok
    clear hok
    have g := (okB_iff zs).1 HOK.out
    have hn : n ≤ 100 := by rw [← HL.out]; exact g.1
    by_cases h0 : n = 0
    · subst h0
      go_enter Tryd.func11, Tryd.ntmps11
      go_wp2_with fail
      refine (natOk_any _ _ _ zs _ h).mono ?_
      rintro e w1 ⟨rfl, rfl⟩
      rw [HOK.out]
      go_wp2_with fail
      refine (textNil_any _ _ _).mono ?_
      rintro e w1 ⟨rfl, rfl⟩
      go_wp2_with fail
      go_ret
      exact ⟨ret_str (by rw [showL_nil HOK.out HL.out]), Below.refl _ _⟩
    · go_enter Tryd.func11, Tryd.ntmps11
      go_wp2_with fail
      refine (natOk_any _ _ _ zs _ h).mono ?_
      rintro e w1 ⟨rfl, rfl⟩
      rw [HOK.out]
      go_wp2_with fail
      refine (text_any _ _ _ zs _ h g.2.1 hn (by omega) HTAB.out).mono ?_
      rintro e w1 ⟨rfl, hb1⟩
      go_wp2_with fail
      go_ret
      exact ⟨ret_str (by rw [showL_yes HOK.out HL.out (by omega)]), hb1⟩

theorem app_str (x y : List UInt8) : (⟨x.toArray⟩ : ByteArray) ++ ⟨y.toArray⟩ = ⟨(x ++ y).toArray⟩ := by
  apply ByteArray.ext
  simp

set_option maxHeartbeats 800000 in
theorem specShowNat_any (a : Option Addr) (n c : Nat) (zs : List Int) (w : World) (h : Ints w a n zs) :
    Calls Tryd.prog 13 #[.slice a n c] w fun e w' => e = .returned (.string ⟨(showL zs).toArray⟩) ∧ Below w.heap.size w w' := by
  have HL := Lib.hid h.1
  cases hok : okB zs with
  | false =>
    go_enter Tryd.func13, Tryd.ntmps13
    go_wp2_with (go_at_call 22; refine (specNatOk_any _ _ _ zs _ h).mono ?_; rintro e w1 ⟨rfl, rfl⟩; rw [hok])
    go_ret
    exact ⟨ret_str (by rw [showL_no hok]), Below.refl _ _⟩
  | true =>
    have HOK := Lib.hid hok
    clear hok
    have g := (okB_iff zs).1 HOK.out
    have hn : n ≤ 100 := by rw [← HL.out]; exact g.1
    have hg := g.2.1
    clear g
    by_cases h0 : n = 0
    · subst h0
      go_enter Tryd.func13, Tryd.ntmps13
      go_wp2_with (go_at_call 22; refine (specNatOk_any _ _ _ zs _ h).mono ?_; rintro e w1 ⟨rfl, rfl⟩; rw [HOK.out])
      go_ret
      exact ⟨ret_str (by rw [showL_nil HOK.out HL.out]), Below.refl _ _⟩
    · have hne : ((n : Int) == 0) = false := by simp; omega
      obtain ⟨b, o, z, rfl, hb, hz, hin, hc⟩ := h.at_ (k := n - 1) (by omega)
      have hzb := hg.getD (n - 1)
      rw [← hz.out] at hzb
      go_enter Tryd.func13, Tryd.ntmps13
      go_wp2_with fail
      refine (specNatOk_any _ _ _ zs _ h).mono ?_
      rintro e w1 ⟨rfl, rfl⟩
      rw [HOK.out]
      go_wp2_with fail
      refine (l1Int_any z _ hzb.1 (by omega)).mono ?_
      rintro e w1 ⟨rfl, hb1⟩
      have hst : Lib.itoa z = showTo zs 0 := by simp only [showTo]; rw [HL.out, hz.out]
      rw [hst]
      go_wp2_with fail
      go_loopw [3, 4, 5] (fun sv iv _ wr => ∃ k : Nat, k ≤ n - 1 ∧ iv = .int .i64 ((k : Int) - 1) ∧ sv = .string ⟨(showTo zs (n - 1 - k)).toArray⟩ ∧ Below w.heap.size w wr) (fun _ iv _ _ => (intOf iv + 1).toNat)
      case atStart => exact ⟨n - 1, Nat.le_refl _, by go_num, by rw [Nat.sub_self], hb1⟩
      case round =>
        clear hb1 hst hc
        obtain ⟨k, hk, rfl, rfl, hbel⟩ := hrel
        by_cases hpk : 0 < k
        · obtain ⟨b', o', y, e, hb', hy, hin', hcy⟩ := (h.below hbel).at_ (k := k - 1) (by omega)
          injection e with e
          injection e with e1 e2
          subst e1 e2
          have hyb := hg.getD (k - 1)
          rw [← hy.out] at hyb
          have HN := Lib.hid (showTo_next HL.out hpk hk hy)
          have hly := itoa_len (n := 10000 + y) (by omega) (by omega)
          have hls := showTo_len hg (n - 1 - k)
          obtain ⟨t, HT⟩ : ∃ t, Hid (Lib.itoa (10000 + y) = t) := ⟨_, rfl⟩
          rw [HT.out] at HN hly
          obtain ⟨bt, HBT⟩ : ∃ bt : ByteArray, Hid (bt = ⟨t.toArray⟩) := ⟨_, rfl⟩
          have hbts : 1 ≤ bt.size := by rw [HBT.out]; show 1 ≤ t.toArray.size; simp; omega
          obtain ⟨bs, HBS⟩ : ∃ bs : ByteArray, Hid (bs = ⟨(showTo zs (n - 1 - k)).toArray⟩) := ⟨_, rfl⟩
          have hbss : bs.size ≤ 600 := by rw [HBS.out]; show (showTo zs (n - 1 - k)).toArray.size ≤ 600; simp; omega
          have hbtu : bt.size ≤ 10 := by rw [HBT.out]; show t.toArray.size ≤ 10; simp; omega
          have HAP : Hid (bs ++ bt.extract 1 bt.size = ⟨(showTo zs (n - 1 - (k - 1))).toArray⟩) := by
            show _ = _
            rw [HBS.out, HBT.out, drop_str, app_str, HN.out]
          rw [← HBS.out]
          go_wp2_with fail
          rw [Int.add_comm y 10000]
          refine (l1Int_any (10000 + y) _ (by omega) (by omega)).mono ?_
          rintro e w2 ⟨rfl, hb2⟩
          rw [HT.out, ← HBT.out]
          have ht2 := hbel.trans (hb2.mono hbel.size)
          clear hbel hb2 hcy
          go_wp2_with fail
          go_roundw
          case rel => exact ⟨k - 1, by omega, by go_num, str_eq HAP.out, ht2⟩
          case measure => simp [intOf]; omega
        · obtain rfl : k = 0 := by omega
          go_wp2_with fail
          go_ret
          exact ⟨ret_str (by rw [showL_yes HOK.out HL.out (by omega)]; simp), hbel⟩
end Go.Proofs.YtnbeofnafdljhaaDoor
