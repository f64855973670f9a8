/- The contracts of the model's l3AllBits and l3Room. -/
import Derived.Test.YtdippnnhibgjoaaSpecProg
namespace Go.Proofs.Ytdippnnhibgjoaa
open Go.RowKit

/-- The bits of the first k inputs' greatest values. -/
def bitsTo (ts : List Tm) : Nat → Nat
  | 0 => 0
  | k + 1 => bitsTo ts k + bitsN (tmAt ts k).1.toNat
theorem bits63 {z : Int} (h : In64 z) : bitsN z.toNat ≤ 63 := bitsN_le 63 _ (by have := h.2; omega)
def roomB (p : Prg) : Bool :=
  (decide (0 ≤ p.temps) && decide (p.temps ≤ 6)) && decide (p.arrays.length ≤ 2) && decide (p.body.length ≤ 40) && p.arrays.all (fun z => decide (1 ≤ z) && decide (z ≤ 6))
/-- The first k are sizes of arrays. -/
def CellsTo (zs : List Int) (k : Nat) : Prop := ∀ i, i < k → 1 ≤ zs.getD i 0 ∧ zs.getD i 0 ≤ 6
theorem CellsTo.succ {zs : List Int} {k : Nat} {z : Int} (h : CellsTo zs k) (hz : Hid (z = zs.getD k 0)) (h0 : 1 ≤ z) (h1 : z ≤ 6) : CellsTo zs (k + 1) := by
  intro i hi
  rcases Nat.lt_or_ge i k with hlt | hge
  · exact h i hlt
  · have : i = k := by omega
    subst this; rw [← hz.out]; exact ⟨h0, h1⟩
theorem cellsTo_all (zs : List Int) : zs.all (fun z => decide (1 ≤ z) && decide (z ≤ 6)) = true ↔ CellsTo zs zs.length := by
  rw [List.all_eq_true]
  constructor
  · intro h i hi
    have := h _ (getD_mem hi)
    simpa using this
  · intro h z hz
    obtain ⟨i, hi, rfl⟩ := List.getElem_of_mem hz
    have := h i hi
    rw [List.getD_eq_getElem?_getD, List.getElem?_eq_getElem hi] at this
    simpa using this
theorem cells_bad {zs : List Int} {k : Nat} {z : Int} (hk : k < zs.length) (hz : Hid (z = zs.getD k 0)) (h : ¬ (1 ≤ z ∧ z ≤ 6)) : zs.all (fun z => decide (1 ≤ z) && decide (z ≤ 6)) = false := by
  rw [← Bool.not_eq_true, cellsTo_all]
  intro hg
  have := hg k hk
  rw [← hz.out] at this
  exact h this

set_option maxHeartbeats 1600000 in
theorem l3AllBits_any (r : PRow) (p : Prg) (w : World) (h : ProgAt w r p) :
    Calls Try.prog 61 #[progV r] w fun e w' => e = .returned (.int .i64 ((bitsTo p.lows p.lows.length + bitsTo p.secrets p.secrets.length : Nat) : Int)) ∧ Below w.heap.size w w' := by
  obtain ⟨wd, ⟨a1, n1, c1⟩, ⟨a2, n2, c2⟩, tp, ⟨a3, n3, c3⟩, ⟨a4, n4, c4⟩, rows⟩ := r
  obtain ⟨pw, pl, ps, pt, pa, pb⟩ := p
  obtain ⟨e1, e2, i1, i2, h1, h2, h3, h4⟩ := h
  simp only [] at e1 e2 i1 i2 h1 h2 h3 h4
  subst e1 e2
  clear h3 h4
  show Calls Try.prog 61 #[.agg #[.int .i64 wd, .slice a1 n1 c1, .slice a2 n2 c2, .int .i64 tp, .slice a3 n3 c3, .slice a4 n4 c4]] w _
  have HB : Below w.heap.size w (w.alloc (.cells #[.int .i64 wd, .slice a1 n1 c1, .slice a2 n2 c2, .int .i64 tp, .slice a3 n3 c3, .slice a4 n4 c4] 31)) := (Below.refl _ _).alloc (Nat.le_refl _) _
  have HT1 := Lib.hid (h1.below (Nat.le_refl _) HB)
  have HT2 := Lib.hid (h2.below (Nat.le_refl _) HB)
  have HL1 := Lib.hid h1.1
  have HL2 := Lib.hid h2.1
  have hn1 := h1.2.1
  have hn2 := h2.2.1
  simp only [HL1.out, HL2.out]
  clear h1 h2
  go_enter Try.func61, Try.ntmps61
  go_wp2
  go_loop [3, 4] (fun q i => ∃ k : Nat, k ≤ n1 ∧ i = .int .i64 (k : Int) ∧ bitsTo pl k ≤ 63 * k ∧ q = .int .i64 (bitsTo pl k : Int)) (fun _ i => n1 - (intOf i).toNat)
  case atStart => exact ⟨0, Nat.zero_le _, rfl, Nat.le_refl _, rfl⟩
  case round =>
    obtain ⟨k, hk, rfl, hs, rfl⟩ := hrel
    by_cases hlt : k < n1
    · obtain ⟨b, o, x, y, rfl, hb, hz, hin1, hin2, hc1, hc2⟩ := HT1.out.at_ hlt
      have hb63 := bits63 hin1
      have hst : bitsTo pl (k + 1) = bitsTo pl k + bitsN x.toNat := by simp only [bitsTo, hz.out]
      have HS := Lib.hid hst
      clear hst hc2
      generalize bitsTo pl k = Q at hs HS ⊢
      go_wp2_with fail
      refine (l3Bits_any _ _ hin1).mono ?_
      rintro e w1 ⟨rfl, rfl⟩
      generalize bitsN x.toNat = V at hb63 HS ⊢
      go_wp2
      go_round
      case rel => exact ⟨k + 1, by omega, by go_num, by rw [HS.out]; omega, by rw [HS.out]; go_num⟩
      case measure => simp [intOf]; omega
    · obtain rfl : n1 = k := by omega
      obtain ⟨Q, HQ⟩ : ∃ Q, Hid (bitsTo pl n1 = Q) := ⟨_, rfl⟩
      rw [HQ.out] at hs ⊢
      go_wp2
      go_loop [3, 5] (fun q i => ∃ k : Nat, k ≤ n2 ∧ i = .int .i64 (k : Int) ∧ bitsTo ps k ≤ 63 * k ∧ q = .int .i64 ((Q + bitsTo ps k : Nat) : Int)) (fun _ i => n2 - (intOf i).toNat)
      case atStart => exact ⟨0, Nat.zero_le _, rfl, Nat.le_refl _, rfl⟩
      case round =>
        obtain ⟨k, hk, rfl, hs2, rfl⟩ := hrel
        by_cases hlt : k < n2
        · obtain ⟨b, o, x, y, rfl, hb, hz, hin1, hin2, hc1, hc2⟩ := HT2.out.at_ hlt
          have hb63 := bits63 hin1
          have hst : bitsTo ps (k + 1) = bitsTo ps k + bitsN x.toNat := by simp only [bitsTo, hz.out]
          have HS := Lib.hid hst
          clear hst hc2
          generalize bitsTo ps k = R at hs2 HS ⊢
          go_wp2_with fail
          refine (l3Bits_any _ _ hin1).mono ?_
          rintro e w1 ⟨rfl, rfl⟩
          generalize bitsN x.toNat = V at hb63 HS ⊢
          go_wp2
          go_round
          case rel => exact ⟨k + 1, by omega, by go_num, by rw [HS.out]; omega, by rw [HS.out]; go_num⟩
          case measure => simp [intOf]; omega
        · obtain rfl : n2 = k := by omega
          obtain ⟨R, HR⟩ : ∃ R, Hid (bitsTo ps n2 = R) := ⟨_, rfl⟩
          rw [HR.out] at hs2 ⊢
          go_wp2
          go_ret
          exact ⟨ret_int (by rw [HQ.out, HR.out]), HB⟩
set_option maxHeartbeats 1600000 in
theorem l3Room_any (r : PRow) (p : Prg) (w : World) (h : ProgAt w r p) :
    Calls Try.prog 62 #[progV r] w fun e w' => e = .returned (.bool (roomB p)) ∧ Below w.heap.size w w' := by
  obtain ⟨wd, ⟨a1, n1, c1⟩, ⟨a2, n2, c2⟩, tp, ⟨a3, n3, c3⟩, ⟨a4, n4, c4⟩, rows⟩ := r
  obtain ⟨pw, pl, ps, pt, pa, pb⟩ := p
  obtain ⟨e1, e2, i1, i2, h1, h2, h3, h4⟩ := h
  simp only [] at e1 e2 i1 i2 h1 h2 h3 h4
  subst e1 e2
  clear h1 h2
  show Calls Try.prog 62 #[.agg #[.int .i64 wd, .slice a1 n1 c1, .slice a2 n2 c2, .int .i64 tp, .slice a3 n3 c3, .slice a4 n4 c4]] w _
  have HB : Below w.heap.size w (w.alloc (.cells #[.int .i64 wd, .slice a1 n1 c1, .slice a2 n2 c2, .int .i64 tp, .slice a3 n3 c3, .slice a4 n4 c4] 31)) := (Below.refl _ _).alloc (Nat.le_refl _) _
  have HT3 := Lib.hid (h3.below HB)
  have HL3 := Lib.hid h3.1
  have HL4 := Lib.hid h4.2.1
  have hn3 := h3.2.1
  have hn4 := h4.2.2.1
  obtain ⟨R, HR⟩ : ∃ R, Hid (roomB ⟨wd, pl, ps, tp, pa, pb⟩ = R) := ⟨_, rfl⟩
  have hroom : roomB ⟨wd, pl, ps, tp, pa, pb⟩ = ((decide (0 ≤ tp) && decide (tp ≤ 6)) && decide (n3 ≤ 2) && decide (n4 ≤ 40) && pa.all (fun z => decide (1 ≤ z) && decide (z ≤ 6))) := by
    simp only [roomB, HL3.out, HL4.out]
  rw [HR.out] at hroom
  have HRM := Lib.hid hroom
  simp only [HR.out]
  clear hroom h3 h4 HR
  go_enter Try.func62, Try.ntmps62
  by_cases ht : 0 ≤ tp ∧ tp ≤ 6
  case neg =>
    have hd : (decide (0 ≤ tp) && decide (tp ≤ 6)) = false := by rw [← Bool.not_eq_true]; simpa using ht
    go_wp2_with (go_at_call 46; refine (in_any _ _ _ _).mono ?_; rintro e w' ⟨rfl, rfl⟩; rw [hd])
    go_ret
    exact ⟨ret_bool (by rw [HRM.out, hd]; rfl), HB⟩
  have hd : (decide (0 ≤ tp) && decide (tp ≤ 6)) = true := by simpa using ht
  have HD := Lib.hid hd
  clear hd ht
  by_cases ha : n3 ≤ 2
  case neg =>
    have hd2 : decide ((n3 : Int) > 2) = true := by simp; omega
    go_wp2_with (go_at_call 46; refine (in_any _ _ _ _).mono ?_; rintro e w' ⟨rfl, rfl⟩; rw [HD.out])
    go_ret
    exact ⟨ret_bool (by rw [HRM.out, HD.out, decide_eq_false ha]; rfl), HB⟩
  have hd2 : decide ((n3 : Int) > 2) = false := by simp; omega
  by_cases hs : n4 ≤ 40
  case neg =>
    have hd3 : decide ((n4 : Int) > 40) = true := by simp; omega
    go_wp2_with (go_at_call 46; refine (in_any _ _ _ _).mono ?_; rintro e w' ⟨rfl, rfl⟩; rw [HD.out])
    go_ret
    exact ⟨ret_bool (by rw [HRM.out, HD.out, decide_eq_true ha, decide_eq_false hs]; rfl), HB⟩
  have hd3 : decide ((n4 : Int) > 40) = false := by simp; omega
  have HX : Hid (R = pa.all (fun z => decide (1 ≤ z) && decide (z ≤ 6))) := Lib.hid (by rw [HRM.out, HD.out, decide_eq_true ha, decide_eq_true hs]; simp only [Bool.true_and])
  clear HRM
  go_wp2_with (go_at_call 46; refine (in_any _ _ _ _).mono ?_; rintro e w' ⟨rfl, rfl⟩; rw [HD.out])
  go_loop [3] (fun i => ∃ k : Nat, k ≤ n3 ∧ i = .int .i64 (k : Int) ∧ CellsTo pa k) (fun i => n3 - (intOf i).toNat)
  case atStart => exact ⟨0, Nat.zero_le _, rfl, fun i hi => absurd hi (by omega)⟩
  case round =>
    obtain ⟨k, hk, rfl, hg⟩ := hrel
    by_cases hlt : k < n3
    · obtain ⟨b, o, z, rfl, hb, hz, hin, hc⟩ := HT3.out.at_ hlt
      by_cases h0 : 1 ≤ z ∧ z ≤ 6
      · have hd : (decide (1 ≤ z) && decide (z ≤ 6)) = true := by simp [h0]
        go_wp2_with (go_at_call 46; refine (in_any _ _ _ _).mono ?_; rintro e w' ⟨rfl, rfl⟩; rw [hd])
        go_round
        case rel => exact ⟨k + 1, by omega, by go_num, hg.succ hz (by omega) (by omega)⟩
        case measure => simp [intOf]; omega
      · have hd : (decide (1 ≤ z) && decide (z ≤ 6)) = false := by rw [← Bool.not_eq_true]; simpa using h0
        go_wp2_with (go_at_call 46; refine (in_any _ _ _ _).mono ?_; rintro e w' ⟨rfl, rfl⟩; rw [hd])
        go_ret
        exact ⟨ret_bool (by rw [HX.out]; exact (cells_bad (by rw [HL3.out]; exact hlt) hz h0).symm), HB⟩
    · obtain rfl : n3 = k := by omega
      go_wp2
      go_ret
      exact ⟨ret_bool (by rw [HX.out]; exact ((cellsTo_all pa).2 (by rw [HL3.out]; exact hg)).symm), HB⟩
end Go.Proofs.Ytdippnnhibgjoaa
