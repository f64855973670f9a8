/- Joined texts of this proof (ProgLaw, SpecProg, SpecRoom, SpecInputs, SpecExp, SpecStmt), in build order. -/
import Derived.Test.YtmooecbdpfhnlaaT8
import Derived.Deep.RegionWith
import Derived.Test.YtmooecbdpfhnlaaT1
import Derived.Test.YtmooecbdpfhnlaaT2
/- A law's argument that is a program: what it is, as the statement's own reading gives it; what szProg answers for it. -/
namespace Go.Proofs.Ytmooecbdpfhnlaa
open Go.RowKit Go.ChangeShapes Go.WideShapes

/-- An argument that is a program: its slices read where they are not too long. -/
structure ArgProg (w : World) (r : PRow) : Prop where
  inW : In64 r.width
  inT : In64 r.temps
  lows : ArgTerms w r.lows.1 r.lows.2.1
  secrets : ArgTerms w r.secrets.1 r.secrets.2.1
  arrays : ArgInts w r.arrays.1 r.arrays.2.1
  body : ArgStmts w r.body.1 r.body.2.1
theorem ArgTerms.below {w w' : World} {a : Option Addr} {n : Nat} (h : ArgTerms w a n) (hb : Below w.heap.size w w') : ArgTerms w' a n :=
  ⟨h.1, fun hn => by obtain ⟨ts, ht⟩ := h.2 hn; exact ⟨ts, ht.below (Nat.le_refl _) hb⟩⟩
theorem ArgInts.below {w w' : World} {a : Option Addr} {n : Nat} (h : ArgInts w a n) (hb : Below w.heap.size w w') : ArgInts w' a n :=
  ⟨h.1, fun hn => by obtain ⟨ts, ht⟩ := h.2 hn; exact ⟨ts, ht.below hb⟩⟩
theorem ArgStmts.below {w w' : World} {a : Option Addr} {n : Nat} (h : ArgStmts w a n) (hb : Below w.heap.size w w') : ArgStmts w' a n :=
  ⟨h.1, fun hn => by obtain ⟨ts, ht⟩ := h.2 hn; exact ⟨ts, ht.below hb⟩⟩
theorem ArgProg.below {w w' : World} {r : PRow} (h : ArgProg w r) (hb : Below w.heap.size w w') : ArgProg w' r :=
  ⟨h.inW, h.inT, h.lows.below hb, h.secrets.below hb, h.arrays.below hb, h.body.below hb⟩
/-- What szProg leaves: -1, or a number from 0 up, and then the argument reads as a program. -/
def SzProg (w : World) (left : Nat) (r : PRow) (e : Ending) (w' : World) : Prop :=
  Below w.heap.size w w' ∧ (e = .returned (.int .i64 (-1)) ∨ ∃ v : Nat, v ≤ left ∧ e = .returned (.int .i64 (v : Int)) ∧ ∃ rows p, ProgAt w { r with rows := rows } p)
end Go.Proofs.Ytmooecbdpfhnlaa
/- The contracts of the model's l3Size, l3Bits, l3Vars. -/
namespace Go.Proofs.Ytmooecbdpfhnlaa
open Go.RowKit

/-- How many bits a number has. -/
def bitsN (n : Nat) : Nat := if h : n = 0 then 0 else bitsN (n / 2) + 1
theorem bitsN_zero : bitsN 0 = 0 := by rw [bitsN]; rfl
theorem bitsN_pos {n : Nat} (h : 0 < n) : bitsN n = bitsN (n / 2) + 1 := by rw [bitsN, dif_neg (by omega)]
theorem bitsN_le : ∀ (j n : Nat), n < 2 ^ j → bitsN n ≤ j
  | 0, n, h => by have : n = 0 := by omega
                  subst this; rw [bitsN_zero]; exact Nat.le_refl _
  | j + 1, n, h => by
    rcases Nat.eq_zero_or_pos n with rfl | hp
    · rw [bitsN_zero]; omega
    · rw [bitsN_pos hp]
      have := bitsN_le j (n / 2) (by rw [Nat.pow_succ] at h; omega)
      omega
def progCells (r : PRow) : Array Value := #[.int .i64 r.width, slV r.lows, slV r.secrets, .int .i64 r.temps, slV r.arrays, slV r.body]

set_option maxHeartbeats 800000 in
theorem l3Size_any (r : PRow) (W : Nat) (w : World) (hW : r.width = (W : Int)) (h8 : W ≤ 8) :
    Calls Try.prog 93 #[progV r] w fun e w' => e = .returned (.int .i64 ((2 ^ W : Nat) : Int)) ∧ Below w.heap.size w w' := by
  obtain ⟨wd, ⟨a1, n1, c1⟩, ⟨a2, n2, c2⟩, tp, ⟨a3, n3, c3⟩, ⟨a4, n4, c4⟩, rows⟩ := r
  simp only [] at hW
  subst hW
  show Calls Try.prog 93 #[.agg #[.int .i64 (W : Int), .slice a1 n1 c1, .slice a2 n2 c2, .int .i64 tp, .slice a3 n3 c3, .slice a4 n4 c4]] w _
  have HB : Below w.heap.size w (w.alloc (.cells #[.int .i64 (W : Int), .slice a1 n1 c1, .slice a2 n2 c2, .int .i64 tp, .slice a3 n3 c3, .slice a4 n4 c4] 28)) := (Below.refl _ _).alloc (Nat.le_refl _) _
  go_enter Try.func93, Try.ntmps93
  go_wp2
  go_loop [3, 4] (fun q i => ∃ k : Nat, k ≤ W ∧ i = .int .i64 (k : Int) ∧ q = .int .i64 ((2 ^ k : Nat) : Int)) (fun _ i => W - (intOf i).toNat)
  case atStart => exact ⟨0, Nat.zero_le _, rfl, rfl⟩
  case round =>
    obtain ⟨k, hk, rfl, rfl⟩ := hrel
    by_cases hlt : k < W
    · have hp : 2 ^ k ≤ 2 ^ 8 := Nat.pow_le_pow_right (by omega) (by omega)
      have hs := Lib.hid (Nat.pow_succ (n := 2) (m := k))
      generalize (2 : Nat) ^ k = q at hp hs ⊢
      go_wp2
      go_round
      case rel => exact ⟨k + 1, by omega, by go_num, by rw [hs.out]; go_num⟩
      case measure => simp [intOf]; omega
    · obtain rfl : W = k := by omega
      go_wp2
      go_ret
      exact ⟨rfl, HB⟩
set_option maxHeartbeats 800000 in
theorem l3Bits_any (n : Int) (w : World) (hn : In64 n) :
    Calls Try.prog 94 #[.int .i64 n] w fun e w' => e = .returned (.int .i64 (bitsN n.toNat : Int)) ∧ w = w' := by
  have hb63 : bitsN n.toNat ≤ 63 := bitsN_le 63 _ (by have := hn.2; omega)
  obtain ⟨T, HT⟩ : ∃ T, Hid (bitsN n.toNat = T) := ⟨_, rfl⟩
  rw [HT.out] at hb63 ⊢
  have h1 := hn.1
  have h2 := hn.2
  go_enter Try.func94, Try.ntmps94
  go_wp2
  go_loop [0, 3] (fun q i => ∃ (m : Int) (k : Nat), In64 m ∧ q = .int .i64 m ∧ i = .int .i64 (k : Int) ∧ bitsN m.toNat + k = T) (fun q _ => (intOf q).toNat)
  case atStart => exact ⟨n, 0, hn, rfl, rfl, HT.out⟩
  case round =>
    obtain ⟨m, k, hm, rfl, rfl, hs⟩ := hrel
    have hm1 := hm.1
    have hm2 := hm.2
    by_cases hlt : 0 < m
    · have hbit := bitsN_pos (n := m.toNat) (by omega)
      have hkT : k < T := by omega
      have hdiv : (m / 2).toNat = m.toNat / 2 := by omega
      have htd : Int.tdiv m 2 = m / 2 := Int.tdiv_eq_ediv_of_nonneg (by omega)
      have HS : Hid (bitsN (Int.tdiv m 2).toNat + (k + 1) = T) := by rw [htd, hdiv]; exact Lib.hid (by omega)
      have H2 : Hid (In64 (Int.tdiv m 2)) := by rw [htd]; exact Lib.hid ⟨by omega, by omega⟩
      have H3 : Hid ((Int.tdiv m 2).toNat < m.toNat) := by rw [htd]; exact Lib.hid (by omega)
      have b1 := H2.out.1
      have b2 := H2.out.2
      clear hbit hdiv htd hs
      go_wp2
      go_round
      case rel => exact ⟨Int.tdiv m 2, k + 1, H2.out, by go_num, by go_num, HS.out⟩
      case measure => exact H3.out
    · have h0 : m.toNat = 0 := by omega
      rw [h0, bitsN_zero] at hs
      have hkT : k = T := by omega
      subst hkT
      go_wp2
      go_ret
      exact ⟨rfl, rfl⟩
theorem l3Vars_any (r : PRow) (w : World) (h1 : r.lows.2.1 ≤ 1048576) (h2 : r.secrets.2.1 ≤ 1048576) (h3 : 0 ≤ r.temps) (h4 : r.temps ≤ 1048576) :
    Calls Try.prog 129 #[progV r] w fun e w' => e = .returned (.int .i64 ((r.lows.2.1 : Int) + (r.secrets.2.1 : Int) + r.temps)) ∧ Below w.heap.size w w' := by
  obtain ⟨wd, ⟨a1, n1, c1⟩, ⟨a2, n2, c2⟩, tp, ⟨a3, n3, c3⟩, ⟨a4, n4, c4⟩, rows⟩ := r
  simp only [] at h1 h2 h3 h4
  show Calls Try.prog 129 #[.agg #[.int .i64 wd, .slice a1 n1 c1, .slice a2 n2 c2, .int .i64 tp, .slice a3 n3 c3, .slice a4 n4 c4]] w _
  go_enter Try.func129, Try.ntmps129
  go_wp2
  go_ret
  exact ⟨rfl, (Below.refl _ _).alloc (Nat.le_refl _) _⟩
end Go.Proofs.Ytmooecbdpfhnlaa
/- The contracts of the model's l3AllBits and l3Room. -/
namespace Go.Proofs.Ytmooecbdpfhnlaa
open Go.RowKit

/-- The bits of the first k inputs' greatest values. -/
def bitsTo (ts : List Tm) : Nat → Nat
  | 0 => 0
  | k + 1 => bitsTo ts k + bitsN (tmAt ts k).1.toNat
theorem bits63 {z : Int} (h : In64 z) : bitsN z.toNat ≤ 63 := bitsN_le 63 _ (by have := h.2; omega)
def roomB (p : Prg) : Bool :=
  (decide (0 ≤ p.temps) && decide (p.temps ≤ 6)) && decide (p.arrays.length ≤ 2) && decide (p.body.length ≤ 40) && p.arrays.all (fun z => decide (1 ≤ z) && decide (z ≤ 6))
/-- The first k are sizes of arrays. -/
def CellsTo (zs : List Int) (k : Nat) : Prop := ∀ i, i < k → 1 ≤ zs.getD i 0 ∧ zs.getD i 0 ≤ 6
theorem CellsTo.succ {zs : List Int} {k : Nat} {z : Int} (h : CellsTo zs k) (hz : Hid (z = zs.getD k 0)) (h0 : 1 ≤ z) (h1 : z ≤ 6) : CellsTo zs (k + 1) := by
  intro i hi
  rcases Nat.lt_or_ge i k with hlt | hge
  · exact h i hlt
  · have : i = k := by omega
    subst this; rw [← hz.out]; exact ⟨h0, h1⟩
theorem cellsTo_all (zs : List Int) : zs.all (fun z => decide (1 ≤ z) && decide (z ≤ 6)) = true ↔ CellsTo zs zs.length := by
  rw [List.all_eq_true]
  constructor
  · intro h i hi
    have := h _ (getD_mem hi)
    simpa using this
  · intro h z hz
    obtain ⟨i, hi, rfl⟩ := List.getElem_of_mem hz
    have := h i hi
    rw [List.getD_eq_getElem?_getD, List.getElem?_eq_getElem hi] at this
    simpa using this
theorem cells_bad {zs : List Int} {k : Nat} {z : Int} (hk : k < zs.length) (hz : Hid (z = zs.getD k 0)) (h : ¬ (1 ≤ z ∧ z ≤ 6)) : zs.all (fun z => decide (1 ≤ z) && decide (z ≤ 6)) = false := by
  rw [← Bool.not_eq_true, cellsTo_all]
  intro hg
  have := hg k hk
  rw [← hz.out] at this
  exact h this

set_option maxHeartbeats 1600000 in
theorem l3AllBits_any (r : PRow) (p : Prg) (w : World) (h : ProgAt w r p) :
    Calls Try.prog 47 #[progV r] w fun e w' => e = .returned (.int .i64 ((bitsTo p.lows p.lows.length + bitsTo p.secrets p.secrets.length : Nat) : Int)) ∧ Below w.heap.size w w' := by
  obtain ⟨wd, ⟨a1, n1, c1⟩, ⟨a2, n2, c2⟩, tp, ⟨a3, n3, c3⟩, ⟨a4, n4, c4⟩, rows⟩ := r
  obtain ⟨pw, pl, ps, pt, pa, pb⟩ := p
  obtain ⟨e1, e2, i1, i2, h1, h2, h3, h4⟩ := h
  simp only [] at e1 e2 i1 i2 h1 h2 h3 h4
  subst e1 e2
  clear h3 h4
  show Calls Try.prog 47 #[.agg #[.int .i64 wd, .slice a1 n1 c1, .slice a2 n2 c2, .int .i64 tp, .slice a3 n3 c3, .slice a4 n4 c4]] w _
  have HB : Below w.heap.size w (w.alloc (.cells #[.int .i64 wd, .slice a1 n1 c1, .slice a2 n2 c2, .int .i64 tp, .slice a3 n3 c3, .slice a4 n4 c4] 28)) := (Below.refl _ _).alloc (Nat.le_refl _) _
  have HT1 := Lib.hid (h1.below (Nat.le_refl _) HB)
  have HT2 := Lib.hid (h2.below (Nat.le_refl _) HB)
  have HL1 := Lib.hid h1.1
  have HL2 := Lib.hid h2.1
  have hn1 := h1.2.1
  have hn2 := h2.2.1
  simp only [HL1.out, HL2.out]
  clear h1 h2
  go_enter Try.func47, Try.ntmps47
  go_wp2
  go_loop [3, 4] (fun q i => ∃ k : Nat, k ≤ n1 ∧ i = .int .i64 (k : Int) ∧ bitsTo pl k ≤ 63 * k ∧ q = .int .i64 (bitsTo pl k : Int)) (fun _ i => n1 - (intOf i).toNat)
  case atStart => exact ⟨0, Nat.zero_le _, rfl, Nat.le_refl _, rfl⟩
  case round =>
    obtain ⟨k, hk, rfl, hs, rfl⟩ := hrel
    by_cases hlt : k < n1
    · obtain ⟨b, o, x, y, rfl, hb, hz, hin1, hin2, hc1, hc2⟩ := HT1.out.at_ hlt
      have hb63 := bits63 hin1
      have hst : bitsTo pl (k + 1) = bitsTo pl k + bitsN x.toNat := by simp only [bitsTo, hz.out]
      have HS := Lib.hid hst
      clear hst hc2
      generalize bitsTo pl k = Q at hs HS ⊢
      go_wp2_with fail
      refine (l3Bits_any _ _ hin1).mono ?_
      rintro e w1 ⟨rfl, rfl⟩
      generalize bitsN x.toNat = V at hb63 HS ⊢
      go_wp2
      go_round
      case rel => exact ⟨k + 1, by omega, by go_num, by rw [HS.out]; omega, by rw [HS.out]; go_num⟩
      case measure => simp [intOf]; omega
    · obtain rfl : n1 = k := by omega
      obtain ⟨Q, HQ⟩ : ∃ Q, Hid (bitsTo pl n1 = Q) := ⟨_, rfl⟩
      rw [HQ.out] at hs ⊢
      go_wp2
      go_loop [3, 5] (fun q i => ∃ k : Nat, k ≤ n2 ∧ i = .int .i64 (k : Int) ∧ bitsTo ps k ≤ 63 * k ∧ q = .int .i64 ((Q + bitsTo ps k : Nat) : Int)) (fun _ i => n2 - (intOf i).toNat)
      case atStart => exact ⟨0, Nat.zero_le _, rfl, Nat.le_refl _, rfl⟩
      case round =>
        obtain ⟨k, hk, rfl, hs2, rfl⟩ := hrel
        by_cases hlt : k < n2
        · obtain ⟨b, o, x, y, rfl, hb, hz, hin1, hin2, hc1, hc2⟩ := HT2.out.at_ hlt
          have hb63 := bits63 hin1
          have hst : bitsTo ps (k + 1) = bitsTo ps k + bitsN x.toNat := by simp only [bitsTo, hz.out]
          have HS := Lib.hid hst
          clear hst hc2
          generalize bitsTo ps k = R at hs2 HS ⊢
          go_wp2_with fail
          refine (l3Bits_any _ _ hin1).mono ?_
          rintro e w1 ⟨rfl, rfl⟩
          generalize bitsN x.toNat = V at hb63 HS ⊢
          go_wp2
          go_round
          case rel => exact ⟨k + 1, by omega, by go_num, by rw [HS.out]; omega, by rw [HS.out]; go_num⟩
          case measure => simp [intOf]; omega
        · obtain rfl : n2 = k := by omega
          obtain ⟨R, HR⟩ : ∃ R, Hid (bitsTo ps n2 = R) := ⟨_, rfl⟩
          rw [HR.out] at hs2 ⊢
          go_wp2
          go_ret
          exact ⟨ret_int (by rw [HQ.out, HR.out]), HB⟩
set_option maxHeartbeats 1600000 in
theorem l3Room_any (r : PRow) (p : Prg) (w : World) (h : ProgAt w r p) :
    Calls Try.prog 48 #[progV r] w fun e w' => e = .returned (.bool (roomB p)) ∧ Below w.heap.size w w' := by
  obtain ⟨wd, ⟨a1, n1, c1⟩, ⟨a2, n2, c2⟩, tp, ⟨a3, n3, c3⟩, ⟨a4, n4, c4⟩, rows⟩ := r
  obtain ⟨pw, pl, ps, pt, pa, pb⟩ := p
  obtain ⟨e1, e2, i1, i2, h1, h2, h3, h4⟩ := h
  simp only [] at e1 e2 i1 i2 h1 h2 h3 h4
  subst e1 e2
  clear h1 h2
  show Calls Try.prog 48 #[.agg #[.int .i64 wd, .slice a1 n1 c1, .slice a2 n2 c2, .int .i64 tp, .slice a3 n3 c3, .slice a4 n4 c4]] w _
  have HB : Below w.heap.size w (w.alloc (.cells #[.int .i64 wd, .slice a1 n1 c1, .slice a2 n2 c2, .int .i64 tp, .slice a3 n3 c3, .slice a4 n4 c4] 28)) := (Below.refl _ _).alloc (Nat.le_refl _) _
  have HT3 := Lib.hid (h3.below HB)
  have HL3 := Lib.hid h3.1
  have HL4 := Lib.hid h4.2.1
  have hn3 := h3.2.1
  have hn4 := h4.2.2.1
  obtain ⟨R, HR⟩ : ∃ R, Hid (roomB ⟨wd, pl, ps, tp, pa, pb⟩ = R) := ⟨_, rfl⟩
  have hroom : roomB ⟨wd, pl, ps, tp, pa, pb⟩ = ((decide (0 ≤ tp) && decide (tp ≤ 6)) && decide (n3 ≤ 2) && decide (n4 ≤ 40) && pa.all (fun z => decide (1 ≤ z) && decide (z ≤ 6))) := by
    simp only [roomB, HL3.out, HL4.out]
  rw [HR.out] at hroom
  have HRM := Lib.hid hroom
  simp only [HR.out]
  clear hroom h3 h4 HR
  go_enter Try.func48, Try.ntmps48
  by_cases ht : 0 ≤ tp ∧ tp ≤ 6
  case neg =>
    have hd : (decide (0 ≤ tp) && decide (tp ≤ 6)) = false := by rw [← Bool.not_eq_true]; simpa using ht
    go_wp2_with (go_at_call 45; refine (in_any _ _ _ _).mono ?_; rintro e w' ⟨rfl, rfl⟩; rw [hd])
    go_ret
    exact ⟨ret_bool (by rw [HRM.out, hd]; rfl), HB⟩
  have hd : (decide (0 ≤ tp) && decide (tp ≤ 6)) = true := by simpa using ht
  have HD := Lib.hid hd
  clear hd ht
  by_cases ha : n3 ≤ 2
  case neg =>
    have hd2 : decide ((n3 : Int) > 2) = true := by simp; omega
    go_wp2_with (go_at_call 45; refine (in_any _ _ _ _).mono ?_; rintro e w' ⟨rfl, rfl⟩; rw [HD.out])
    go_ret
    exact ⟨ret_bool (by rw [HRM.out, HD.out, decide_eq_false ha]; rfl), HB⟩
  have hd2 : decide ((n3 : Int) > 2) = false := by simp; omega
  by_cases hs : n4 ≤ 40
  case neg =>
    have hd3 : decide ((n4 : Int) > 40) = true := by simp; omega
    go_wp2_with (go_at_call 45; refine (in_any _ _ _ _).mono ?_; rintro e w' ⟨rfl, rfl⟩; rw [HD.out])
    go_ret
    exact ⟨ret_bool (by rw [HRM.out, HD.out, decide_eq_true ha, decide_eq_false hs]; rfl), HB⟩
  have hd3 : decide ((n4 : Int) > 40) = false := by simp; omega
  have HX : Hid (R = pa.all (fun z => decide (1 ≤ z) && decide (z ≤ 6))) := Lib.hid (by rw [HRM.out, HD.out, decide_eq_true ha, decide_eq_true hs]; simp only [Bool.true_and])
  clear HRM
  go_wp2_with (go_at_call 45; refine (in_any _ _ _ _).mono ?_; rintro e w' ⟨rfl, rfl⟩; rw [HD.out])
  go_loop [3] (fun i => ∃ k : Nat, k ≤ n3 ∧ i = .int .i64 (k : Int) ∧ CellsTo pa k) (fun i => n3 - (intOf i).toNat)
  case atStart => exact ⟨0, Nat.zero_le _, rfl, fun i hi => absurd hi (by omega)⟩
  case round =>
    obtain ⟨k, hk, rfl, hg⟩ := hrel
    by_cases hlt : k < n3
    · obtain ⟨b, o, z, rfl, hb, hz, hin, hc⟩ := HT3.out.at_ hlt
      by_cases h0 : 1 ≤ z ∧ z ≤ 6
      · have hd : (decide (1 ≤ z) && decide (z ≤ 6)) = true := by simp [h0]
        go_wp2_with (go_at_call 45; refine (in_any _ _ _ _).mono ?_; rintro e w' ⟨rfl, rfl⟩; rw [hd])
        go_round
        case rel => exact ⟨k + 1, by omega, by go_num, hg.succ hz (by omega) (by omega)⟩
        case measure => simp [intOf]; omega
      · have hd : (decide (1 ≤ z) && decide (z ≤ 6)) = false := by rw [← Bool.not_eq_true]; simpa using h0
        go_wp2_with (go_at_call 45; refine (in_any _ _ _ _).mono ?_; rintro e w' ⟨rfl, rfl⟩; rw [hd])
        go_ret
        exact ⟨ret_bool (by rw [HX.out]; exact (cells_bad (by rw [HL3.out]; exact hlt) hz h0).symm), HB⟩
    · obtain rfl : n3 = k := by omega
      go_wp2
      go_ret
      exact ⟨ret_bool (by rw [HX.out]; exact ((cellsTo_all pa).2 (by rw [HL3.out]; exact hg)).symm), HB⟩
end Go.Proofs.Ytmooecbdpfhnlaa
/- The contract of the model's l3Inputs. -/
namespace Go.Proofs.Ytmooecbdpfhnlaa
open Go.RowKit

/-- A right input: its greatest value below S; its budget, none for a low one. -/
def inpOk (S : Nat) (low : Bool) (t : Tm) : Bool :=
  (decide (0 ≤ t.1) && decide (t.1 ≤ (S : Int) - 1)) && (decide (0 ≤ t.2) && decide (t.2 ≤ 99)) && !(low && t.2 != 0)
def inputsB (S : Nat) (low : Bool) (ts : List Tm) : Bool := ts.all (inpOk S low) && decide (ts.length ≤ 3)
def InpTo (S : Nat) (low : Bool) (ts : List Tm) (k : Nat) : Prop := ∀ i, i < k → inpOk S low (tmAt ts i) = true
theorem InpTo.succ {S : Nat} {low : Bool} {ts : List Tm} {k : Nat} {t : Tm} (h : InpTo S low ts k) (hz : Hid (tmAt ts k = t)) (ht : inpOk S low t = true) : InpTo S low ts (k + 1) := by
  intro i hi
  rcases Nat.lt_or_ge i k with hlt | hge
  · exact h i hlt
  · have : i = k := by omega
    subst this; rw [hz.out]; exact ht
theorem inpTo_all {S : Nat} {low : Bool} {ts : List Tm} (h : InpTo S low ts ts.length) : ts.all (inpOk S low) = true := by
  rw [List.all_eq_true]
  intro z hz
  obtain ⟨i, hi, rfl⟩ := List.getElem_of_mem hz
  have := h i hi
  rw [tmAt, List.getD_eq_getElem?_getD, List.getElem?_eq_getElem hi] at this
  simpa using this
theorem inp_bad {S : Nat} {low : Bool} {ts : List Tm} {k : Nat} {t : Tm} (hk : k < ts.length) (hz : Hid (tmAt ts k = t)) (ht : inpOk S low t = false) : inputsB S low ts = false := by
  have : ts.all (inpOk S low) = false := by
    rw [← Bool.not_eq_true, List.all_eq_true]
    intro h
    have := h _ (tmAt_mem hk)
    rw [hz.out, ht] at this
    exact absurd this (by simp)
  unfold inputsB
  rw [this]; rfl

theorem in_lat {w : World} (x lo hi : Int) {v : Bool} (hv : (decide (lo ≤ x) && decide (x ≤ hi)) = v) (p : Lat w) :
    Calls Try.prog 45 #[.int .i64 x, .int .i64 lo, .int .i64 hi] p.wd fun e w' => e = .returned (.bool v) ∧ Below p.wd.heap.size p.wd w' :=
  (in_any x lo hi p.wd).mono fun _ _ ⟨he, hw⟩ => ⟨by rw [he, hv], by rw [← hw]; exact Below.refl _ _⟩
set_option maxHeartbeats 3200000 in
theorem l3Inputs_any (r : PRow) (W : Nat) (a : Option Addr) (n c : Nat) (low : Bool) (ts : List Tm) (w : World) (hW : r.width = (W : Int)) (h8 : W ≤ 8) (h : Terms w a n ts) :
    Calls Try.prog 46 #[progV r, .slice a n c, .bool low] w fun e w' => e = .returned (.bool (inputsB (2 ^ W) low ts)) ∧ Below w.heap.size w w' := by
  have HC0 : Hid (∀ w' : World, Calls Try.prog 93 #[progV r] w' fun e w'' => e = .returned (.int .i64 ((2 ^ W : Nat) : Int)) ∧ Below w'.heap.size w' w'') := Lib.hid (fun w' => l3Size_any r W w' hW h8)
  obtain ⟨wd, ⟨a1, n1, c1⟩, ⟨a2, n2, c2⟩, tp, ⟨a3, n3, c3⟩, ⟨a4, n4, c4⟩, rows⟩ := r
  clear hW
  have hS : 2 ^ W ≤ 2 ^ 8 := Nat.pow_le_pow_right (by omega) h8
  obtain ⟨S, HS⟩ : ∃ S : Nat, Hid (2 ^ W = S) := ⟨_, Lib.hid rfl⟩
  simp only [HS.out] at hS HC0 ⊢
  clear HS h8
  show Calls Try.prog 46 #[.agg #[.int .i64 wd, .slice a1 n1 c1, .slice a2 n2 c2, .int .i64 tp, .slice a3 n3 c3, .slice a4 n4 c4], .slice a n c, .bool low] w _
  have HL := Lib.hid h.1
  have hbd := h.2.1
  obtain ⟨wa, HW⟩ : ∃ wa, Hid (wa = w.alloc (.cells #[.int .i64 wd, .slice a1 n1 c1, .slice a2 n2 c2, .int .i64 tp, .slice a3 n3 c3, .slice a4 n4 c4] 28)) := ⟨_, rfl⟩
  have BX : Blk wa w.heap.size 28 [.int .i64 wd, .slice a1 n1 c1, .slice a2 n2 c2, .int .i64 tp, .slice a3 n3 c3, .slice a4 n4 c4] := by rw [HW.out]; exact Blk.new w _ _
  have HB : Below w.heap.size w wa := by rw [HW.out]; exact (Below.refl _ _).alloc (Nat.le_refl _) _
  go_enter Try.func46, Try.ntmps46
  go_wp2
  rw [← HW.out]
  go_loopw [7] (fun i wr => ∃ k : Nat, k ≤ n ∧ i = .int .i64 (k : Int) ∧ InpTo S low ts k ∧ Below wa.heap.size wa wr) (fun i _ => n - (intOf i).toNat)
  case atStart => exact ⟨0, Nat.zero_le _, rfl, fun i hi => absurd hi (by omega), Below.refl _ _⟩
  case round =>
    obtain ⟨k, hk, rfl, hg, hbl⟩ := hrel
    have hbel := HB.trans (hbl.mono HB.size)
    have B1 := BX.below hbl BX.lt
    by_cases hlt : k < n
    · obtain ⟨b, o, x, y, rfl, hb, hz, hin1, hin2, hc1, hc2⟩ := (h.below (Nat.le_refl _) hbel).at_ hlt
      have f1 := lat_cell hb hc1
      have f2 := lat_cell hb hc2
      have g0 := lat_cell B1.lt (B1.cell (j := 0) rfl)
      have g1 := lat_cell B1.lt (B1.cell (j := 1) rfl)
      have g2 := lat_cell B1.lt (B1.cell (j := 2) rfl)
      have g3 := lat_cell B1.lt (B1.cell (j := 3) rfl)
      have g4 := lat_cell B1.lt (B1.cell (j := 4) rfl)
      have g5 := lat_cell B1.lt (B1.cell (j := 5) rfl)
      clear hc1 hc2 B1
      have HC1 : Hid (∀ p : Lat wr, Calls Try.prog 93 #[.agg #[.int .i64 wd, .slice a1 n1 c1, .slice a2 n2 c2, .int .i64 tp, .slice a3 n3 c3, .slice a4 n4 c4]] p.wd fun e w' => e = .returned (.int .i64 (S : Int)) ∧ Below p.wd.heap.size p.wd w') := Lib.hid (fun p => HC0.out p.wd)
      by_cases hA : 0 ≤ x ∧ x ≤ (S : Int) - 1
      case neg =>
        have hd : (decide (0 ≤ x) && decide (x ≤ (S : Int) - 1)) = false := by rw [← Bool.not_eq_true]; simpa using hA
        have HC2 := Lib.hid (in_lat (w := wr) (v := false) x 0 ((S : Int) - 1) hd)
        have HF := Lib.hid (show inpOk S low (x, y) = false by unfold inpOk; simp only [hd, Bool.false_and])
        clear hd hA
        go_wp2
        refine wp_region_lat (by kernel_rfl) (by kernel_rfl) ?_
        repeat (go_big_quiet_step (first | (go_at_call 93; exact lat_calls (HC1.out _)) | (go_at_call 45; first | exact lat_calls (HC2.out _))))
        refine wpQuiet_nil ?_
        intro _ hw'
        obtain ⟨⟨wq, hwq⟩, hw''⟩ := hw'
        subst hw''
        have ht := hbl.trans (hwq.mono hbl.size)
        have ht2 := HB.trans (ht.mono HB.size)
        clear f1 f2 g0 g1 g2 g3 g4 g5 HC1 HC2
        go_wp2
        go_ret
        exact ⟨ret_bool (inp_bad (by rw [HL.out]; exact hlt) hz HF.out).symm, ht2⟩
      have hd : (decide (0 ≤ x) && decide (x ≤ (S : Int) - 1)) = true := by simpa using hA
      have HC2 := Lib.hid (in_lat (w := wr) (v := true) x 0 ((S : Int) - 1) hd)
      by_cases hY : 0 ≤ y ∧ y ≤ 99
      case neg =>
        have hd2 : (decide (0 ≤ y) && decide (y ≤ 99)) = false := by rw [← Bool.not_eq_true]; simpa using hY
        have HC3 := Lib.hid (in_lat (w := wr) (v := false) y 0 99 hd2)
        have HF := Lib.hid (show inpOk S low (x, y) = false by unfold inpOk; simp only [hd, hd2, Bool.and_false, Bool.false_and])
        clear hd hd2 hA hY
        go_wp2
        refine wp_region_lat (by kernel_rfl) (by kernel_rfl) ?_
        repeat (go_big_quiet_step (first | (go_at_call 93; exact lat_calls (HC1.out _)) | (go_at_call 45; first | with_reducible exact lat_calls (HC2.out _) | with_reducible exact lat_calls (HC3.out _))))
        refine wpQuiet_nil ?_
        intro _ hw'
        obtain ⟨⟨wq, hwq⟩, hw''⟩ := hw'
        subst hw''
        have ht := hbl.trans (hwq.mono hbl.size)
        have ht2 := HB.trans (ht.mono HB.size)
        clear f1 f2 g0 g1 g2 g3 g4 g5 HC1 HC2 HC3
        go_wp2
        go_ret
        exact ⟨ret_bool (inp_bad (by rw [HL.out]; exact hlt) hz HF.out).symm, ht2⟩
      have hd2 : (decide (0 ≤ y) && decide (y ≤ 99)) = true := by simpa using hY
      have HC3 := Lib.hid (in_lat (w := wr) (v := true) y 0 99 hd2)
      cases low with
      | false =>
        have HF := Lib.hid (show inpOk S false (x, y) = true by unfold inpOk; simp only [hd, hd2, Bool.and_true, Bool.false_and, Bool.not_false])
        clear hd hd2 hA hY
        go_wp2
        refine wp_region_lat (by kernel_rfl) (by kernel_rfl) ?_
        repeat (go_big_quiet_step (first | (go_at_call 93; exact lat_calls (HC1.out _)) | (go_at_call 45; first | with_reducible exact lat_calls (HC2.out _) | with_reducible exact lat_calls (HC3.out _))))
        refine wpQuiet_nil ?_
        intro _ hw'
        obtain ⟨⟨wq, hwq⟩, hw''⟩ := hw'
        subst hw''
        have ht := hbl.trans (hwq.mono hbl.size)
        have ht2 := HB.trans (ht.mono HB.size)
        clear f1 f2 g0 g1 g2 g3 g4 g5 HC1 HC2 HC3
        go_wp2
        go_roundw
        case rel => exact ⟨k + 1, by omega, by go_num, hg.succ hz HF.out, ht⟩
        case measure => simp [intOf]; omega
      | true =>
        by_cases h0 : y = 0
        case neg =>
          have hne : (y != 0) = true := by simpa using h0
          have HF := Lib.hid (show inpOk S true (x, y) = false by unfold inpOk; simp only [hd, hd2, hne, Bool.and_self, Bool.not_true, Bool.and_false])
          clear hd hd2 hA hY
          go_wp2
          refine wp_region_lat (by kernel_rfl) (by kernel_rfl) ?_
          repeat (go_big_quiet_step (first | (go_at_call 93; exact lat_calls (HC1.out _)) | (go_at_call 45; first | with_reducible exact lat_calls (HC2.out _) | with_reducible exact lat_calls (HC3.out _))))
          refine wpQuiet_nil ?_
          intro _ hw'
          obtain ⟨⟨wq, hwq⟩, hw''⟩ := hw'
          subst hw''
          have ht := hbl.trans (hwq.mono hbl.size)
          have ht2 := HB.trans (ht.mono HB.size)
          clear f1 f2 g0 g1 g2 g3 g4 g5 HC1 HC2 HC3
          go_wp2
          go_ret
          exact ⟨ret_bool (inp_bad (by rw [HL.out]; exact hlt) hz HF.out).symm, ht2⟩
        subst h0
        have HF := Lib.hid (show inpOk S true (x, 0) = true by unfold inpOk; simp only [hd, hd2]; rfl)
        clear hd hd2 hA hY
        go_wp2
        refine wp_region_lat (by kernel_rfl) (by kernel_rfl) ?_
        repeat (go_big_quiet_step (first | (go_at_call 93; exact lat_calls (HC1.out _)) | (go_at_call 45; first | with_reducible exact lat_calls (HC2.out _) | with_reducible exact lat_calls (HC3.out _))))
        refine wpQuiet_nil ?_
        intro _ hw'
        obtain ⟨⟨wq, hwq⟩, hw''⟩ := hw'
        subst hw''
        have ht := hbl.trans (hwq.mono hbl.size)
        have ht2 := HB.trans (ht.mono HB.size)
        clear f1 f2 g0 g1 g2 g3 g4 g5 HC1 HC2 HC3
        go_wp2
        go_roundw
        case rel => exact ⟨k + 1, by omega, by go_num, hg.succ hz HF.out, ht⟩
        case measure => simp [intOf]; omega
    · obtain rfl : n = k := by omega
      by_cases h3 : n ≤ 3
      · have hd : decide ((n : Int) ≤ 3) = true := by simp; omega
        go_wp2
        go_ret
        exact ⟨ret_bool (by unfold inputsB; rw [inpTo_all (by rw [HL.out]; exact hg), HL.out, decide_eq_true h3]; rfl), hbel⟩
      · have hd : decide ((n : Int) ≤ 3) = false := by simp; omega
        go_wp2
        go_ret
        exact ⟨ret_bool (by unfold inputsB; rw [HL.out, decide_eq_false h3]; simp), hbel⟩
end Go.Proofs.Ytmooecbdpfhnlaa
/- The contracts of the model's l3Names and l3Exp. -/
namespace Go.Proofs.Ytmooecbdpfhnlaa
open Go.RowKit

/-- What a program's head allows: its width, its inputs, its temporaries, its arrays. -/
structure Lim (r : PRow) (W I T A : Nat) : Prop where
  width : r.width = (W : Int)
  small : W ≤ 8
  inputs : r.lows.2.1 + r.secrets.2.1 = I
  few : I ≤ 1048576
  temps : r.temps = (T : Int)
  fewT : T ≤ 1048576
  arrays : r.arrays.2.1 = A
  fewA : A ≤ 1048576
/-- A Term names what there is: S values, V variables, A arrays. -/
def nameOk (S V A : Nat) (t : Tm) : Bool :=
  if t.1 = 0 then decide (t.2 < (S : Int)) else if t.1 = 1 then decide (t.2 < (V : Int)) else if t.1 = 2 then decide (t.2 < (A : Int)) else true
def namesB (S V A : Nat) (ts : List Tm) : Bool := expB ts && ts.all (nameOk S V A)
def bodyB (S V A : Nat) (ts : List Tm) : Bool := ts.all (fun t => t.1 != 17) && (decide (ts.length ≤ 40) && namesB S V A ts)
def AllTo (f : Tm → Bool) (ts : List Tm) (k : Nat) : Prop := ∀ i, i < k → f (tmAt ts i) = true
theorem AllTo.zero (f : Tm → Bool) (ts : List Tm) : AllTo f ts 0 := fun i hi => absurd hi (by omega)
theorem AllTo.succ {f : Tm → Bool} {ts : List Tm} {k : Nat} {t : Tm} (h : AllTo f ts k) (hz : Hid (tmAt ts k = t)) (ht : f t = true) : AllTo f ts (k + 1) := by
  intro i hi
  rcases Nat.lt_or_ge i k with hlt | hge
  · exact h i hlt
  · have : i = k := by omega
    subst this; rw [hz.out]; exact ht
theorem allTo_all {f : Tm → Bool} {ts : List Tm} (h : AllTo f ts ts.length) : ts.all f = true := by
  rw [List.all_eq_true]
  intro z hz
  obtain ⟨i, hi, rfl⟩ := List.getElem_of_mem hz
  have := h i hi
  rw [tmAt, List.getD_eq_getElem?_getD, List.getElem?_eq_getElem hi] at this
  simpa using this
theorem all_bad {f : Tm → Bool} {ts : List Tm} {k : Nat} {t : Tm} (hk : k < ts.length) (hz : Hid (tmAt ts k = t)) (ht : f t = false) : ts.all f = false := by
  rw [← Bool.not_eq_true, List.all_eq_true]
  intro h
  have := h _ (tmAt_mem hk)
  rw [hz.out, ht] at this
  exact absurd this (by simp)

set_option maxHeartbeats 3200000 in
theorem l3Names_any (r : PRow) (W I T A : Nat) (a : Option Addr) (n c : Nat) (ts : List Tm) (w : World) (hr : Lim r W I T A) (h : Terms w a n ts) :
    Calls Try.prog 107 #[progV r, .slice a n c] w fun e w' => e = .returned (.bool (namesB (2 ^ W) (I + T) A ts)) ∧ Below w.heap.size w w' := by
  have HC0 : Hid (∀ w' : World, Calls Try.prog 93 #[progV r] w' fun e w'' => e = .returned (.int .i64 ((2 ^ W : Nat) : Int)) ∧ Below w'.heap.size w' w'') := Lib.hid (fun w' => l3Size_any r W w' hr.width hr.small)
  have HV0 : Hid (∀ w' : World, Calls Try.prog 129 #[progV r] w' fun e w'' => e = .returned (.int .i64 ((I + T : Nat) : Int)) ∧ Below w'.heap.size w' w'') := Lib.hid (fun w' => by
    have q := l3Vars_any r w' (by have := hr.inputs; have := hr.few; omega) (by have := hr.inputs; have := hr.few; omega) (by rw [hr.temps]; omega) (by rw [hr.temps]; have := hr.fewT; omega)
    refine q.mono fun e w'' ⟨he, hb⟩ => ⟨?_, hb⟩
    rw [he]
    exact ret_int (by have := hr.inputs; rw [hr.temps]; omega))
  have hA := hr.arrays
  have hfA := hr.fewA
  have hI := hr.few
  have hT := hr.fewT
  have h8 := hr.small
  obtain ⟨wd, ⟨a1, n1, c1⟩, ⟨a2, n2, c2⟩, tp, ⟨a3, n3, c3⟩, ⟨a4, n4, c4⟩, rows⟩ := r
  simp only [] at hA
  subst hA
  clear hr
  have hS : 2 ^ W ≤ 2 ^ 8 := Nat.pow_le_pow_right (by omega) h8
  obtain ⟨S, HS⟩ : ∃ S : Nat, Hid (2 ^ W = S) := ⟨_, Lib.hid rfl⟩
  obtain ⟨V, HV⟩ : ∃ V : Nat, Hid (I + T = V) := ⟨_, Lib.hid rfl⟩
  have hV : V ≤ 2097152 := by have := HV.out; omega
  simp only [HS.out, HV.out] at hS HC0 HV0 ⊢
  clear HS h8 HV hI hT
  show Calls Try.prog 107 #[.agg #[.int .i64 wd, .slice a1 n1 c1, .slice a2 n2 c2, .int .i64 tp, .slice a3 n3 c3, .slice a4 n4 c4], .slice a n c] w _
  have HL := Lib.hid h.1
  have hbd := h.2.1
  obtain ⟨wa, HW⟩ : ∃ wa, Hid (wa = w.alloc (.cells #[.int .i64 wd, .slice a1 n1 c1, .slice a2 n2 c2, .int .i64 tp, .slice a3 n3 c3, .slice a4 n4 c4] 28)) := ⟨_, rfl⟩
  have BX : Blk wa w.heap.size 28 [.int .i64 wd, .slice a1 n1 c1, .slice a2 n2 c2, .int .i64 tp, .slice a3 n3 c3, .slice a4 n4 c4] := by rw [HW.out]; exact Blk.new w _ _
  have HB : Below w.heap.size w wa := by rw [HW.out]; exact (Below.refl _ _).alloc (Nat.le_refl _) _
  go_enter Try.func107, Try.ntmps107
  go_wp2_with fail
  rw [← HW.out]
  refine (specExpOk_any _ _ _ _ _ (h.below (Nat.le_refl _) HB)).mono ?_
  rintro e wb ⟨rfl, hbb⟩
  have HBB := HB.trans (hbb.mono HB.size)
  have BX := BX.below hbb BX.lt
  clear HW
  obtain ⟨E, HE⟩ : ∃ E, Hid (expB ts = E) := ⟨_, rfl⟩
  rw [HE.out]
  cases E with
  | false =>
    go_wp2
    go_ret
    exact ⟨ret_bool (by unfold namesB; rw [HE.out]; rfl), HBB⟩
  | true =>
  go_wp2
  go_loopw [5] (fun i wr => ∃ k : Nat, k ≤ n ∧ i = .int .i64 (k : Int) ∧ AllTo (nameOk S V n3) ts k ∧ Below wb.heap.size wb wr) (fun i _ => n - (intOf i).toNat)
  case atStart => exact ⟨0, Nat.zero_le _, rfl, AllTo.zero _ _, Below.refl _ _⟩
  case round =>
    obtain ⟨k, hk, rfl, hg, hbl⟩ := hrel
    have hbel := HBB.trans (hbl.mono HBB.size)
    have B1 := BX.below hbl BX.lt
    by_cases hlt : k < n
    · obtain ⟨b, o, x, y, rfl, hb, hz, hin1, hin2, hc1, hc2⟩ := (h.below (Nat.le_refl _) hbel).at_ hlt
      by_cases hx : x = 0
      · subst hx
        have f1 := lat_cell hb hc1
        have f2 := lat_cell hb hc2
        have g0 := lat_cell B1.lt (B1.cell (j := 0) rfl)
        have g1 := lat_cell B1.lt (B1.cell (j := 1) rfl)
        have g2 := lat_cell B1.lt (B1.cell (j := 2) rfl)
        have g3 := lat_cell B1.lt (B1.cell (j := 3) rfl)
        have g4 := lat_cell B1.lt (B1.cell (j := 4) rfl)
        have g5 := lat_cell B1.lt (B1.cell (j := 5) rfl)
        have HC1 : Hid (∀ p : Lat wr, Calls Try.prog 93 #[.agg #[.int .i64 wd, .slice a1 n1 c1, .slice a2 n2 c2, .int .i64 tp, .slice a3 n3 c3, .slice a4 n4 c4]] p.wd fun e w' => e = .returned (.int .i64 (S : Int)) ∧ Below p.wd.heap.size p.wd w') := Lib.hid (fun p => HC0.out p.wd)
        by_cases hy : y < (S : Int)
        · have hd : decide (y ≥ (S : Int)) = false := by simp; omega
          have HF := Lib.hid (show nameOk S V n3 (0, y) = true by unfold nameOk; rw [if_pos rfl]; exact decide_eq_true hy)
          go_wp2
          refine wp_region_lat (by kernel_rfl) (by kernel_rfl) ?_
          repeat (go_big_quiet_step ((go_at_call 93; exact lat_calls (HC1.out _))))
          refine wpQuiet_nil ?_
          intro _ hw'
          obtain ⟨⟨wq, hwq⟩, hw''⟩ := hw'
          subst hw''
          have ht := hbl.trans (hwq.mono hbl.size)
          have ht2 := HBB.trans (ht.mono HBB.size)
          clear f1 f2 g0 g1 g2 g3 g4 g5 HC1
          go_wp2
          go_roundw
          case rel => exact ⟨k + 1, by omega, by go_num, hg.succ hz HF.out, ht⟩
          case measure => simp [intOf]; omega
        · have hd : decide (y ≥ (S : Int)) = true := by simp; omega
          have HF := Lib.hid (show nameOk S V n3 (0, y) = false by unfold nameOk; rw [if_pos rfl]; exact decide_eq_false hy)
          go_wp2
          refine wp_region_lat (by kernel_rfl) (by kernel_rfl) ?_
          repeat (go_big_quiet_step ((go_at_call 93; exact lat_calls (HC1.out _))))
          refine wpQuiet_nil ?_
          intro _ hw'
          obtain ⟨⟨wq, hwq⟩, hw''⟩ := hw'
          subst hw''
          have ht := hbl.trans (hwq.mono hbl.size)
          have ht2 := HBB.trans (ht.mono HBB.size)
          clear f1 f2 g0 g1 g2 g3 g4 g5 HC1
          go_wp2
          go_ret
          exact ⟨ret_bool (by unfold namesB; rw [all_bad (by rw [HL.out]; exact hlt) hz HF.out, Bool.and_false]), ht2⟩
      by_cases hx1 : x = 1
      · clear hx
        have hx := hx1
        clear hx1
        subst hx
        have n0 : ((1 : Int) == 0) = false := rfl
        have f1 := lat_cell hb hc1
        have f2 := lat_cell hb hc2
        have g0 := lat_cell B1.lt (B1.cell (j := 0) rfl)
        have g1 := lat_cell B1.lt (B1.cell (j := 1) rfl)
        have g2 := lat_cell B1.lt (B1.cell (j := 2) rfl)
        have g3 := lat_cell B1.lt (B1.cell (j := 3) rfl)
        have g4 := lat_cell B1.lt (B1.cell (j := 4) rfl)
        have g5 := lat_cell B1.lt (B1.cell (j := 5) rfl)
        have HC1 : Hid (∀ p : Lat wr, Calls Try.prog 129 #[.agg #[.int .i64 wd, .slice a1 n1 c1, .slice a2 n2 c2, .int .i64 tp, .slice a3 n3 c3, .slice a4 n4 c4]] p.wd fun e w' => e = .returned (.int .i64 (V : Int)) ∧ Below p.wd.heap.size p.wd w') := Lib.hid (fun p => HV0.out p.wd)
        by_cases hy : y < (V : Int)
        · have hd : decide (y ≥ (V : Int)) = false := by simp; omega
          have HF := Lib.hid (show nameOk S V n3 (1, y) = true by unfold nameOk; rw [if_neg (by simp), if_pos rfl]; exact decide_eq_true hy)
          go_wp2
          refine wp_region_lat (by kernel_rfl) (by kernel_rfl) ?_
          repeat (go_big_quiet_step ((go_at_call 129; exact lat_calls (HC1.out _))))
          refine wpQuiet_nil ?_
          intro _ hw'
          obtain ⟨⟨wq, hwq⟩, hw''⟩ := hw'
          subst hw''
          have ht := hbl.trans (hwq.mono hbl.size)
          have ht2 := HBB.trans (ht.mono HBB.size)
          clear f1 f2 g0 g1 g2 g3 g4 g5 HC1
          go_wp2
          go_roundw
          case rel => exact ⟨k + 1, by omega, by go_num, hg.succ hz HF.out, ht⟩
          case measure => simp [intOf]; omega
        · have hd : decide (y ≥ (V : Int)) = true := by simp; omega
          have HF := Lib.hid (show nameOk S V n3 (1, y) = false by unfold nameOk; rw [if_neg (by simp), if_pos rfl]; exact decide_eq_false hy)
          go_wp2
          refine wp_region_lat (by kernel_rfl) (by kernel_rfl) ?_
          repeat (go_big_quiet_step ((go_at_call 129; exact lat_calls (HC1.out _))))
          refine wpQuiet_nil ?_
          intro _ hw'
          obtain ⟨⟨wq, hwq⟩, hw''⟩ := hw'
          subst hw''
          have ht := hbl.trans (hwq.mono hbl.size)
          have ht2 := HBB.trans (ht.mono HBB.size)
          clear f1 f2 g0 g1 g2 g3 g4 g5 HC1
          go_wp2
          go_ret
          exact ⟨ret_bool (by unfold namesB; rw [all_bad (by rw [HL.out]; exact hlt) hz HF.out, Bool.and_false]), ht2⟩
      by_cases hx2 : x = 2
      · clear hx hx1
        have hx := hx2
        clear hx2
        subst hx
        have n0 : ((2 : Int) == 0) = false := rfl
        have n1 : ((2 : Int) == 1) = false := rfl
        have f1 := lat_cell hb hc1
        have f2 := lat_cell hb hc2
        have g0 := lat_cell B1.lt (B1.cell (j := 0) rfl)
        have g1 := lat_cell B1.lt (B1.cell (j := 1) rfl)
        have g2 := lat_cell B1.lt (B1.cell (j := 2) rfl)
        have g3 := lat_cell B1.lt (B1.cell (j := 3) rfl)
        have g4 := lat_cell B1.lt (B1.cell (j := 4) rfl)
        have g5 := lat_cell B1.lt (B1.cell (j := 5) rfl)
        by_cases hy : y < (n3 : Int)
        · have hd : decide (y ≥ (n3 : Int)) = false := by simp; omega
          have HF := Lib.hid (show nameOk S V n3 (2, y) = true by unfold nameOk; rw [if_neg (by simp), if_neg (by simp), if_pos rfl]; exact decide_eq_true hy)
          go_wp2
          refine wp_region_lat (by kernel_rfl) (by kernel_rfl) ?_
          repeat (go_big_quiet_step ((fail)))
          refine wpQuiet_nil ?_
          intro _ hw'
          obtain ⟨⟨wq, hwq⟩, hw''⟩ := hw'
          subst hw''
          have ht := hbl.trans (hwq.mono hbl.size)
          have ht2 := HBB.trans (ht.mono HBB.size)
          clear f1 f2 g0 g1 g2 g3 g4 g5
          go_wp2
          go_roundw
          case rel => exact ⟨k + 1, by omega, by go_num, hg.succ hz HF.out, ht⟩
          case measure => simp [intOf]; omega
        · have hd : decide (y ≥ (n3 : Int)) = true := by simp; omega
          have HF := Lib.hid (show nameOk S V n3 (2, y) = false by unfold nameOk; rw [if_neg (by simp), if_neg (by simp), if_pos rfl]; exact decide_eq_false hy)
          go_wp2
          refine wp_region_lat (by kernel_rfl) (by kernel_rfl) ?_
          repeat (go_big_quiet_step ((fail)))
          refine wpQuiet_nil ?_
          intro _ hw'
          obtain ⟨⟨wq, hwq⟩, hw''⟩ := hw'
          subst hw''
          have ht := hbl.trans (hwq.mono hbl.size)
          have ht2 := HBB.trans (ht.mono HBB.size)
          clear f1 f2 g0 g1 g2 g3 g4 g5
          go_wp2
          go_ret
          exact ⟨ret_bool (by unfold namesB; rw [all_bad (by rw [HL.out]; exact hlt) hz HF.out, Bool.and_false]), ht2⟩
      have n0 : (x == 0) = false := by simpa using hx
      have n1 : (x == 1) = false := by simpa using hx1
      have n2 : (x == 2) = false := by simpa using hx2
      have HF := Lib.hid (show nameOk S V n3 (x, y) = true by unfold nameOk; rw [if_neg hx, if_neg hx1, if_neg hx2])
      clear hc2
      go_wp2
      go_roundw
      case rel => exact ⟨k + 1, by omega, by go_num, hg.succ hz HF.out, hbl⟩
      case measure => simp [intOf]; omega
    · obtain rfl : n = k := by omega
      go_wp2
      go_ret
      exact ⟨ret_bool (by unfold namesB; rw [HE.out, allTo_all (by rw [HL.out]; exact hg)]; rfl), hbel⟩
set_option maxHeartbeats 1600000 in
theorem l3Exp_any (r : PRow) (W I T A : Nat) (a : Option Addr) (n c : Nat) (ts : List Tm) (w : World) (hr : Lim r W I T A) (h : Terms w a n ts) :
    Calls Try.prog 60 #[progV r, .slice a n c] w fun e w' => e = .returned (.bool (bodyB (2 ^ W) (I + T) A ts)) ∧ Below w.heap.size w w' := by
  have HN0 : Hid (∀ w' : World, Terms w' a n ts → Calls Try.prog 107 #[progV r, .slice a n c] w' fun e w'' => e = .returned (.bool (namesB (2 ^ W) (I + T) A ts)) ∧ Below w'.heap.size w' w'') := Lib.hid (fun w' h' => l3Names_any r W I T A a n c ts w' hr h')
  obtain ⟨wd, ⟨a1, n1, c1⟩, ⟨a2, n2, c2⟩, tp, ⟨a3, n3, c3⟩, ⟨a4, n4, c4⟩, rows⟩ := r
  clear hr
  obtain ⟨E, HE⟩ : ∃ E, Hid (namesB (2 ^ W) (I + T) A ts = E) := ⟨_, rfl⟩
  obtain ⟨F, HF⟩ : ∃ F, Hid (bodyB (2 ^ W) (I + T) A ts = F) := ⟨_, rfl⟩
  have hF : F = (ts.all (fun t => t.1 != 17) && (decide (n ≤ 40) && E)) := by rw [← HF.out, ← HE.out, bodyB, h.1]
  have HFF := Lib.hid hF
  simp only [HE.out, HF.out] at HN0 ⊢
  clear hF HE HF
  show Calls Try.prog 60 #[.agg #[.int .i64 wd, .slice a1 n1 c1, .slice a2 n2 c2, .int .i64 tp, .slice a3 n3 c3, .slice a4 n4 c4], .slice a n c] w _
  have HN1 : Hid (∀ w' : World, Terms w' a n ts → Calls Try.prog 107 #[.agg #[.int .i64 wd, .slice a1 n1 c1, .slice a2 n2 c2, .int .i64 tp, .slice a3 n3 c3, .slice a4 n4 c4], .slice a n c] w' fun e w'' => e = .returned (.bool E) ∧ Below w'.heap.size w' w'') := HN0
  clear HN0
  have HL := Lib.hid h.1
  have hbd := h.2.1
  have HB : Below w.heap.size w (w.alloc (.cells #[.int .i64 wd, .slice a1 n1 c1, .slice a2 n2 c2, .int .i64 tp, .slice a3 n3 c3, .slice a4 n4 c4] 28)) := (Below.refl _ _).alloc (Nat.le_refl _) _
  have HT := Lib.hid (h.below (Nat.le_refl _) HB)
  clear h
  go_enter Try.func60, Try.ntmps60
  go_wp2
  go_loop [5] (fun i => ∃ k : Nat, k ≤ n ∧ i = .int .i64 (k : Int) ∧ AllTo (fun t => t.1 != 17) ts k) (fun i => n - (intOf i).toNat)
  case atStart => exact ⟨0, Nat.zero_le _, rfl, AllTo.zero _ _⟩
  case round =>
    obtain ⟨k, hk, rfl, hg⟩ := hrel
    by_cases hlt : k < n
    · obtain ⟨b, o, x, y, rfl, hb, hz, hin1, hin2, hc1, hc2⟩ := HT.out.at_ hlt
      clear hc2
      by_cases hx : x = 17
      · have hne : (x == 17) = true := by simpa using hx
        have HQ := Lib.hid (show (fun t : Tm => t.1 != 17) (x, y) = false by simp [hx])
        clear hx
        go_wp2
        go_ret
        exact ⟨ret_bool (by rw [HFF.out, all_bad (by rw [HL.out]; exact hlt) hz HQ.out, Bool.false_and]), HB⟩
      · have hne : (x == 17) = false := by simpa using hx
        have HQ := Lib.hid (show (fun t : Tm => t.1 != 17) (x, y) = true by simp [hx])
        clear hx
        go_wp2
        go_round
        case rel => exact ⟨k + 1, by omega, by go_num, hg.succ hz HQ.out⟩
        case measure => simp [intOf]; omega
    · obtain rfl : n = k := by omega
      have HA := Lib.hid (allTo_all (f := fun t => t.1 != 17) (by rw [HL.out]; exact hg))
      by_cases h40 : n ≤ 40
      · have hd : decide ((n : Int) ≤ 40) = true := by simp; omega
        go_wp2_with fail
        refine (HN1.out _ HT.out).mono ?_
        rintro e w1 ⟨rfl, hb1⟩
        have hbel := HB.trans (hb1.mono HB.size)
        go_wp2
        go_ret
        exact ⟨ret_bool (by rw [HFF.out, HA.out, decide_eq_true h40, Bool.true_and, Bool.true_and]), hbel⟩
      · have hd : decide ((n : Int) ≤ 40) = false := by simp; omega
        go_wp2
        go_ret
        exact ⟨ret_bool (by rw [HFF.out, HA.out, decide_eq_false h40, Bool.true_and, Bool.false_and]), HB⟩
end Go.Proofs.Ytmooecbdpfhnlaa
/- The contract of the model's l3Stmt (written by tools/gen_specstmt.py). -/
namespace Go.Proofs.Ytmooecbdpfhnlaa
open Go.RowKit

/-- Which statements bear an expression. -/
def bears (op : Int) : Bool := op == 0 || op == 1 || op == 2 || op == 6
/-- The number that a statement may bear. -/
def numOk (I T A : Nat) (op n : Int) : Bool :=
  if op = 0 then decide ((I : Int) ≤ n) && decide (n ≤ (I : Int) + (T : Int) - 1)
  else if op = 1 then decide (0 ≤ n) && decide (n ≤ (A : Int) - 1)
  else if op = 5 then decide (0 ≤ n) && decide (n ≤ 4)
  else if op = 7 ∨ op = 9 then decide (0 ≤ n) && decide (n ≤ 9)
  else n == 0
/-- A right statement, nesting apart. -/
def stmtB (S I T A : Nat) (s : Stm) : Bool :=
  (decide (0 ≤ s.op) && decide (s.op ≤ 9)) && (bears s.op == decide (0 < s.exp.length)) && ((s.op == 1) == decide (0 < s.at_.length)) &&
  (!bears s.op || bodyB S (I + T) A s.exp) && (!(s.op == 1) || bodyB S (I + T) A s.at_) && numOk I T A s.op s.n

set_option maxHeartbeats 1600000 in
theorem l3Stmt_plain (x : Int) (hx : x = 3 ∨ x = 4 ∨ x = 8) (y wd : Int) (a1 a2 a3 a4 b1 b2 : Option Addr) (n1 n2 n4 m1 m2 c1 c2 c3 c4 d1 d2 W T A : Nat) (rows : List SRow) (ts us : List Tm) (w : World)
    (hr : Lim ⟨wd, (a1, n1, c1), (a2, n2, c2), (T : Int), (a3, A, c3), (a4, n4, c4), rows⟩ W (n1 + n2) T A) (h1 : Terms w b1 m1 ts) (h2 : Terms w b2 m2 us) :
    Calls Try.prog 95 #[.agg #[.int .i64 wd, .slice a1 n1 c1, .slice a2 n2 c2, .int .i64 (T : Int), .slice a3 A c3, .slice a4 n4 c4], .agg #[.int .i64 x, .int .i64 y, .slice b1 m1 d1, .slice b2 m2 d2]] w fun e w' => e = .returned (.bool (stmtB (2 ^ W) (n1 + n2) T A ⟨x, y, ts, us⟩)) ∧ Below w.heap.size w w' := by
  have HX : Hid (∀ (w' : World) (a : Option Addr) (n c : Nat) (vs : List Tm), Terms w' a n vs → Calls Try.prog 60 #[.agg #[.int .i64 wd, .slice a1 n1 c1, .slice a2 n2 c2, .int .i64 (T : Int), .slice a3 A c3, .slice a4 n4 c4], .slice a n c] w' fun e w'' => e = .returned (.bool (bodyB (2 ^ W) (n1 + n2 + T) A vs)) ∧ Below w'.heap.size w' w'') := Lib.hid (fun w' a n c vs h' => l3Exp_any ⟨wd, (a1, n1, c1), (a2, n2, c2), (T : Int), (a3, A, c3), (a4, n4, c4), rows⟩ W (n1 + n2) T A a n c vs w' hr h')
  have hI := hr.few
  have hT := hr.fewT
  have hA := hr.fewA
  have hm1 := h1.2.1
  have hm2 := h2.2.1
  have L1 := Lib.hid h1.1
  have L2 := Lib.hid h2.1
  clear hr
  have k0 : (x == 0) = false := by simp; omega
  have k1 : (x == 1) = false := by simp; omega
  have k2 : (x == 2) = false := by simp; omega
  have k6 : (x == 6) = false := by simp; omega
  have k5 : (x == 5) = false := by simp; omega
  have k7 : (x == 7) = false := by simp; omega
  have k9 : (x == 9) = false := by simp; omega
  have hin : (decide (0 ≤ x) && decide (x ≤ 9)) = true := by simp; omega
  have hput : (x == 1) = false := k1
  have hbears : bears x = false := by simp only [bears, k0, k1, k2, k6, Bool.or_self]
  have hnum : numOk (n1 + n2) T A x y = (y == 0) := by unfold numOk; rw [if_neg (by omega), if_neg (by omega), if_neg (by omega), if_neg (by omega)]
  obtain ⟨R, HR⟩ : ∃ R, Hid (stmtB (2 ^ W) (n1 + n2) T A ⟨x, y, ts, us⟩ = R) := ⟨_, rfl⟩
  obtain ⟨X1, HX1⟩ : ∃ X1, Hid (bodyB (2 ^ W) (n1 + n2 + T) A ts = X1) := ⟨_, rfl⟩
  obtain ⟨X2, HX2⟩ : ∃ X2, Hid (bodyB (2 ^ W) (n1 + n2 + T) A us = X2) := ⟨_, rfl⟩
  have hR := HR.out
  simp only [stmtB, L1.out, L2.out, HX1.out, HX2.out] at hR
  rw [hin, hbears, hput, hnum] at hR
  have HRR := Lib.hid hR
  clear hR
  simp only [HR.out]
  clear HR
  obtain ⟨wa, HW⟩ : ∃ wa, Hid (wa = (w.alloc (.cells #[.int .i64 wd, .slice a1 n1 c1, .slice a2 n2 c2, .int .i64 (T : Int), .slice a3 A c3, .slice a4 n4 c4] 28)).alloc (.cells #[.int .i64 x, .int .i64 y, .slice b1 m1 d1, .slice b2 m2 d2] 46)) := ⟨_, rfl⟩
  have B0 : Blk wa w.heap.size 28 [.int .i64 wd, .slice a1 n1 c1, .slice a2 n2 c2, .int .i64 (T : Int), .slice a3 A c3, .slice a4 n4 c4] := by rw [HW.out]; exact (Blk.new w _ _).alloc _
  have B1 : Blk wa (w.heap.size + 1) 46 [.int .i64 x, .int .i64 y, .slice b1 m1 d1, .slice b2 m2 d2] := by rw [HW.out]; simpa using Blk.new (w.alloc _) 46 [.int .i64 x, .int .i64 y, .slice b1 m1 d1, .slice b2 m2 d2]
  have HB : Below w.heap.size w wa := by rw [HW.out]; exact ((Below.refl _ _).alloc (Nat.le_refl _) _).alloc (by simp) _
  go_enter Try.func95, Try.ntmps95
  by_cases hp2 : 0 < m2
  · have hd2 : decide ((m2 : Int) > 0) = true := by simp; omega
    go_wp2_with (go_at_call 45; refine (in_any _ _ _ _).mono ?_; rintro e w' ⟨rfl, rfl⟩; try rw [hin])
    go_ret
    exact ⟨ret_bool (by rw [← HRR.out, decide_eq_true hp2]; simp), by rw [← HW.out]; exact HB⟩
  · by_cases hp1 : 0 < m1
    · have hd2 : decide ((m2 : Int) > 0) = false := by simp; omega
      have hd1 : decide ((m1 : Int) > 0) = true := by simp; omega
      go_wp2_with (go_at_call 45; refine (in_any _ _ _ _).mono ?_; rintro e w' ⟨rfl, rfl⟩; try rw [hin])
      go_ret
      exact ⟨ret_bool (by rw [← HRR.out, decide_eq_false hp2, decide_eq_true hp1]; simp), by rw [← HW.out]; exact HB⟩
    · have hd2 : decide ((m2 : Int) > 0) = false := by simp; omega
      have hd1 : decide ((m1 : Int) > 0) = false := by simp; omega
      go_wp2_with (go_at_call 45; refine (in_any _ _ _ _).mono ?_; rintro e w' ⟨rfl, rfl⟩; try rw [hin])
      go_ret
      exact ⟨ret_bool (by rw [← HRR.out, decide_eq_false hp2, decide_eq_false hp1]; simp), by rw [← HW.out]; exact HB⟩
set_option maxHeartbeats 1600000 in
theorem l3Stmt_out (x : Int) (hx : x < 0 ∨ 9 < x) (y wd : Int) (a1 a2 a3 a4 b1 b2 : Option Addr) (n1 n2 n4 m1 m2 c1 c2 c3 c4 d1 d2 W T A : Nat) (rows : List SRow) (ts us : List Tm) (w : World)
    (hr : Lim ⟨wd, (a1, n1, c1), (a2, n2, c2), (T : Int), (a3, A, c3), (a4, n4, c4), rows⟩ W (n1 + n2) T A) (h1 : Terms w b1 m1 ts) (h2 : Terms w b2 m2 us) :
    Calls Try.prog 95 #[.agg #[.int .i64 wd, .slice a1 n1 c1, .slice a2 n2 c2, .int .i64 (T : Int), .slice a3 A c3, .slice a4 n4 c4], .agg #[.int .i64 x, .int .i64 y, .slice b1 m1 d1, .slice b2 m2 d2]] w fun e w' => e = .returned (.bool (stmtB (2 ^ W) (n1 + n2) T A ⟨x, y, ts, us⟩)) ∧ Below w.heap.size w w' := by
  have HX : Hid (∀ (w' : World) (a : Option Addr) (n c : Nat) (vs : List Tm), Terms w' a n vs → Calls Try.prog 60 #[.agg #[.int .i64 wd, .slice a1 n1 c1, .slice a2 n2 c2, .int .i64 (T : Int), .slice a3 A c3, .slice a4 n4 c4], .slice a n c] w' fun e w'' => e = .returned (.bool (bodyB (2 ^ W) (n1 + n2 + T) A vs)) ∧ Below w'.heap.size w' w'') := Lib.hid (fun w' a n c vs h' => l3Exp_any ⟨wd, (a1, n1, c1), (a2, n2, c2), (T : Int), (a3, A, c3), (a4, n4, c4), rows⟩ W (n1 + n2) T A a n c vs w' hr h')
  have hI := hr.few
  have hT := hr.fewT
  have hA := hr.fewA
  have hm1 := h1.2.1
  have hm2 := h2.2.1
  have L1 := Lib.hid h1.1
  have L2 := Lib.hid h2.1
  clear hr
  have k0 : (x == 0) = false := by simp; omega
  have k1 : (x == 1) = false := by simp; omega
  have k2 : (x == 2) = false := by simp; omega
  have k6 : (x == 6) = false := by simp; omega
  have hin : (decide (0 ≤ x) && decide (x ≤ 9)) = false := by rw [← Bool.not_eq_true]; simp; omega
  have hput : (x == 1) = false := k1
  have hbears : bears x = false := by simp only [bears, k0, k1, k2, k6, Bool.or_self]
  obtain ⟨Y, hnum⟩ : ∃ Y, numOk (n1 + n2) T A x y = Y := ⟨_, rfl⟩
  obtain ⟨R, HR⟩ : ∃ R, Hid (stmtB (2 ^ W) (n1 + n2) T A ⟨x, y, ts, us⟩ = R) := ⟨_, rfl⟩
  obtain ⟨X1, HX1⟩ : ∃ X1, Hid (bodyB (2 ^ W) (n1 + n2 + T) A ts = X1) := ⟨_, rfl⟩
  obtain ⟨X2, HX2⟩ : ∃ X2, Hid (bodyB (2 ^ W) (n1 + n2 + T) A us = X2) := ⟨_, rfl⟩
  have hR := HR.out
  simp only [stmtB, L1.out, L2.out, HX1.out, HX2.out] at hR
  rw [hin, hbears, hput, hnum] at hR
  have HRR := Lib.hid hR
  clear hR
  simp only [HR.out]
  clear HR
  obtain ⟨wa, HW⟩ : ∃ wa, Hid (wa = (w.alloc (.cells #[.int .i64 wd, .slice a1 n1 c1, .slice a2 n2 c2, .int .i64 (T : Int), .slice a3 A c3, .slice a4 n4 c4] 28)).alloc (.cells #[.int .i64 x, .int .i64 y, .slice b1 m1 d1, .slice b2 m2 d2] 46)) := ⟨_, rfl⟩
  have B0 : Blk wa w.heap.size 28 [.int .i64 wd, .slice a1 n1 c1, .slice a2 n2 c2, .int .i64 (T : Int), .slice a3 A c3, .slice a4 n4 c4] := by rw [HW.out]; exact (Blk.new w _ _).alloc _
  have B1 : Blk wa (w.heap.size + 1) 46 [.int .i64 x, .int .i64 y, .slice b1 m1 d1, .slice b2 m2 d2] := by rw [HW.out]; simpa using Blk.new (w.alloc _) 46 [.int .i64 x, .int .i64 y, .slice b1 m1 d1, .slice b2 m2 d2]
  have HB : Below w.heap.size w wa := by rw [HW.out]; exact ((Below.refl _ _).alloc (Nat.le_refl _) _).alloc (by simp) _
  go_enter Try.func95, Try.ntmps95
  go_wp2_with (go_at_call 45; refine (in_any _ _ _ _).mono ?_; rintro e w' ⟨rfl, rfl⟩; try rw [hin])
  go_ret
  exact ⟨ret_bool (by rw [← HRR.out]; simp), by rw [← HW.out]; exact HB⟩
set_option maxHeartbeats 1600000 in
theorem l3Stmt_5 (y wd : Int) (a1 a2 a3 a4 b1 b2 : Option Addr) (n1 n2 n4 m1 m2 c1 c2 c3 c4 d1 d2 W T A : Nat) (rows : List SRow) (ts us : List Tm) (w : World)
    (hr : Lim ⟨wd, (a1, n1, c1), (a2, n2, c2), (T : Int), (a3, A, c3), (a4, n4, c4), rows⟩ W (n1 + n2) T A) (h1 : Terms w b1 m1 ts) (h2 : Terms w b2 m2 us) :
    Calls Try.prog 95 #[.agg #[.int .i64 wd, .slice a1 n1 c1, .slice a2 n2 c2, .int .i64 (T : Int), .slice a3 A c3, .slice a4 n4 c4], .agg #[.int .i64 5, .int .i64 y, .slice b1 m1 d1, .slice b2 m2 d2]] w fun e w' => e = .returned (.bool (stmtB (2 ^ W) (n1 + n2) T A ⟨5, y, ts, us⟩)) ∧ Below w.heap.size w w' := by
  have HX : Hid (∀ (w' : World) (a : Option Addr) (n c : Nat) (vs : List Tm), Terms w' a n vs → Calls Try.prog 60 #[.agg #[.int .i64 wd, .slice a1 n1 c1, .slice a2 n2 c2, .int .i64 (T : Int), .slice a3 A c3, .slice a4 n4 c4], .slice a n c] w' fun e w'' => e = .returned (.bool (bodyB (2 ^ W) (n1 + n2 + T) A vs)) ∧ Below w'.heap.size w' w'') := Lib.hid (fun w' a n c vs h' => l3Exp_any ⟨wd, (a1, n1, c1), (a2, n2, c2), (T : Int), (a3, A, c3), (a4, n4, c4), rows⟩ W (n1 + n2) T A a n c vs w' hr h')
  have hI := hr.few
  have hT := hr.fewT
  have hA := hr.fewA
  have hm1 := h1.2.1
  have hm2 := h2.2.1
  have L1 := Lib.hid h1.1
  have L2 := Lib.hid h2.1
  clear hr
  have hin : (decide ((0 : Int) ≤ 5) && decide ((5 : Int) ≤ 9)) = true := rfl
  have hput : ((5 : Int) == 1) = false := rfl
  have hbears : bears 5 = false := rfl
  have hnum : numOk (n1 + n2) T A 5 y = (decide (0 ≤ y) && decide (y ≤ 4)) := rfl
  obtain ⟨R, HR⟩ : ∃ R, Hid (stmtB (2 ^ W) (n1 + n2) T A ⟨5, y, ts, us⟩ = R) := ⟨_, rfl⟩
  obtain ⟨X1, HX1⟩ : ∃ X1, Hid (bodyB (2 ^ W) (n1 + n2 + T) A ts = X1) := ⟨_, rfl⟩
  obtain ⟨X2, HX2⟩ : ∃ X2, Hid (bodyB (2 ^ W) (n1 + n2 + T) A us = X2) := ⟨_, rfl⟩
  have hR := HR.out
  simp only [stmtB, L1.out, L2.out, HX1.out, HX2.out] at hR
  rw [hin, hbears, hput, hnum] at hR
  have HRR := Lib.hid hR
  clear hR
  simp only [HR.out]
  clear HR
  obtain ⟨wa, HW⟩ : ∃ wa, Hid (wa = (w.alloc (.cells #[.int .i64 wd, .slice a1 n1 c1, .slice a2 n2 c2, .int .i64 (T : Int), .slice a3 A c3, .slice a4 n4 c4] 28)).alloc (.cells #[.int .i64 5, .int .i64 y, .slice b1 m1 d1, .slice b2 m2 d2] 46)) := ⟨_, rfl⟩
  have B0 : Blk wa w.heap.size 28 [.int .i64 wd, .slice a1 n1 c1, .slice a2 n2 c2, .int .i64 (T : Int), .slice a3 A c3, .slice a4 n4 c4] := by rw [HW.out]; exact (Blk.new w _ _).alloc _
  have B1 : Blk wa (w.heap.size + 1) 46 [.int .i64 5, .int .i64 y, .slice b1 m1 d1, .slice b2 m2 d2] := by rw [HW.out]; simpa using Blk.new (w.alloc _) 46 [.int .i64 5, .int .i64 y, .slice b1 m1 d1, .slice b2 m2 d2]
  have HB : Below w.heap.size w wa := by rw [HW.out]; exact ((Below.refl _ _).alloc (Nat.le_refl _) _).alloc (by simp) _
  go_enter Try.func95, Try.ntmps95
  by_cases hp2 : 0 < m2
  · have hd2 : decide ((m2 : Int) > 0) = true := by simp; omega
    go_wp2_with (go_at_call 45; refine (in_any _ _ _ _).mono ?_; rintro e w' ⟨rfl, rfl⟩; try rw [hin])
    go_ret
    exact ⟨ret_bool (by rw [← HRR.out, decide_eq_true hp2]; simp), by rw [← HW.out]; exact HB⟩
  · by_cases hp1 : 0 < m1
    · have hd2 : decide ((m2 : Int) > 0) = false := by simp; omega
      have hd1 : decide ((m1 : Int) > 0) = true := by simp; omega
      go_wp2_with (go_at_call 45; refine (in_any _ _ _ _).mono ?_; rintro e w' ⟨rfl, rfl⟩; try rw [hin])
      go_ret
      exact ⟨ret_bool (by rw [← HRR.out, decide_eq_false hp2, decide_eq_true hp1]; simp), by rw [← HW.out]; exact HB⟩
    · have hd2 : decide ((m2 : Int) > 0) = false := by simp; omega
      have hd1 : decide ((m1 : Int) > 0) = false := by simp; omega
      go_wp2_with (go_at_call 45; refine (in_any _ _ _ _).mono ?_; rintro e w' ⟨rfl, rfl⟩; try rw [hin])
      go_ret
      exact ⟨ret_bool (by rw [← HRR.out, decide_eq_false hp2, decide_eq_false hp1]; simp), by rw [← HW.out]; exact HB⟩
set_option maxHeartbeats 1600000 in
theorem l3Stmt_7 (y wd : Int) (a1 a2 a3 a4 b1 b2 : Option Addr) (n1 n2 n4 m1 m2 c1 c2 c3 c4 d1 d2 W T A : Nat) (rows : List SRow) (ts us : List Tm) (w : World)
    (hr : Lim ⟨wd, (a1, n1, c1), (a2, n2, c2), (T : Int), (a3, A, c3), (a4, n4, c4), rows⟩ W (n1 + n2) T A) (h1 : Terms w b1 m1 ts) (h2 : Terms w b2 m2 us) :
    Calls Try.prog 95 #[.agg #[.int .i64 wd, .slice a1 n1 c1, .slice a2 n2 c2, .int .i64 (T : Int), .slice a3 A c3, .slice a4 n4 c4], .agg #[.int .i64 7, .int .i64 y, .slice b1 m1 d1, .slice b2 m2 d2]] w fun e w' => e = .returned (.bool (stmtB (2 ^ W) (n1 + n2) T A ⟨7, y, ts, us⟩)) ∧ Below w.heap.size w w' := by
  have HX : Hid (∀ (w' : World) (a : Option Addr) (n c : Nat) (vs : List Tm), Terms w' a n vs → Calls Try.prog 60 #[.agg #[.int .i64 wd, .slice a1 n1 c1, .slice a2 n2 c2, .int .i64 (T : Int), .slice a3 A c3, .slice a4 n4 c4], .slice a n c] w' fun e w'' => e = .returned (.bool (bodyB (2 ^ W) (n1 + n2 + T) A vs)) ∧ Below w'.heap.size w' w'') := Lib.hid (fun w' a n c vs h' => l3Exp_any ⟨wd, (a1, n1, c1), (a2, n2, c2), (T : Int), (a3, A, c3), (a4, n4, c4), rows⟩ W (n1 + n2) T A a n c vs w' hr h')
  have hI := hr.few
  have hT := hr.fewT
  have hA := hr.fewA
  have hm1 := h1.2.1
  have hm2 := h2.2.1
  have L1 := Lib.hid h1.1
  have L2 := Lib.hid h2.1
  clear hr
  have hin : (decide ((0 : Int) ≤ 7) && decide ((7 : Int) ≤ 9)) = true := rfl
  have hput : ((7 : Int) == 1) = false := rfl
  have hbears : bears 7 = false := rfl
  have hnum : numOk (n1 + n2) T A 7 y = (decide (0 ≤ y) && decide (y ≤ 9)) := rfl
  obtain ⟨R, HR⟩ : ∃ R, Hid (stmtB (2 ^ W) (n1 + n2) T A ⟨7, y, ts, us⟩ = R) := ⟨_, rfl⟩
  obtain ⟨X1, HX1⟩ : ∃ X1, Hid (bodyB (2 ^ W) (n1 + n2 + T) A ts = X1) := ⟨_, rfl⟩
  obtain ⟨X2, HX2⟩ : ∃ X2, Hid (bodyB (2 ^ W) (n1 + n2 + T) A us = X2) := ⟨_, rfl⟩
  have hR := HR.out
  simp only [stmtB, L1.out, L2.out, HX1.out, HX2.out] at hR
  rw [hin, hbears, hput, hnum] at hR
  have HRR := Lib.hid hR
  clear hR
  simp only [HR.out]
  clear HR
  obtain ⟨wa, HW⟩ : ∃ wa, Hid (wa = (w.alloc (.cells #[.int .i64 wd, .slice a1 n1 c1, .slice a2 n2 c2, .int .i64 (T : Int), .slice a3 A c3, .slice a4 n4 c4] 28)).alloc (.cells #[.int .i64 7, .int .i64 y, .slice b1 m1 d1, .slice b2 m2 d2] 46)) := ⟨_, rfl⟩
  have B0 : Blk wa w.heap.size 28 [.int .i64 wd, .slice a1 n1 c1, .slice a2 n2 c2, .int .i64 (T : Int), .slice a3 A c3, .slice a4 n4 c4] := by rw [HW.out]; exact (Blk.new w _ _).alloc _
  have B1 : Blk wa (w.heap.size + 1) 46 [.int .i64 7, .int .i64 y, .slice b1 m1 d1, .slice b2 m2 d2] := by rw [HW.out]; simpa using Blk.new (w.alloc _) 46 [.int .i64 7, .int .i64 y, .slice b1 m1 d1, .slice b2 m2 d2]
  have HB : Below w.heap.size w wa := by rw [HW.out]; exact ((Below.refl _ _).alloc (Nat.le_refl _) _).alloc (by simp) _
  go_enter Try.func95, Try.ntmps95
  by_cases hp2 : 0 < m2
  · have hd2 : decide ((m2 : Int) > 0) = true := by simp; omega
    go_wp2_with (go_at_call 45; refine (in_any _ _ _ _).mono ?_; rintro e w' ⟨rfl, rfl⟩; try rw [hin])
    go_ret
    exact ⟨ret_bool (by rw [← HRR.out, decide_eq_true hp2]; simp), by rw [← HW.out]; exact HB⟩
  · by_cases hp1 : 0 < m1
    · have hd2 : decide ((m2 : Int) > 0) = false := by simp; omega
      have hd1 : decide ((m1 : Int) > 0) = true := by simp; omega
      go_wp2_with (go_at_call 45; refine (in_any _ _ _ _).mono ?_; rintro e w' ⟨rfl, rfl⟩; try rw [hin])
      go_ret
      exact ⟨ret_bool (by rw [← HRR.out, decide_eq_false hp2, decide_eq_true hp1]; simp), by rw [← HW.out]; exact HB⟩
    · have hd2 : decide ((m2 : Int) > 0) = false := by simp; omega
      have hd1 : decide ((m1 : Int) > 0) = false := by simp; omega
      go_wp2_with (go_at_call 45; refine (in_any _ _ _ _).mono ?_; rintro e w' ⟨rfl, rfl⟩; try rw [hin])
      go_ret
      exact ⟨ret_bool (by rw [← HRR.out, decide_eq_false hp2, decide_eq_false hp1]; simp), by rw [← HW.out]; exact HB⟩
set_option maxHeartbeats 1600000 in
theorem l3Stmt_9 (y wd : Int) (a1 a2 a3 a4 b1 b2 : Option Addr) (n1 n2 n4 m1 m2 c1 c2 c3 c4 d1 d2 W T A : Nat) (rows : List SRow) (ts us : List Tm) (w : World)
    (hr : Lim ⟨wd, (a1, n1, c1), (a2, n2, c2), (T : Int), (a3, A, c3), (a4, n4, c4), rows⟩ W (n1 + n2) T A) (h1 : Terms w b1 m1 ts) (h2 : Terms w b2 m2 us) :
    Calls Try.prog 95 #[.agg #[.int .i64 wd, .slice a1 n1 c1, .slice a2 n2 c2, .int .i64 (T : Int), .slice a3 A c3, .slice a4 n4 c4], .agg #[.int .i64 9, .int .i64 y, .slice b1 m1 d1, .slice b2 m2 d2]] w fun e w' => e = .returned (.bool (stmtB (2 ^ W) (n1 + n2) T A ⟨9, y, ts, us⟩)) ∧ Below w.heap.size w w' := by
  have HX : Hid (∀ (w' : World) (a : Option Addr) (n c : Nat) (vs : List Tm), Terms w' a n vs → Calls Try.prog 60 #[.agg #[.int .i64 wd, .slice a1 n1 c1, .slice a2 n2 c2, .int .i64 (T : Int), .slice a3 A c3, .slice a4 n4 c4], .slice a n c] w' fun e w'' => e = .returned (.bool (bodyB (2 ^ W) (n1 + n2 + T) A vs)) ∧ Below w'.heap.size w' w'') := Lib.hid (fun w' a n c vs h' => l3Exp_any ⟨wd, (a1, n1, c1), (a2, n2, c2), (T : Int), (a3, A, c3), (a4, n4, c4), rows⟩ W (n1 + n2) T A a n c vs w' hr h')
  have hI := hr.few
  have hT := hr.fewT
  have hA := hr.fewA
  have hm1 := h1.2.1
  have hm2 := h2.2.1
  have L1 := Lib.hid h1.1
  have L2 := Lib.hid h2.1
  clear hr
  have hin : (decide ((0 : Int) ≤ 9) && decide ((9 : Int) ≤ 9)) = true := rfl
  have hput : ((9 : Int) == 1) = false := rfl
  have hbears : bears 9 = false := rfl
  have hnum : numOk (n1 + n2) T A 9 y = (decide (0 ≤ y) && decide (y ≤ 9)) := rfl
  obtain ⟨R, HR⟩ : ∃ R, Hid (stmtB (2 ^ W) (n1 + n2) T A ⟨9, y, ts, us⟩ = R) := ⟨_, rfl⟩
  obtain ⟨X1, HX1⟩ : ∃ X1, Hid (bodyB (2 ^ W) (n1 + n2 + T) A ts = X1) := ⟨_, rfl⟩
  obtain ⟨X2, HX2⟩ : ∃ X2, Hid (bodyB (2 ^ W) (n1 + n2 + T) A us = X2) := ⟨_, rfl⟩
  have hR := HR.out
  simp only [stmtB, L1.out, L2.out, HX1.out, HX2.out] at hR
  rw [hin, hbears, hput, hnum] at hR
  have HRR := Lib.hid hR
  clear hR
  simp only [HR.out]
  clear HR
  obtain ⟨wa, HW⟩ : ∃ wa, Hid (wa = (w.alloc (.cells #[.int .i64 wd, .slice a1 n1 c1, .slice a2 n2 c2, .int .i64 (T : Int), .slice a3 A c3, .slice a4 n4 c4] 28)).alloc (.cells #[.int .i64 9, .int .i64 y, .slice b1 m1 d1, .slice b2 m2 d2] 46)) := ⟨_, rfl⟩
  have B0 : Blk wa w.heap.size 28 [.int .i64 wd, .slice a1 n1 c1, .slice a2 n2 c2, .int .i64 (T : Int), .slice a3 A c3, .slice a4 n4 c4] := by rw [HW.out]; exact (Blk.new w _ _).alloc _
  have B1 : Blk wa (w.heap.size + 1) 46 [.int .i64 9, .int .i64 y, .slice b1 m1 d1, .slice b2 m2 d2] := by rw [HW.out]; simpa using Blk.new (w.alloc _) 46 [.int .i64 9, .int .i64 y, .slice b1 m1 d1, .slice b2 m2 d2]
  have HB : Below w.heap.size w wa := by rw [HW.out]; exact ((Below.refl _ _).alloc (Nat.le_refl _) _).alloc (by simp) _
  go_enter Try.func95, Try.ntmps95
  by_cases hp2 : 0 < m2
  · have hd2 : decide ((m2 : Int) > 0) = true := by simp; omega
    go_wp2_with (go_at_call 45; refine (in_any _ _ _ _).mono ?_; rintro e w' ⟨rfl, rfl⟩; try rw [hin])
    go_ret
    exact ⟨ret_bool (by rw [← HRR.out, decide_eq_true hp2]; simp), by rw [← HW.out]; exact HB⟩
  · by_cases hp1 : 0 < m1
    · have hd2 : decide ((m2 : Int) > 0) = false := by simp; omega
      have hd1 : decide ((m1 : Int) > 0) = true := by simp; omega
      go_wp2_with (go_at_call 45; refine (in_any _ _ _ _).mono ?_; rintro e w' ⟨rfl, rfl⟩; try rw [hin])
      go_ret
      exact ⟨ret_bool (by rw [← HRR.out, decide_eq_false hp2, decide_eq_true hp1]; simp), by rw [← HW.out]; exact HB⟩
    · have hd2 : decide ((m2 : Int) > 0) = false := by simp; omega
      have hd1 : decide ((m1 : Int) > 0) = false := by simp; omega
      go_wp2_with (go_at_call 45; refine (in_any _ _ _ _).mono ?_; rintro e w' ⟨rfl, rfl⟩; try rw [hin])
      go_ret
      exact ⟨ret_bool (by rw [← HRR.out, decide_eq_false hp2, decide_eq_false hp1]; simp), by rw [← HW.out]; exact HB⟩
set_option maxHeartbeats 1600000 in
theorem l3Stmt_0 (y wd : Int) (a1 a2 a3 a4 b1 b2 : Option Addr) (n1 n2 n4 m1 m2 c1 c2 c3 c4 d1 d2 W T A : Nat) (rows : List SRow) (ts us : List Tm) (w : World)
    (hr : Lim ⟨wd, (a1, n1, c1), (a2, n2, c2), (T : Int), (a3, A, c3), (a4, n4, c4), rows⟩ W (n1 + n2) T A) (h1 : Terms w b1 m1 ts) (h2 : Terms w b2 m2 us) :
    Calls Try.prog 95 #[.agg #[.int .i64 wd, .slice a1 n1 c1, .slice a2 n2 c2, .int .i64 (T : Int), .slice a3 A c3, .slice a4 n4 c4], .agg #[.int .i64 0, .int .i64 y, .slice b1 m1 d1, .slice b2 m2 d2]] w fun e w' => e = .returned (.bool (stmtB (2 ^ W) (n1 + n2) T A ⟨0, y, ts, us⟩)) ∧ Below w.heap.size w w' := by
  have HX : Hid (∀ (w' : World) (a : Option Addr) (n c : Nat) (vs : List Tm), Terms w' a n vs → Calls Try.prog 60 #[.agg #[.int .i64 wd, .slice a1 n1 c1, .slice a2 n2 c2, .int .i64 (T : Int), .slice a3 A c3, .slice a4 n4 c4], .slice a n c] w' fun e w'' => e = .returned (.bool (bodyB (2 ^ W) (n1 + n2 + T) A vs)) ∧ Below w'.heap.size w' w'') := Lib.hid (fun w' a n c vs h' => l3Exp_any ⟨wd, (a1, n1, c1), (a2, n2, c2), (T : Int), (a3, A, c3), (a4, n4, c4), rows⟩ W (n1 + n2) T A a n c vs w' hr h')
  have hI := hr.few
  have hT := hr.fewT
  have hA := hr.fewA
  have hm1 := h1.2.1
  have hm2 := h2.2.1
  have L1 := Lib.hid h1.1
  have L2 := Lib.hid h2.1
  clear hr
  have hin : (decide ((0 : Int) ≤ 0) && decide ((0 : Int) ≤ 9)) = true := rfl
  have hput : ((0 : Int) == 1) = false := rfl
  have hbears : bears 0 = true := rfl
  have hnum : numOk (n1 + n2) T A 0 y = (decide (((n1 + n2 : Nat) : Int) ≤ y) && decide (y ≤ ((n1 + n2 : Nat) : Int) + (T : Int) - 1)) := rfl
  obtain ⟨R, HR⟩ : ∃ R, Hid (stmtB (2 ^ W) (n1 + n2) T A ⟨0, y, ts, us⟩ = R) := ⟨_, rfl⟩
  obtain ⟨X1, HX1⟩ : ∃ X1, Hid (bodyB (2 ^ W) (n1 + n2 + T) A ts = X1) := ⟨_, rfl⟩
  obtain ⟨X2, HX2⟩ : ∃ X2, Hid (bodyB (2 ^ W) (n1 + n2 + T) A us = X2) := ⟨_, rfl⟩
  have hR := HR.out
  simp only [stmtB, L1.out, L2.out, HX1.out, HX2.out] at hR
  rw [hin, hbears, hput, hnum] at hR
  have HRR := Lib.hid hR
  clear hR
  simp only [HR.out]
  clear HR
  obtain ⟨wa, HW⟩ : ∃ wa, Hid (wa = (w.alloc (.cells #[.int .i64 wd, .slice a1 n1 c1, .slice a2 n2 c2, .int .i64 (T : Int), .slice a3 A c3, .slice a4 n4 c4] 28)).alloc (.cells #[.int .i64 0, .int .i64 y, .slice b1 m1 d1, .slice b2 m2 d2] 46)) := ⟨_, rfl⟩
  have B0 : Blk wa w.heap.size 28 [.int .i64 wd, .slice a1 n1 c1, .slice a2 n2 c2, .int .i64 (T : Int), .slice a3 A c3, .slice a4 n4 c4] := by rw [HW.out]; exact (Blk.new w _ _).alloc _
  have B1 : Blk wa (w.heap.size + 1) 46 [.int .i64 0, .int .i64 y, .slice b1 m1 d1, .slice b2 m2 d2] := by rw [HW.out]; simpa using Blk.new (w.alloc _) 46 [.int .i64 0, .int .i64 y, .slice b1 m1 d1, .slice b2 m2 d2]
  have HB : Below w.heap.size w wa := by rw [HW.out]; exact ((Below.refl _ _).alloc (Nat.le_refl _) _).alloc (by simp) _
  go_enter Try.func95, Try.ntmps95
  by_cases hp2 : 0 < m2
  · by_cases hp1 : 0 < m1
    · have hd2 : decide ((m2 : Int) > 0) = true := by simp; omega
      have hd1 : decide ((m1 : Int) > 0) = true := by simp; omega
      go_wp2_with (go_at_call 45; refine (in_any _ _ _ _).mono ?_; rintro e w' ⟨rfl, rfl⟩; try rw [hin])
      go_ret
      exact ⟨ret_bool (by rw [← HRR.out, decide_eq_true hp2, decide_eq_true hp1]; simp), by rw [← HW.out]; exact HB⟩
    · have hd2 : decide ((m2 : Int) > 0) = true := by simp; omega
      have hd1 : decide ((m1 : Int) > 0) = false := by simp; omega
      go_wp2_with (go_at_call 45; refine (in_any _ _ _ _).mono ?_; rintro e w' ⟨rfl, rfl⟩; try rw [hin])
      rw [← HW.out]
      refine (HX.out _ _ _ _ _ (h2.below (Nat.le_refl _) HB)).mono ?_
      rintro e w1 ⟨rfl, hb1⟩
      have q0 := B0.below hb1 B0.lt
      have q1 := B1.below hb1 B1.lt
      have hbel := HB.trans (hb1.mono HB.size)
      rw [HX2.out]
      clear hb1 HW B0 B1 HB
      have u0 := q0.cell (j := 0) rfl
      have u1 := q0.cell (j := 1) rfl
      have u2 := q0.cell (j := 2) rfl
      have u3 := q0.cell (j := 3) rfl
      have u4 := q0.cell (j := 4) rfl
      have u5 := q0.cell (j := 5) rfl
      have v0 := q1.cell (j := 0) rfl
      have v1 := q1.cell (j := 1) rfl
      have v2 := q1.cell (j := 2) rfl
      have v3 := q1.cell (j := 3) rfl
      cases X2 with
      | false =>
        go_wp2_with fail
        go_ret
        exact ⟨ret_bool (by rw [← HRR.out, decide_eq_true hp2, decide_eq_false hp1]; simp), hbel⟩
      | true =>
        go_wp2_with (go_at_call 45; refine (in_any _ _ _ _).mono ?_; rintro e w' ⟨rfl, rfl⟩; try rw [hin])
        go_ret
        exact ⟨ret_bool (by rw [← HRR.out, decide_eq_true hp2, decide_eq_false hp1]; simp), hbel⟩
  · have hd2 : decide ((m2 : Int) > 0) = false := by simp; omega
    go_wp2_with (go_at_call 45; refine (in_any _ _ _ _).mono ?_; rintro e w' ⟨rfl, rfl⟩; try rw [hin])
    go_ret
    exact ⟨ret_bool (by rw [← HRR.out, decide_eq_false hp2]; simp), by rw [← HW.out]; exact HB⟩
set_option maxHeartbeats 1600000 in
theorem l3Stmt_2 (y wd : Int) (a1 a2 a3 a4 b1 b2 : Option Addr) (n1 n2 n4 m1 m2 c1 c2 c3 c4 d1 d2 W T A : Nat) (rows : List SRow) (ts us : List Tm) (w : World)
    (hr : Lim ⟨wd, (a1, n1, c1), (a2, n2, c2), (T : Int), (a3, A, c3), (a4, n4, c4), rows⟩ W (n1 + n2) T A) (h1 : Terms w b1 m1 ts) (h2 : Terms w b2 m2 us) :
    Calls Try.prog 95 #[.agg #[.int .i64 wd, .slice a1 n1 c1, .slice a2 n2 c2, .int .i64 (T : Int), .slice a3 A c3, .slice a4 n4 c4], .agg #[.int .i64 2, .int .i64 y, .slice b1 m1 d1, .slice b2 m2 d2]] w fun e w' => e = .returned (.bool (stmtB (2 ^ W) (n1 + n2) T A ⟨2, y, ts, us⟩)) ∧ Below w.heap.size w w' := by
  have HX : Hid (∀ (w' : World) (a : Option Addr) (n c : Nat) (vs : List Tm), Terms w' a n vs → Calls Try.prog 60 #[.agg #[.int .i64 wd, .slice a1 n1 c1, .slice a2 n2 c2, .int .i64 (T : Int), .slice a3 A c3, .slice a4 n4 c4], .slice a n c] w' fun e w'' => e = .returned (.bool (bodyB (2 ^ W) (n1 + n2 + T) A vs)) ∧ Below w'.heap.size w' w'') := Lib.hid (fun w' a n c vs h' => l3Exp_any ⟨wd, (a1, n1, c1), (a2, n2, c2), (T : Int), (a3, A, c3), (a4, n4, c4), rows⟩ W (n1 + n2) T A a n c vs w' hr h')
  have hI := hr.few
  have hT := hr.fewT
  have hA := hr.fewA
  have hm1 := h1.2.1
  have hm2 := h2.2.1
  have L1 := Lib.hid h1.1
  have L2 := Lib.hid h2.1
  clear hr
  have hin : (decide ((0 : Int) ≤ 2) && decide ((2 : Int) ≤ 9)) = true := rfl
  have hput : ((2 : Int) == 1) = false := rfl
  have hbears : bears 2 = true := rfl
  have hnum : numOk (n1 + n2) T A 2 y = (y == 0) := rfl
  obtain ⟨R, HR⟩ : ∃ R, Hid (stmtB (2 ^ W) (n1 + n2) T A ⟨2, y, ts, us⟩ = R) := ⟨_, rfl⟩
  obtain ⟨X1, HX1⟩ : ∃ X1, Hid (bodyB (2 ^ W) (n1 + n2 + T) A ts = X1) := ⟨_, rfl⟩
  obtain ⟨X2, HX2⟩ : ∃ X2, Hid (bodyB (2 ^ W) (n1 + n2 + T) A us = X2) := ⟨_, rfl⟩
  have hR := HR.out
  simp only [stmtB, L1.out, L2.out, HX1.out, HX2.out] at hR
  rw [hin, hbears, hput, hnum] at hR
  have HRR := Lib.hid hR
  clear hR
  simp only [HR.out]
  clear HR
  obtain ⟨wa, HW⟩ : ∃ wa, Hid (wa = (w.alloc (.cells #[.int .i64 wd, .slice a1 n1 c1, .slice a2 n2 c2, .int .i64 (T : Int), .slice a3 A c3, .slice a4 n4 c4] 28)).alloc (.cells #[.int .i64 2, .int .i64 y, .slice b1 m1 d1, .slice b2 m2 d2] 46)) := ⟨_, rfl⟩
  have B0 : Blk wa w.heap.size 28 [.int .i64 wd, .slice a1 n1 c1, .slice a2 n2 c2, .int .i64 (T : Int), .slice a3 A c3, .slice a4 n4 c4] := by rw [HW.out]; exact (Blk.new w _ _).alloc _
  have B1 : Blk wa (w.heap.size + 1) 46 [.int .i64 2, .int .i64 y, .slice b1 m1 d1, .slice b2 m2 d2] := by rw [HW.out]; simpa using Blk.new (w.alloc _) 46 [.int .i64 2, .int .i64 y, .slice b1 m1 d1, .slice b2 m2 d2]
  have HB : Below w.heap.size w wa := by rw [HW.out]; exact ((Below.refl _ _).alloc (Nat.le_refl _) _).alloc (by simp) _
  go_enter Try.func95, Try.ntmps95
  by_cases hp2 : 0 < m2
  · by_cases hp1 : 0 < m1
    · have hd2 : decide ((m2 : Int) > 0) = true := by simp; omega
      have hd1 : decide ((m1 : Int) > 0) = true := by simp; omega
      go_wp2_with (go_at_call 45; refine (in_any _ _ _ _).mono ?_; rintro e w' ⟨rfl, rfl⟩; try rw [hin])
      go_ret
      exact ⟨ret_bool (by rw [← HRR.out, decide_eq_true hp2, decide_eq_true hp1]; simp), by rw [← HW.out]; exact HB⟩
    · have hd2 : decide ((m2 : Int) > 0) = true := by simp; omega
      have hd1 : decide ((m1 : Int) > 0) = false := by simp; omega
      go_wp2_with (go_at_call 45; refine (in_any _ _ _ _).mono ?_; rintro e w' ⟨rfl, rfl⟩; try rw [hin])
      rw [← HW.out]
      refine (HX.out _ _ _ _ _ (h2.below (Nat.le_refl _) HB)).mono ?_
      rintro e w1 ⟨rfl, hb1⟩
      have q0 := B0.below hb1 B0.lt
      have q1 := B1.below hb1 B1.lt
      have hbel := HB.trans (hb1.mono HB.size)
      rw [HX2.out]
      clear hb1 HW B0 B1 HB
      have u0 := q0.cell (j := 0) rfl
      have u1 := q0.cell (j := 1) rfl
      have u2 := q0.cell (j := 2) rfl
      have u3 := q0.cell (j := 3) rfl
      have u4 := q0.cell (j := 4) rfl
      have u5 := q0.cell (j := 5) rfl
      have v0 := q1.cell (j := 0) rfl
      have v1 := q1.cell (j := 1) rfl
      have v2 := q1.cell (j := 2) rfl
      have v3 := q1.cell (j := 3) rfl
      cases X2 with
      | false =>
        go_wp2_with fail
        go_ret
        exact ⟨ret_bool (by rw [← HRR.out, decide_eq_true hp2, decide_eq_false hp1]; simp), hbel⟩
      | true =>
        go_wp2_with (go_at_call 45; refine (in_any _ _ _ _).mono ?_; rintro e w' ⟨rfl, rfl⟩; try rw [hin])
        go_ret
        exact ⟨ret_bool (by rw [← HRR.out, decide_eq_true hp2, decide_eq_false hp1]; simp), hbel⟩
  · have hd2 : decide ((m2 : Int) > 0) = false := by simp; omega
    go_wp2_with (go_at_call 45; refine (in_any _ _ _ _).mono ?_; rintro e w' ⟨rfl, rfl⟩; try rw [hin])
    go_ret
    exact ⟨ret_bool (by rw [← HRR.out, decide_eq_false hp2]; simp), by rw [← HW.out]; exact HB⟩
set_option maxHeartbeats 1600000 in
theorem l3Stmt_6 (y wd : Int) (a1 a2 a3 a4 b1 b2 : Option Addr) (n1 n2 n4 m1 m2 c1 c2 c3 c4 d1 d2 W T A : Nat) (rows : List SRow) (ts us : List Tm) (w : World)
    (hr : Lim ⟨wd, (a1, n1, c1), (a2, n2, c2), (T : Int), (a3, A, c3), (a4, n4, c4), rows⟩ W (n1 + n2) T A) (h1 : Terms w b1 m1 ts) (h2 : Terms w b2 m2 us) :
    Calls Try.prog 95 #[.agg #[.int .i64 wd, .slice a1 n1 c1, .slice a2 n2 c2, .int .i64 (T : Int), .slice a3 A c3, .slice a4 n4 c4], .agg #[.int .i64 6, .int .i64 y, .slice b1 m1 d1, .slice b2 m2 d2]] w fun e w' => e = .returned (.bool (stmtB (2 ^ W) (n1 + n2) T A ⟨6, y, ts, us⟩)) ∧ Below w.heap.size w w' := by
  have HX : Hid (∀ (w' : World) (a : Option Addr) (n c : Nat) (vs : List Tm), Terms w' a n vs → Calls Try.prog 60 #[.agg #[.int .i64 wd, .slice a1 n1 c1, .slice a2 n2 c2, .int .i64 (T : Int), .slice a3 A c3, .slice a4 n4 c4], .slice a n c] w' fun e w'' => e = .returned (.bool (bodyB (2 ^ W) (n1 + n2 + T) A vs)) ∧ Below w'.heap.size w' w'') := Lib.hid (fun w' a n c vs h' => l3Exp_any ⟨wd, (a1, n1, c1), (a2, n2, c2), (T : Int), (a3, A, c3), (a4, n4, c4), rows⟩ W (n1 + n2) T A a n c vs w' hr h')
  have hI := hr.few
  have hT := hr.fewT
  have hA := hr.fewA
  have hm1 := h1.2.1
  have hm2 := h2.2.1
  have L1 := Lib.hid h1.1
  have L2 := Lib.hid h2.1
  clear hr
  have hin : (decide ((0 : Int) ≤ 6) && decide ((6 : Int) ≤ 9)) = true := rfl
  have hput : ((6 : Int) == 1) = false := rfl
  have hbears : bears 6 = true := rfl
  have hnum : numOk (n1 + n2) T A 6 y = (y == 0) := rfl
  obtain ⟨R, HR⟩ : ∃ R, Hid (stmtB (2 ^ W) (n1 + n2) T A ⟨6, y, ts, us⟩ = R) := ⟨_, rfl⟩
  obtain ⟨X1, HX1⟩ : ∃ X1, Hid (bodyB (2 ^ W) (n1 + n2 + T) A ts = X1) := ⟨_, rfl⟩
  obtain ⟨X2, HX2⟩ : ∃ X2, Hid (bodyB (2 ^ W) (n1 + n2 + T) A us = X2) := ⟨_, rfl⟩
  have hR := HR.out
  simp only [stmtB, L1.out, L2.out, HX1.out, HX2.out] at hR
  rw [hin, hbears, hput, hnum] at hR
  have HRR := Lib.hid hR
  clear hR
  simp only [HR.out]
  clear HR
  obtain ⟨wa, HW⟩ : ∃ wa, Hid (wa = (w.alloc (.cells #[.int .i64 wd, .slice a1 n1 c1, .slice a2 n2 c2, .int .i64 (T : Int), .slice a3 A c3, .slice a4 n4 c4] 28)).alloc (.cells #[.int .i64 6, .int .i64 y, .slice b1 m1 d1, .slice b2 m2 d2] 46)) := ⟨_, rfl⟩
  have B0 : Blk wa w.heap.size 28 [.int .i64 wd, .slice a1 n1 c1, .slice a2 n2 c2, .int .i64 (T : Int), .slice a3 A c3, .slice a4 n4 c4] := by rw [HW.out]; exact (Blk.new w _ _).alloc _
  have B1 : Blk wa (w.heap.size + 1) 46 [.int .i64 6, .int .i64 y, .slice b1 m1 d1, .slice b2 m2 d2] := by rw [HW.out]; simpa using Blk.new (w.alloc _) 46 [.int .i64 6, .int .i64 y, .slice b1 m1 d1, .slice b2 m2 d2]
  have HB : Below w.heap.size w wa := by rw [HW.out]; exact ((Below.refl _ _).alloc (Nat.le_refl _) _).alloc (by simp) _
  go_enter Try.func95, Try.ntmps95
  by_cases hp2 : 0 < m2
  · by_cases hp1 : 0 < m1
    · have hd2 : decide ((m2 : Int) > 0) = true := by simp; omega
      have hd1 : decide ((m1 : Int) > 0) = true := by simp; omega
      go_wp2_with (go_at_call 45; refine (in_any _ _ _ _).mono ?_; rintro e w' ⟨rfl, rfl⟩; try rw [hin])
      go_ret
      exact ⟨ret_bool (by rw [← HRR.out, decide_eq_true hp2, decide_eq_true hp1]; simp), by rw [← HW.out]; exact HB⟩
    · have hd2 : decide ((m2 : Int) > 0) = true := by simp; omega
      have hd1 : decide ((m1 : Int) > 0) = false := by simp; omega
      go_wp2_with (go_at_call 45; refine (in_any _ _ _ _).mono ?_; rintro e w' ⟨rfl, rfl⟩; try rw [hin])
      rw [← HW.out]
      refine (HX.out _ _ _ _ _ (h2.below (Nat.le_refl _) HB)).mono ?_
      rintro e w1 ⟨rfl, hb1⟩
      have q0 := B0.below hb1 B0.lt
      have q1 := B1.below hb1 B1.lt
      have hbel := HB.trans (hb1.mono HB.size)
      rw [HX2.out]
      clear hb1 HW B0 B1 HB
      have u0 := q0.cell (j := 0) rfl
      have u1 := q0.cell (j := 1) rfl
      have u2 := q0.cell (j := 2) rfl
      have u3 := q0.cell (j := 3) rfl
      have u4 := q0.cell (j := 4) rfl
      have u5 := q0.cell (j := 5) rfl
      have v0 := q1.cell (j := 0) rfl
      have v1 := q1.cell (j := 1) rfl
      have v2 := q1.cell (j := 2) rfl
      have v3 := q1.cell (j := 3) rfl
      cases X2 with
      | false =>
        go_wp2_with fail
        go_ret
        exact ⟨ret_bool (by rw [← HRR.out, decide_eq_true hp2, decide_eq_false hp1]; simp), hbel⟩
      | true =>
        go_wp2_with (go_at_call 45; refine (in_any _ _ _ _).mono ?_; rintro e w' ⟨rfl, rfl⟩; try rw [hin])
        go_ret
        exact ⟨ret_bool (by rw [← HRR.out, decide_eq_true hp2, decide_eq_false hp1]; simp), hbel⟩
  · have hd2 : decide ((m2 : Int) > 0) = false := by simp; omega
    go_wp2_with (go_at_call 45; refine (in_any _ _ _ _).mono ?_; rintro e w' ⟨rfl, rfl⟩; try rw [hin])
    go_ret
    exact ⟨ret_bool (by rw [← HRR.out, decide_eq_false hp2]; simp), by rw [← HW.out]; exact HB⟩
set_option maxHeartbeats 1600000 in
theorem l3Stmt_1 (y wd : Int) (a1 a2 a3 a4 b1 b2 : Option Addr) (n1 n2 n4 m1 m2 c1 c2 c3 c4 d1 d2 W T A : Nat) (rows : List SRow) (ts us : List Tm) (w : World)
    (hr : Lim ⟨wd, (a1, n1, c1), (a2, n2, c2), (T : Int), (a3, A, c3), (a4, n4, c4), rows⟩ W (n1 + n2) T A) (h1 : Terms w b1 m1 ts) (h2 : Terms w b2 m2 us) :
    Calls Try.prog 95 #[.agg #[.int .i64 wd, .slice a1 n1 c1, .slice a2 n2 c2, .int .i64 (T : Int), .slice a3 A c3, .slice a4 n4 c4], .agg #[.int .i64 1, .int .i64 y, .slice b1 m1 d1, .slice b2 m2 d2]] w fun e w' => e = .returned (.bool (stmtB (2 ^ W) (n1 + n2) T A ⟨1, y, ts, us⟩)) ∧ Below w.heap.size w w' := by
  have HX : Hid (∀ (w' : World) (a : Option Addr) (n c : Nat) (vs : List Tm), Terms w' a n vs → Calls Try.prog 60 #[.agg #[.int .i64 wd, .slice a1 n1 c1, .slice a2 n2 c2, .int .i64 (T : Int), .slice a3 A c3, .slice a4 n4 c4], .slice a n c] w' fun e w'' => e = .returned (.bool (bodyB (2 ^ W) (n1 + n2 + T) A vs)) ∧ Below w'.heap.size w' w'') := Lib.hid (fun w' a n c vs h' => l3Exp_any ⟨wd, (a1, n1, c1), (a2, n2, c2), (T : Int), (a3, A, c3), (a4, n4, c4), rows⟩ W (n1 + n2) T A a n c vs w' hr h')
  have hI := hr.few
  have hT := hr.fewT
  have hA := hr.fewA
  have hm1 := h1.2.1
  have hm2 := h2.2.1
  have L1 := Lib.hid h1.1
  have L2 := Lib.hid h2.1
  clear hr
  have hin : (decide ((0 : Int) ≤ 1) && decide ((1 : Int) ≤ 9)) = true := rfl
  have hput : ((1 : Int) == 1) = true := rfl
  have hbears : bears 1 = true := rfl
  have hnum : numOk (n1 + n2) T A 1 y = (decide (0 ≤ y) && decide (y ≤ (A : Int) - 1)) := rfl
  obtain ⟨R, HR⟩ : ∃ R, Hid (stmtB (2 ^ W) (n1 + n2) T A ⟨1, y, ts, us⟩ = R) := ⟨_, rfl⟩
  obtain ⟨X1, HX1⟩ : ∃ X1, Hid (bodyB (2 ^ W) (n1 + n2 + T) A ts = X1) := ⟨_, rfl⟩
  obtain ⟨X2, HX2⟩ : ∃ X2, Hid (bodyB (2 ^ W) (n1 + n2 + T) A us = X2) := ⟨_, rfl⟩
  have hR := HR.out
  simp only [stmtB, L1.out, L2.out, HX1.out, HX2.out] at hR
  rw [hin, hbears, hput, hnum] at hR
  have HRR := Lib.hid hR
  clear hR
  simp only [HR.out]
  clear HR
  obtain ⟨wa, HW⟩ : ∃ wa, Hid (wa = (w.alloc (.cells #[.int .i64 wd, .slice a1 n1 c1, .slice a2 n2 c2, .int .i64 (T : Int), .slice a3 A c3, .slice a4 n4 c4] 28)).alloc (.cells #[.int .i64 1, .int .i64 y, .slice b1 m1 d1, .slice b2 m2 d2] 46)) := ⟨_, rfl⟩
  have B0 : Blk wa w.heap.size 28 [.int .i64 wd, .slice a1 n1 c1, .slice a2 n2 c2, .int .i64 (T : Int), .slice a3 A c3, .slice a4 n4 c4] := by rw [HW.out]; exact (Blk.new w _ _).alloc _
  have B1 : Blk wa (w.heap.size + 1) 46 [.int .i64 1, .int .i64 y, .slice b1 m1 d1, .slice b2 m2 d2] := by rw [HW.out]; simpa using Blk.new (w.alloc _) 46 [.int .i64 1, .int .i64 y, .slice b1 m1 d1, .slice b2 m2 d2]
  have HB : Below w.heap.size w wa := by rw [HW.out]; exact ((Below.refl _ _).alloc (Nat.le_refl _) _).alloc (by simp) _
  go_enter Try.func95, Try.ntmps95
  by_cases hp2 : 0 < m2
  · by_cases hp1 : 0 < m1
    · have hd2 : decide ((m2 : Int) > 0) = true := by simp; omega
      have hd1 : decide ((m1 : Int) > 0) = true := by simp; omega
      go_wp2_with (go_at_call 45; refine (in_any _ _ _ _).mono ?_; rintro e w' ⟨rfl, rfl⟩; try rw [hin])
      rw [← HW.out]
      refine (HX.out _ _ _ _ _ (h2.below (Nat.le_refl _) HB)).mono ?_
      rintro e w1 ⟨rfl, hb1⟩
      have q0 := B0.below hb1 B0.lt
      have q1 := B1.below hb1 B1.lt
      have hbel := HB.trans (hb1.mono HB.size)
      rw [HX2.out]
      clear hb1 HW B0 B1 HB
      have u0 := q0.cell (j := 0) rfl
      have u1 := q0.cell (j := 1) rfl
      have u2 := q0.cell (j := 2) rfl
      have u3 := q0.cell (j := 3) rfl
      have u4 := q0.cell (j := 4) rfl
      have u5 := q0.cell (j := 5) rfl
      have v0 := q1.cell (j := 0) rfl
      have v1 := q1.cell (j := 1) rfl
      have v2 := q1.cell (j := 2) rfl
      have v3 := q1.cell (j := 3) rfl
      cases X2 with
      | false =>
        go_wp2_with fail
        go_ret
        exact ⟨ret_bool (by rw [← HRR.out, decide_eq_true hp2, decide_eq_true hp1]; simp), hbel⟩
      | true =>
        go_wp2_with fail
        refine (HX.out _ _ _ _ _ (h1.below (Nat.le_refl _) hbel)).mono ?_
        rintro e w2 ⟨rfl, hb2⟩
        clear u0 u1 u2 u3 u4 u5 v0 v1 v2 v3
        have q0 := q0.below hb2 q0.lt
        have q1 := q1.below hb2 q1.lt
        have hbel := hbel.trans (hb2.mono hbel.size)
        rw [HX1.out]
        have u0 := q0.cell (j := 0) rfl
        have u1 := q0.cell (j := 1) rfl
        have u2 := q0.cell (j := 2) rfl
        have u3 := q0.cell (j := 3) rfl
        have u4 := q0.cell (j := 4) rfl
        have u5 := q0.cell (j := 5) rfl
        have v0 := q1.cell (j := 0) rfl
        have v1 := q1.cell (j := 1) rfl
        have v2 := q1.cell (j := 2) rfl
        have v3 := q1.cell (j := 3) rfl
        cases X1 with
        | false =>
          go_wp2_with fail
          go_ret
          exact ⟨ret_bool (by rw [← HRR.out, decide_eq_true hp2, decide_eq_true hp1]; simp), hbel⟩
        | true =>
          go_wp2_with (go_at_call 45; refine (in_any _ _ _ _).mono ?_; rintro e w' ⟨rfl, rfl⟩; try rw [hin])
          go_ret
          exact ⟨ret_bool (by rw [← HRR.out, decide_eq_true hp2, decide_eq_true hp1]; simp), hbel⟩
    · have hd2 : decide ((m2 : Int) > 0) = true := by simp; omega
      have hd1 : decide ((m1 : Int) > 0) = false := by simp; omega
      go_wp2_with (go_at_call 45; refine (in_any _ _ _ _).mono ?_; rintro e w' ⟨rfl, rfl⟩; try rw [hin])
      go_ret
      exact ⟨ret_bool (by rw [← HRR.out, decide_eq_true hp2, decide_eq_false hp1]; simp), by rw [← HW.out]; exact HB⟩
  · have hd2 : decide ((m2 : Int) > 0) = false := by simp; omega
    go_wp2_with (go_at_call 45; refine (in_any _ _ _ _).mono ?_; rintro e w' ⟨rfl, rfl⟩; try rw [hin])
    go_ret
    exact ⟨ret_bool (by rw [← HRR.out, decide_eq_false hp2]; simp), by rw [← HW.out]; exact HB⟩
end Go.Proofs.Ytmooecbdpfhnlaa
