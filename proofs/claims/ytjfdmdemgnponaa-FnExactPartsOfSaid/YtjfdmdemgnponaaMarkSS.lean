/- The contracts of the laws' own helpers on slices of slices of Terms: marks written, marks asked for. -/
import Derived.Test.YtjfdmdemgnponaaTermSS
namespace Go.Proofs.Ytjfdmdemgnponaa
open Go.RowKit

/-- How many Terms the first i have. -/
def sumL (tss : List (List Tm)) : Nat → Nat
  | 0 => 0
  | i + 1 => sumL tss i + (tsAt tss i).length
theorem sumL_mono (tss : List (List Tm)) (i j : Nat) (h : i ≤ j) : sumL tss i ≤ sumL tss j := by
  induction j with
  | zero => obtain rfl : i = 0 := by omega
            exact Nat.le_refl _
  | succ j ih =>
    rcases Nat.lt_or_ge i (j + 1) with h' | h'
    · have := ih (by omega); simp only [sumL]; omega
    · obtain rfl : i = j + 1 := by omega
      exact Nat.le_refl _
/-- The first i marked. -/
def MarkSS (tss : List (List Tm)) (k i : Nat) : List (List Tm) := (List.range tss.length).map (fun j => if j < i then marksT ((k + 2 * sumL tss j : Nat) : Int) (tsAt tss j).length else tsAt tss j)
theorem markSS_len (tss : List (List Tm)) (k i : Nat) : (MarkSS tss k i).length = tss.length := by simp [MarkSS]
theorem markSS_at (tss : List (List Tm)) (k i j : Nat) (h : j < tss.length) : tsAt (MarkSS tss k i) j = if j < i then marksT ((k + 2 * sumL tss j : Nat) : Int) (tsAt tss j).length else tsAt tss j := by
  simp [MarkSS, tsAt, List.getD_eq_getElem?_getD, h]
theorem markSS_zero (tss : List (List Tm)) (k : Nat) : MarkSS tss k 0 = tss := by
  apply List.ext_getElem (by rw [markSS_len])
  intro j h1 h2
  have := markSS_at tss k 0 j h2
  simpa [tsAt, List.getD_eq_getElem?_getD, h1, h2] using this

theorem ownSS_put {w w' : World} {B : Nat} {a : Option Addr} {n c : Nat} {rs : List Sl} {tss tss' : List (List Tm)} {i : Nat} (h : OwnSS w B a n c rs tss) (hi : i < n) (ho : OwnT w' B (slAt rs i).1 (slAt rs i).2.1 (slAt rs i).2.2 (tsAt tss' i))
    (hg : w.grownBy w' (slV (slAt rs i)).ownBlock) (hl : tss'.length = n) (he : ∀ j, j < n → j ≠ i → tsAt tss' j = tsAt tss j) : OwnSS w' B a n c rs tss' := by
  obtain ⟨h1, h2, h3, h4, h5⟩ := h
  refine ⟨?_, h2, hl, fun j hj => ?_, h5⟩
  · refine h1.kept hg ?_
    cases hv : (Value.slice a n c).ownBlock with
    | none => exact .inl rfl
    | some g => exact .inr (fun e => own_kinds h1 (h4 i hi).1 (by decide) hv e.symm)
  · by_cases hji : j = i
    · subst hji; exact ho
    · rw [he j hj hji]
      exact (h4 j hj).apart hg (fun g hgg e => hji (h5 j i g hj hi hgg e))

set_option maxHeartbeats 800000 in
theorem markTermSS_any (a : Option Addr) (n c : Nat) (rs : List Sl) (tss : List (List Tm)) (k : Nat) (w : World) (B : Nat) (h : OwnSS w B a n c rs tss) (hk : k ≤ 1000000) (hs : sumL tss n ≤ 3000) (hB : B ≤ w.heap.size) :
    Calls Try.prog 30 #[.slice a n c, .int .i64 (k : Int)] w fun e w' => e = .returned (.int .i64 ((k + 2 * sumL tss n : Nat) : Int)) ∧ OwnSS w' B a n c rs (MarkSS tss k n) ∧ Below B w w' := by
  have HL := Lib.hid h.2.2.1
  have hbd := h.2.1
  go_enter Try.func30, Try.ntmps30
  go_wp2
  go_loopw [1, 5] (fun q i wr => ∃ j p : Nat, j ≤ n ∧ i = .int .i64 j ∧ q = .int .i64 (p : Int) ∧ Hid (p = k + 2 * sumL tss j) ∧ OwnSS wr B a n c rs (MarkSS tss k j) ∧ Below B w wr) (fun _ i _ => n - (intOf i).toNat)
  case atStart => exact ⟨0, k, Nat.zero_le _, rfl, rfl, by show k = k + 2 * 0; omega, by rw [markSS_zero]; exact h, Below.refl _ _⟩
  case round =>
    obtain ⟨j, p, hj, rfl, rfl, hp, hss, hbel⟩ := hrel
    by_cases hlt : j < n
    · obtain ⟨b, o, a1, n1, c1, rfl, hb, hsl, hc, _⟩ := hss.reads.at_ hlt
      have hot := hss.2.2.2.1 j hlt
      rw [hsl.out] at hot
      have hat := markSS_at tss k j j (by rw [HL.out]; exact hlt)
      rw [if_neg (by omega)] at hat
      rw [hat] at hot
      have HN1 := Lib.hid hot.len
      have hmono := sumL_mono tss (j + 1) n (by omega)
      simp only [sumL] at hmono
      have hp4 : p ≤ 4194304 := by have := hp.out; omega
      clear hat
      go_wp2_with fail
      refine (markTermS_any _ _ _ _ p _ B hot hp4).mono ?_
      rintro e w2 ⟨rfl, hot2, hg2⟩
      have hss2 : OwnSS w2 B (some ⟨b, o, none⟩) n c rs (MarkSS tss k (j + 1)) := by
        refine ownSS_put hss hlt ?_ (by rw [hsl.out]; exact hg2) (by rw [markSS_len, HL.out]) (fun i hi hij => ?_)
        · rw [markSS_at _ _ _ _ (by rw [HL.out]; exact hlt), if_pos (by omega), hsl.out, HN1.out, ← hp.out]
          exact hot2
        · rw [markSS_at _ _ _ _ (by rw [HL.out]; exact hi), markSS_at _ _ _ _ (by rw [HL.out]; exact hi)]
          by_cases h1 : i < j
          · rw [if_pos h1, if_pos (by omega)]
          · rw [if_neg h1, if_neg (by omega)]
      have hbel2 : Below B w w2 := hbel.grown hg2 (Nat.le_trans hB hbel.size) (fun g hg => (hot.block g hg).1)
      have hp2 : Hid (p + 2 * n1 = k + 2 * sumL tss (j + 1)) := by show _ = _; have := hp.out; have := HN1.out; simp only [sumL]; omega
      clear hss hbel hot hot2 hg2 hp
      go_wp2
      go_roundw
      case rel => exact ⟨j + 1, p + 2 * n1, by omega, by go_num, by go_num, hp2, hss2, hbel2⟩
      case measure => simp [intOf]; omega
    · obtain rfl : n = j := by omega
      go_wp2
      go_ret
      exact ⟨ret_int (by rw [hp.out]), hss, hbel⟩

set_option maxHeartbeats 800000 in
theorem heldTermSS_any (a : Option Addr) (n c : Nat) (rs : List Sl) (tss : List (List Tm)) (k : Nat) (w : World) (h : TermsSS w a n rs (MarkSS tss k n)) (hk : k ≤ 1000000) (hs : sumL tss n ≤ 3000) (hn : n ≤ 3000) :
    Calls Try.prog 31 #[.slice a n c, .int .i64 (k : Int)] w fun e w' => e = .returned (.int .i64 ((k + 2 * sumL tss n : Nat) : Int)) ∧ w = w' := by
  have HL : Hid (tss.length = n) := by show _ = _; have := h.2.1; rwa [markSS_len] at this
  go_enter Try.func31, Try.ntmps31
  go_wp2
  go_loop [1, 5] (fun q i => ∃ j p : Nat, j ≤ n ∧ i = .int .i64 j ∧ q = .int .i64 (p : Int) ∧ Hid (p = k + 2 * sumL tss j)) (fun _ i => n - (intOf i).toNat)
  case atStart => exact ⟨0, k, Nat.zero_le _, rfl, rfl, by show k = k + 2 * 0; omega⟩
  case round =>
    obtain ⟨j, p, hj, rfl, rfl, hp⟩ := hrel
    by_cases hlt : j < n
    · obtain ⟨b, o, a1, n1, c1, rfl, hb, hsl, hc, hT⟩ := h.at_ hlt
      rw [markSS_at _ _ _ _ (by rw [HL.out]; exact hlt), if_pos hlt, ← hp.out] at hT
      have hn1 : (tsAt tss j).length = n1 := by have := hT.1; rwa [marksT_len] at this
      have HN1 := Lib.hid hn1
      rw [hn1] at hT
      have hmono := sumL_mono tss (j + 1) n (by omega)
      simp only [sumL] at hmono
      have hp4 : p ≤ 4194304 := by have := hp.out; omega
      clear hn1
      go_wp2_with fail
      refine (heldTermS_any _ _ _ p _ hT hp4).mono ?_
      rintro e w2 ⟨rfl, rfl⟩
      have hp2 : Hid (p + 2 * n1 = k + 2 * sumL tss (j + 1)) := by show _ = _; have := hp.out; have := HN1.out; simp only [sumL]; omega
      clear hp hT
      go_wp2
      go_round
      case rel => exact ⟨j + 1, p + 2 * n1, by omega, by go_num, by go_num, hp2⟩
      case measure => simp [intOf]; omega
    · obtain rfl : n = j := by omega
      go_wp2
      go_ret
      exact ⟨ret_int (by rw [hp.out]; omega), rfl⟩

theorem OwnSS.apart {w w' : World} {B : Nat} {a : Option Addr} {n c : Nat} {rs : List Sl} {tss : List (List Tm)} {row : Option Nat} (h : OwnSS w B a n c rs tss) (hg : w.grownBy w' row) (hr : ∀ g, row = some g → g < B) : OwnSS w' B a n c rs tss := by
  obtain ⟨h1, h2, h3, h4, h5⟩ := h
  refine ⟨h1.kept hg ?_, h2, h3, fun j hj => (h4 j hj).apart hg (fun g hgg e => ?_), h5⟩
  · cases hv : (Value.slice a n c).ownBlock with
    | none => exact .inl rfl
    | some g => exact .inr (fun e => by have := hr g e.symm; have := (h1.lt g hv).1; omega)
  · have := hr g e
    have := ((h4 j hj).block g hgg).1
    omega
theorem OwnSS.later {w w' : World} {B : Nat} {a : Option Addr} {n c : Nat} {rs : List Sl} {tss : List (List Tm)} (h : OwnSS w B a n c rs tss) (hb : Below w.heap.size w w') : OwnSS w' B a n c rs tss := h.below hb
end Go.Proofs.Ytjfdmdemgnponaa
