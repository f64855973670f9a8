/- Plain mathematics of nested bodies: what an end is; beginnings and ends are as many. -/
import Derived.Test.YteigeihbokkpiaaSpecSteps
namespace Go.Proofs.Yteigeihbokkpiaa

theorem end_shape {ss : List Stm} {i : Nat} (hi : i < ss.length) (h0 : 0 ≤ (endOf ss i).2) :
    ∃ e : Nat, (endOf ss i).2 = (e : Int) ∧ i < e ∧ e < ss.length ∧ opAt ss e = 4 ∧
      (((opAt ss i = 5 ∨ opAt ss i = 2) ∧ (endOf ss i).1 = -1 ∧ blockOf ss (i + 1) = (e : Int)) ∨
       ∃ m : Nat, (endOf ss i).1 = (m : Int) ∧ i < m ∧ m < e ∧ blockOf ss (i + 1) = (m : Int) ∧ blockOf ss (m + 1) = (e : Int) ∧ ((opAt ss i = 2 ∧ opAt ss m = 3) ∨ (opAt ss i = 8 ∧ opAt ss m = 9))) := by
  have hin := end_in ss hi
  rcases hin with hbad | ⟨q1, q2, q3⟩
  · rw [hbad] at h0; simp only [] at h0; omega
  refine ⟨(endOf ss i).2.toNat, by omega, by omega, by omega, ?_⟩
  have one : ∀ z : Int, isAt ss z 4 = true → endOf ss i = (-1, z) → blockOf ss (i + 1) = z → (opAt ss i = 5 ∨ opAt ss i = 2) → opAt ss (endOf ss i).2.toNat = 4 ∧
      (((opAt ss i = 5 ∨ opAt ss i = 2) ∧ (endOf ss i).1 = -1 ∧ blockOf ss (i + 1) = ((endOf ss i).2.toNat : Int)) ∨
       ∃ m : Nat, (endOf ss i).1 = (m : Int) ∧ i < m ∧ m < (endOf ss i).2.toNat ∧ blockOf ss (i + 1) = (m : Int) ∧ blockOf ss (m + 1) = ((endOf ss i).2.toNat : Int) ∧ ((opAt ss i = 2 ∧ opAt ss m = 3) ∨ (opAt ss i = 8 ∧ opAt ss m = 9))) := by
    intro z hz he hb ho
    have := isAt_range hz
    rw [he]
    exact ⟨isAt_op hz, .inl ⟨ho, rfl, by rw [hb]; simp only []; omega⟩⟩
  have two : ∀ z y : Int, isAt ss z 4 = true → endOf ss i = (y, z) → blockOf ss (i + 1) = y → blockOf ss (y.toNat + 1) = z → (opAt ss i = 2 ∧ isAt ss y 3 = true ∨ opAt ss i = 8 ∧ isAt ss y 9 = true) → i < y.toNat → opAt ss (endOf ss i).2.toNat = 4 ∧
      (((opAt ss i = 5 ∨ opAt ss i = 2) ∧ (endOf ss i).1 = -1 ∧ blockOf ss (i + 1) = ((endOf ss i).2.toNat : Int)) ∨
       ∃ m : Nat, (endOf ss i).1 = (m : Int) ∧ i < m ∧ m < (endOf ss i).2.toNat ∧ blockOf ss (i + 1) = (m : Int) ∧ blockOf ss (m + 1) = ((endOf ss i).2.toNat : Int) ∧ ((opAt ss i = 2 ∧ opAt ss m = 3) ∨ (opAt ss i = 8 ∧ opAt ss m = 9))) := by
    intro z y hz he hb hb2 ho hiy
    have r1 := isAt_range hz
    have r2 : 0 ≤ y ∧ y < ss.length := by rcases ho with ⟨_, h⟩ | ⟨_, h⟩ <;> exact isAt_range h
    have r3 : y < z := by
      rw [he] at q3
      simp only [] at q3
      omega
    rw [he]
    refine ⟨isAt_op hz, .inr ⟨y.toNat, by simp only []; omega, hiy, by simp only []; omega, by rw [hb]; omega, by rw [hb2]; simp only []; omega, ?_⟩⟩
    rcases ho with ⟨h1, h2⟩ | ⟨h1, h2⟩
    · exact .inl ⟨h1, isAt_op h2⟩
    · exact .inr ⟨h1, isAt_op h2⟩
  have hu : endOf ss i = endOf ss i := rfl
  conv at hu => rhs; rw [endOf, if_pos hi]
  clear q1 q2
  split at hu
  · rename_i h5
    split at hu
    · rename_i h; exact one _ h hu rfl (.inl h5)
    · rw [hu] at h0; simp only [] at h0; omega
  · split at hu
    · rename_i h2
      split at hu
      · rename_i h; exact one _ h hu rfl (.inr h2)
      · split at hu
        · rename_i h
          split at hu
          · rename_i h3; exact two _ _ h3 hu rfl rfl (.inl ⟨h2, h.1⟩) h.2
          · rw [hu] at h0; simp only [] at h0; omega
        · rw [hu] at h0; simp only [] at h0; omega
    · split at hu
      · rename_i h8
        split at hu
        · rename_i h
          split at hu
          · rename_i h3; exact two _ _ h3 hu rfl rfl (.inr ⟨h8, h.1⟩) h.2
          · rw [hu] at h0; simp only [] at h0; omega
        · rw [hu] at h0; simp only [] at h0; omega
      · rw [hu] at h0; simp only [] at h0; omega

/-- What a statement adds to the count of open blocks. -/
def tilt (x : Int) : Int := if x = 2 ∨ x = 5 ∨ x = 8 then 1 else if x = 4 then -1 else 0
def bal (ss : List Stm) : Nat → Int
  | 0 => 0
  | k + 1 => bal ss k + tilt (opAt ss k)
def EndsOk (ss : List Stm) (k : Nat) : Prop := (opAt ss k = 2 ∨ opAt ss k = 5 ∨ opAt ss k = 8) → 0 ≤ (endOf ss k).2
def BalB (ss : List Stm) (i : Nat) : Prop := ∀ j : Nat, blockOf ss i = (j : Int) → bal ss j = bal ss i ∧ ∀ k, i ≤ k → k < j → EndsOk ss k
def BalE (ss : List Stm) (i : Nat) : Prop := ∀ e : Nat, (endOf ss i).2 = (e : Int) → bal ss (e + 1) = bal ss i ∧ ∀ k, i ≤ k → k ≤ e → EndsOk ss k
theorem good_not {ss : List Stm} {k : Nat} {x : Int} (h : opAt ss k = x) (h2 : x ≠ 2) (h5 : x ≠ 5) (h8 : x ≠ 8) : EndsOk ss k := fun ho => by rw [h] at ho; omega
theorem tilt_two {x : Int} (h : x = 2 ∨ x = 5 ∨ x = 8) : tilt x = 1 := if_pos h
theorem tilt_none {x : Int} (h : ¬ (x = 2 ∨ x = 5 ∨ x = 8)) (h4 : x ≠ 4) : tilt x = 0 := by rw [tilt, if_neg h, if_neg h4]
theorem tilt_four : tilt 4 = -1 := rfl
theorem balE_of {ss : List Stm} {i : Nat} (hi : i < ss.length) (hb : ∀ j, i < j → j ≤ ss.length → BalB ss j) : BalE ss i := by
  intro e he
  obtain ⟨e', h1, h2, h3, h4, h5⟩ := end_shape hi (by omega)
  obtain rfl : e = e' := by omega
  have hg : EndsOk ss i := fun _ => by omega
  have hge : EndsOk ss e := good_not h4 (by omega) (by omega) (by omega)
  rcases h5 with ⟨ho, _, hbl⟩ | ⟨m, _, hm1, hm2, hbm, hbe, ho⟩
  · obtain ⟨b1, g1⟩ := hb (i + 1) (by omega) (by omega) e hbl
    refine ⟨?_, fun k hk1 hk2 => ?_⟩
    · show bal ss e + tilt (opAt ss e) = _
      rw [b1, h4, tilt_four]
      show bal ss i + tilt (opAt ss i) + -1 = _
      rw [tilt_two (by omega)]; omega
    · rcases Nat.lt_or_ge i k with h | h
      · rcases Nat.lt_or_ge k e with h' | h'
        · exact g1 k (by omega) h'
        · obtain rfl : k = e := by omega
          exact hge
      · obtain rfl : k = i := by omega
        exact hg
  · obtain ⟨b1, g1⟩ := hb (i + 1) (by omega) (by omega) m hbm
    obtain ⟨b2, g2⟩ := hb (m + 1) (by omega) (by omega) e hbe
    have hom : opAt ss m = 3 ∨ opAt ss m = 9 := by rcases ho with h | h <;> omega
    have hgm : EndsOk ss m := fun h => by omega
    refine ⟨?_, fun k hk1 hk2 => ?_⟩
    · show bal ss e + tilt (opAt ss e) = _
      rw [b2, h4, tilt_four]
      show bal ss m + tilt (opAt ss m) + -1 = _
      rw [tilt_none (by omega) (by omega), b1]
      show bal ss i + tilt (opAt ss i) + 0 + -1 = _
      rw [tilt_two (by omega)]; omega
    · rcases Nat.lt_or_ge i k with h | h
      · rcases Nat.lt_or_ge k m with h' | h'
        · exact g1 k (by omega) h'
        · rcases Nat.lt_or_ge m k with h'' | h''
          · rcases Nat.lt_or_ge k e with h3' | h3'
            · exact g2 k (by omega) h3'
            · obtain rfl : k = e := by omega
              exact hge
          · obtain rfl : k = m := by omega
            exact hgm
      · obtain rfl : k = i := by omega
        exact hg
theorem balB_of {ss : List Stm} {i : Nat} (hi : i ≤ ss.length) (he : i < ss.length → BalE ss i) (hb : ∀ j, i < j → j ≤ ss.length → BalB ss j) : BalB ss i := by
  intro j hj
  by_cases h : i < ss.length
  · by_cases hs : opAt ss i = 3 ∨ opAt ss i = 9 ∨ opAt ss i = 4
    · rw [block_stop h hs] at hj
      obtain rfl : i = j := by omega
      exact ⟨rfl, fun k h1 h2 => by omega⟩
    · by_cases ho : opAt ss i = 2 ∨ opAt ss i = 5 ∨ opAt ss i = 8
      · by_cases h0 : 0 ≤ (endOf ss i).2
        · obtain ⟨e, h1, h2, h3, _⟩ := end_shape h h0
          obtain ⟨b1, g1⟩ := he h e h1
          rw [block_over h ho h0, h1, Int.toNat_natCast] at hj
          obtain ⟨b2, g2⟩ := hb (e + 1) (by omega) (by omega) j hj
          refine ⟨b2.trans b1, fun k hk1 hk2 => ?_⟩
          rcases Nat.lt_or_ge e k with h' | h'
          · exact g2 k (by omega) hk2
          · exact g1 k hk1 h'
        · rw [block_bad h ho (by omega)] at hj; omega
      · rw [block_next h hs ho] at hj
        obtain ⟨b2, g2⟩ := hb (i + 1) (by omega) (by omega) j hj
        refine ⟨?_, fun k hk1 hk2 => ?_⟩
        · rw [b2]
          show bal ss i + tilt (opAt ss i) = _
          rw [tilt_none ho (by omega)]; omega
        · rcases Nat.lt_or_ge i k with h' | h'
          · exact g2 k (by omega) hk2
          · obtain rfl : k = i := by omega
            exact fun h => absurd h ho
  · rw [block_past (by omega)] at hj
    obtain rfl : i = j := by omega
    exact ⟨rfl, fun k h1 h2 => by omega⟩
theorem bal_all (ss : List Stm) : ∀ (d i : Nat), ss.length - i ≤ d → i ≤ ss.length → BalB ss i ∧ (i < ss.length → BalE ss i)
  | 0, i, hd, hi => ⟨balB_of hi (fun h => absurd h (by omega)) (fun j h1 h2 => absurd h1 (by omega)), fun h => absurd h (by omega)⟩
  | d + 1, i, hd, hi => by
    have hb : ∀ j, i < j → j ≤ ss.length → BalB ss j := fun j h1 h2 => (bal_all ss d j (by omega) h2).1
    exact ⟨balB_of hi (fun h => balE_of h hb) hb, fun h => balE_of h hb⟩
/-- A well nested body: every beginning has its end, and they are as many. -/
theorem nested {ss : List Stm} (h : blockOf ss 0 = (ss.length : Int)) : bal ss ss.length = 0 ∧ ∀ k, k < ss.length → EndsOk ss k := by
  obtain ⟨b, g⟩ := (bal_all ss _ 0 (Nat.le_refl _) (Nat.zero_le _)).1 ss.length h
  exact ⟨b, fun k hk => g k (Nat.zero_le _) hk⟩
theorem end_else {ss : List Stm} {i : Nat} (h : i < ss.length) (ho : ¬ (opAt ss i = 2 ∨ opAt ss i = 5 ∨ opAt ss i = 8)) : endOf ss i = (-1, -1) := by
  rw [endOf, if_pos h, if_neg (by omega), if_neg (by omega), if_neg (by omega)]
end Go.Proofs.Yteigeihbokkpiaa
