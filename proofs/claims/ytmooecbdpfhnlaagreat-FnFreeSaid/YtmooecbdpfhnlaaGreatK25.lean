/- All inputs in their order: an input's values by its number, and how one goes on to the next: plain mathematics. -/
import Derived.Test.YtmooecbdpfhnlaaGreatK24
namespace Go.Proofs.YtmooecbdpfhnlaaGreat
open Go.RowKit

/-- The values of an input's number. -/
def digs : List Int → Int → List Int
  | [], _ => []
  | m :: ms, n => n % (m + 1) :: digs ms (n / (m + 1))
/-- The next values, and whether there are any. -/
def nextD : List Int → List Int → List Int × Bool
  | m :: ms, z :: zs => if z < m then ((z + 1) :: zs, true) else (0 :: (nextD ms zs).1, (nextD ms zs).2)
  | _, zs => (zs, false)
def prodL : List Int → Int
  | [] => 1
  | m :: ms => (m + 1) * prodL ms
theorem digs_len : ∀ (ms : List Int) (n : Int), (digs ms n).length = ms.length
  | [], _ => rfl
  | m :: ms, n => by simp [digs, digs_len ms]
theorem prodL_pos : ∀ {ms : List Int}, (∀ m ∈ ms, 0 ≤ m) → 1 ≤ prodL ms
  | [], _ => by simp [prodL]
  | m :: ms, h => by
    have h1 := prodL_pos (ms := ms) (fun x hx => h x (List.mem_cons_of_mem _ hx))
    have h2 := h m (List.mem_cons_self)
    have : 1 * 1 ≤ (m + 1) * prodL ms := Int.mul_le_mul (by omega) h1 (by omega) (by omega)
    rw [prodL]; omega
theorem prodL_le : ∀ {ms : List Int}, (∀ m ∈ ms, 0 ≤ m ∧ m ≤ 255) → prodL ms ≤ ((256 ^ ms.length : Nat) : Int)
  | [], _ => by simp [prodL]
  | m :: ms, h => by
    have h1 := prodL_le (ms := ms) (fun x hx => h x (List.mem_cons_of_mem _ hx))
    have h2 := h m (List.mem_cons_self)
    have h3 := prodL_pos (ms := ms) (fun x hx => (h x (List.mem_cons_of_mem _ hx)).1)
    have : (m + 1) * prodL ms ≤ 256 * ((256 ^ ms.length : Nat) : Int) := Int.mul_le_mul (by omega) h1 (by omega) (by omega)
    rw [prodL, List.length_cons, Nat.pow_succ, Int.natCast_mul]
    omega
theorem prodL_small {ms : List Int} (h : ∀ m ∈ ms, 0 ≤ m ∧ m ≤ 255) (hl : ms.length ≤ 6) : prodL ms ≤ 281474976710656 := by
  have h1 := prodL_le h
  have hp : 256 ^ ms.length ≤ 256 ^ 6 := Nat.pow_le_pow_right (by omega) hl
  have hq : ((256 ^ ms.length : Nat) : Int) ≤ ((256 ^ 6 : Nat) : Int) := Int.ofNat_le.2 hp
  have he : ((256 ^ 6 : Nat) : Int) = 281474976710656 := by decide
  omega
theorem countTo_cons (m : Int) (ms : List Int) : ∀ k, countTo (m :: ms) (k + 1) = (m + 1) * countTo ms k
  | 0 => by simp [countTo]
  | k + 1 => by
    rw [countTo, countTo_cons m ms k, countTo]
    simp only [List.getD_cons_succ]
    rw [Int.mul_assoc]
theorem countTo_prod : ∀ ms : List Int, countTo ms ms.length = prodL ms
  | [] => rfl
  | m :: ms => by rw [List.length_cons, countTo_cons, countTo_prod ms, prodL]
theorem digs_zero : ∀ {ms : List Int}, (∀ m ∈ ms, 0 ≤ m) → digs ms 0 = List.replicate ms.length 0
  | [], _ => rfl
  | m :: ms, h => by
    rw [digs, Int.zero_emod, Int.zero_ediv, digs_zero (fun x hx => h x (List.mem_cons_of_mem _ hx))]; rfl
theorem digs_in : ∀ {ms : List Int} (n : Int), (∀ m ∈ ms, 0 ≤ m ∧ m ≤ 255) → ∀ z ∈ digs ms n, 0 ≤ z ∧ z ≤ 255
  | [], _, _, z, hz => by simp [digs] at hz
  | m :: ms, n, h, z, hz => by
    rw [digs, List.mem_cons] at hz
    have hm := h m (List.mem_cons_self)
    rcases hz with rfl | hz
    · have h1 := Int.emod_nonneg n (show m + 1 ≠ 0 by omega)
      have h2 := Int.emod_lt_of_pos n (show 0 < m + 1 by omega)
      omega
    · exact digs_in _ (fun x hx => h x (List.mem_cons_of_mem _ hx)) z hz
theorem nextD_digs : ∀ {ms : List Int}, (∀ m ∈ ms, 0 ≤ m) → ∀ {n : Int}, 0 ≤ n → n < prodL ms → (nextD ms (digs ms n)).2 = decide (n + 1 < prodL ms) ∧ (n + 1 < prodL ms → (nextD ms (digs ms n)).1 = digs ms (n + 1))
  | [], _, n, h0, h1 => by
    have : n = 0 := by simp [prodL] at h1; omega
    subst this
    exact ⟨rfl, fun h => by simp [prodL] at h⟩
  | m :: ms, h, n, h0, h1 => by
    have hm := h m (List.mem_cons_self)
    have hms := fun x hx => h x (List.mem_cons_of_mem _ hx)
    have hp := prodL_pos hms
    have e0 := Int.emod_add_mul_ediv n (m + 1)
    have z0 := Int.emod_nonneg n (show m + 1 ≠ 0 by omega)
    have z1 := Int.emod_lt_of_pos n (show 0 < m + 1 by omega)
    have q0 := Int.ediv_nonneg h0 (show 0 ≤ m + 1 by omega)
    rw [prodL] at h1 ⊢
    rw [digs, digs]
    generalize hz : n % (m + 1) = z at e0 z0 z1 ⊢
    generalize hq : n / (m + 1) = q at e0 q0 ⊢
    generalize hP : prodL ms = P at h1 hp ⊢
    have hqP : q < P := by
      refine Int.lt_of_not_ge fun hge => ?_
      have : (m + 1) * P ≤ (m + 1) * q := Int.mul_le_mul_of_nonneg_left hge (by omega)
      omega
    rw [nextD]
    by_cases hlt : z < m
    · rw [if_pos hlt]
      have hu := (Int.ediv_emod_unique (a := n + 1) (b := m + 1) (r := z + 1) (q := q) (by omega)).2 ⟨by omega, by omega, by omega⟩
      rw [hu.1, hu.2]
      have hlt2 : n + 1 < (m + 1) * P := by
        have : (m + 1) * (q + 1) ≤ (m + 1) * P := Int.mul_le_mul_of_nonneg_left (by omega) (by omega)
        rw [Int.mul_add, Int.mul_one] at this
        omega
      refine ⟨by simp [hlt2], fun _ => ?_⟩
      have hd : digs ms q = digs ms q := rfl
      simp
    · rw [if_neg hlt]
      have hzm : z = m := by omega
      subst hzm
      have hu := (Int.ediv_emod_unique (a := n + 1) (b := z + 1) (r := 0) (q := q + 1) (by omega)).2 ⟨by rw [Int.mul_add, Int.mul_one]; omega, by omega, by omega⟩
      rw [hu.1, hu.2]
      obtain ⟨i1, i2⟩ := nextD_digs hms q0 (by rw [hP]; exact hqP)
      rw [hP] at i1 i2
      have hiff : n + 1 < (z + 1) * P ↔ q + 1 < P := by
        constructor
        · intro hh
          refine Int.lt_of_not_ge fun hge => ?_
          have : (z + 1) * P ≤ (z + 1) * (q + 1) := Int.mul_le_mul_of_nonneg_left hge (by omega)
          rw [Int.mul_add, Int.mul_one] at this
          omega
        · intro hh
          have : (z + 1) * (q + 1 + 1) ≤ (z + 1) * P := Int.mul_le_mul_of_nonneg_left (by omega) (by omega)
          rw [Int.mul_add, Int.mul_add, Int.mul_one] at this
          omega
      refine ⟨by rw [i1]; exact decide_eq_decide.2 hiff.symm, fun hh => ?_⟩
      rw [i2 (hiff.1 hh)]
/-- The loop's view: the first i are 0 already. -/
theorem nextD_step {ms zs : List Int} {i : Nat} (hi : i < ms.length) (hl : zs.length = ms.length) :
    nextD (ms.drop i) (zs.drop i) = if zs.getD i 0 < ms.getD i 0 then ((zs.getD i 0 + 1) :: zs.drop (i + 1), true) else (0 :: (nextD (ms.drop (i + 1)) (zs.drop (i + 1))).1, (nextD (ms.drop (i + 1)) (zs.drop (i + 1))).2) := by
  have e1 : ms.drop i = ms.getD i 0 :: ms.drop (i + 1) := by
    rw [List.drop_eq_getElem_cons hi]; simp [List.getD_eq_getElem?_getD, List.getElem?_eq_getElem hi]
  have hi' : i < zs.length := by omega
  have e2 : zs.drop i = zs.getD i 0 :: zs.drop (i + 1) := by
    rw [List.drop_eq_getElem_cons hi']; simp [List.getD_eq_getElem?_getD, List.getElem?_eq_getElem hi']
  rw [e1, e2]
  rfl
theorem repl_get {zs : List Int} {i : Nat} : (List.replicate i (0 : Int) ++ zs.drop i).getD i 0 = zs.getD i 0 := by
  simp [List.getD_eq_getElem?_getD, List.getElem?_append_right]
theorem repl_set {zs : List Int} {i : Nat} (hi : i < zs.length) (v : Int) : (List.replicate i (0 : Int) ++ zs.drop i).set i v = List.replicate i 0 ++ (v :: zs.drop (i + 1)) := by
  rw [List.set_append_right _ _ (by simp), List.length_replicate, Nat.sub_self, List.drop_eq_getElem_cons hi]
  rfl
theorem repl_more {zs : List Int} {i : Nat} : List.replicate i (0 : Int) ++ (0 :: zs.drop (i + 1)) = List.replicate (i + 1) 0 ++ zs.drop (i + 1) := by
  rw [List.replicate_succ', List.append_assoc]; rfl
end Go.Proofs.YtmooecbdpfhnlaaGreat
