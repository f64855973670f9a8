/- Plain mathematics of steps: what a well nested part of a body takes, and that it is no great number. -/
import Derived.Test.YtdippnnhibgjoaaNestMath
namespace Go.Proofs.Ytdippnnhibgjoaa

/-- The part [i, j) takes s steps. -/
inductive Steps (ss : List Stm) : Nat → Nat → Nat → Prop where
  | nil (i : Nat) : Steps ss i i 0
  | plain {i j s : Nat} (hi : i < ss.length) (h2 : opAt ss i ≠ 2) (h5 : opAt ss i ≠ 5) (h8 : opAt ss i ≠ 8) (t : Steps ss (i + 1) j s) : Steps ss i j (1 + s)
  | one {i e j s t : Nat} (hi : i < ss.length) (h2 : opAt ss i = 2) (he : endOf ss i = (-1, (e : Int))) (p : Steps ss (i + 1) e s) (q : Steps ss (e + 1) j t) : Steps ss i j (1 + s + t)
  | two {i m e j s s' t : Nat} (hi : i < ss.length) (h2 : opAt ss i = 2) (he : endOf ss i = ((m : Int), (e : Int))) (p : Steps ss (i + 1) m s) (p' : Steps ss (m + 1) e s') (q : Steps ss (e + 1) j t) : Steps ss i j (1 + max s s' + t)
  | loop {i e j k s t : Nat} (hi : i < ss.length) (h5 : opAt ss i = 5) (he : endOf ss i = (-1, (e : Int))) (hk : (stAt ss i).n = (k : Int)) (h4 : k ≤ 4) (p : Steps ss (i + 1) e s) (q : Steps ss (e + 1) j t) : Steps ss i j (1 + k * (1 + s) + t)
  | attempt {i m e j s s' t : Nat} (hi : i < ss.length) (h8 : opAt ss i = 8) (he : endOf ss i = ((m : Int), (e : Int))) (p : Steps ss (i + 1) m s) (p' : Steps ss (m + 1) e s') (q : Steps ss (e + 1) j t) : Steps ss i j (1 + s + s' + t)

theorem sq_le {a b : Nat} (h : a ≤ b) : a * a ≤ b * b := Nat.mul_le_mul h h
theorem mul_one_le {a b : Nat} (hb : 1 ≤ b) : a ≤ a * b := by
  calc a = a * 1 := (Nat.mul_one a).symm
    _ ≤ a * b := Nat.mul_le_mul_left a hb
/-- Two parts and two statements. -/
theorem grow2 {S T a b x : Nat} (hS : S * S ≤ 6 ^ a) (hT : T * T ≤ 6 ^ b) (h1 : 1 ≤ S) (h2 : 1 ≤ T) (hx : x ≤ 1 + 4 * S + T) : x * x ≤ 6 ^ (a + b + 2) := by
  have e1 : S ≤ S * T := mul_one_le h2
  have e2 : T ≤ S * T := by rw [Nat.mul_comm]; exact mul_one_le h1
  have e3 : x ≤ 6 * (S * T) := by omega
  calc x * x ≤ (6 * (S * T)) * (6 * (S * T)) := sq_le e3
    _ = (S * S) * (T * T) * 36 := by simp only [Nat.mul_comm, Nat.mul_left_comm, Nat.mul_assoc]
    _ ≤ 6 ^ a * 6 ^ b * 36 := Nat.mul_le_mul_right _ (Nat.mul_le_mul hS hT)
    _ = 6 ^ (a + b + 2) := by rw [Nat.pow_add, Nat.pow_add]
theorem grow3 {S U T a b c x : Nat} (hS : S * S ≤ 6 ^ a) (hU : U * U ≤ 6 ^ b) (hT : T * T ≤ 6 ^ c) (h1 : 1 ≤ S) (h2 : 1 ≤ U) (h3 : 1 ≤ T) (hx : x ≤ S + U + T) : x * x ≤ 6 ^ (a + b + c + 3) := by
  have hSU : 1 ≤ S * U := Nat.mul_le_mul h1 h2
  have e0 : S * U ≤ S * U * T := mul_one_le h3
  have e1 : S ≤ S * U := mul_one_le h2
  have e2 : U ≤ S * U := by rw [Nat.mul_comm]; exact mul_one_le h1
  have e3 : T ≤ S * U * T := by rw [Nat.mul_comm]; exact mul_one_le hSU
  have e4 : x ≤ 3 * (S * U * T) := by omega
  calc x * x ≤ (3 * (S * U * T)) * (3 * (S * U * T)) := sq_le e4
    _ = (S * S) * (U * U) * (T * T) * 9 := by simp only [Nat.mul_comm, Nat.mul_left_comm, Nat.mul_assoc]
    _ ≤ 6 ^ a * 6 ^ b * 6 ^ c * 9 := Nat.mul_le_mul_right _ (Nat.mul_le_mul (Nat.mul_le_mul hS hU) hT)
    _ ≤ 6 ^ a * 6 ^ b * 6 ^ c * 6 ^ 3 := Nat.mul_le_mul_left _ (by decide)
    _ = 6 ^ (a + b + c + 3) := by rw [Nat.pow_add, Nat.pow_add, Nat.pow_add]
theorem steps_small {ss : List Stm} {i j s : Nat} (h : Steps ss i j s) : i ≤ j ∧ (s + 1) * (s + 1) ≤ 6 ^ (j - i) := by
  induction h with
  | nil i => exact ⟨Nat.le_refl _, by rw [Nat.sub_self]; decide⟩
  | @plain i j s hi h2 h5 h8 t ih =>
    refine ⟨by omega, ?_⟩
    have := grow2 (S := 1) (T := s + 1) (a := 0) (b := j - (i + 1)) (x := s + 2) (by decide) ih.2 (by omega) (by omega) (by omega)
    have e : (1 + s + 1) = s + 2 := by omega
    rw [e]
    have h4 : (s + 2) * (s + 2) ≤ 4 * ((s + 1) * (s + 1)) := by
      have : s + 2 ≤ 2 * (s + 1) := by omega
      calc (s + 2) * (s + 2) ≤ (2 * (s + 1)) * (2 * (s + 1)) := sq_le this
        _ = 4 * ((s + 1) * (s + 1)) := by simp only [Nat.mul_comm, Nat.mul_left_comm, Nat.mul_assoc]
    have e2 : 6 ^ (j - i) = 6 ^ (j - (i + 1)) * 6 := by rw [← Nat.pow_succ]; congr 1; omega
    rw [e2]
    omega
  | @one i e j s t hi h2 he p q ih1 ih2 =>
    refine ⟨by omega, ?_⟩
    have := grow2 (x := 1 + s + t + 1) ih1.2 ih2.2 (by omega) (by omega) (by omega)
    rwa [show e - (i + 1) + (j - (e + 1)) + 2 = j - i by omega] at this
  | @two i m e j s s' t hi h2 he p p' q ih1 ih2 ih3 =>
    refine ⟨by omega, ?_⟩
    have := grow3 (x := 1 + max s s' + t + 1) ih1.2 ih2.2 ih3.2 (by omega) (by omega) (by omega) (by omega)
    rwa [show m - (i + 1) + (e - (m + 1)) + (j - (e + 1)) + 3 = j - i by omega] at this
  | @loop i e j k s t hi h5 he hk h4 p q ih1 ih2 =>
    refine ⟨by omega, ?_⟩
    have hm : k * (1 + s) ≤ 4 * (1 + s) := Nat.mul_le_mul_right _ h4
    have := grow2 (x := 1 + k * (1 + s) + t + 1) ih1.2 ih2.2 (by omega) (by omega) (by omega)
    rwa [show e - (i + 1) + (j - (e + 1)) + 2 = j - i by omega] at this
  | @attempt i m e j s s' t hi h8 he p p' q ih1 ih2 ih3 =>
    refine ⟨by omega, ?_⟩
    have := grow3 (x := 1 + s + s' + t + 1) ih1.2 ih2.2 ih3.2 (by omega) (by omega) (by omega) (by omega)
    rwa [show m - (i + 1) + (e - (m + 1)) + (j - (e + 1)) + 3 = j - i by omega] at this
theorem steps_bound {ss : List Stm} {i j s : Nat} (h : Steps ss i j s) (h40 : j - i ≤ 40) : s < 3656158440062976 := by
  have := (steps_small h).2
  have h2 : 6 ^ (j - i) ≤ 6 ^ 40 := Nat.pow_le_pow_right (by omega) h40
  rcases Nat.lt_or_ge s 3656158440062976 with hlt | hge
  · exact hlt
  · have h3 : 3656158440062977 * 3656158440062977 ≤ (s + 1) * (s + 1) := sq_le (by omega)
    have h4 : (6 : Nat) ^ 40 < 3656158440062977 * 3656158440062977 := by decide
    omega
end Go.Proofs.Ytdippnnhibgjoaa
