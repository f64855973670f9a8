/- Plain mathematics of texts: an expression in words, a line, a program in words. No Go text here. -/
import Derived.Test.YtjboghmcmlkpoaaGreatDoorJ1
import Derived.Lib.ItoaNum
namespace Go.Proofs.YtjboghmcmlkpoaaGreatDoor
open Go.RowKit

def signsL : List (List UInt8) := [[43], [45], [42], [47], [37], [38], [124], [94], [60, 60], [62, 62], [61, 61], [60]]
/-- The sign of a Term that takes two. -/
def signS (op : Int) : List UInt8 := signsL.getD (op - 5).toNat []
/-- The name of a variable, of L Lows and S Secrets. -/
def varS (L S : Nat) (n : Int) : List UInt8 := if n < L then 108 :: Lib.itoa n else if n < (L : Int) + S then 115 :: Lib.itoa (n - L) else 116 :: Lib.itoa (n - L - S)
/-- A Term in words, of the words of what it takes. -/
def wordOf (L S : Nat) (op n : Int) (ks : List (List UInt8)) : List UInt8 :=
  if op = 0 then Lib.itoa n
  else if op = 1 then varS L S n
  else if op = 2 then 109 :: (Lib.itoa n ++ (91 :: (ks.getD 0 [] ++ [93])))
  else if op = 3 then 33 :: ks.getD 0 []
  else if op = 4 then 45 :: ks.getD 0 []
  else 40 :: (ks.getD 0 [] ++ (32 :: (signS op ++ (32 :: (ks.getD 1 [] ++ [41])))))
mutual
def Tr.words (L S : Nat) : Tr → List UInt8
  | .node op n kids => wordOf L S op n (Tr.wordss L S kids)
def Tr.wordss (L S : Nat) : List Tr → List (List UInt8)
  | [] => []
  | t :: r => t.words L S :: Tr.wordss L S r
end
theorem wordss_length (L S : Nat) (ts : List Tr) : (Tr.wordss L S ts).length = ts.length := by
  induction ts with
  | nil => simp [Tr.wordss]
  | cons t r ih => simp [Tr.wordss, ih]

/-! ### How long it is -/
theorem digs3 {n : Int} (h0 : 0 ≤ n) (h1 : n < 1000) : (Lib.itoa n).length ≤ 3 ∧ 1 ≤ (Lib.itoa n).length := by
  obtain ⟨k, rfl⟩ := Int.eq_ofNat_of_zero_le h0
  have e : Lib.itoa (k : Int) = Lib.decDigits k := by unfold Lib.itoa; rw [if_neg (by omega)]; rfl
  rw [e]
  by_cases h2 : k < 10
  · rw [Lib.decDigits, dif_pos h2]; simp
  rw [Lib.decDigits, dif_neg h2]
  by_cases h3 : k / 10 < 10
  · rw [Lib.decDigits, dif_pos h3]; simp
  rw [Lib.decDigits, dif_neg h3, Lib.decDigits, dif_pos (by omega)]; simp
theorem signS_len (op : Int) : (signS op).length ≤ 2 := by
  unfold signS
  generalize (op - 5).toNat = k
  match k with
  | 0 | 1 | 2 | 3 | 4 | 5 | 6 | 7 | 8 | 9 | 10 | 11 => decide
  | k + 12 => simp [signsL]
theorem varS_len {L S : Nat} {n : Int} (h0 : 0 ≤ n) (h1 : n < 256) : (varS L S n).length ≤ 4 := by
  unfold varS
  split
  · have := digs3 h0 (by omega); simp; omega
  · split
    · have := digs3 (n := n - L) (by omega) (by omega); simp; omega
    · have := digs3 (n := n - L - S) (by omega) (by omega); simp; omega
mutual
theorem words_len (L S : Nat) : ∀ t : Tr, t.okT → (t.words L S).length ≤ 8 * t.flat.length
  | .node op n kids, h => by
    simp only [Tr.okT] at h
    have hl := wordss_len L S kids h.2.2
    obtain ⟨h1, h2, h3, h4⟩ := (tOkB_iff _).1 h.1
    have hk := h.2.1
    simp only [] at h1 h2 h3
    simp only [Tr.words, Tr.flat, List.length_append, List.length_singleton]
    have hs := signS_len op
    have h0 : ((Tr.wordss L S kids).getD 0 []).length + ((Tr.wordss L S kids).getD 1 []).length ≤ ((Tr.wordss L S kids).map List.length).sum := by
      match Tr.wordss L S kids with
      | [] => simp
      | [a] => simp
      | a :: b :: r => simp only [List.getD_cons_zero, List.getD_cons_succ, List.map_cons, List.sum_cons]; omega
    unfold wordOf
    split
    · have := digs3 h2 (by omega); omega
    split
    · have := varS_len (L := L) (S := S) h2 (by omega); omega
    split
    · have := digs3 h2 (by omega); simp only [List.length_cons, List.length_append, List.length_nil]; omega
    split
    · simp only [List.length_cons]; omega
    split
    · simp only [List.length_cons]; omega
    · simp only [List.length_cons, List.length_append, List.length_nil]; omega
theorem wordss_len (L S : Nat) : ∀ ts : List Tr, Tr.oks ts → ((Tr.wordss L S ts).map List.length).sum ≤ 8 * (Tr.flats ts).length
  | [], _ => by simp [Tr.wordss, Tr.flats]
  | t :: r, h => by
    simp only [Tr.oks] at h
    have h1 := words_len L S t h.1
    have h2 := wordss_len L S r h.2
    simp only [Tr.wordss, Tr.flats, List.map_cons, List.sum_cons, List.length_append]
    omega
end

/-- An expression in words. -/
def expS (L S : Nat) (ts : List Tm) : List UInt8 := match stackOf ts with | [T] => T.words L S | _ => []
theorem expS_of {L S : Nat} {ts : List Tm} {T : Tr} (h : stackOf ts = [T]) : expS L S ts = T.words L S := by unfold expS; rw [h]
mutual
theorem fold_flat : ∀ (T : Tr) (S : List Tr), T.okT → T.flat.foldl stepS S = S ++ [T]
  | .node op n kids, S, h => by
    simp only [Tr.okT] at h
    simp only [Tr.flat, List.foldl_append, List.foldl_cons, List.foldl_nil]
    rw [fold_flats kids S h.2.2]
    unfold stepS
    have hk : (takesI op).toNat = kids.length := by have := h.2.1; omega
    simp only [hk, List.length_append, Nat.add_sub_cancel]
    rw [List.take_left, List.drop_left]
theorem fold_flats : ∀ (ts : List Tr) (S : List Tr), Tr.oks ts → (Tr.flats ts).foldl stepS S = S ++ ts
  | [], S, _ => by simp [Tr.flats]
  | t :: r, S, h => by
    simp only [Tr.oks] at h
    simp only [Tr.flats, List.foldl_append]
    rw [fold_flat t S h.1, fold_flats r _ h.2]
    simp
end
/-- What was flattened is the tree again. -/
theorem stackOf_flat (T : Tr) (h : T.okT) : stackOf T.flat = [T] := by
  have := fold_flat T [] h
  simpa [stackOf] using this
theorem expS_flat {L S : Nat} {T : Tr} (h : T.okT) : expS L S T.flat = T.words L S := expS_of (stackOf_flat T h)
end Go.Proofs.YtjboghmcmlkpoaaGreatDoor
