/- Joined texts of this proof (SpecProgOk, EndsLaw, Math, Cmp, Push, Trim), in build order. -/
import Derived.Test.YteigeihbokkpiaaJ9
import Derived.Test.YteigeihbokkpiaaJ1
/- The contracts of the model's ProgOk and StepsOf. -/
namespace Go.Proofs.Yteigeihbokkpiaa
open Go.RowKit

/-- What StepsOf answers. -/
noncomputable def stepsB (p : Prg) : Int := if codeB p = 0 then (stepsN p.body : Int) else -1
theorem codeB_ok {p : Prg} (h : codeB p = 0) : p.body.length ≤ 40 ∧ Steps p.body 0 p.body.length (stepsN p.body) := by
  unfold codeB at h
  split at h
  · exact absurd h (by decide)
  split at h
  · exact absurd h (by decide)
  split at h
  · exact absurd h (by decide)
  split at h
  · exact absurd h (by decide)
  split at h
  · exact absurd h (by decide)
  rename_i h3 h4 h5
  have hs : stmtsB p = true := by simpa using h4
  have hr : roomB p = true := by simpa using h3
  have hb : blockOf p.body 0 = (p.body.length : Int) := by simpa using h5
  simp only [roomB, Bool.and_eq_true, decide_eq_true_eq] at hr
  exact ⟨by omega, stepsN_spec (part_steps (loops_ok hs) _ 0 _ (Nat.le_refl _) (Nat.zero_le _) hb)⟩
set_option maxHeartbeats 800000 in
theorem specProgOk_any (r : PRow) (p : Prg) (w : World) (h : ProgAt w r p) :
    Calls Try.prog 23 #[progV r] w fun e w' => e = .returned (.bool (codeB p == 0)) ∧ Below w.heap.size w w' := by
  have HC : Hid (∀ w', Below w.heap.size w w' → Calls Try.prog 13 #[progV r] w' fun e w'' => e = .returned (.int .i64 (codeB p)) ∧ Below w'.heap.size w' w'') := Lib.hid (fun w' hw => specCodeOf_any r p w' (h.below hw))
  obtain ⟨Z, HZ⟩ : ∃ Z, Hid (codeB p = Z) := ⟨_, rfl⟩
  rw [HZ.out] at HC ⊢
  obtain ⟨wd, ⟨a1, n1, c1⟩, ⟨a2, n2, c2⟩, tp, ⟨a3, n3, c3⟩, ⟨a4, n4, c4⟩, rows⟩ := r
  clear h HZ
  show Calls Try.prog 23 #[.agg #[.int .i64 wd, .slice a1 n1 c1, .slice a2 n2 c2, .int .i64 tp, .slice a3 n3 c3, .slice a4 n4 c4]] w _
  have HB : Below w.heap.size w (w.alloc (.cells #[.int .i64 wd, .slice a1 n1 c1, .slice a2 n2 c2, .int .i64 tp, .slice a3 n3 c3, .slice a4 n4 c4] 28)) := (Below.refl _ _).alloc (Nat.le_refl _) _
  go_enter Try.func23, Try.ntmps23
  go_wp2_with fail
  refine (HC.out _ HB).mono ?_
  rintro e w1 ⟨rfl, hb1⟩
  have HB := HB.trans (hb1.mono HB.size)
  go_wp2
  go_ret
  exact ⟨ret_bool (by cases hz : (Z == 0) <;> simp_all), HB⟩
set_option maxHeartbeats 800000 in
theorem specStepsOf_any (r : PRow) (p : Prg) (w : World) (h : ProgAt w r p) :
    Calls Try.prog 29 #[progV r] w fun e w' => e = .returned (.int .i64 (stepsB p)) ∧ Below w.heap.size w w' := by
  have HC : Hid (∀ w', Below w.heap.size w w' → Calls Try.prog 23 #[progV r] w' fun e w'' => e = .returned (.bool (codeB p == 0)) ∧ Below w'.heap.size w' w'') := Lib.hid (fun w' hw => specProgOk_any r p w' (h.below hw))
  obtain ⟨S, HS⟩ : ∃ S, Hid (stepsB p = S) := ⟨_, rfl⟩
  rw [HS.out]
  obtain ⟨wd, ⟨a1, n1, c1⟩, ⟨a2, n2, c2⟩, tp, ⟨a3, n3, c3⟩, ⟨a4, n4, c4⟩, rows⟩ := r
  show Calls Try.prog 29 #[.agg #[.int .i64 wd, .slice a1 n1 c1, .slice a2 n2 c2, .int .i64 tp, .slice a3 n3 c3, .slice a4 n4 c4]] w _
  obtain ⟨wa, HW⟩ : ∃ wa, Hid (wa = w.alloc (.cells #[.int .i64 wd, .slice a1 n1 c1, .slice a2 n2 c2, .int .i64 tp, .slice a3 n3 c3, .slice a4 n4 c4] 28)) := ⟨_, rfl⟩
  have B : Blk wa w.heap.size 28 [.int .i64 wd, .slice a1 n1 c1, .slice a2 n2 c2, .int .i64 tp, .slice a3 n3 c3, .slice a4 n4 c4] := by rw [HW.out]; exact Blk.new w _ _
  have HB : Below w.heap.size w wa := by rw [HW.out]; exact (Below.refl _ _).alloc (Nat.le_refl _) _
  by_cases hz : codeB p = 0
  · have hzz : (codeB p == 0) = true := by simpa using hz
    rw [hzz] at HC
    obtain ⟨h40, hst⟩ := codeB_ok hz
    have hS : S = (stepsN p.body : Int) := by rw [← HS.out, stepsB, if_pos hz]
    obtain ⟨Q, HQ⟩ : ∃ Q, Hid (stepsN p.body = Q) := ⟨_, rfl⟩
    rw [HQ.out] at hst hS
    have h4 := h.body
    simp only [] at h4
    rw [h4.2.1] at h40 hst
    have HD : Hid (∀ w', Below w.heap.size w w' → Calls Try.prog 44 #[.slice a4 n4 c4, .int .i64 0, .int .i64 (n4 : Int)] w' fun e w'' => e = .returned (.int .i64 (Q : Int)) ∧ Still w' w'') := Lib.hid (fun w' hw' => l3Steps_any a4 n4 c4 rows p.body 0 n4 Q w' (h4.below hw') h40 (Nat.le_refl _) hst)
    subst hS
    clear hst h4 h hz hzz HS
    go_enter Try.func29, Try.ntmps29
    go_wp2_with fail
    rw [← HW.out]
    refine (HC.out _ HB).mono ?_
    rintro e w1 ⟨rfl, hb1⟩
    have B := B.below hb1 B.lt
    have HB := HB.trans (hb1.mono HB.size)
    have t5 := B.cell (j := 5) rfl
    go_wp2_with fail
    refine (HD.out _ HB).mono ?_
    rintro e w2 ⟨rfl, hs2⟩
    have HB := HB.trans (hs2.below _)
    go_wp2
    go_ret
    exact ⟨rfl, HB⟩
  · have hzz : (codeB p == 0) = false := by simpa using hz
    rw [hzz] at HC
    have hS : S = -1 := by rw [← HS.out, stepsB, if_neg hz]
    subst hS
    clear h hz hzz HS
    go_enter Try.func29, Try.ntmps29
    go_wp2_with fail
    rw [← HW.out]
    refine (HC.out _ HB).mono ?_
    rintro e w1 ⟨rfl, hb1⟩
    have HB := HB.trans (hb1.mono HB.size)
    go_wp2
    go_ret
    exact ⟨rfl, HB⟩
end Go.Proofs.Yteigeihbokkpiaa
/- What a right program's body is, for the law of ends. -/
namespace Go.Proofs.Yteigeihbokkpiaa

theorem codeB_nest {p : Prg} (h : codeB p = 0) : p.body.length ≤ 40 ∧ blockOf p.body 0 = (p.body.length : Int) := by
  unfold codeB at h
  split at h
  · exact absurd h (by decide)
  split at h
  · exact absurd h (by decide)
  split at h
  · exact absurd h (by decide)
  split at h
  · exact absurd h (by decide)
  split at h
  · exact absurd h (by decide)
  rename_i h3 h4 h5
  have hr : roomB p = true := by simpa using h3
  simp only [roomB, Bool.and_eq_true, decide_eq_true_eq] at hr
  exact ⟨by omega, by simpa using h5⟩
theorem tilt_small (x : Int) : -1 ≤ tilt x ∧ tilt x ≤ 1 := by unfold tilt; split <;> (try split) <;> omega
theorem bal_small (ss : List Stm) : ∀ k : Nat, -(k : Int) ≤ bal ss k ∧ bal ss k ≤ (k : Int)
  | 0 => ⟨by simp [bal], by simp [bal]⟩
  | k + 1 => by
    have h1 := bal_small ss k
    have h2 := tilt_small (opAt ss k)
    simp only [bal]
    omega
theorem field_body (v0 v1 v2 v3 v4 v5 : Value) (w : World) : Sem.run Try.prog (Instr.field 28 (.agg #[v0, v1, v2, v3, v4, v5]) 5) w = .ok v5 w := by kernel_rfl
end Go.Proofs.Yteigeihbokkpiaa
/- Plain mathematics of lists of limbs in base 10000: their value, the one list of a number, sums of limbs. No Go text here. -/
namespace Go.Proofs.Yteigeihbokkpiaa
open Go.RowKit

/-- The value of a list of limbs, the lowest first. -/
def val : List Int → Nat
  | [] => 0
  | z :: r => z.toNat + 10000 * val r

/-- The limbs of a number (with fuel). -/
def toLF : Nat → Nat → List Int
  | 0, _ => []
  | f + 1, n => if n = 0 then [] else ((n % 10000 : Nat) : Int) :: toLF f (n / 10000)
def toL (n : Nat) : List Int := toLF n n

theorem toLF_more : ∀ (f n : Nat), n ≤ f → toLF f n = toLF n n := by
  intro f
  induction f using Nat.strongRecOn with
  | _ f ih =>
    intro n hn
    cases f with
    | zero => have : n = 0 := by omega
              subst this; rfl
    | succ f =>
      cases n with
      | zero => simp [toLF]
      | succ n =>
        simp only [toLF]
        rw [if_neg (by omega), if_neg (by omega)]
        rw [ih f (by omega) ((n + 1) / 10000) (by omega), ih n (by omega) ((n + 1) / 10000) (by omega)]

theorem toL_zero : toL 0 = [] := rfl
theorem toL_pos {n : Nat} (h : 0 < n) : toL n = ((n % 10000 : Nat) : Int) :: toL (n / 10000) := by
  unfold toL
  cases n with
  | zero => omega
  | succ n =>
    rw [toLF, if_neg (by omega), toLF_more n ((n + 1) / 10000) (by omega)]

/-- All limbs are limbs. -/
def Good (l : List Int) : Prop := ∀ z ∈ l, 0 ≤ z ∧ z ≤ 9999
theorem good_of_to {l : List Int} (h : GoodTo l l.length) : Good l := by
  intro z hz
  obtain ⟨i, hi, rfl⟩ := List.getElem_of_mem hz
  have := h i hi
  rw [List.getD_eq_getElem?_getD, List.getElem?_eq_getElem hi] at this
  exact this
theorem Good.to {l : List Int} (h : Good l) : GoodTo l l.length := fun _ hi => h _ (getD_mem hi)
theorem Good.in64 {l : List Int} (h : Good l) : ∀ z ∈ l, In64 z := fun z hz => ⟨by have := h z hz; omega, by have := h z hz; omega⟩
theorem Good.getD {l : List Int} (h : Good l) (i : Nat) : 0 ≤ l.getD i 0 ∧ l.getD i 0 ≤ 9999 := by
  by_cases hi : i < l.length
  · exact h _ (getD_mem hi)
  · rw [List.getD_eq_getElem?_getD, List.getElem?_eq_none (by omega)]; simp
theorem Good.take {l : List Int} (h : Good l) (k : Nat) : Good (l.take k) := fun z hz => h z (List.mem_of_mem_take hz)
theorem good_nil : Good [] := fun z hz => by simp at hz
theorem Good.snoc {l : List Int} {z : Int} (h : Good l) (h0 : 0 ≤ z) (h1 : z ≤ 9999) : Good (l ++ [z]) := by
  intro x hx
  rcases List.mem_append.1 hx with h' | h'
  · exact h x h'
  · rw [List.mem_singleton] at h'; subst h'; exact ⟨h0, h1⟩

/-- No nought at the end. -/
def Tight (l : List Int) : Prop := 0 < l.length → l.getD (l.length - 1) 0 ≠ 0
theorem tight_cons {x y : Int} {r : List Int} (h : Tight (x :: y :: r)) : Tight (y :: r) := by
  intro _
  have := h (by simp)
  simpa [List.getD_eq_getElem?_getD] using this

theorem val_pos {l : List Int} (hg : Good l) (ht : Tight l) (hp : 0 < l.length) : 0 < val l := by
  induction l with
  | nil => simp at hp
  | cons x r ih =>
    cases r with
    | nil =>
      have h1 := ht (by simp)
      have h2 := hg x (by simp)
      simp at h1
      simp [val]; omega
    | cons y r =>
      have := ih (fun z hz => hg z (List.mem_cons_of_mem _ hz)) (tight_cons ht) (by simp)
      simp only [val] at this ⊢; omega

/-- A number has one list of limbs. -/
theorem toL_val {l : List Int} (hg : Good l) (ht : Tight l) : toL (val l) = l := by
  induction l with
  | nil => rfl
  | cons x r ih =>
    have hp := val_pos hg ht (by simp)
    have hx := hg x (by simp)
    have hr : toL (val r) = r := by
      cases r with
      | nil => rfl
      | cons y r => exact ih (fun z hz => hg z (List.mem_cons_of_mem _ hz)) (tight_cons ht)
    rw [toL_pos hp]
    have e1 : val (x :: r) % 10000 = x.toNat := by simp only [val]; omega
    have e2 : val (x :: r) / 10000 = val r := by simp only [val]; omega
    rw [e1, e2, hr]
    congr 1
    omega

theorem val_toL (n : Nat) : val (toL n) = n := by
  induction n using Nat.strongRecOn with
  | _ n ih =>
    by_cases h : 0 < n
    · rw [toL_pos h, val, ih (n / 10000) (by omega)]; omega
    · have : n = 0 := by omega
      subst this; rfl
theorem good_toL (n : Nat) : Good (toL n) := by
  induction n using Nat.strongRecOn with
  | _ n ih =>
    by_cases h : 0 < n
    · rw [toL_pos h]
      intro z hz
      rcases List.mem_cons.1 hz with rfl | hz
      · omega
      · exact ih (n / 10000) (by omega) z hz
    · have : n = 0 := by omega
      subst this; exact good_nil
theorem tight_toL (n : Nat) : Tight (toL n) := by
  induction n using Nat.strongRecOn with
  | _ n ih =>
    by_cases h : 0 < n
    · rw [toL_pos h]
      by_cases h2 : 0 < n / 10000
      · have := ih (n / 10000) (by omega)
        intro _
        rw [toL_pos h2] at this ⊢
        have := this (by simp)
        simpa [List.getD_eq_getElem?_getD] using this
      · intro _
        have e : n / 10000 = 0 := by omega
        rw [e, toL_zero]
        simp; omega
    · have : n = 0 := by omega
      subst this; intro h; simp [toL_zero] at h

theorem okB_iff (l : List Int) : okB l = true ↔ l.length ≤ 100 ∧ Good l ∧ Tight l := by
  constructor
  · intro h
    have := okB_good h
    exact ⟨this.1, good_of_to this.2.1, this.2.2⟩
  · rintro ⟨h1, h2, h3⟩
    by_cases hp : 0 < l.length
    · rw [okB_last h1 h2.to hp rfl]
      simpa using h3 hp
    · exact okB_nil (by omega)
theorem okB_toL (n : Nat) : okB (toL n) = decide ((toL n).length ≤ 100) := by
  by_cases h : (toL n).length ≤ 100
  · rw [decide_eq_true h]; exact (okB_iff _).2 ⟨h, good_toL n, tight_toL n⟩
  · rw [decide_eq_false h, ← Bool.not_eq_true, okB_iff]; exact fun h' => h h'.1
theorem ok_toL {l : List Int} (h : okB l = true) : toL (val l) = l := toL_val ((okB_iff l).1 h).2.1 ((okB_iff l).1 h).2.2

/-! ### The value of what is put together -/
theorem val_append (a b : List Int) : val (a ++ b) = val a + 10000 ^ a.length * val b := by
  induction a with
  | nil => simp [val]
  | cons x r ih =>
    rw [List.cons_append, val, val, ih, List.length_cons, Nat.pow_succ, Nat.mul_add, Nat.mul_comm (10000 ^ r.length) 10000, ← Nat.mul_assoc]
    omega
theorem val_snoc (a : List Int) (z : Int) : val (a ++ [z]) = val a + 10000 ^ a.length * z.toNat := by
  rw [val_append]; simp [val]
theorem val_replicate (n : Nat) : val (List.replicate n 0) = 0 := by
  induction n with
  | zero => rfl
  | succ n ih => rw [List.replicate_succ, val, ih]; rfl
theorem val_lt {l : List Int} (h : Good l) : val l < 10000 ^ l.length := by
  induction l with
  | nil => simp [val]
  | cons x r ih =>
    have := ih (fun z hz => h z (List.mem_cons_of_mem _ hz))
    have hx := h x (by simp)
    rw [val, List.length_cons, Nat.pow_succ]
    omega
theorem take_snoc' (l : List Int) (k : Nat) (h : k < l.length) : l.take (k + 1) = l.take k ++ [l.getD k 0] := by
  rw [List.take_succ_eq_append_getElem h]; simp [List.getD_eq_getElem?_getD, h]
theorem val_take_succ (l : List Int) (k : Nat) : val (l.take (k + 1)) = val (l.take k) + 10000 ^ k * (l.getD k 0).toNat := by
  by_cases h : k < l.length
  · rw [take_snoc' l k h, val_snoc, List.length_take, Nat.min_eq_left (by omega)]
  · rw [List.take_of_length_le (by omega), List.take_of_length_le (by omega), List.getD_eq_getElem?_getD, List.getElem?_eq_none (by omega)]; simp

/-- How long a list is without noughts at its end. -/
def trimLen (l : List Int) : Nat → Nat
  | 0 => 0
  | n + 1 => if l.getD n 0 = 0 then trimLen l n else n + 1
theorem trimLen_le (l : List Int) (n : Nat) : trimLen l n ≤ n := by
  induction n with
  | zero => simp [trimLen]
  | succ n ih => unfold trimLen; split <;> omega
theorem tight_trim (l : List Int) : ∀ n, n ≤ l.length → Tight (l.take (trimLen l n)) := by
  intro n
  induction n with
  | zero => intro _ h; simp [trimLen] at h
  | succ n ih =>
    intro hn
    unfold trimLen
    split
    · exact ih (by omega)
    · rename_i hne
      intro _
      rw [List.length_take, Nat.min_eq_left hn]
      simpa [List.getD_eq_getElem?_getD] using hne
theorem val_trim (l : List Int) : ∀ n, val (l.take (trimLen l n)) = val (l.take n) := by
  intro n
  induction n with
  | zero => simp [trimLen]
  | succ n ih =>
    unfold trimLen
    split
    · rename_i h0
      rw [ih, val_take_succ, h0]; simp
    · rfl
theorem trim_toL {l : List Int} (h : Good l) : l.take (trimLen l l.length) = toL (val l) := by
  have := val_trim l l.length
  rw [List.take_length] at this
  rw [← this, toL_val (h.take _) (tight_trim l _ (Nat.le_refl _))]
theorem toL_len {l : List Int} (h : Good l) : (toL (val l)).length ≤ l.length := by
  rw [← trim_toL h, List.length_take]; exact Nat.min_le_right _ _
theorem toL_len_lt {n k : Nat} (h : n < 10000 ^ k) : (toL n).length ≤ k := by
  induction k generalizing n with
  | zero => have : n = 0 := by simpa using h
            subst this; simp [toL_zero]
  | succ k ih =>
    by_cases hn : 0 < n
    · rw [toL_pos hn, List.length_cons]
      have : n / 10000 < 10000 ^ k := by rw [Nat.pow_succ] at h; omega
      have := ih this; omega
    · have : n = 0 := by omega
      subst this; simp [toL_zero]
end Go.Proofs.Yteigeihbokkpiaa
/- The contracts of the functions that compare great numbers. -/
namespace Go.Proofs.Yteigeihbokkpiaa
open Go.RowKit

/-- -1, 0 or 1. -/
def cmpI (x y : Int) : Int := if x < y then -1 else if y < x then 1 else 0
theorem cmpI_lt {x y : Int} (h : x < y) : cmpI x y = -1 := by unfold cmpI; rw [if_pos h]
theorem cmpI_gt {x y : Int} (h : y < x) : cmpI x y = 1 := by unfold cmpI; rw [if_neg (by omega), if_pos h]
theorem cmpI_eq (x : Int) : cmpI x x = 0 := by unfold cmpI; rw [if_neg (by omega), if_neg (by omega)]

/-! ### What the limbs say of the values -/
theorem val_ge {l : List Int} (hg : Good l) (ht : Tight l) (hp : 0 < l.length) : 10000 ^ (l.length - 1) ≤ val l := by
  have e : l = l.take (l.length - 1) ++ [l.getD (l.length - 1) 0] := by
    have := take_snoc' l (l.length - 1) (by omega)
    rw [Nat.sub_add_cancel hp, List.take_length] at this
    exact this
  have h1 := ht hp
  have h2 := (hg.getD (l.length - 1)).1
  have hv : val l = val (l.take (l.length - 1)) + 10000 ^ (l.length - 1) * (l.getD (l.length - 1) 0).toNat := by
    have := val_take_succ l (l.length - 1)
    rw [Nat.sub_add_cancel hp, List.take_length] at this
    exact this
  rw [hv]
  have h3 : 1 ≤ (l.getD (l.length - 1) 0).toNat := by omega
  have := Nat.mul_le_mul_left (10000 ^ (l.length - 1)) h3
  omega
theorem val_lt_of_len {a b : List Int} (ga : Good a) (gb : Good b) (tb : Tight b) (h : a.length < b.length) : val a < val b := by
  have h1 := val_lt ga
  have h2 := val_ge gb tb (by omega)
  have h3 : 10000 ^ a.length ≤ 10000 ^ (b.length - 1) := Nat.pow_le_pow_right (by omega) (by omega)
  omega
/-- From place k on they are alike. -/
def EqFrom (xs ys : List Int) (k : Nat) : Prop := ∀ i, k ≤ i → xs.getD i 0 = ys.getD i 0
theorem EqFrom.pred {xs ys : List Int} {k : Nat} {x y : Int} (h : EqFrom xs ys k) (hp : 0 < k) (hx : Hid (x = xs.getD (k - 1) 0)) (hy : Hid (y = ys.getD (k - 1) 0)) (e : x = y) : EqFrom xs ys (k - 1) := by
  intro i hi
  rcases Nat.lt_or_ge i k with hlt | hge
  · have : i = k - 1 := by omega
    subst this; rw [← hx.out, ← hy.out]; exact e
  · exact h i hge
theorem eqFrom_end {xs ys : List Int} {n : Nat} (hx : xs.length ≤ n) (hy : ys.length ≤ n) : EqFrom xs ys n := by
  intro i hi
  rw [List.getD_eq_getElem?_getD, List.getD_eq_getElem?_getD, List.getElem?_eq_none (by omega), List.getElem?_eq_none (by omega)]
theorem val_split (l : List Int) (k : Nat) : val l = val (l.take k) + 10000 ^ k * val (l.drop k) := by
  by_cases h : k ≤ l.length
  · have := val_append (l.take k) (l.drop k)
    rw [List.take_append_drop, List.length_take, Nat.min_eq_left h] at this
    exact this
  · rw [List.take_of_length_le (by omega), List.drop_of_length_le (by omega)]; simp [val]
theorem val_congr {a b : List Int} (h : ∀ i, a.getD i 0 = b.getD i 0) : val a = val b := by
  induction a generalizing b with
  | nil =>
    induction b with
    | nil => rfl
    | cons y r ih =>
      have h0 := h 0
      simp at h0
      subst h0
      have := ih (fun i => by have := h (i + 1); simpa using this)
      simp only [val] at this ⊢; omega
  | cons x r ih =>
    cases b with
    | nil =>
      have h0 := h 0
      simp at h0
      subst h0
      have := ih (b := []) (fun i => by have := h (i + 1); simpa using this)
      simp only [val] at this ⊢; omega
    | cons y s =>
      have h0 := h 0
      simp at h0
      subst h0
      rw [val, val, ih (fun i => by have := h (i + 1); simpa using this)]
theorem drop_congr {xs ys : List Int} {k : Nat} (h : EqFrom xs ys k) : val (xs.drop k) = val (ys.drop k) := by
  apply val_congr
  intro i
  have := h (k + i) (by omega)
  simpa [List.getD_eq_getElem?_getD, List.getElem?_drop] using this
theorem val_lt_at {xs ys : List Int} {k : Nat} {x y : Int} (gx : Good xs) (hp : 0 < k) (h : EqFrom xs ys k) (hx : Hid (x = xs.getD (k - 1) 0)) (hy : Hid (y = ys.getD (k - 1) 0)) (hlt : x < y) : val xs < val ys := by
  rw [val_split xs k, val_split ys k, drop_congr h]
  have e : k - 1 + 1 = k := by omega
  have h1 := val_take_succ xs (k - 1)
  have h2 := val_take_succ ys (k - 1)
  rw [e] at h1 h2
  rw [h1, h2, ← hx.out, ← hy.out]
  have h3 : val (xs.take (k - 1)) < 10000 ^ (k - 1) := by
    have h4 := val_lt (gx.take (k - 1))
    have h5 : 10000 ^ (xs.take (k - 1)).length ≤ 10000 ^ (k - 1) := Nat.pow_le_pow_right (by omega) (by rw [List.length_take]; omega)
    omega
  have h6 := (gx.getD (k - 1)).1
  rw [← hx.out] at h6
  have h7 : x.toNat + 1 ≤ y.toNat := by omega
  have h8 := Nat.mul_le_mul_left (10000 ^ (k - 1)) h7
  rw [Nat.mul_add] at h8
  omega
theorem val_eq_at {xs ys : List Int} (h : EqFrom xs ys 0) : val xs = val ys := val_congr (fun i => h i (by omega))

/-- What CmpNat answers. -/
def cmpB (xs ys : List Int) : Int := if okB xs = true ∧ okB ys = true then cmpI (val xs) (val ys) else 2

end Go.Proofs.Yteigeihbokkpiaa
/- Laws for the walk over Try.prog: 'append' of one number to a row of the call's own; an empty row; a cut row. -/
namespace Go.Proofs.Yteigeihbokkpiaa
open Go.RowKit

theorem info_i64 : (Try.prog.info? 2).map (fun i => (i.zero, i.size, i.bytes)) = some (some (.int .i64 0), 1, 8) := by kernel_rfl

theorem Own.alloc {w : World} {B : Nat} {a : Option Addr} {n c : Nat} {zs : List Int} (h : Own w B a n c zs) (o : Obj) : Own (w.alloc o) B a n c zs := ⟨h.1.alloc o, h.2⟩
theorem own_nil (w : World) (B : Nat) : Own w B none 0 0 [] := ⟨World.ownsRow_nil _ _ _ _, by omega, fun z hz => by simp at hz⟩
theorem own_empty (w : World) (B : Nat) (hB : B ≤ w.heap.size) : Own (w.alloc (.cells #[] 2)) B (some ⟨w.heap.size, 0, none⟩) 0 0 [] :=
  ⟨World.ownsRow_lit w #[] 0 hB (by unfold maxLen; omega) rfl, by omega, fun z hz => by simp at hz⟩
theorem own_one (w : World) (B : Nat) (z : Int) (hz : In64 z) (hB : B ≤ w.heap.size) : Own (w.alloc (.cells #[.int .i64 z] 2)) B (some ⟨w.heap.size, 0, none⟩) 1 1 [z] :=
  ⟨World.ownsRow_lit w #[.int .i64 z] 1 hB (by unfold maxLen; omega) rfl, by omega, fun x hx => by rw [List.mem_singleton] at hx; subst hx; exact hz⟩

/-- The first k numbers of a row of the call's own are such a row. -/
theorem Own.cut {w : World} {B : Nat} {a : Option Addr} {n c k : Nat} {zs : List Int} (h : Own w B a n c zs) (hk : k ≤ n) : Own w B a k c (zs.take k) := by
  have hl := h.len
  obtain ⟨⟨h1, h2⟩, hn, hin⟩ := h
  refine ⟨⟨by simp; omega, ?_⟩, by omega, fun z hz => hin z (List.mem_of_mem_take hz)⟩
  rcases h2 with ⟨e, h0⟩ | ⟨g, cap, cur, e, hb, hg, hnc, hcm, hcs, ht⟩
  · have : k = 0 := by omega
    subst this
    injection e with e1 e2 e3
    subst e1 e3
    exact .inl ⟨rfl, rfl⟩
  · injection e with e1 e2 e3
    subst e1 e3
    refine .inr ⟨g, c, cur, rfl, hb, hg, by omega, hcm, hcs, ?_⟩
    rw [List.map_take, ← ht, List.take_take, Nat.mul_one, Nat.mul_one, Nat.min_eq_left hk]

theorem wpList_push {ops : Array Oper} {rest : List Oper} {o : Oper} {ac : Act} {Q : Exit → Act → World → Prop} (w : World) (hgd : o.guard = none) (s x : Operand)
    (ho : o.op = .call { callee := .builtin .append, args := #[s, x], argTypes := #[25, 25] })
    (B : Nat) (a : Option Addr) (n c : Nat) (zs : List Int) (hs : ac.eval s = .slice a n c) (hown : Own w B a n c zs)
    (g : Nat) (z : Int) (hx : ac.eval x = .slice (some ⟨g, 0, none⟩) 1 1) (hc : w.cell? ⟨g, 0, none⟩ = some (.int .i64 z)) (hz : In64 z) (hn : n < 1048576) (hB : B ≤ w.heap.size)
    (h : ∀ a1 c1 w', Own w' B a1 (n + 1) c1 (zs ++ [z]) → w.grownBy w' (Value.slice a n c).ownBlock → wpList Try.prog ops Q rest (ac.put o.dst (.slice a1 (n + 1) c1)) w') : wpList Try.prog ops Q (o :: rest) ac w := by
  obtain ⟨i0, hi, hz0, hz1, hz2⟩ := info_parts info_i64
  refine wpList_append_own w hgd s x 25 ho B 2 i0 (.int .i64 0) 1 8 Try.underlying25 hi hz0 hz1 hz2 rfl (by omega) (.slice a n c) n (zs.map (Value.int .i64)) hs hown.1
    ⟨g, 0, none⟩ 1 1 [.int .i64 z] hx rfl ?_ ?_ ?_ ?_ hB ?_
  · intro j u hj
    match j, hj with
    | 0, hj => simp at hj; subst hj; simpa [Addr.add] using hc
  · intro u hu; simp at hu; subst hu; rfl
  · unfold maxLen; omega
  · omega
  · intro v' w' h1 h2 _
    have hf : ∃ a1 c1, v' = .slice a1 (n + 1) c1 := by
      rcases h1.2 with ⟨_, h0⟩ | ⟨g', cap, cur, e, _⟩
      · omega
      · exact ⟨_, _, e⟩
    obtain ⟨a1, c1, rfl⟩ := hf
    refine h a1 c1 w' ⟨by simpa using h1, by omega, fun y hy => ?_⟩ h2
    rcases List.mem_append.1 hy with hy | hy
    · exact hown.2.2 y hy
    · rw [List.mem_singleton] at hy; subst hy; exact hz

/-- Behind such an append: what lies below B is as it was. -/
theorem below_push {w0 w w' : World} {B : Nat} {a : Option Addr} {n c : Nat} {zs : List Int} (hb : Below B w0 w) (hown : Own w B a n c zs) (hB : B ≤ w.heap.size) (hg : w.grownBy w' (Value.slice a n c).ownBlock) : Below B w0 w' :=
  hb.grown hg hB (fun k hk => (hown.block k hk).1)

theorem Own.cap {w : World} {B : Nat} {a : Option Addr} {n c : Nat} {zs : List Int} (h : Own w B a n c zs) : n ≤ c := by
  rcases h.1.2 with ⟨e, h0⟩ | ⟨g, cap, cur, e, hb, hg, hnc, _⟩
  · omega
  · injection e with e1 e2 e3
    omega

theorem run_append_nothing (w : World) (ty : TypeId) (v : Value) (B n : Nat) (xs : List Value) (hown : w.ownsRow B 2 1 v n xs) (c : Nat) : (Builtin.append_ #[25, 25] ty #[v, .slice none 0 c]).run Try.prog w = .ok v w := by
  obtain ⟨i0, hi, hz0, hz1, hz2⟩ := info_parts info_i64
  rcases hown.2 with ⟨rfl, rfl⟩ | ⟨g, cap, cur, rfl, _, _, hnc, _⟩
  · simp [Builtin.append_, run_underlying Try.underlying25, sizeOf, typeInfo, hi, Builtin.lenOf, Builtin.firstCells]
  · simp [Builtin.append_, run_underlying Try.underlying25, sizeOf, typeInfo, hi, Builtin.lenOf, Builtin.firstCells, hnc, storeCells]

set_option maxRecDepth 100000 in
/-- 'append(out, xs...)': out a row of the call's own, xs whatever slice of numbers. -/
theorem wpList_concat {ops : Array Oper} {rest : List Oper} {o : Oper} {ac : Act} {Q : Exit → Act → World → Prop} (w : World) (hgd : o.guard = none) (s x : Operand)
    (ho : o.op = .call { callee := .builtin .append, args := #[s, x], argTypes := #[25, 25] })
    (B : Nat) (a : Option Addr) (n c : Nat) (zs : List Int) (hs : ac.eval s = .slice a n c) (hown : Own w B a n c zs)
    (a2 : Option Addr) (m c2 : Nat) (ys : List Int) (hx : ac.eval x = .slice a2 m c2) (hi2 : Ints w a2 m ys) (hn : n + m ≤ 1048576) (hB : B ≤ w.heap.size)
    (h : ∀ a1 c1 w', Own w' B a1 (n + m) c1 (zs ++ ys) → w.grownBy w' (Value.slice a n c).ownBlock → wpList Try.prog ops Q rest (ac.put o.dst (.slice a1 (n + m) c1)) w') : wpList Try.prog ops Q (o :: rest) ac w := by
  have hin : ∀ y ∈ zs ++ ys, In64 y := fun y hy => by
    rcases List.mem_append.1 hy with hy | hy
    · exact hown.2.2 y hy
    · exact hi2.2.2.1 y hy
  cases a2 with
  | none =>
    have hm : m = 0 := by
      rcases Nat.eq_zero_or_pos m with h0 | h0
      · exact h0
      · obtain ⟨b, o', e, _⟩ := hi2.2.2.2 h0
        cases e
    subst hm
    have hys : ys = [] := List.eq_nil_of_length_eq_zero hi2.1
    subst hys
    refine wpList_plain hgd fun K hK' => ?_
    have hrun := run_append_nothing w o.type (.slice a n c) B n _ hown.1 c2
    unfold Oper.wp
    simp [execOp, ho, resolve, invoke, builtin, hs, hx, hrun, Result.andThen]
    exact hK' _ _ (by simpa using h a c w (by simpa using hown) (World.grownBy.refl _ _))
  | some ad =>
    obtain ⟨i0, hi, hz0, hz1, hz2⟩ := info_parts info_i64
    have hl := hi2.1
    refine wpList_append_own w hgd s x 25 ho B 2 i0 (.int .i64 0) 1 8 Try.underlying25 hi hz0 hz1 hz2 rfl (by omega) (.slice a n c) n (zs.map (Value.int .i64)) hs hown.1
      ad m c2 (ys.map (Value.int .i64)) hx (by simp [hl]) ?_ (ints_oneCell _ _) ?_ ?_ hB ?_
    · intro j u hj
      have hjl : j < ys.length := by have := (List.getElem?_eq_some_iff.1 hj).1; simpa using this
      obtain ⟨b, off, e, _, hc⟩ := hi2.2.2.2 (by omega)
      injection e with e
      subst e
      rw [Go.WideShapes.add_plain, hc j (by omega), ← hj]
      simp [List.getD_eq_getElem?_getD, hjl]
    · unfold maxLen; omega
    · omega
    · intro v' w' h1 h2 _
      have hf : ∃ a1 c1, v' = .slice a1 (n + m) c1 := by
        rcases h1.2 with ⟨e, h0⟩ | ⟨g', cap, cur, e, _⟩
        · exact ⟨none, 0, by rw [e, h0]⟩
        · exact ⟨_, _, e⟩
      obtain ⟨a1, c1, rfl⟩ := hf
      exact h a1 c1 w' ⟨by simpa using h1, hn, hin⟩ h2
end Go.Proofs.Yteigeihbokkpiaa
/- The contracts of the two functions that strike noughts at the end. -/
namespace Go.Proofs.Yteigeihbokkpiaa
open Go.RowKit

theorem trimLen_zero {l : List Int} {k n : Nat} {z : Int} (h : trimLen l k = trimLen l n) (hp : 0 < k) (hz : Hid (z = l.getD (k - 1) 0)) (h0 : z = 0) : trimLen l (k - 1) = trimLen l n := by
  rw [← h]
  have e : k = k - 1 + 1 := by omega
  have hz' := hz.out
  rw [h0] at hz'
  rw [e, trimLen, if_pos hz'.symm]; simp
theorem trimLen_stop {l : List Int} {k n : Nat} {z : Int} (h : trimLen l k = trimLen l n) (hp : 0 < k) (hz : Hid (z = l.getD (k - 1) 0)) (h0 : z ≠ 0) : trimLen l n = k := by
  rw [← h]
  have e : k = k - 1 + 1 := by omega
  have hz' := hz.out
  rw [e, trimLen, if_neg (by rw [← hz']; exact h0)]
theorem ret_slice {a : Option Addr} {n m c : Nat} (h : n = m) : Ending.returned (.slice a n c) = .returned (.slice a m c) := by rw [h]

theorem ints_cut {w : World} {a : Option Addr} {n : Nat} {zs : List Int} {o : Obj} (k : Nat) (h : Ints w a n zs) (hk : k ≤ n) : Ints (w.alloc o) a k (zs.take k) := by
  obtain ⟨hl, hn, hin, hc⟩ := h
  refine ⟨by rw [List.length_take]; omega, by omega, fun z hz => hin z (List.mem_of_mem_take hz), fun hp => ?_⟩
  obtain ⟨b, off, rfl, hb, hcell⟩ := hc (by omega)
  refine ⟨b, off, rfl, by simp; omega, fun i hi => ?_⟩
  rw [World.cell?_alloc_lt w o ⟨b, off + i, none⟩ hb, hcell i (by omega)]
  simp [List.getD_eq_getElem?_getD, hi]

end Go.Proofs.Yteigeihbokkpiaa
