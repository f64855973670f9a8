/- Joined texts of this proof (CodeHead, SpecVal1, Math, Push), in build order. -/
import Derived.Test.YtmooecbdpfhnlaaGreatJ10
import Derived.Test.YtmooecbdpfhnlaaGreatJ9
import Derived.Test.YtmooecbdpfhnlaaGreatJ1
/- What a right program's head is. -/
namespace Go.Proofs.YtmooecbdpfhnlaaGreat
open Go.RowKit

theorem code_head {p : Prg} (h : codeB p = 0) : 1 ≤ p.width ∧ p.width ≤ 8 ∧ p.lows.length ≤ 3 ∧ p.secrets.length ≤ 3 ∧ 0 ≤ p.temps ∧ p.temps ≤ 6 ∧ p.arrays.length ≤ 2 ∧ p.body.length ≤ 40 := by
  unfold codeB at h
  split at h
  · exact absurd h (by decide)
  split at h
  · exact absurd h (by decide)
  split at h
  · exact absurd h (by decide)
  rename_i h1 h2 h3
  have hr : roomB p = true := by simpa using h3
  have hi : inpB p = true := by simpa using h2
  have hw : 1 ≤ p.width ∧ p.width ≤ 8 := by simpa using h1
  simp only [roomB, Bool.and_eq_true, decide_eq_true_eq] at hr
  simp only [inpB, inputsB, Bool.and_eq_true, decide_eq_true_eq] at hi
  exact ⟨hw.1, hw.2, hi.1.1.2, hi.1.2.2, hr.1.1.1.1, hr.1.1.1.2, hr.1.1.2, hr.1.2⟩
theorem code_lim {w : World} {r : PRow} {p : Prg} (hp : ProgAt w r p) (h : codeB p = 0) : Lim r p.width.toNat (p.lows.length + p.secrets.length) p.temps.toNat p.arrays.length := by
  obtain ⟨h1, h2, h3, h4, h5, h6, h7, h8⟩ := code_head h
  have e1 := hp.lows.1
  have e2 := hp.secrets.1
  have e3 := hp.arrays.1
  have e4 := hp.width
  have e5 := hp.temps
  exact ⟨by omega, by omega, by omega, by omega, by omega, by omega, by omega, by omega⟩
end Go.Proofs.YtmooecbdpfhnlaaGreat
/- Words for environments (two cells: a slice of numbers, a slice of slices of numbers); the contracts of the model's l5Values and EnvOk. -/
namespace Go.Proofs.YtmooecbdpfhnlaaGreat
open Go.RowKit

structure Envr where
  vars : List Int
  cells : List (List Int)
deriving DecidableEq
structure ERow where
  vars : Sl
  cells : Sl
  rows : List Sl
def envV (r : ERow) : Value := .agg #[slV r.vars, slV r.cells]
def intsAt (css : List (List Int)) (i : Nat) : List Int := css.getD i []
/-- The slice '.slice a n c' of slices of numbers reads az css; rs are its slices. -/
def IntsSS (w : World) (a : Option Addr) (n : Nat) (rs : List Sl) (css : List (List Int)) : Prop :=
  rs.length = n ∧ css.length = n ∧ n ≤ 1048576 ∧ (0 < n → ∃ b o, a = some ⟨b, o, none⟩ ∧ b < w.heap.size ∧ ∀ i, i < n → w.cell? ⟨b, o + i, none⟩ = some (slV (slAt rs i))) ∧
  ∀ i, i < n → Ints w (slAt rs i).1 (slAt rs i).2.1 (intsAt css i)
theorem IntsSS.at_ {w : World} {a : Option Addr} {n : Nat} {rs : List Sl} {css : List (List Int)} (h : IntsSS w a n rs css) {k : Nat} (hk : k < n) :
    ∃ b o a1 n1 c1, a = some ⟨b, o, none⟩ ∧ b < w.heap.size ∧ Hid (slAt rs k = (a1, n1, c1)) ∧ w.cell? ⟨b, o + k, none⟩ = some (.slice a1 n1 c1) ∧ Ints w a1 n1 (intsAt css k) := by
  obtain ⟨_, _, _, h3, h4⟩ := h
  obtain ⟨b, o, rfl, hb, hc⟩ := h3 (by omega)
  exact ⟨b, o, _, _, _, rfl, hb, rfl, hc k hk, h4 k hk⟩
theorem IntsSS.below {w w' : World} {a : Option Addr} {n : Nat} {rs : List Sl} {css : List (List Int)} (h : IntsSS w a n rs css) (hb : Below w.heap.size w w') : IntsSS w' a n rs css := by
  obtain ⟨h1, h2, h0, h3, h4⟩ := h
  refine ⟨h1, h2, h0, fun hp => ?_, fun i hi => (h4 i hi).below hb⟩
  obtain ⟨b, o, rfl, hbl, hc⟩ := h3 hp
  exact ⟨b, o, rfl, Nat.lt_of_lt_of_le hbl hb.size, fun i hi => (hb.cell hbl).trans (hc i hi)⟩
structure EnvAt (w : World) (r : ERow) (v : Envr) : Prop where
  vars : Ints w r.vars.1 r.vars.2.1 v.vars
  cells : IntsSS w r.cells.1 r.cells.2.1 r.rows v.cells
theorem EnvAt.below {w w' : World} {r : ERow} {v : Envr} (h : EnvAt w r v) (hb : Below w.heap.size w w') : EnvAt w' r v := ⟨h.vars.below hb, h.cells.below hb⟩

def valB (S : Nat) (m : Int) (zs : List Int) : Bool := decide ((zs.length : Int) = m) && valsB S zs
def cellsB (S : Nat) (az : List Int) (css : List (List Int)) : Bool := (List.range css.length).all (fun i => valB S (az.getD i 0) (intsAt css i))
/-- What EnvOk answers. -/
noncomputable def envB (p : Prg) (v : Envr) : Bool :=
  ((codeB p == 0) && valB (2 ^ p.width.toNat) ((p.lows.length : Int) + (p.secrets.length : Int) + p.temps) v.vars) && (decide (v.cells.length = p.arrays.length) && cellsB (2 ^ p.width.toNat) p.arrays v.cells)

def okZ (S : Nat) (z : Int) : Bool := decide (0 ≤ z) && decide (z < (S : Int))
def AllI (f : Int → Bool) (zs : List Int) (k : Nat) : Prop := ∀ i, i < k → f (zs.getD i 0) = true
theorem AllI.zero (f : Int → Bool) (zs : List Int) : AllI f zs 0 := fun i hi => absurd hi (by omega)
theorem AllI.succ {f : Int → Bool} {zs : List Int} {k : Nat} {z : Int} (h : AllI f zs k) (hz : Hid (z = zs.getD k 0)) (ht : f z = true) : AllI f zs (k + 1) := by
  intro i hi
  rcases Nat.lt_or_ge i k with hlt | hge
  · exact h i hlt
  · have : i = k := by omega
    subst this; rw [← hz.out]; exact ht
theorem allI_all {S : Nat} {zs : List Int} (h : AllI (okZ S) zs zs.length) : valsB S zs = true := by
  unfold valsB
  rw [List.all_eq_true]
  intro z hz
  obtain ⟨i, hi, rfl⟩ := List.getElem_of_mem hz
  have := h i hi
  rw [List.getD_eq_getElem?_getD, List.getElem?_eq_getElem hi] at this
  exact this
theorem allI_bad {S : Nat} {zs : List Int} {k : Nat} {z : Int} (hk : k < zs.length) (hz : Hid (z = zs.getD k 0)) (ht : okZ S z = false) : valsB S zs = false := by
  rw [← Bool.not_eq_true]
  unfold valsB
  rw [List.all_eq_true]
  intro h
  have := h _ (getD_mem hk)
  rw [← hz.out] at this
  have e : okZ S z = true := this
  rw [ht] at e
  exact absurd e (by simp)
def AllC (S : Nat) (az : List Int) (css : List (List Int)) (k : Nat) : Prop := ∀ i, i < k → valB S (az.getD i 0) (intsAt css i) = true
theorem AllC.succ {S : Nat} {az : List Int} {css : List (List Int)} {k : Nat} {z : Int} (h : AllC S az css k) (hz : Hid (z = az.getD k 0)) (ht : valB S z (intsAt css k) = true) : AllC S az css (k + 1) := by
  intro i hi
  rcases Nat.lt_or_ge i k with hlt | hge
  · exact h i hlt
  · have : i = k := by omega
    subst this; rw [← hz.out]; exact ht
theorem allC_all {S : Nat} {az : List Int} {css : List (List Int)} (h : AllC S az css css.length) : cellsB S az css = true := by
  unfold cellsB
  rw [List.all_eq_true]
  intro i hi
  exact h i (List.mem_range.1 hi)
theorem allC_bad {S : Nat} {az : List Int} {css : List (List Int)} {k : Nat} {z : Int} (hk : k < css.length) (hz : Hid (z = az.getD k 0)) (ht : valB S z (intsAt css k) = false) : cellsB S az css = false := by
  rw [← Bool.not_eq_true]
  unfold cellsB
  rw [List.all_eq_true]
  intro h
  have := h k (List.mem_range.2 hk)
  rw [← hz.out, ht] at this
  exact absurd this (by simp)

structure VBox (w wi : World) (c0 c1 : List Value) : Prop where
  prg : Blk wi w.heap.size 31 c0
  env : Blk wi (w.heap.size + 1) 90 c1
  bel : Below w.heap.size w wi
theorem VBox.below {w wi wj : World} {c0 c1 : List Value} (h : VBox w wi c0 c1) (hb : Below wi.heap.size wi wj) : VBox w wj c0 c1 :=
  ⟨h.prg.below hb h.prg.lt, h.env.below hb h.env.lt, h.bel.trans (hb.mono h.bel.size)⟩
theorem vbox_new (w : World) (c0 c1 : List Value) : VBox w ((w.alloc (.cells c0.toArray 31)).alloc (.cells c1.toArray 90)) c0 c1 :=
  ⟨(Blk.new w _ _).alloc _, by simpa using Blk.new (w.alloc _) 90 c1, ((Below.refl _ _).alloc (Nat.le_refl _) _).alloc (by simp) _⟩
end Go.Proofs.YtmooecbdpfhnlaaGreat
/- Plain mathematics of lists of limbs in base 10000: their value, the one list of a number, sums of limbs. No Go text here. -/
namespace Go.Proofs.YtmooecbdpfhnlaaGreat
open Go.RowKit

/-- The value of a list of limbs, the lowest first. -/
def val : List Int → Nat
  | [] => 0
  | z :: r => z.toNat + 10000 * val r

/-- The limbs of a number (with fuel). -/
def toLF : Nat → Nat → List Int
  | 0, _ => []
  | f + 1, n => if n = 0 then [] else ((n % 10000 : Nat) : Int) :: toLF f (n / 10000)
def toL (n : Nat) : List Int := toLF n n

theorem toLF_more : ∀ (f n : Nat), n ≤ f → toLF f n = toLF n n := by
  intro f
  induction f using Nat.strongRecOn with
  | _ f ih =>
    intro n hn
    cases f with
    | zero => have : n = 0 := by omega
              subst this; rfl
    | succ f =>
      cases n with
      | zero => simp [toLF]
      | succ n =>
        simp only [toLF]
        rw [if_neg (by omega), if_neg (by omega)]
        rw [ih f (by omega) ((n + 1) / 10000) (by omega), ih n (by omega) ((n + 1) / 10000) (by omega)]

theorem toL_zero : toL 0 = [] := rfl
theorem toL_pos {n : Nat} (h : 0 < n) : toL n = ((n % 10000 : Nat) : Int) :: toL (n / 10000) := by
  unfold toL
  cases n with
  | zero => omega
  | succ n =>
    rw [toLF, if_neg (by omega), toLF_more n ((n + 1) / 10000) (by omega)]

/-- All limbs are limbs. -/
def Good (l : List Int) : Prop := ∀ z ∈ l, 0 ≤ z ∧ z ≤ 9999
theorem good_of_to {l : List Int} (h : GoodTo l l.length) : Good l := by
  intro z hz
  obtain ⟨i, hi, rfl⟩ := List.getElem_of_mem hz
  have := h i hi
  rw [List.getD_eq_getElem?_getD, List.getElem?_eq_getElem hi] at this
  exact this
theorem Good.to {l : List Int} (h : Good l) : GoodTo l l.length := fun _ hi => h _ (getD_mem hi)
theorem Good.in64 {l : List Int} (h : Good l) : ∀ z ∈ l, In64 z := fun z hz => ⟨by have := h z hz; omega, by have := h z hz; omega⟩
theorem Good.getD {l : List Int} (h : Good l) (i : Nat) : 0 ≤ l.getD i 0 ∧ l.getD i 0 ≤ 9999 := by
  by_cases hi : i < l.length
  · exact h _ (getD_mem hi)
  · rw [List.getD_eq_getElem?_getD, List.getElem?_eq_none (by omega)]; simp
theorem Good.take {l : List Int} (h : Good l) (k : Nat) : Good (l.take k) := fun z hz => h z (List.mem_of_mem_take hz)
theorem good_nil : Good [] := fun z hz => by simp at hz
theorem Good.snoc {l : List Int} {z : Int} (h : Good l) (h0 : 0 ≤ z) (h1 : z ≤ 9999) : Good (l ++ [z]) := by
  intro x hx
  rcases List.mem_append.1 hx with h' | h'
  · exact h x h'
  · rw [List.mem_singleton] at h'; subst h'; exact ⟨h0, h1⟩

/-- No nought at the end. -/
def Tight (l : List Int) : Prop := 0 < l.length → l.getD (l.length - 1) 0 ≠ 0
theorem tight_cons {x y : Int} {r : List Int} (h : Tight (x :: y :: r)) : Tight (y :: r) := by
  intro _
  have := h (by simp)
  simpa [List.getD_eq_getElem?_getD] using this

theorem val_pos {l : List Int} (hg : Good l) (ht : Tight l) (hp : 0 < l.length) : 0 < val l := by
  induction l with
  | nil => simp at hp
  | cons x r ih =>
    cases r with
    | nil =>
      have h1 := ht (by simp)
      have h2 := hg x (by simp)
      simp at h1
      simp [val]; omega
    | cons y r =>
      have := ih (fun z hz => hg z (List.mem_cons_of_mem _ hz)) (tight_cons ht) (by simp)
      simp only [val] at this ⊢; omega

/-- A number has one list of limbs. -/
theorem toL_val {l : List Int} (hg : Good l) (ht : Tight l) : toL (val l) = l := by
  induction l with
  | nil => rfl
  | cons x r ih =>
    have hp := val_pos hg ht (by simp)
    have hx := hg x (by simp)
    have hr : toL (val r) = r := by
      cases r with
      | nil => rfl
      | cons y r => exact ih (fun z hz => hg z (List.mem_cons_of_mem _ hz)) (tight_cons ht)
    rw [toL_pos hp]
    have e1 : val (x :: r) % 10000 = x.toNat := by simp only [val]; omega
    have e2 : val (x :: r) / 10000 = val r := by simp only [val]; omega
    rw [e1, e2, hr]
    congr 1
    omega

theorem val_toL (n : Nat) : val (toL n) = n := by
  induction n using Nat.strongRecOn with
  | _ n ih =>
    by_cases h : 0 < n
    · rw [toL_pos h, val, ih (n / 10000) (by omega)]; omega
    · have : n = 0 := by omega
      subst this; rfl
theorem good_toL (n : Nat) : Good (toL n) := by
  induction n using Nat.strongRecOn with
  | _ n ih =>
    by_cases h : 0 < n
    · rw [toL_pos h]
      intro z hz
      rcases List.mem_cons.1 hz with rfl | hz
      · omega
      · exact ih (n / 10000) (by omega) z hz
    · have : n = 0 := by omega
      subst this; exact good_nil
theorem tight_toL (n : Nat) : Tight (toL n) := by
  induction n using Nat.strongRecOn with
  | _ n ih =>
    by_cases h : 0 < n
    · rw [toL_pos h]
      by_cases h2 : 0 < n / 10000
      · have := ih (n / 10000) (by omega)
        intro _
        rw [toL_pos h2] at this ⊢
        have := this (by simp)
        simpa [List.getD_eq_getElem?_getD] using this
      · intro _
        have e : n / 10000 = 0 := by omega
        rw [e, toL_zero]
        simp; omega
    · have : n = 0 := by omega
      subst this; intro h; simp [toL_zero] at h

theorem okB_iff (l : List Int) : okB l = true ↔ l.length ≤ 100 ∧ Good l ∧ Tight l := by
  constructor
  · intro h
    have := okB_good h
    exact ⟨this.1, good_of_to this.2.1, this.2.2⟩
  · rintro ⟨h1, h2, h3⟩
    by_cases hp : 0 < l.length
    · rw [okB_last h1 h2.to hp rfl]
      simpa using h3 hp
    · exact okB_nil (by omega)
theorem okB_toL (n : Nat) : okB (toL n) = decide ((toL n).length ≤ 100) := by
  by_cases h : (toL n).length ≤ 100
  · rw [decide_eq_true h]; exact (okB_iff _).2 ⟨h, good_toL n, tight_toL n⟩
  · rw [decide_eq_false h, ← Bool.not_eq_true, okB_iff]; exact fun h' => h h'.1
theorem ok_toL {l : List Int} (h : okB l = true) : toL (val l) = l := toL_val ((okB_iff l).1 h).2.1 ((okB_iff l).1 h).2.2

/-! ### The value of what is put together -/
theorem val_append (a b : List Int) : val (a ++ b) = val a + 10000 ^ a.length * val b := by
  induction a with
  | nil => simp [val]
  | cons x r ih =>
    rw [List.cons_append, val, val, ih, List.length_cons, Nat.pow_succ, Nat.mul_add, Nat.mul_comm (10000 ^ r.length) 10000, ← Nat.mul_assoc]
    omega
theorem val_snoc (a : List Int) (z : Int) : val (a ++ [z]) = val a + 10000 ^ a.length * z.toNat := by
  rw [val_append]; simp [val]
theorem val_replicate (n : Nat) : val (List.replicate n 0) = 0 := by
  induction n with
  | zero => rfl
  | succ n ih => rw [List.replicate_succ, val, ih]; rfl
theorem val_lt {l : List Int} (h : Good l) : val l < 10000 ^ l.length := by
  induction l with
  | nil => simp [val]
  | cons x r ih =>
    have := ih (fun z hz => h z (List.mem_cons_of_mem _ hz))
    have hx := h x (by simp)
    rw [val, List.length_cons, Nat.pow_succ]
    omega
theorem take_snoc' (l : List Int) (k : Nat) (h : k < l.length) : l.take (k + 1) = l.take k ++ [l.getD k 0] := by
  rw [List.take_succ_eq_append_getElem h]; simp [List.getD_eq_getElem?_getD, h]
theorem val_take_succ (l : List Int) (k : Nat) : val (l.take (k + 1)) = val (l.take k) + 10000 ^ k * (l.getD k 0).toNat := by
  by_cases h : k < l.length
  · rw [take_snoc' l k h, val_snoc, List.length_take, Nat.min_eq_left (by omega)]
  · rw [List.take_of_length_le (by omega), List.take_of_length_le (by omega), List.getD_eq_getElem?_getD, List.getElem?_eq_none (by omega)]; simp

/-- How long a list is without noughts at its end. -/
def trimLen (l : List Int) : Nat → Nat
  | 0 => 0
  | n + 1 => if l.getD n 0 = 0 then trimLen l n else n + 1
theorem trimLen_le (l : List Int) (n : Nat) : trimLen l n ≤ n := by
  induction n with
  | zero => simp [trimLen]
  | succ n ih => unfold trimLen; split <;> omega
theorem tight_trim (l : List Int) : ∀ n, n ≤ l.length → Tight (l.take (trimLen l n)) := by
  intro n
  induction n with
  | zero => intro _ h; simp [trimLen] at h
  | succ n ih =>
    intro hn
    unfold trimLen
    split
    · exact ih (by omega)
    · rename_i hne
      intro _
      rw [List.length_take, Nat.min_eq_left hn]
      simpa [List.getD_eq_getElem?_getD] using hne
theorem val_trim (l : List Int) : ∀ n, val (l.take (trimLen l n)) = val (l.take n) := by
  intro n
  induction n with
  | zero => simp [trimLen]
  | succ n ih =>
    unfold trimLen
    split
    · rename_i h0
      rw [ih, val_take_succ, h0]; simp
    · rfl
theorem trim_toL {l : List Int} (h : Good l) : l.take (trimLen l l.length) = toL (val l) := by
  have := val_trim l l.length
  rw [List.take_length] at this
  rw [← this, toL_val (h.take _) (tight_trim l _ (Nat.le_refl _))]
theorem toL_len {l : List Int} (h : Good l) : (toL (val l)).length ≤ l.length := by
  rw [← trim_toL h, List.length_take]; exact Nat.min_le_right _ _
theorem toL_len_lt {n k : Nat} (h : n < 10000 ^ k) : (toL n).length ≤ k := by
  induction k generalizing n with
  | zero => have : n = 0 := by simpa using h
            subst this; simp [toL_zero]
  | succ k ih =>
    by_cases hn : 0 < n
    · rw [toL_pos hn, List.length_cons]
      have : n / 10000 < 10000 ^ k := by rw [Nat.pow_succ] at h; omega
      have := ih this; omega
    · have : n = 0 := by omega
      subst this; simp [toL_zero]
end Go.Proofs.YtmooecbdpfhnlaaGreat
/- Laws for the walk over Tryz.prog: 'append' of one number to a row of the call's own; an empty row; a cut row. -/
namespace Go.Proofs.YtmooecbdpfhnlaaGreat
open Go.RowKit

theorem info_i64 : (Tryz.prog.info? 2).map (fun i => (i.zero, i.size, i.bytes)) = some (some (.int .i64 0), 1, 8) := by kernel_rfl

theorem Own.alloc {w : World} {B : Nat} {a : Option Addr} {n c : Nat} {zs : List Int} (h : Own w B a n c zs) (o : Obj) : Own (w.alloc o) B a n c zs := ⟨h.1.alloc o, h.2⟩
theorem own_nil (w : World) (B : Nat) : Own w B none 0 0 [] := ⟨World.ownsRow_nil _ _ _ _, by omega, fun z hz => by simp at hz⟩
theorem own_empty (w : World) (B : Nat) (hB : B ≤ w.heap.size) : Own (w.alloc (.cells #[] 2)) B (some ⟨w.heap.size, 0, none⟩) 0 0 [] :=
  ⟨World.ownsRow_lit w #[] 0 hB (by unfold maxLen; omega) rfl, by omega, fun z hz => by simp at hz⟩
theorem own_one (w : World) (B : Nat) (z : Int) (hz : In64 z) (hB : B ≤ w.heap.size) : Own (w.alloc (.cells #[.int .i64 z] 2)) B (some ⟨w.heap.size, 0, none⟩) 1 1 [z] :=
  ⟨World.ownsRow_lit w #[.int .i64 z] 1 hB (by unfold maxLen; omega) rfl, by omega, fun x hx => by rw [List.mem_singleton] at hx; subst hx; exact hz⟩

/-- The first k numbers of a row of the call's own are such a row. -/
theorem Own.cut {w : World} {B : Nat} {a : Option Addr} {n c k : Nat} {zs : List Int} (h : Own w B a n c zs) (hk : k ≤ n) : Own w B a k c (zs.take k) := by
  have hl := h.len
  obtain ⟨⟨h1, h2⟩, hn, hin⟩ := h
  refine ⟨⟨by simp; omega, ?_⟩, by omega, fun z hz => hin z (List.mem_of_mem_take hz)⟩
  rcases h2 with ⟨e, h0⟩ | ⟨g, cap, cur, e, hb, hg, hnc, hcm, hcs, ht⟩
  · have : k = 0 := by omega
    subst this
    injection e with e1 e2 e3
    subst e1 e3
    exact .inl ⟨rfl, rfl⟩
  · injection e with e1 e2 e3
    subst e1 e3
    refine .inr ⟨g, c, cur, rfl, hb, hg, by omega, hcm, hcs, ?_⟩
    rw [List.map_take, ← ht, List.take_take, Nat.mul_one, Nat.mul_one, Nat.min_eq_left hk]

theorem wpList_push {ops : Array Oper} {rest : List Oper} {o : Oper} {ac : Act} {Q : Exit → Act → World → Prop} (w : World) (hgd : o.guard = none) (s x : Operand)
    (ho : o.op = .call { callee := .builtin .append, args := #[s, x], argTypes := #[28, 28] })
    (B : Nat) (a : Option Addr) (n c : Nat) (zs : List Int) (hs : ac.eval s = .slice a n c) (hown : Own w B a n c zs)
    (g : Nat) (z : Int) (hx : ac.eval x = .slice (some ⟨g, 0, none⟩) 1 1) (hc : w.cell? ⟨g, 0, none⟩ = some (.int .i64 z)) (hz : In64 z) (hn : n < 1048576) (hB : B ≤ w.heap.size)
    (h : ∀ a1 c1 w', Own w' B a1 (n + 1) c1 (zs ++ [z]) → w.grownBy w' (Value.slice a n c).ownBlock → wpList Tryz.prog ops Q rest (ac.put o.dst (.slice a1 (n + 1) c1)) w') : wpList Tryz.prog ops Q (o :: rest) ac w := by
  obtain ⟨i0, hi, hz0, hz1, hz2⟩ := info_parts info_i64
  refine wpList_append_own w hgd s x 28 ho B 2 i0 (.int .i64 0) 1 8 Tryz.underlying28 hi hz0 hz1 hz2 rfl (by omega) (.slice a n c) n (zs.map (Value.int .i64)) hs hown.1
    ⟨g, 0, none⟩ 1 1 [.int .i64 z] hx rfl ?_ ?_ ?_ ?_ hB ?_
  · intro j u hj
    match j, hj with
    | 0, hj => simp at hj; subst hj; simpa [Addr.add] using hc
  · intro u hu; simp at hu; subst hu; rfl
  · unfold maxLen; omega
  · omega
  · intro v' w' h1 h2 _
    have hf : ∃ a1 c1, v' = .slice a1 (n + 1) c1 := by
      rcases h1.2 with ⟨_, h0⟩ | ⟨g', cap, cur, e, _⟩
      · omega
      · exact ⟨_, _, e⟩
    obtain ⟨a1, c1, rfl⟩ := hf
    refine h a1 c1 w' ⟨by simpa using h1, by omega, fun y hy => ?_⟩ h2
    rcases List.mem_append.1 hy with hy | hy
    · exact hown.2.2 y hy
    · rw [List.mem_singleton] at hy; subst hy; exact hz

/-- Behind such an append: what lies below B is as it was. -/
theorem below_push {w0 w w' : World} {B : Nat} {a : Option Addr} {n c : Nat} {zs : List Int} (hb : Below B w0 w) (hown : Own w B a n c zs) (hB : B ≤ w.heap.size) (hg : w.grownBy w' (Value.slice a n c).ownBlock) : Below B w0 w' :=
  hb.grown hg hB (fun k hk => (hown.block k hk).1)

theorem Own.cap {w : World} {B : Nat} {a : Option Addr} {n c : Nat} {zs : List Int} (h : Own w B a n c zs) : n ≤ c := by
  rcases h.1.2 with ⟨e, h0⟩ | ⟨g, cap, cur, e, hb, hg, hnc, _⟩
  · omega
  · injection e with e1 e2 e3
    omega

theorem run_append_nothing (w : World) (ty : TypeId) (v : Value) (B n : Nat) (xs : List Value) (hown : w.ownsRow B 2 1 v n xs) (c : Nat) : (Builtin.append_ #[28, 28] ty #[v, .slice none 0 c]).run Tryz.prog w = .ok v w := by
  obtain ⟨i0, hi, hz0, hz1, hz2⟩ := info_parts info_i64
  rcases hown.2 with ⟨rfl, rfl⟩ | ⟨g, cap, cur, rfl, _, _, hnc, _⟩
  · simp [Builtin.append_, run_underlying Tryz.underlying28, sizeOf, typeInfo, hi, Builtin.lenOf, Builtin.firstCells]
  · simp [Builtin.append_, run_underlying Tryz.underlying28, sizeOf, typeInfo, hi, Builtin.lenOf, Builtin.firstCells, hnc, storeCells]

set_option maxRecDepth 100000 in
/-- 'append(out, xs...)': out a row of the call's own, xs whatever slice of numbers. -/
theorem wpList_concat {ops : Array Oper} {rest : List Oper} {o : Oper} {ac : Act} {Q : Exit → Act → World → Prop} (w : World) (hgd : o.guard = none) (s x : Operand)
    (ho : o.op = .call { callee := .builtin .append, args := #[s, x], argTypes := #[28, 28] })
    (B : Nat) (a : Option Addr) (n c : Nat) (zs : List Int) (hs : ac.eval s = .slice a n c) (hown : Own w B a n c zs)
    (a2 : Option Addr) (m c2 : Nat) (ys : List Int) (hx : ac.eval x = .slice a2 m c2) (hi2 : Ints w a2 m ys) (hn : n + m ≤ 1048576) (hB : B ≤ w.heap.size)
    (h : ∀ a1 c1 w', Own w' B a1 (n + m) c1 (zs ++ ys) → w.grownBy w' (Value.slice a n c).ownBlock → wpList Tryz.prog ops Q rest (ac.put o.dst (.slice a1 (n + m) c1)) w') : wpList Tryz.prog ops Q (o :: rest) ac w := by
  have hin : ∀ y ∈ zs ++ ys, In64 y := fun y hy => by
    rcases List.mem_append.1 hy with hy | hy
    · exact hown.2.2 y hy
    · exact hi2.2.2.1 y hy
  cases a2 with
  | none =>
    have hm : m = 0 := by
      rcases Nat.eq_zero_or_pos m with h0 | h0
      · exact h0
      · obtain ⟨b, o', e, _⟩ := hi2.2.2.2 h0
        cases e
    subst hm
    have hys : ys = [] := List.eq_nil_of_length_eq_zero hi2.1
    subst hys
    refine wpList_plain hgd fun K hK' => ?_
    have hrun := run_append_nothing w o.type (.slice a n c) B n _ hown.1 c2
    unfold Oper.wp
    simp [execOp, ho, resolve, invoke, builtin, hs, hx, hrun, Result.andThen]
    exact hK' _ _ (by simpa using h a c w (by simpa using hown) (World.grownBy.refl _ _))
  | some ad =>
    obtain ⟨i0, hi, hz0, hz1, hz2⟩ := info_parts info_i64
    have hl := hi2.1
    refine wpList_append_own w hgd s x 28 ho B 2 i0 (.int .i64 0) 1 8 Tryz.underlying28 hi hz0 hz1 hz2 rfl (by omega) (.slice a n c) n (zs.map (Value.int .i64)) hs hown.1
      ad m c2 (ys.map (Value.int .i64)) hx (by simp [hl]) ?_ (ints_oneCell _ _) ?_ ?_ hB ?_
    · intro j u hj
      have hjl : j < ys.length := by have := (List.getElem?_eq_some_iff.1 hj).1; simpa using this
      obtain ⟨b, off, e, _, hc⟩ := hi2.2.2.2 (by omega)
      injection e with e
      subst e
      rw [Go.WideShapes.add_plain, hc j (by omega), ← hj]
      simp [List.getD_eq_getElem?_getD, hjl]
    · unfold maxLen; omega
    · omega
    · intro v' w' h1 h2 _
      have hf : ∃ a1 c1, v' = .slice a1 (n + m) c1 := by
        rcases h1.2 with ⟨e, h0⟩ | ⟨g', cap, cur, e, _⟩
        · exact ⟨none, 0, by rw [e, h0]⟩
        · exact ⟨_, _, e⟩
      obtain ⟨a1, c1, rfl⟩ := hf
      exact h a1 c1 w' ⟨by simpa using h1, hn, hin⟩ h2
end Go.Proofs.YtmooecbdpfhnlaaGreat
