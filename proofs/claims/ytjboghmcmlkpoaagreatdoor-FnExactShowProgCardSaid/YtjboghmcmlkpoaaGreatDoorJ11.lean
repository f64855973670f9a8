/- Joined texts of this proof (Builder, Math, Show, SpecProg, SpecRoom, SpecInputs), in build order. -/
import Derived.Test.YtjboghmcmlkpoaaGreatDoorJ1
import Derived.Test.YtjboghmcmlkpoaaGreatDoorJ10
import Derived.Lib.Builder
import Derived.Lib.AppendStr
import Derived.Lib.AppendIntMem
import Derived.Laws.Externs
import Derived.Test.YtjboghmcmlkpoaaGreatDoorJ9
import Derived.Test.YtjboghmcmlkpoaaGreatDoorJ7
/- The contracts of strings.Builder's copyCheck and WriteString at this dump (its String and strconv.FormatInt are the shelf's). -/
namespace Go.Proofs.YtjboghmcmlkpoaaGreatDoor
open Go.RowKit
set_option maxRecDepth 100000

theorem sizeBuilder : (Tryz.prog.info? 70).map (·.size) = some 2 := by kernel_rfl
theorem liesBuilder : liesAt Tryz.prog Tryz.prog.depth 70 (2 / Tryz.prog.cellsOf 70) 0 70 1 = true := by kernel_rfl
theorem infoByte : (Tryz.prog.info? 5).map (fun i => (i.zero, i.size, i.bytes)) = some (some (.int .u8 0), 1, 1) := by kernel_rfl

/-- What a world that only got new blocks does to a builder: nothing. -/
theorem builder_below {B b : Nat} {p : Value} {bs : List Value} {w w' : World} (h : Lib.BuilderAt 70 5 B b p bs w) (hb : Below w.heap.size w w') : Lib.BuilderAt 70 5 B b p bs w' := by
  have hlt := h.lt
  obtain ⟨hB, v, hbk, hown, hne⟩ := h
  exact ⟨hB, v, (hb.block b hlt).trans hbk, hown.kept (row := none) ⟨hb.os, hb.tape, hb.output, hb.size, fun k hk _ => hb.block k hk⟩ (by cases v.ownBlock <;> simp), hne⟩
theorem isBuilder_below {B b : Nat} {bs : List Value} {w w' : World} (h : Lib.IsBuilder 70 5 B b bs w) (hb : Below w.heap.size w w') : Lib.IsBuilder 70 5 B b bs w' :=
  h.elim (fun x => .inl (builder_below x hb)) (fun x => .inr (builder_below x hb))

set_option maxHeartbeats 1000000 in
theorem copyCheck_used (b : Nat) (w : World) (h0 : w.cell? ⟨b, 0, none⟩ = some (.pointer (some ⟨b, 0, none⟩))) :
    Calls Tryz.prog 102 #[.pointer (some ⟨b, 0, none⟩)] w fun e w' => e = .returned (.tuple #[]) ∧ w' = w := by
  obtain ⟨j, hj, _⟩ := Option.map_eq_some_iff.1 sizeBuilder
  have HJ := Lib.hid hj
  clear hj
  go_enter Tryz.func102, Tryz.ntmps102
  go_wp2_with fail
  rw [Lib.run_neq_ptr_same w _ Tryz.underlying68 HJ.out]
  go_wp2_with fail
  go_end0
  exact ⟨rfl, rfl⟩

set_option maxHeartbeats 1000000 in
theorem copyCheck_fresh (b : Nat) (w : World) (h0 : w.cell? ⟨b, 0, none⟩ = some (.pointer none)) (hsh : w.shape? b = some (70, 2)) (hfz : w.frozen? ⟨b, 0, none⟩ = false) :
    Calls Tryz.prog 102 #[.pointer (some ⟨b, 0, none⟩)] w fun e w' => e = .returned (.tuple #[]) ∧ w' = w.setCell ⟨b, 0, none⟩ (.pointer (some ⟨b, 0, none⟩)) := by
  obtain ⟨j, hj, hjs⟩ := Option.map_eq_some_iff.1 sizeBuilder
  have HJ := Lib.hid hj
  have HS := Lib.hid hsh
  have HJS := Lib.hid hjs
  clear hj hsh hjs
  go_enter Tryz.func102, Tryz.ntmps102
  go_wp2_with fail
  rw [Lib.run_to_unsafe w ⟨b, 0, none⟩ Tryz.underlying68 Tryz.underlying192 HJ.out (by rw [HJS.out]; decide) HS.out (Nat.zero_lt_succ 1)]
  simp only [Result.andThen]
  rw [Oper.upon_value]
  go_wp2_with fail
  rw [run_callFunc_extern Tryz.func150 (by kernel_rfl) (by kernel_rfl) (by kernel_rfl) (e := Extern.AbiNoEscape.same) (by kernel_rfl)]
  rw [Lib.run_noEscape]
  simp only [Result.andThen]
  rw [Oper.upon_value]
  go_wp2_with fail
  rw [Lib.run_from_unsafe w ⟨b, 0, none⟩ Tryz.underlying192 Tryz.underlying68 HJ.out HS.out liesBuilder]
  simp only [Result.andThen]
  rw [Oper.upon_value]
  go_wp2_with fail
  go_end0
  exact ⟨rfl, rfl⟩

theorem copyCheck_any (B b : Nat) (bs : List Value) (w : World) (h : Lib.IsBuilder 70 5 B b bs w) :
    Calls Tryz.prog 102 #[.pointer (some ⟨b, 0, none⟩)] w fun e w' => e = .returned (.tuple #[]) ∧ Lib.BuilderAt 70 5 B b (.pointer (some ⟨b, 0, none⟩)) bs w' ∧ Below B w w' := by
  rcases h with h | h
  · refine (copyCheck_fresh b w h.cell0 h.shape h.frozen0).mono ?_
    rintro e w' ⟨rfl, rfl⟩
    exact ⟨rfl, h.used _, (Below.refl _ _).setCell (p := ⟨b, 0, none⟩) h.1 _⟩
  · refine (copyCheck_used b w h.cell0).mono ?_
    rintro e w' ⟨rfl, rfl⟩
    exact ⟨rfl, h, Below.refl _ _⟩

set_option maxHeartbeats 2000000 in
theorem writeString_any (B b : Nat) (bs : List Value) (s : ByteArray) (w : World) (h : Lib.IsBuilder 70 5 B b bs w) (hlen : bs.length + s.size ≤ 1073741824) (hBw : B ≤ w.heap.size) :
    Calls Tryz.prog 42 #[.pointer (some ⟨b, 0, none⟩), .string s] w fun e w' => e = .returned (.tuple #[.int .i64 s.size, .nilIface]) ∧ Lib.BuilderAt 70 5 B b (.pointer (some ⟨b, 0, none⟩)) (bs ++ Lib.strCells s) w' ∧ Below B w w' := by
  obtain ⟨i0, hi, hz0, hz1, hz2⟩ := info_parts infoByte
  have HI := Lib.hid hi
  have HZ0 := Lib.hid hz0
  have HZ1 := Lib.hid hz1
  have HZ2 := Lib.hid hz2
  clear hi hz0 hz1 hz2
  go_enter Tryz.func42, Tryz.ntmps42
  go_wp2_with fail
  refine (copyCheck_any B b bs _ h).mono ?_
  rintro e w1 ⟨rfl, h1, hb1⟩
  obtain ⟨hB, v, hbk, hown, hne⟩ := h1
  have c0 : w1.cell? ⟨b, 0, none⟩ = some (.pointer (some ⟨b, 0, none⟩)) := by rw [Lib.cell_of_heap hbk]; rfl
  have c1 : w1.cell? ⟨b, 1, none⟩ = some v := by rw [Lib.cell_of_heap hbk]; rfl
  have hs1 := hb1.size
  go_wp2_with (at_builtin; refine Lib.wpList_append_own_string _ rfl _ _ 22 9 rfl B 5 i0 Tryz.underlying22 Tryz.underlying9 HI.out HZ0.out HZ1.out HZ2.out _ _ _ rfl hown s rfl (by unfold maxLen; omega) (by omega) (by omega) ?_)
  intro v' w2 hown' hgrow _
  have hlt : b < w1.heap.size := by
    rcases Nat.lt_or_ge b w1.heap.size with h' | h'
    · exact h'
    · simp [Array.getElem?_eq_none h'] at hbk
  have hb2 : w2.heap[b]? = some (.cells #[.pointer (some ⟨b, 0, none⟩), v] 70 (0, 0)) := by
    rw [hgrow.block b hlt (fun e => hne e.symm)]
    exact hbk
  have d0 : w2.cell? ⟨b, 0, none⟩ = some (.pointer (some ⟨b, 0, none⟩)) := by rw [Lib.cell_of_heap hb2]; rfl
  have d1 : w2.cell? ⟨b, 1, none⟩ = some v := by rw [Lib.cell_of_heap hb2]; rfl
  have f1 : w2.frozen? ⟨b, 1, none⟩ = false := Lib.frozen_of_heap hb2 1
  have hBel := hb1.grown hgrow (by omega) (fun k hk => (hown.lt k hk).1)
  have HO := Lib.hid hown'
  have HB2 := Lib.hid hb2
  clear hown hown' hb2 hbk hgrow hne
  obtain ⟨ao, n', cap, rfl⟩ : ∃ ao n' cap, v' = .slice ao n' cap := by
    rcases HO.out.2 with ⟨hv, _⟩ | ⟨g, cap, cur, hv, _⟩
    · exact ⟨_, _, _, hv⟩
    · exact ⟨_, _, _, hv⟩
  go_wp2_with fail
  go_ret2
  refine ⟨rfl, ?_, ?_⟩
  · exact Lib.BuilderAt.put (T := 70) (e := 5) hB HB2.out (bs' := bs ++ Lib.strCells s) (by simpa [Lib.strCells_length] using HO.out) (by decide)
  · exact hBel.setCell (p := ⟨b, 1, none⟩) hB _
end Go.Proofs.YtjboghmcmlkpoaaGreatDoor
/- Plain mathematics of lists of limbs in base 10000: their value, the one list of a number, sums of limbs. No Go text here. -/
namespace Go.Proofs.YtjboghmcmlkpoaaGreatDoor
open Go.RowKit

/-- The value of a list of limbs, the lowest first. -/
def val : List Int → Nat
  | [] => 0
  | z :: r => z.toNat + 10000 * val r

/-- The limbs of a number (with fuel). -/
def toLF : Nat → Nat → List Int
  | 0, _ => []
  | f + 1, n => if n = 0 then [] else ((n % 10000 : Nat) : Int) :: toLF f (n / 10000)
def toL (n : Nat) : List Int := toLF n n

theorem toLF_more : ∀ (f n : Nat), n ≤ f → toLF f n = toLF n n := by
  intro f
  induction f using Nat.strongRecOn with
  | _ f ih =>
    intro n hn
    cases f with
    | zero => have : n = 0 := by omega
              subst this; rfl
    | succ f =>
      cases n with
      | zero => simp [toLF]
      | succ n =>
        simp only [toLF]
        rw [if_neg (by omega), if_neg (by omega)]
        rw [ih f (by omega) ((n + 1) / 10000) (by omega), ih n (by omega) ((n + 1) / 10000) (by omega)]

theorem toL_zero : toL 0 = [] := rfl
theorem toL_pos {n : Nat} (h : 0 < n) : toL n = ((n % 10000 : Nat) : Int) :: toL (n / 10000) := by
  unfold toL
  cases n with
  | zero => omega
  | succ n =>
    rw [toLF, if_neg (by omega), toLF_more n ((n + 1) / 10000) (by omega)]

/-- All limbs are limbs. -/
def Good (l : List Int) : Prop := ∀ z ∈ l, 0 ≤ z ∧ z ≤ 9999
theorem good_of_to {l : List Int} (h : GoodTo l l.length) : Good l := by
  intro z hz
  obtain ⟨i, hi, rfl⟩ := List.getElem_of_mem hz
  have := h i hi
  rw [List.getD_eq_getElem?_getD, List.getElem?_eq_getElem hi] at this
  exact this
theorem Good.to {l : List Int} (h : Good l) : GoodTo l l.length := fun _ hi => h _ (getD_mem hi)
theorem Good.in64 {l : List Int} (h : Good l) : ∀ z ∈ l, In64 z := fun z hz => ⟨by have := h z hz; omega, by have := h z hz; omega⟩
theorem Good.getD {l : List Int} (h : Good l) (i : Nat) : 0 ≤ l.getD i 0 ∧ l.getD i 0 ≤ 9999 := by
  by_cases hi : i < l.length
  · exact h _ (getD_mem hi)
  · rw [List.getD_eq_getElem?_getD, List.getElem?_eq_none (by omega)]; simp
theorem Good.take {l : List Int} (h : Good l) (k : Nat) : Good (l.take k) := fun z hz => h z (List.mem_of_mem_take hz)
theorem good_nil : Good [] := fun z hz => by simp at hz
theorem Good.snoc {l : List Int} {z : Int} (h : Good l) (h0 : 0 ≤ z) (h1 : z ≤ 9999) : Good (l ++ [z]) := by
  intro x hx
  rcases List.mem_append.1 hx with h' | h'
  · exact h x h'
  · rw [List.mem_singleton] at h'; subst h'; exact ⟨h0, h1⟩

/-- No nought at the end. -/
def Tight (l : List Int) : Prop := 0 < l.length → l.getD (l.length - 1) 0 ≠ 0
theorem tight_cons {x y : Int} {r : List Int} (h : Tight (x :: y :: r)) : Tight (y :: r) := by
  intro _
  have := h (by simp)
  simpa [List.getD_eq_getElem?_getD] using this

theorem val_pos {l : List Int} (hg : Good l) (ht : Tight l) (hp : 0 < l.length) : 0 < val l := by
  induction l with
  | nil => simp at hp
  | cons x r ih =>
    cases r with
    | nil =>
      have h1 := ht (by simp)
      have h2 := hg x (by simp)
      simp at h1
      simp [val]; omega
    | cons y r =>
      have := ih (fun z hz => hg z (List.mem_cons_of_mem _ hz)) (tight_cons ht) (by simp)
      simp only [val] at this ⊢; omega

/-- A number has one list of limbs. -/
theorem toL_val {l : List Int} (hg : Good l) (ht : Tight l) : toL (val l) = l := by
  induction l with
  | nil => rfl
  | cons x r ih =>
    have hp := val_pos hg ht (by simp)
    have hx := hg x (by simp)
    have hr : toL (val r) = r := by
      cases r with
      | nil => rfl
      | cons y r => exact ih (fun z hz => hg z (List.mem_cons_of_mem _ hz)) (tight_cons ht)
    rw [toL_pos hp]
    have e1 : val (x :: r) % 10000 = x.toNat := by simp only [val]; omega
    have e2 : val (x :: r) / 10000 = val r := by simp only [val]; omega
    rw [e1, e2, hr]
    congr 1
    omega

theorem val_toL (n : Nat) : val (toL n) = n := by
  induction n using Nat.strongRecOn with
  | _ n ih =>
    by_cases h : 0 < n
    · rw [toL_pos h, val, ih (n / 10000) (by omega)]; omega
    · have : n = 0 := by omega
      subst this; rfl
theorem good_toL (n : Nat) : Good (toL n) := by
  induction n using Nat.strongRecOn with
  | _ n ih =>
    by_cases h : 0 < n
    · rw [toL_pos h]
      intro z hz
      rcases List.mem_cons.1 hz with rfl | hz
      · omega
      · exact ih (n / 10000) (by omega) z hz
    · have : n = 0 := by omega
      subst this; exact good_nil
theorem tight_toL (n : Nat) : Tight (toL n) := by
  induction n using Nat.strongRecOn with
  | _ n ih =>
    by_cases h : 0 < n
    · rw [toL_pos h]
      by_cases h2 : 0 < n / 10000
      · have := ih (n / 10000) (by omega)
        intro _
        rw [toL_pos h2] at this ⊢
        have := this (by simp)
        simpa [List.getD_eq_getElem?_getD] using this
      · intro _
        have e : n / 10000 = 0 := by omega
        rw [e, toL_zero]
        simp; omega
    · have : n = 0 := by omega
      subst this; intro h; simp [toL_zero] at h

theorem okB_iff (l : List Int) : okB l = true ↔ l.length ≤ 100 ∧ Good l ∧ Tight l := by
  constructor
  · intro h
    have := okB_good h
    exact ⟨this.1, good_of_to this.2.1, this.2.2⟩
  · rintro ⟨h1, h2, h3⟩
    by_cases hp : 0 < l.length
    · rw [okB_last h1 h2.to hp rfl]
      simpa using h3 hp
    · exact okB_nil (by omega)
theorem okB_toL (n : Nat) : okB (toL n) = decide ((toL n).length ≤ 100) := by
  by_cases h : (toL n).length ≤ 100
  · rw [decide_eq_true h]; exact (okB_iff _).2 ⟨h, good_toL n, tight_toL n⟩
  · rw [decide_eq_false h, ← Bool.not_eq_true, okB_iff]; exact fun h' => h h'.1
theorem ok_toL {l : List Int} (h : okB l = true) : toL (val l) = l := toL_val ((okB_iff l).1 h).2.1 ((okB_iff l).1 h).2.2

/-! ### The value of what is put together -/
theorem val_append (a b : List Int) : val (a ++ b) = val a + 10000 ^ a.length * val b := by
  induction a with
  | nil => simp [val]
  | cons x r ih =>
    rw [List.cons_append, val, val, ih, List.length_cons, Nat.pow_succ, Nat.mul_add, Nat.mul_comm (10000 ^ r.length) 10000, ← Nat.mul_assoc]
    omega
theorem val_snoc (a : List Int) (z : Int) : val (a ++ [z]) = val a + 10000 ^ a.length * z.toNat := by
  rw [val_append]; simp [val]
theorem val_replicate (n : Nat) : val (List.replicate n 0) = 0 := by
  induction n with
  | zero => rfl
  | succ n ih => rw [List.replicate_succ, val, ih]; rfl
theorem val_lt {l : List Int} (h : Good l) : val l < 10000 ^ l.length := by
  induction l with
  | nil => simp [val]
  | cons x r ih =>
    have := ih (fun z hz => h z (List.mem_cons_of_mem _ hz))
    have hx := h x (by simp)
    rw [val, List.length_cons, Nat.pow_succ]
    omega
theorem take_snoc' (l : List Int) (k : Nat) (h : k < l.length) : l.take (k + 1) = l.take k ++ [l.getD k 0] := by
  rw [List.take_succ_eq_append_getElem h]; simp [List.getD_eq_getElem?_getD, h]
theorem val_take_succ (l : List Int) (k : Nat) : val (l.take (k + 1)) = val (l.take k) + 10000 ^ k * (l.getD k 0).toNat := by
  by_cases h : k < l.length
  · rw [take_snoc' l k h, val_snoc, List.length_take, Nat.min_eq_left (by omega)]
  · rw [List.take_of_length_le (by omega), List.take_of_length_le (by omega), List.getD_eq_getElem?_getD, List.getElem?_eq_none (by omega)]; simp

/-- How long a list is without noughts at its end. -/
def trimLen (l : List Int) : Nat → Nat
  | 0 => 0
  | n + 1 => if l.getD n 0 = 0 then trimLen l n else n + 1
theorem trimLen_le (l : List Int) (n : Nat) : trimLen l n ≤ n := by
  induction n with
  | zero => simp [trimLen]
  | succ n ih => unfold trimLen; split <;> omega
theorem tight_trim (l : List Int) : ∀ n, n ≤ l.length → Tight (l.take (trimLen l n)) := by
  intro n
  induction n with
  | zero => intro _ h; simp [trimLen] at h
  | succ n ih =>
    intro hn
    unfold trimLen
    split
    · exact ih (by omega)
    · rename_i hne
      intro _
      rw [List.length_take, Nat.min_eq_left hn]
      simpa [List.getD_eq_getElem?_getD] using hne
theorem val_trim (l : List Int) : ∀ n, val (l.take (trimLen l n)) = val (l.take n) := by
  intro n
  induction n with
  | zero => simp [trimLen]
  | succ n ih =>
    unfold trimLen
    split
    · rename_i h0
      rw [ih, val_take_succ, h0]; simp
    · rfl
theorem trim_toL {l : List Int} (h : Good l) : l.take (trimLen l l.length) = toL (val l) := by
  have := val_trim l l.length
  rw [List.take_length] at this
  rw [← this, toL_val (h.take _) (tight_trim l _ (Nat.le_refl _))]
theorem toL_len {l : List Int} (h : Good l) : (toL (val l)).length ≤ l.length := by
  rw [← trim_toL h, List.length_take]; exact Nat.min_le_right _ _
theorem toL_len_lt {n k : Nat} (h : n < 10000 ^ k) : (toL n).length ≤ k := by
  induction k generalizing n with
  | zero => have : n = 0 := by simpa using h
            subst this; simp [toL_zero]
  | succ k ih =>
    by_cases hn : 0 < n
    · rw [toL_pos hn, List.length_cons]
      have : n / 10000 < 10000 ^ k := by rw [Nat.pow_succ] at h; omega
      have := ih this; omega
    · have : n = 0 := by omega
      subst this; simp [toL_zero]
end Go.Proofs.YtjboghmcmlkpoaaGreatDoor
/- The contracts of the two functions ShowNat: each answers the decimal digits. -/
namespace Go.Proofs.YtjboghmcmlkpoaaGreatDoor
open Go.RowKit
set_option maxRecDepth 100000

/-- The text behind the highest limb and j more. -/
def showTo (zs : List Int) : Nat → List UInt8
  | 0 => Lib.itoa (zs.getD (zs.length - 1) 0)
  | j + 1 => showTo zs j ++ (Lib.itoa (zs.getD (zs.length - 2 - j) 0 + 10000)).drop 1
/-- What ShowNat answers. -/
def showL (zs : List Int) : List UInt8 := if okB zs then (if zs.length = 0 then [48] else showTo zs (zs.length - 1)) else []

theorem nDig (u : Nat) (h : u < 100000) : (Lib.decDigits u).length ≤ 5 ∧ 1 ≤ (Lib.decDigits u).length := by
  by_cases h1 : u < 10
  · rw [digs_small h1]; simp
  rw [digs_big (by omega)]
  by_cases h2 : u / 10 < 10
  · rw [digs_small h2]; simp
  rw [digs_big (n := u / 10) (by omega)]
  by_cases h3 : u / 10 / 10 < 10
  · rw [digs_small h3]; simp
  rw [digs_big (n := u / 10 / 10) (by omega)]
  by_cases h4 : u / 10 / 10 / 10 < 10
  · rw [digs_small h4]; simp
  rw [digs_big (n := u / 10 / 10 / 10) (by omega)]
  rw [digs_small (n := u / 10 / 10 / 10 / 10) (by omega)]; simp
theorem itoa_len {n : Int} (h0 : 0 ≤ n) (h1 : n < 100000) : (Lib.itoa n).length ≤ 5 ∧ 1 ≤ (Lib.itoa n).length := by
  unfold Lib.itoa; rw [if_neg (by omega)]; exact nDig _ (by omega)
theorem showTo_len {zs : List Int} (hg : Good zs) (j : Nat) : (showTo zs j).length ≤ 5 * (j + 1) := by
  induction j with
  | zero => have := hg.getD (zs.length - 1); have := itoa_len (n := zs.getD (zs.length - 1) 0) (by omega) (by omega); simp only [showTo]; omega
  | succ j ih =>
    have h1 := hg.getD (zs.length - 2 - j)
    have := itoa_len (n := zs.getD (zs.length - 2 - j) 0 + 10000) (by omega) (by omega)
    simp only [showTo, List.length_append, List.length_drop]; omega

/-- A table of the library's, in a later world. -/
theorem tab_later {w w' : World} (h : Lib.TabIs Tryz.prog w "internal/strconv.uint64pow10" .u64 Lib.pow10Tab) (hb : Below w.heap.size w w') : Lib.TabIs Tryz.prog w' "internal/strconv.uint64pow10" .u64 Lib.pow10Tab :=
  Lib.tabBelow_of_tabIs h w' hb

theorem format_any (n : Int) (w : World) (h0 : 0 ≤ n) (h1 : n < 100000) (htab : Lib.TabIs Tryz.prog w "internal/strconv.uint64pow10" .u64 Lib.pow10Tab) :
    Calls Tryz.prog 130 #[.int .i64 n, .int .i64 10] w fun e w' => e = .returned (.string ⟨(Lib.itoa n).toArray⟩) ∧ Below w.heap.size w w' := by
  refine (Tryz.strconv_FormatInt_10 n (by omega) (by omega) w htab).mono ?_
  rintro e w' ⟨rfl, k, os, rfl⟩
  exact ⟨rfl, Lib.below_grow _ _ (Nat.le_refl _) _ _⟩

theorem strCells_list (l : List UInt8) : Lib.strCells ⟨l.toArray⟩ = Lib.byteCells l := rfl

theorem drop_str (l : List UInt8) : (⟨l.toArray⟩ : ByteArray).extract 1 (⟨l.toArray⟩ : ByteArray).size = ⟨(l.drop 1).toArray⟩ := by
  apply ByteArray.ext
  simp [ByteArray.size]
  exact List.take_of_length_le (by simp)

theorem showTo_next {zs : List Int} {n k : Nat} {z : Int} (hl : zs.length = n) (hk : 0 < k) (hkn : k ≤ n - 1) (hz : Hid (z = zs.getD (k - 1) 0)) :
    showTo zs (n - 1 - k) ++ (Lib.itoa (10000 + z)).drop 1 = showTo zs (n - 1 - (k - 1)) := by
  have e : n - 1 - (k - 1) = n - 1 - k + 1 := by omega
  rw [e, showTo, hl, show n - 2 - (n - 1 - k) = k - 1 by omega, ← hz.out, Int.add_comm]

theorem showL_no {zs : List Int} (h : okB zs = false) : showL zs = [] := by unfold showL; rw [h]; rfl
theorem showL_nil {zs : List Int} (h : okB zs = true) (h0 : zs.length = 0) : showL zs = [48] := by unfold showL; rw [h, if_pos rfl, if_pos h0]
theorem showL_yes {zs : List Int} {n : Nat} (h : okB zs = true) (hl : zs.length = n) (h0 : 0 < n) : showL zs = showTo zs (n - 1) := by unfold showL; rw [h, if_pos rfl, if_neg (by omega), hl]

theorem app_str (x y : List UInt8) : (⟨x.toArray⟩ : ByteArray) ++ ⟨y.toArray⟩ = ⟨(x ++ y).toArray⟩ := by
  apply ByteArray.ext
  simp

end Go.Proofs.YtjboghmcmlkpoaaGreatDoor
/- The contracts of the model's l3Size, l3Bits, l3Vars. -/
namespace Go.Proofs.YtjboghmcmlkpoaaGreatDoor
open Go.RowKit

/-- How many bits a number has. -/
def bitsN (n : Nat) : Nat := if h : n = 0 then 0 else bitsN (n / 2) + 1
theorem bitsN_zero : bitsN 0 = 0 := by rw [bitsN]; rfl
theorem bitsN_pos {n : Nat} (h : 0 < n) : bitsN n = bitsN (n / 2) + 1 := by rw [bitsN, dif_neg (by omega)]
theorem bitsN_le : ∀ (j n : Nat), n < 2 ^ j → bitsN n ≤ j
  | 0, n, h => by have : n = 0 := by omega
                  subst this; rw [bitsN_zero]; exact Nat.le_refl _
  | j + 1, n, h => by
    rcases Nat.eq_zero_or_pos n with rfl | hp
    · rw [bitsN_zero]; omega
    · rw [bitsN_pos hp]
      have := bitsN_le j (n / 2) (by rw [Nat.pow_succ] at h; omega)
      omega
def progCells (r : PRow) : Array Value := #[.int .i64 r.width, slV r.lows, slV r.secrets, .int .i64 r.temps, slV r.arrays, slV r.body]

set_option maxHeartbeats 800000 in
theorem l3Size_any (r : PRow) (W : Nat) (w : World) (hW : r.width = (W : Int)) (h8 : W ≤ 8) :
    Calls Tryz.prog 137 #[progV r] w fun e w' => e = .returned (.int .i64 ((2 ^ W : Nat) : Int)) ∧ Below w.heap.size w w' := by
  obtain ⟨wd, ⟨a1, n1, c1⟩, ⟨a2, n2, c2⟩, tp, ⟨a3, n3, c3⟩, ⟨a4, n4, c4⟩, rows⟩ := r
  simp only [] at hW
  subst hW
  show Calls Tryz.prog 137 #[.agg #[.int .i64 (W : Int), .slice a1 n1 c1, .slice a2 n2 c2, .int .i64 tp, .slice a3 n3 c3, .slice a4 n4 c4]] w _
  have HB : Below w.heap.size w (w.alloc (.cells #[.int .i64 (W : Int), .slice a1 n1 c1, .slice a2 n2 c2, .int .i64 tp, .slice a3 n3 c3, .slice a4 n4 c4] 28)) := (Below.refl _ _).alloc (Nat.le_refl _) _
  go_enter Tryz.func137, Tryz.ntmps137
  go_wp2
  go_loop [3, 4] (fun q i => ∃ k : Nat, k ≤ W ∧ i = .int .i64 (k : Int) ∧ q = .int .i64 ((2 ^ k : Nat) : Int)) (fun _ i => W - (intOf i).toNat)
  case atStart => exact ⟨0, Nat.zero_le _, rfl, rfl⟩
  case round =>
    obtain ⟨k, hk, rfl, rfl⟩ := hrel
    by_cases hlt : k < W
    · have hp : 2 ^ k ≤ 2 ^ 8 := Nat.pow_le_pow_right (by omega) (by omega)
      have hs := Lib.hid (Nat.pow_succ (n := 2) (m := k))
      generalize (2 : Nat) ^ k = q at hp hs ⊢
      go_wp2
      go_round
      case rel => exact ⟨k + 1, by omega, by go_num, by rw [hs.out]; go_num⟩
      case measure => simp [intOf]; omega
    · obtain rfl : W = k := by omega
      go_wp2
      go_ret
      exact ⟨rfl, HB⟩
set_option maxHeartbeats 800000 in
theorem l3Bits_any (n : Int) (w : World) (hn : In64 n) :
    Calls Tryz.prog 152 #[.int .i64 n] w fun e w' => e = .returned (.int .i64 (bitsN n.toNat : Int)) ∧ w = w' := by
  have hb63 : bitsN n.toNat ≤ 63 := bitsN_le 63 _ (by have := hn.2; omega)
  obtain ⟨T, HT⟩ : ∃ T, Hid (bitsN n.toNat = T) := ⟨_, rfl⟩
  rw [HT.out] at hb63 ⊢
  have h1 := hn.1
  have h2 := hn.2
  go_enter Tryz.func152, Tryz.ntmps152
  go_wp2
  go_loop [0, 3] (fun q i => ∃ (m : Int) (k : Nat), In64 m ∧ q = .int .i64 m ∧ i = .int .i64 (k : Int) ∧ bitsN m.toNat + k = T) (fun q _ => (intOf q).toNat)
  case atStart => exact ⟨n, 0, hn, rfl, rfl, HT.out⟩
  case round =>
    obtain ⟨m, k, hm, rfl, rfl, hs⟩ := hrel
    have hm1 := hm.1
    have hm2 := hm.2
    by_cases hlt : 0 < m
    · have hbit := bitsN_pos (n := m.toNat) (by omega)
      have hkT : k < T := by omega
      have hdiv : (m / 2).toNat = m.toNat / 2 := by omega
      have htd : Int.tdiv m 2 = m / 2 := Int.tdiv_eq_ediv_of_nonneg (by omega)
      have HS : Hid (bitsN (Int.tdiv m 2).toNat + (k + 1) = T) := by rw [htd, hdiv]; exact Lib.hid (by omega)
      have H2 : Hid (In64 (Int.tdiv m 2)) := by rw [htd]; exact Lib.hid ⟨by omega, by omega⟩
      have H3 : Hid ((Int.tdiv m 2).toNat < m.toNat) := by rw [htd]; exact Lib.hid (by omega)
      have b1 := H2.out.1
      have b2 := H2.out.2
      clear hbit hdiv htd hs
      go_wp2
      go_round
      case rel => exact ⟨Int.tdiv m 2, k + 1, H2.out, by go_num, by go_num, HS.out⟩
      case measure => exact H3.out
    · have h0 : m.toNat = 0 := by omega
      rw [h0, bitsN_zero] at hs
      have hkT : k = T := by omega
      subst hkT
      go_wp2
      go_ret
      exact ⟨rfl, rfl⟩
theorem l3Vars_any (r : PRow) (w : World) (h1 : r.lows.2.1 ≤ 1048576) (h2 : r.secrets.2.1 ≤ 1048576) (h3 : 0 ≤ r.temps) (h4 : r.temps ≤ 1048576) :
    Calls Tryz.prog 136 #[progV r] w fun e w' => e = .returned (.int .i64 ((r.lows.2.1 : Int) + (r.secrets.2.1 : Int) + r.temps)) ∧ Below w.heap.size w w' := by
  obtain ⟨wd, ⟨a1, n1, c1⟩, ⟨a2, n2, c2⟩, tp, ⟨a3, n3, c3⟩, ⟨a4, n4, c4⟩, rows⟩ := r
  simp only [] at h1 h2 h3 h4
  show Calls Tryz.prog 136 #[.agg #[.int .i64 wd, .slice a1 n1 c1, .slice a2 n2 c2, .int .i64 tp, .slice a3 n3 c3, .slice a4 n4 c4]] w _
  go_enter Tryz.func136, Tryz.ntmps136
  go_wp2
  go_ret
  exact ⟨rfl, (Below.refl _ _).alloc (Nat.le_refl _) _⟩
end Go.Proofs.YtjboghmcmlkpoaaGreatDoor
/- The contracts of the model's l3AllBits and l3Room. -/
namespace Go.Proofs.YtjboghmcmlkpoaaGreatDoor
open Go.RowKit

/-- The bits of the first k inputs' greatest values. -/
def bitsTo (ts : List Tm) : Nat → Nat
  | 0 => 0
  | k + 1 => bitsTo ts k + bitsN (tmAt ts k).1.toNat
theorem bits63 {z : Int} (h : In64 z) : bitsN z.toNat ≤ 63 := bitsN_le 63 _ (by have := h.2; omega)
def roomB (p : Prg) : Bool :=
  (decide (0 ≤ p.temps) && decide (p.temps ≤ 6)) && decide (p.arrays.length ≤ 2) && decide (p.body.length ≤ 40) && p.arrays.all (fun z => decide (1 ≤ z) && decide (z ≤ 6))
/-- The first k are sizes of arrays. -/
def CellsTo (zs : List Int) (k : Nat) : Prop := ∀ i, i < k → 1 ≤ zs.getD i 0 ∧ zs.getD i 0 ≤ 6
theorem CellsTo.succ {zs : List Int} {k : Nat} {z : Int} (h : CellsTo zs k) (hz : Hid (z = zs.getD k 0)) (h0 : 1 ≤ z) (h1 : z ≤ 6) : CellsTo zs (k + 1) := by
  intro i hi
  rcases Nat.lt_or_ge i k with hlt | hge
  · exact h i hlt
  · have : i = k := by omega
    subst this; rw [← hz.out]; exact ⟨h0, h1⟩
theorem cellsTo_all (zs : List Int) : zs.all (fun z => decide (1 ≤ z) && decide (z ≤ 6)) = true ↔ CellsTo zs zs.length := by
  rw [List.all_eq_true]
  constructor
  · intro h i hi
    have := h _ (getD_mem hi)
    simpa using this
  · intro h z hz
    obtain ⟨i, hi, rfl⟩ := List.getElem_of_mem hz
    have := h i hi
    rw [List.getD_eq_getElem?_getD, List.getElem?_eq_getElem hi] at this
    simpa using this
theorem cells_bad {zs : List Int} {k : Nat} {z : Int} (hk : k < zs.length) (hz : Hid (z = zs.getD k 0)) (h : ¬ (1 ≤ z ∧ z ≤ 6)) : zs.all (fun z => decide (1 ≤ z) && decide (z ≤ 6)) = false := by
  rw [← Bool.not_eq_true, cellsTo_all]
  intro hg
  have := hg k hk
  rw [← hz.out] at this
  exact h this

set_option maxHeartbeats 1600000 in
theorem l3AllBits_any (r : PRow) (p : Prg) (w : World) (h : ProgAt w r p) :
    Calls Tryz.prog 107 #[progV r] w fun e w' => e = .returned (.int .i64 ((bitsTo p.lows p.lows.length + bitsTo p.secrets p.secrets.length : Nat) : Int)) ∧ Below w.heap.size w w' := by
  obtain ⟨wd, ⟨a1, n1, c1⟩, ⟨a2, n2, c2⟩, tp, ⟨a3, n3, c3⟩, ⟨a4, n4, c4⟩, rows⟩ := r
  obtain ⟨pw, pl, ps, pt, pa, pb⟩ := p
  obtain ⟨e1, e2, i1, i2, h1, h2, h3, h4⟩ := h
  simp only [] at e1 e2 i1 i2 h1 h2 h3 h4
  subst e1 e2
  clear h3 h4
  show Calls Tryz.prog 107 #[.agg #[.int .i64 wd, .slice a1 n1 c1, .slice a2 n2 c2, .int .i64 tp, .slice a3 n3 c3, .slice a4 n4 c4]] w _
  have HB : Below w.heap.size w (w.alloc (.cells #[.int .i64 wd, .slice a1 n1 c1, .slice a2 n2 c2, .int .i64 tp, .slice a3 n3 c3, .slice a4 n4 c4] 28)) := (Below.refl _ _).alloc (Nat.le_refl _) _
  have HT1 := Lib.hid (h1.below (Nat.le_refl _) HB)
  have HT2 := Lib.hid (h2.below (Nat.le_refl _) HB)
  have HL1 := Lib.hid h1.1
  have HL2 := Lib.hid h2.1
  have hn1 := h1.2.1
  have hn2 := h2.2.1
  simp only [HL1.out, HL2.out]
  clear h1 h2
  go_enter Tryz.func107, Tryz.ntmps107
  go_wp2
  go_loop [3, 4] (fun q i => ∃ k : Nat, k ≤ n1 ∧ i = .int .i64 (k : Int) ∧ bitsTo pl k ≤ 63 * k ∧ q = .int .i64 (bitsTo pl k : Int)) (fun _ i => n1 - (intOf i).toNat)
  case atStart => exact ⟨0, Nat.zero_le _, rfl, Nat.le_refl _, rfl⟩
  case round =>
    obtain ⟨k, hk, rfl, hs, rfl⟩ := hrel
    by_cases hlt : k < n1
    · obtain ⟨b, o, x, y, rfl, hb, hz, hin1, hin2, hc1, hc2⟩ := HT1.out.at_ hlt
      have hb63 := bits63 hin1
      have hst : bitsTo pl (k + 1) = bitsTo pl k + bitsN x.toNat := by simp only [bitsTo, hz.out]
      have HS := Lib.hid hst
      clear hst hc2
      generalize bitsTo pl k = Q at hs HS ⊢
      go_wp2_with fail
      refine (l3Bits_any _ _ hin1).mono ?_
      rintro e w1 ⟨rfl, rfl⟩
      generalize bitsN x.toNat = V at hb63 HS ⊢
      go_wp2
      go_round
      case rel => exact ⟨k + 1, by omega, by go_num, by rw [HS.out]; omega, by rw [HS.out]; go_num⟩
      case measure => simp [intOf]; omega
    · obtain rfl : n1 = k := by omega
      obtain ⟨Q, HQ⟩ : ∃ Q, Hid (bitsTo pl n1 = Q) := ⟨_, rfl⟩
      rw [HQ.out] at hs ⊢
      go_wp2
      go_loop [3, 5] (fun q i => ∃ k : Nat, k ≤ n2 ∧ i = .int .i64 (k : Int) ∧ bitsTo ps k ≤ 63 * k ∧ q = .int .i64 ((Q + bitsTo ps k : Nat) : Int)) (fun _ i => n2 - (intOf i).toNat)
      case atStart => exact ⟨0, Nat.zero_le _, rfl, Nat.le_refl _, rfl⟩
      case round =>
        obtain ⟨k, hk, rfl, hs2, rfl⟩ := hrel
        by_cases hlt : k < n2
        · obtain ⟨b, o, x, y, rfl, hb, hz, hin1, hin2, hc1, hc2⟩ := HT2.out.at_ hlt
          have hb63 := bits63 hin1
          have hst : bitsTo ps (k + 1) = bitsTo ps k + bitsN x.toNat := by simp only [bitsTo, hz.out]
          have HS := Lib.hid hst
          clear hst hc2
          generalize bitsTo ps k = R at hs2 HS ⊢
          go_wp2_with fail
          refine (l3Bits_any _ _ hin1).mono ?_
          rintro e w1 ⟨rfl, rfl⟩
          generalize bitsN x.toNat = V at hb63 HS ⊢
          go_wp2
          go_round
          case rel => exact ⟨k + 1, by omega, by go_num, by rw [HS.out]; omega, by rw [HS.out]; go_num⟩
          case measure => simp [intOf]; omega
        · obtain rfl : n2 = k := by omega
          obtain ⟨R, HR⟩ : ∃ R, Hid (bitsTo ps n2 = R) := ⟨_, rfl⟩
          rw [HR.out] at hs2 ⊢
          go_wp2
          go_ret
          exact ⟨ret_int (by rw [HQ.out, HR.out]), HB⟩
set_option maxHeartbeats 1600000 in
theorem l3Room_any (r : PRow) (p : Prg) (w : World) (h : ProgAt w r p) :
    Calls Tryz.prog 108 #[progV r] w fun e w' => e = .returned (.bool (roomB p)) ∧ Below w.heap.size w w' := by
  obtain ⟨wd, ⟨a1, n1, c1⟩, ⟨a2, n2, c2⟩, tp, ⟨a3, n3, c3⟩, ⟨a4, n4, c4⟩, rows⟩ := r
  obtain ⟨pw, pl, ps, pt, pa, pb⟩ := p
  obtain ⟨e1, e2, i1, i2, h1, h2, h3, h4⟩ := h
  simp only [] at e1 e2 i1 i2 h1 h2 h3 h4
  subst e1 e2
  clear h1 h2
  show Calls Tryz.prog 108 #[.agg #[.int .i64 wd, .slice a1 n1 c1, .slice a2 n2 c2, .int .i64 tp, .slice a3 n3 c3, .slice a4 n4 c4]] w _
  have HB : Below w.heap.size w (w.alloc (.cells #[.int .i64 wd, .slice a1 n1 c1, .slice a2 n2 c2, .int .i64 tp, .slice a3 n3 c3, .slice a4 n4 c4] 28)) := (Below.refl _ _).alloc (Nat.le_refl _) _
  have HT3 := Lib.hid (h3.below HB)
  have HL3 := Lib.hid h3.1
  have HL4 := Lib.hid h4.2.1
  have hn3 := h3.2.1
  have hn4 := h4.2.2.1
  obtain ⟨R, HR⟩ : ∃ R, Hid (roomB ⟨wd, pl, ps, tp, pa, pb⟩ = R) := ⟨_, rfl⟩
  have hroom : roomB ⟨wd, pl, ps, tp, pa, pb⟩ = ((decide (0 ≤ tp) && decide (tp ≤ 6)) && decide (n3 ≤ 2) && decide (n4 ≤ 40) && pa.all (fun z => decide (1 ≤ z) && decide (z ≤ 6))) := by
    simp only [roomB, HL3.out, HL4.out]
  rw [HR.out] at hroom
  have HRM := Lib.hid hroom
  simp only [HR.out]
  clear hroom h3 h4 HR
  go_enter Tryz.func108, Tryz.ntmps108
  by_cases ht : 0 ≤ tp ∧ tp ≤ 6
  case neg =>
    have hd : (decide (0 ≤ tp) && decide (tp ≤ 6)) = false := by rw [← Bool.not_eq_true]; simpa using ht
    go_wp2_with (go_at_call 105; refine (in_any _ _ _ _).mono ?_; rintro e w' ⟨rfl, rfl⟩; rw [hd])
    go_ret
    exact ⟨ret_bool (by rw [HRM.out, hd]; rfl), HB⟩
  have hd : (decide (0 ≤ tp) && decide (tp ≤ 6)) = true := by simpa using ht
  have HD := Lib.hid hd
  clear hd ht
  by_cases ha : n3 ≤ 2
  case neg =>
    have hd2 : decide ((n3 : Int) > 2) = true := by simp; omega
    go_wp2_with (go_at_call 105; refine (in_any _ _ _ _).mono ?_; rintro e w' ⟨rfl, rfl⟩; rw [HD.out])
    go_ret
    exact ⟨ret_bool (by rw [HRM.out, HD.out, decide_eq_false ha]; rfl), HB⟩
  have hd2 : decide ((n3 : Int) > 2) = false := by simp; omega
  by_cases hs : n4 ≤ 40
  case neg =>
    have hd3 : decide ((n4 : Int) > 40) = true := by simp; omega
    go_wp2_with (go_at_call 105; refine (in_any _ _ _ _).mono ?_; rintro e w' ⟨rfl, rfl⟩; rw [HD.out])
    go_ret
    exact ⟨ret_bool (by rw [HRM.out, HD.out, decide_eq_true ha, decide_eq_false hs]; rfl), HB⟩
  have hd3 : decide ((n4 : Int) > 40) = false := by simp; omega
  have HX : Hid (R = pa.all (fun z => decide (1 ≤ z) && decide (z ≤ 6))) := Lib.hid (by rw [HRM.out, HD.out, decide_eq_true ha, decide_eq_true hs]; simp only [Bool.true_and])
  clear HRM
  go_wp2_with (go_at_call 105; refine (in_any _ _ _ _).mono ?_; rintro e w' ⟨rfl, rfl⟩; rw [HD.out])
  go_loop [3] (fun i => ∃ k : Nat, k ≤ n3 ∧ i = .int .i64 (k : Int) ∧ CellsTo pa k) (fun i => n3 - (intOf i).toNat)
  case atStart => exact ⟨0, Nat.zero_le _, rfl, fun i hi => absurd hi (by omega)⟩
  case round =>
    obtain ⟨k, hk, rfl, hg⟩ := hrel
    by_cases hlt : k < n3
    · obtain ⟨b, o, z, rfl, hb, hz, hin, hc⟩ := HT3.out.at_ hlt
      by_cases h0 : 1 ≤ z ∧ z ≤ 6
      · have hd : (decide (1 ≤ z) && decide (z ≤ 6)) = true := by simp [h0]
        go_wp2_with (go_at_call 105; refine (in_any _ _ _ _).mono ?_; rintro e w' ⟨rfl, rfl⟩; rw [hd])
        go_round
        case rel => exact ⟨k + 1, by omega, by go_num, hg.succ hz (by omega) (by omega)⟩
        case measure => simp [intOf]; omega
      · have hd : (decide (1 ≤ z) && decide (z ≤ 6)) = false := by rw [← Bool.not_eq_true]; simpa using h0
        go_wp2_with (go_at_call 105; refine (in_any _ _ _ _).mono ?_; rintro e w' ⟨rfl, rfl⟩; rw [hd])
        go_ret
        exact ⟨ret_bool (by rw [HX.out]; exact (cells_bad (by rw [HL3.out]; exact hlt) hz h0).symm), HB⟩
    · obtain rfl : n3 = k := by omega
      go_wp2
      go_ret
      exact ⟨ret_bool (by rw [HX.out]; exact ((cellsTo_all pa).2 (by rw [HL3.out]; exact hg)).symm), HB⟩
end Go.Proofs.YtjboghmcmlkpoaaGreatDoor
/- The contract of the model's l3Inputs. -/
namespace Go.Proofs.YtjboghmcmlkpoaaGreatDoor
open Go.RowKit

/-- A right input: its greatest value below S; its budget, none for a low one. -/
def inpOk (S : Nat) (low : Bool) (t : Tm) : Bool :=
  (decide (0 ≤ t.1) && decide (t.1 ≤ (S : Int) - 1)) && (decide (0 ≤ t.2) && decide (t.2 ≤ 99)) && !(low && t.2 != 0)
def inputsB (S : Nat) (low : Bool) (ts : List Tm) : Bool := ts.all (inpOk S low) && decide (ts.length ≤ 3)
def InpTo (S : Nat) (low : Bool) (ts : List Tm) (k : Nat) : Prop := ∀ i, i < k → inpOk S low (tmAt ts i) = true
theorem InpTo.succ {S : Nat} {low : Bool} {ts : List Tm} {k : Nat} {t : Tm} (h : InpTo S low ts k) (hz : Hid (tmAt ts k = t)) (ht : inpOk S low t = true) : InpTo S low ts (k + 1) := by
  intro i hi
  rcases Nat.lt_or_ge i k with hlt | hge
  · exact h i hlt
  · have : i = k := by omega
    subst this; rw [hz.out]; exact ht
theorem inpTo_all {S : Nat} {low : Bool} {ts : List Tm} (h : InpTo S low ts ts.length) : ts.all (inpOk S low) = true := by
  rw [List.all_eq_true]
  intro z hz
  obtain ⟨i, hi, rfl⟩ := List.getElem_of_mem hz
  have := h i hi
  rw [tmAt, List.getD_eq_getElem?_getD, List.getElem?_eq_getElem hi] at this
  simpa using this
theorem inp_bad {S : Nat} {low : Bool} {ts : List Tm} {k : Nat} {t : Tm} (hk : k < ts.length) (hz : Hid (tmAt ts k = t)) (ht : inpOk S low t = false) : inputsB S low ts = false := by
  have : ts.all (inpOk S low) = false := by
    rw [← Bool.not_eq_true, List.all_eq_true]
    intro h
    have := h _ (tmAt_mem hk)
    rw [hz.out, ht] at this
    exact absurd this (by simp)
  unfold inputsB
  rw [this]; rfl

theorem in_lat {w : World} (x lo hi : Int) {v : Bool} (hv : (decide (lo ≤ x) && decide (x ≤ hi)) = v) (p : Lat w) :
    Calls Tryz.prog 105 #[.int .i64 x, .int .i64 lo, .int .i64 hi] p.wd fun e w' => e = .returned (.bool v) ∧ Below p.wd.heap.size p.wd w' :=
  (in_any x lo hi p.wd).mono fun _ _ ⟨he, hw⟩ => ⟨by rw [he, hv], by rw [← hw]; exact Below.refl _ _⟩
set_option maxHeartbeats 3200000 in
theorem l3Inputs_any (r : PRow) (W : Nat) (a : Option Addr) (n c : Nat) (low : Bool) (ts : List Tm) (w : World) (hW : r.width = (W : Int)) (h8 : W ≤ 8) (h : Terms w a n ts) :
    Calls Tryz.prog 106 #[progV r, .slice a n c, .bool low] w fun e w' => e = .returned (.bool (inputsB (2 ^ W) low ts)) ∧ Below w.heap.size w w' := by
  have HC0 : Hid (∀ w' : World, Calls Tryz.prog 137 #[progV r] w' fun e w'' => e = .returned (.int .i64 ((2 ^ W : Nat) : Int)) ∧ Below w'.heap.size w' w'') := Lib.hid (fun w' => l3Size_any r W w' hW h8)
  obtain ⟨wd, ⟨a1, n1, c1⟩, ⟨a2, n2, c2⟩, tp, ⟨a3, n3, c3⟩, ⟨a4, n4, c4⟩, rows⟩ := r
  clear hW
  have hS : 2 ^ W ≤ 2 ^ 8 := Nat.pow_le_pow_right (by omega) h8
  obtain ⟨S, HS⟩ : ∃ S : Nat, Hid (2 ^ W = S) := ⟨_, Lib.hid rfl⟩
  simp only [HS.out] at hS HC0 ⊢
  clear HS h8
  show Calls Tryz.prog 106 #[.agg #[.int .i64 wd, .slice a1 n1 c1, .slice a2 n2 c2, .int .i64 tp, .slice a3 n3 c3, .slice a4 n4 c4], .slice a n c, .bool low] w _
  have HL := Lib.hid h.1
  have hbd := h.2.1
  obtain ⟨wa, HW⟩ : ∃ wa, Hid (wa = w.alloc (.cells #[.int .i64 wd, .slice a1 n1 c1, .slice a2 n2 c2, .int .i64 tp, .slice a3 n3 c3, .slice a4 n4 c4] 28)) := ⟨_, rfl⟩
  have BX : Blk wa w.heap.size 28 [.int .i64 wd, .slice a1 n1 c1, .slice a2 n2 c2, .int .i64 tp, .slice a3 n3 c3, .slice a4 n4 c4] := by rw [HW.out]; exact Blk.new w _ _
  have HB : Below w.heap.size w wa := by rw [HW.out]; exact (Below.refl _ _).alloc (Nat.le_refl _) _
  go_enter Tryz.func106, Tryz.ntmps106
  go_wp2
  rw [← HW.out]
  go_loopw [7] (fun i wr => ∃ k : Nat, k ≤ n ∧ i = .int .i64 (k : Int) ∧ InpTo S low ts k ∧ Below wa.heap.size wa wr) (fun i _ => n - (intOf i).toNat)
  case atStart => exact ⟨0, Nat.zero_le _, rfl, fun i hi => absurd hi (by omega), Below.refl _ _⟩
  case round =>
    obtain ⟨k, hk, rfl, hg, hbl⟩ := hrel
    have hbel := HB.trans (hbl.mono HB.size)
    have B1 := BX.below hbl BX.lt
    by_cases hlt : k < n
    · obtain ⟨b, o, x, y, rfl, hb, hz, hin1, hin2, hc1, hc2⟩ := (h.below (Nat.le_refl _) hbel).at_ hlt
      have f1 := lat_cell hb hc1
      have f2 := lat_cell hb hc2
      have g0 := lat_cell B1.lt (B1.cell (j := 0) rfl)
      have g1 := lat_cell B1.lt (B1.cell (j := 1) rfl)
      have g2 := lat_cell B1.lt (B1.cell (j := 2) rfl)
      have g3 := lat_cell B1.lt (B1.cell (j := 3) rfl)
      have g4 := lat_cell B1.lt (B1.cell (j := 4) rfl)
      have g5 := lat_cell B1.lt (B1.cell (j := 5) rfl)
      clear hc1 hc2 B1
      have HC1 : Hid (∀ p : Lat wr, Calls Tryz.prog 137 #[.agg #[.int .i64 wd, .slice a1 n1 c1, .slice a2 n2 c2, .int .i64 tp, .slice a3 n3 c3, .slice a4 n4 c4]] p.wd fun e w' => e = .returned (.int .i64 (S : Int)) ∧ Below p.wd.heap.size p.wd w') := Lib.hid (fun p => HC0.out p.wd)
      by_cases hA : 0 ≤ x ∧ x ≤ (S : Int) - 1
      case neg =>
        have hd : (decide (0 ≤ x) && decide (x ≤ (S : Int) - 1)) = false := by rw [← Bool.not_eq_true]; simpa using hA
        have HC2 := Lib.hid (in_lat (w := wr) (v := false) x 0 ((S : Int) - 1) hd)
        have HF := Lib.hid (show inpOk S low (x, y) = false by unfold inpOk; simp only [hd, Bool.false_and])
        clear hd hA
        go_wp2
        refine wp_region_lat (by kernel_rfl) (by kernel_rfl) ?_
        repeat (go_big_quiet_step (first | (go_at_call 137; exact lat_calls (HC1.out _)) | (go_at_call 105; first | exact lat_calls (HC2.out _))))
        refine wpQuiet_nil ?_
        intro _ hw'
        obtain ⟨⟨wq, hwq⟩, hw''⟩ := hw'
        subst hw''
        have ht := hbl.trans (hwq.mono hbl.size)
        have ht2 := HB.trans (ht.mono HB.size)
        clear f1 f2 g0 g1 g2 g3 g4 g5 HC1 HC2
        go_wp2
        go_ret
        exact ⟨ret_bool (inp_bad (by rw [HL.out]; exact hlt) hz HF.out).symm, ht2⟩
      have hd : (decide (0 ≤ x) && decide (x ≤ (S : Int) - 1)) = true := by simpa using hA
      have HC2 := Lib.hid (in_lat (w := wr) (v := true) x 0 ((S : Int) - 1) hd)
      by_cases hY : 0 ≤ y ∧ y ≤ 99
      case neg =>
        have hd2 : (decide (0 ≤ y) && decide (y ≤ 99)) = false := by rw [← Bool.not_eq_true]; simpa using hY
        have HC3 := Lib.hid (in_lat (w := wr) (v := false) y 0 99 hd2)
        have HF := Lib.hid (show inpOk S low (x, y) = false by unfold inpOk; simp only [hd, hd2, Bool.and_false, Bool.false_and])
        clear hd hd2 hA hY
        go_wp2
        refine wp_region_lat (by kernel_rfl) (by kernel_rfl) ?_
        repeat (go_big_quiet_step (first | (go_at_call 137; exact lat_calls (HC1.out _)) | (go_at_call 105; first | with_reducible exact lat_calls (HC2.out _) | with_reducible exact lat_calls (HC3.out _))))
        refine wpQuiet_nil ?_
        intro _ hw'
        obtain ⟨⟨wq, hwq⟩, hw''⟩ := hw'
        subst hw''
        have ht := hbl.trans (hwq.mono hbl.size)
        have ht2 := HB.trans (ht.mono HB.size)
        clear f1 f2 g0 g1 g2 g3 g4 g5 HC1 HC2 HC3
        go_wp2
        go_ret
        exact ⟨ret_bool (inp_bad (by rw [HL.out]; exact hlt) hz HF.out).symm, ht2⟩
      have hd2 : (decide (0 ≤ y) && decide (y ≤ 99)) = true := by simpa using hY
      have HC3 := Lib.hid (in_lat (w := wr) (v := true) y 0 99 hd2)
      cases low with
      | false =>
        have HF := Lib.hid (show inpOk S false (x, y) = true by unfold inpOk; simp only [hd, hd2, Bool.and_true, Bool.false_and, Bool.not_false])
        clear hd hd2 hA hY
        go_wp2
        refine wp_region_lat (by kernel_rfl) (by kernel_rfl) ?_
        repeat (go_big_quiet_step (first | (go_at_call 137; exact lat_calls (HC1.out _)) | (go_at_call 105; first | with_reducible exact lat_calls (HC2.out _) | with_reducible exact lat_calls (HC3.out _))))
        refine wpQuiet_nil ?_
        intro _ hw'
        obtain ⟨⟨wq, hwq⟩, hw''⟩ := hw'
        subst hw''
        have ht := hbl.trans (hwq.mono hbl.size)
        have ht2 := HB.trans (ht.mono HB.size)
        clear f1 f2 g0 g1 g2 g3 g4 g5 HC1 HC2 HC3
        go_wp2
        go_roundw
        case rel => exact ⟨k + 1, by omega, by go_num, hg.succ hz HF.out, ht⟩
        case measure => simp [intOf]; omega
      | true =>
        by_cases h0 : y = 0
        case neg =>
          have hne : (y != 0) = true := by simpa using h0
          have HF := Lib.hid (show inpOk S true (x, y) = false by unfold inpOk; simp only [hd, hd2, hne, Bool.and_self, Bool.not_true, Bool.and_false])
          clear hd hd2 hA hY
          go_wp2
          refine wp_region_lat (by kernel_rfl) (by kernel_rfl) ?_
          repeat (go_big_quiet_step (first | (go_at_call 137; exact lat_calls (HC1.out _)) | (go_at_call 105; first | with_reducible exact lat_calls (HC2.out _) | with_reducible exact lat_calls (HC3.out _))))
          refine wpQuiet_nil ?_
          intro _ hw'
          obtain ⟨⟨wq, hwq⟩, hw''⟩ := hw'
          subst hw''
          have ht := hbl.trans (hwq.mono hbl.size)
          have ht2 := HB.trans (ht.mono HB.size)
          clear f1 f2 g0 g1 g2 g3 g4 g5 HC1 HC2 HC3
          go_wp2
          go_ret
          exact ⟨ret_bool (inp_bad (by rw [HL.out]; exact hlt) hz HF.out).symm, ht2⟩
        subst h0
        have HF := Lib.hid (show inpOk S true (x, 0) = true by unfold inpOk; simp only [hd, hd2]; rfl)
        clear hd hd2 hA hY
        go_wp2
        refine wp_region_lat (by kernel_rfl) (by kernel_rfl) ?_
        repeat (go_big_quiet_step (first | (go_at_call 137; exact lat_calls (HC1.out _)) | (go_at_call 105; first | with_reducible exact lat_calls (HC2.out _) | with_reducible exact lat_calls (HC3.out _))))
        refine wpQuiet_nil ?_
        intro _ hw'
        obtain ⟨⟨wq, hwq⟩, hw''⟩ := hw'
        subst hw''
        have ht := hbl.trans (hwq.mono hbl.size)
        have ht2 := HB.trans (ht.mono HB.size)
        clear f1 f2 g0 g1 g2 g3 g4 g5 HC1 HC2 HC3
        go_wp2
        go_roundw
        case rel => exact ⟨k + 1, by omega, by go_num, hg.succ hz HF.out, ht⟩
        case measure => simp [intOf]; omega
    · obtain rfl : n = k := by omega
      by_cases h3 : n ≤ 3
      · have hd : decide ((n : Int) ≤ 3) = true := by simp; omega
        go_wp2
        go_ret
        exact ⟨ret_bool (by unfold inputsB; rw [inpTo_all (by rw [HL.out]; exact hg), HL.out, decide_eq_true h3]; rfl), hbel⟩
      · have hd : decide ((n : Int) ≤ 3) = false := by simp; omega
        go_wp2
        go_ret
        exact ⟨ret_bool (by unfold inputsB; rw [HL.out, decide_eq_false h3]; simp), hbel⟩
end Go.Proofs.YtjboghmcmlkpoaaGreatDoor
