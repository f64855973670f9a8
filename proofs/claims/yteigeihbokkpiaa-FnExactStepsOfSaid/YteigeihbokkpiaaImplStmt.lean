/- The contracts of the program's countVariables, isTemp, isVariable, isArray, termFits, mayStand, numberOfStmtOk, stmtOk, stmtsOk (written by tools/gen_implstmt.py). -/
import Derived.Test.YteigeihbokkpiaaImplSmall
import Derived.Test.YteigeihbokkpiaaSpecStmts
namespace Go.Proofs.Yteigeihbokkpiaa
open Go.RowKit

theorem and_tt {p q : Prop} [Decidable p] [Decidable q] (hp : p) (hq : q) : true = (decide p && decide q) := by rw [decide_eq_true hp, decide_eq_true hq]; rfl
theorem and_ff {p q : Prop} [Decidable p] [Decidable q] (h : ¬ (p ∧ q)) : false = (decide p && decide q) := by
  by_cases hp : p
  · rw [decide_eq_false (fun hq => h ⟨hp, hq⟩), Bool.and_false]
  · rw [decide_eq_false hp]; rfl
/-- A Term that may stand, as the program asks it. -/
def fitB (S V A : Nat) (t : Tm) : Bool :=
  if t.1 = 0 then decide (t.2 ≤ (S : Int) - 1) else if t.1 = 1 then decide (0 ≤ t.2) && decide (t.2 < (V : Int)) else if t.1 = 2 then decide (0 ≤ t.2) && decide (t.2 < (A : Int)) else t.1 != 17
def mayB (S V A : Nat) (ts : List Tm) : Bool := (decide (ts.length ≤ 40) && expB ts) && ts.all (fitB S V A)
theorem expB_each {ts : List Tm} (h : expB ts = true) {t : Tm} (ht : t ∈ ts) : tOkB t = true := by
  obtain ⟨k, hk, rfl⟩ := List.getElem_of_mem ht
  obtain ⟨_, hr⟩ := (expB_iff _).1 h
  obtain ⟨d, hd, _⟩ := runD_take hr k
  have := (runD_at hr hk hd).1
  rwa [tmAt, List.getD_eq_getElem?_getD, List.getElem?_eq_getElem hk] at this
theorem fit_eq {S V A : Nat} {t : Tm} (h : tOkB t = true) : fitB S V A t = ((t.1 != 17) && nameOk S V A t) := by
  have h2 := ((tOkB_iff _).1 h).2.1
  obtain ⟨x, y⟩ := t
  simp only [] at h2
  unfold fitB nameOk
  simp only []
  by_cases h0 : x = 0
  · subst h0; rw [if_pos rfl, if_pos rfl, Bool.eq_iff_iff]; simp; omega
  rw [if_neg h0, if_neg h0]
  by_cases h1 : x = 1
  · subst h1; rw [if_pos rfl, if_pos rfl, Bool.eq_iff_iff]; simp; omega
  rw [if_neg h1, if_neg h1]
  by_cases h2' : x = 2
  · subst h2'; rw [if_pos rfl, if_pos rfl, Bool.eq_iff_iff]; simp; omega
  rw [if_neg h2', if_neg h2', Bool.and_true]
theorem mayB_eq (S V A : Nat) (ts : List Tm) : mayB S V A ts = bodyB S V A ts := by
  unfold mayB bodyB namesB
  cases he : expB ts with
  | false => simp
  | true =>
    have : ts.all (fitB S V A) = (ts.all (fun t => t.1 != 17) && ts.all (nameOk S V A)) := by
      rw [Bool.eq_iff_iff]
      simp only [Bool.and_eq_true, List.all_eq_true]
      constructor
      · intro h
        exact ⟨fun t ht => by have := h t ht; rw [fit_eq (expB_each he ht), Bool.and_eq_true] at this; exact this.1, fun t ht => by have := h t ht; rw [fit_eq (expB_each he ht), Bool.and_eq_true] at this; exact this.2⟩
      · intro h t ht
        rw [fit_eq (expB_each he ht), Bool.and_eq_true]
        exact ⟨h.1 t ht, h.2 t ht⟩
    rw [this]
    cases decide (ts.length ≤ 40) <;> simp
theorem body_pos {S V A : Nat} {ts : List Tm} (h : bodyB S V A ts = true) : 0 < ts.length := by
  rcases Nat.eq_zero_or_pos ts.length with h0 | h0
  · have : ts = [] := List.eq_nil_of_length_eq_zero h0
    subst this
    simp [bodyB, namesB, expB, runD] at h
  · exact h0
/-- A right statement, as the program asks it. -/
def stmtI (S I T A : Nat) (s : Stm) : Bool :=
  ((decide (0 ≤ s.op) && decide (s.op ≤ 9)) && numOk I T A s.op s.n) &&
  (if s.op = 1 then bodyB S (I + T) A s.at_ && bodyB S (I + T) A s.exp
   else if s.op = 0 ∨ s.op = 2 ∨ s.op = 6 then decide (s.at_.length = 0) && bodyB S (I + T) A s.exp
   else decide (s.at_.length = 0) && decide (s.exp.length = 0))
theorem stmtI_eq (S I T A : Nat) (s : Stm) : stmtI S I T A s = stmtB S I T A s := by
  obtain ⟨x, y, ts, us⟩ := s
  unfold stmtI stmtB
  simp only []
  cases hin : (decide (0 ≤ x) && decide (x ≤ 9)) with
  | false => simp
  | true =>
  cases hn : numOk I T A x y with
  | false => simp
  | true =>
  by_cases h1 : x = 1
  · subst h1
    rw [if_pos rfl, show bears 1 = true from rfl]
    cases ha : bodyB S (I + T) A ts with
    | false => simp
    | true => cases hb : bodyB S (I + T) A us with
      | false => simp
      | true => simp [body_pos ha, body_pos hb]
  rw [if_neg h1]
  have k1 : (x == 1) = false := by simpa using h1
  by_cases h2 : x = 0 ∨ x = 2 ∨ x = 6
  · rw [if_pos h2, show bears x = true by rcases h2 with rfl | rfl | rfl <;> rfl, k1]
    cases hb : bodyB S (I + T) A us with
    | false => simp
    | true =>
      rw [Bool.eq_iff_iff]
      simp [body_pos hb]
  rw [if_neg h2, show bears x = false by simp only [bears, Bool.or_eq_false_iff, beq_eq_false_iff_ne]; omega, k1]
  rw [Bool.eq_iff_iff]
  simp
  constructor
  · rintro ⟨h1, h2⟩; exact ⟨h2, h1⟩
  · rintro ⟨h1, h2⟩; exact ⟨h2, h1⟩

theorem firstTemp_lim (r : PRow) (W I T A : Nat) (w : World) (hr : Lim r W I T A) : Calls Try.prog 119 #[progV r] w fun e w' => e = .returned (.int .i64 (I : Int)) ∧ Below w.heap.size w w' := by
  refine (firstTemp_any r w (by have := hr.inputs; have := hr.few; omega) (by have := hr.inputs; have := hr.few; omega)).mono fun e w' ⟨he, hb⟩ => ⟨?_, hb⟩
  rw [he]
  exact ret_int (by have := hr.inputs; omega)
set_option maxHeartbeats 800000 in
theorem countVariables_any (r : PRow) (W I T A : Nat) (w : World) (hr : Lim r W I T A) : Calls Try.prog 120 #[progV r] w fun e w' => e = .returned (.int .i64 ((I + T : Nat) : Int)) ∧ Below w.heap.size w w' := by
  have HF : Hid (∀ w' : World, Calls Try.prog 119 #[progV r] w' fun e w'' => e = .returned (.int .i64 (I : Int)) ∧ Below w'.heap.size w' w'') := Lib.hid (fun w' => firstTemp_lim r W I T A w' hr)
  have e1 := hr.inputs
  have e2 := hr.temps
  have e3 := hr.arrays
  have hI := hr.few
  have hT := hr.fewT
  have hA := hr.fewA
  obtain ⟨wd, ⟨a1, n1, c1⟩, ⟨a2, n2, c2⟩, tp, ⟨a3, n3, c3⟩, ⟨a4, n4, c4⟩, rows⟩ := r
  simp only [] at e1 e2 e3
  subst e2 e3
  show Calls Try.prog 120 #[.agg #[.int .i64 wd, .slice a1 n1 c1, .slice a2 n2 c2, .int .i64 (T : Int), .slice a3 n3 c3, .slice a4 n4 c4]] w _
  obtain ⟨wa, HW⟩ : ∃ wa, Hid (wa = w.alloc (.cells #[.int .i64 wd, .slice a1 n1 c1, .slice a2 n2 c2, .int .i64 (T : Int), .slice a3 n3 c3, .slice a4 n4 c4] 28)) := ⟨_, rfl⟩
  have B0 : Blk wa w.heap.size 28 [.int .i64 wd, .slice a1 n1 c1, .slice a2 n2 c2, .int .i64 (T : Int), .slice a3 n3 c3, .slice a4 n4 c4] := by rw [HW.out]; exact Blk.new w _ _
  have HB : Below w.heap.size w wa := by rw [HW.out]; exact (Below.refl _ _).alloc (Nat.le_refl _) _
  clear hr
  have g0 := lat_cell B0.lt (B0.cell (j := 0) rfl)
  have g1 := lat_cell B0.lt (B0.cell (j := 1) rfl)
  have g2 := lat_cell B0.lt (B0.cell (j := 2) rfl)
  have g3 := lat_cell B0.lt (B0.cell (j := 3) rfl)
  have g4 := lat_cell B0.lt (B0.cell (j := 4) rfl)
  have g5 := lat_cell B0.lt (B0.cell (j := 5) rfl)
  have HC1 : Hid (∀ p : Lat wa, Calls Try.prog 119 #[.agg #[.int .i64 wd, .slice a1 n1 c1, .slice a2 n2 c2, .int .i64 (T : Int), .slice a3 n3 c3, .slice a4 n4 c4]] p.wd fun e w' => e = .returned (.int .i64 (I : Int)) ∧ Below p.wd.heap.size p.wd w') := Lib.hid (fun p => HF.out p.wd)
  go_enter Try.func120, Try.ntmps120
  go_wp2
  rw [← HW.out]
  refine wp_region_lat (by kernel_rfl) (by kernel_rfl) ?_
  repeat (go_big_quiet_step ((go_at_call 119; exact lat_calls (HC1.out _))))
  refine wpQuiet_nil ?_
  intro _ hw'
  obtain ⟨⟨wq, hwq⟩, hw''⟩ := hw'
  subst hw''
  have ht := HB.trans (hwq.mono HB.size)
  clear g0 g1 g2 g3 g4 g5 HC1
  go_wp2
  go_ret
  exact ⟨ret_int (by omega), ht⟩
set_option maxHeartbeats 800000 in
theorem isTemp_any (r : PRow) (W I T A : Nat) (z : Int) (w : World) (hr : Lim r W I T A) : Calls Try.prog 113 #[progV r, .int .i64 z] w fun e w' => e = .returned (.bool (decide ((I : Int) ≤ z) && decide (z ≤ (I : Int) + (T : Int) - 1))) ∧ Below w.heap.size w w' := by
  have HF : Hid (∀ w' : World, Calls Try.prog 119 #[progV r] w' fun e w'' => e = .returned (.int .i64 (I : Int)) ∧ Below w'.heap.size w' w'') := Lib.hid (fun w' => firstTemp_lim r W I T A w' hr)
  have HV : Hid (∀ w' : World, Calls Try.prog 120 #[progV r] w' fun e w'' => e = .returned (.int .i64 ((I + T : Nat) : Int)) ∧ Below w'.heap.size w' w'') := Lib.hid (fun w' => countVariables_any r W I T A w' hr)
  have e1 := hr.inputs
  have e2 := hr.temps
  have e3 := hr.arrays
  have hI := hr.few
  have hT := hr.fewT
  have hA := hr.fewA
  obtain ⟨wd, ⟨a1, n1, c1⟩, ⟨a2, n2, c2⟩, tp, ⟨a3, n3, c3⟩, ⟨a4, n4, c4⟩, rows⟩ := r
  simp only [] at e1 e2 e3
  subst e2 e3
  show Calls Try.prog 113 #[.agg #[.int .i64 wd, .slice a1 n1 c1, .slice a2 n2 c2, .int .i64 (T : Int), .slice a3 n3 c3, .slice a4 n4 c4], .int .i64 z] w _
  obtain ⟨wa, HW⟩ : ∃ wa, Hid (wa = w.alloc (.cells #[.int .i64 wd, .slice a1 n1 c1, .slice a2 n2 c2, .int .i64 (T : Int), .slice a3 n3 c3, .slice a4 n4 c4] 28)) := ⟨_, rfl⟩
  have B0 : Blk wa w.heap.size 28 [.int .i64 wd, .slice a1 n1 c1, .slice a2 n2 c2, .int .i64 (T : Int), .slice a3 n3 c3, .slice a4 n4 c4] := by rw [HW.out]; exact Blk.new w _ _
  have HB : Below w.heap.size w wa := by rw [HW.out]; exact (Below.refl _ _).alloc (Nat.le_refl _) _
  clear hr
  obtain ⟨V, HVV⟩ : ∃ V : Nat, Hid (I + T = V) := ⟨_, rfl⟩
  simp only [HVV.out] at HV
  go_enter Try.func113, Try.ntmps113
  go_wp2_with fail
  rw [← HW.out]
  refine (HF.out _).mono ?_
  rintro e w1 ⟨rfl, hb1⟩
  have B0 := B0.below hb1 B0.lt
  have HB := HB.trans (hb1.mono HB.size)
  clear hb1 HW
  have t0 := B0.cell (j := 0) rfl
  have t1 := B0.cell (j := 1) rfl
  have t2 := B0.cell (j := 2) rfl
  have t3 := B0.cell (j := 3) rfl
  have t4 := B0.cell (j := 4) rfl
  have t5 := B0.cell (j := 5) rfl
  by_cases h1 : (I : Int) ≤ z
  · go_wp2_with fail
    refine (HV.out _).mono ?_
    rintro e w2 ⟨rfl, hb2⟩
    have HB := HB.trans (hb2.mono HB.size)
    clear t0 t1 t2 t3 t4 t5
    by_cases h2 : z < (V : Int)
    · go_wp2
      go_ret
      exact ⟨ret_bool (by have hv := HVV.out; rw [Bool.eq_iff_iff]; simp <;> omega), HB⟩
    · go_wp2
      go_ret
      exact ⟨ret_bool (by have hv := HVV.out; rw [Bool.eq_iff_iff]; simp <;> omega), HB⟩
  · go_wp2
    go_ret
    exact ⟨ret_bool (by rw [Bool.eq_iff_iff]; simp <;> omega), HB⟩
set_option maxHeartbeats 800000 in
theorem isVariable_any (r : PRow) (W I T A : Nat) (z : Int) (w : World) (hr : Lim r W I T A) : Calls Try.prog 123 #[progV r, .int .i64 z] w fun e w' => e = .returned (.bool (decide (0 ≤ z) && decide (z < ((I + T : Nat) : Int)))) ∧ Below w.heap.size w w' := by
  have HV : Hid (∀ w' : World, Calls Try.prog 120 #[progV r] w' fun e w'' => e = .returned (.int .i64 ((I + T : Nat) : Int)) ∧ Below w'.heap.size w' w'') := Lib.hid (fun w' => countVariables_any r W I T A w' hr)
  have e1 := hr.inputs
  have e2 := hr.temps
  have e3 := hr.arrays
  have hI := hr.few
  have hT := hr.fewT
  have hA := hr.fewA
  obtain ⟨wd, ⟨a1, n1, c1⟩, ⟨a2, n2, c2⟩, tp, ⟨a3, n3, c3⟩, ⟨a4, n4, c4⟩, rows⟩ := r
  simp only [] at e1 e2 e3
  subst e2 e3
  show Calls Try.prog 123 #[.agg #[.int .i64 wd, .slice a1 n1 c1, .slice a2 n2 c2, .int .i64 (T : Int), .slice a3 n3 c3, .slice a4 n4 c4], .int .i64 z] w _
  obtain ⟨wa, HW⟩ : ∃ wa, Hid (wa = w.alloc (.cells #[.int .i64 wd, .slice a1 n1 c1, .slice a2 n2 c2, .int .i64 (T : Int), .slice a3 n3 c3, .slice a4 n4 c4] 28)) := ⟨_, rfl⟩
  have B0 : Blk wa w.heap.size 28 [.int .i64 wd, .slice a1 n1 c1, .slice a2 n2 c2, .int .i64 (T : Int), .slice a3 n3 c3, .slice a4 n4 c4] := by rw [HW.out]; exact Blk.new w _ _
  have HB : Below w.heap.size w wa := by rw [HW.out]; exact (Below.refl _ _).alloc (Nat.le_refl _) _
  clear hr
  obtain ⟨V, HVV⟩ : ∃ V : Nat, Hid (I + T = V) := ⟨_, rfl⟩
  simp only [HVV.out] at HV ⊢
  by_cases h1 : 0 ≤ z
  · go_enter Try.func123, Try.ntmps123
    go_wp2_with fail
    rw [← HW.out]
    refine (HV.out _).mono ?_
    rintro e w2 ⟨rfl, hb2⟩
    have HB := HB.trans (hb2.mono HB.size)
    by_cases h2 : z < (V : Int)
    · go_wp2
      go_ret
      exact ⟨ret_bool (by rw [Bool.eq_iff_iff]; simp <;> omega), HB⟩
    · go_wp2
      go_ret
      exact ⟨ret_bool (by rw [Bool.eq_iff_iff]; simp <;> omega), HB⟩
  · go_enter Try.func123, Try.ntmps123
    go_wp2
    rw [← HW.out]
    go_ret
    exact ⟨ret_bool (by rw [Bool.eq_iff_iff]; simp <;> omega), HB⟩
set_option maxHeartbeats 800000 in
theorem isArray_any (r : PRow) (W I T A : Nat) (z : Int) (w : World) (hr : Lim r W I T A) : Calls Try.prog 114 #[progV r, .int .i64 z] w fun e w' => e = .returned (.bool (decide (0 ≤ z) && decide (z < (A : Int)))) ∧ Below w.heap.size w w' := by
  have e1 := hr.inputs
  have e2 := hr.temps
  have e3 := hr.arrays
  have hI := hr.few
  have hT := hr.fewT
  have hA := hr.fewA
  obtain ⟨wd, ⟨a1, n1, c1⟩, ⟨a2, n2, c2⟩, tp, ⟨a3, n3, c3⟩, ⟨a4, n4, c4⟩, rows⟩ := r
  simp only [] at e1 e2 e3
  subst e2 e3
  show Calls Try.prog 114 #[.agg #[.int .i64 wd, .slice a1 n1 c1, .slice a2 n2 c2, .int .i64 (T : Int), .slice a3 n3 c3, .slice a4 n4 c4], .int .i64 z] w _
  have HB : Below w.heap.size w (w.alloc (.cells #[.int .i64 wd, .slice a1 n1 c1, .slice a2 n2 c2, .int .i64 (T : Int), .slice a3 n3 c3, .slice a4 n4 c4] 28)) := (Below.refl _ _).alloc (Nat.le_refl _) _
  clear hr
  by_cases h1 : 0 ≤ z
  · by_cases h2 : z < (n3 : Int)
    · go_enter Try.func114, Try.ntmps114
      go_wp2
      go_ret
      exact ⟨ret_bool (by rw [Bool.eq_iff_iff]; simp <;> omega), HB⟩
    · go_enter Try.func114, Try.ntmps114
      go_wp2
      go_ret
      exact ⟨ret_bool (by rw [Bool.eq_iff_iff]; simp <;> omega), HB⟩
  · go_enter Try.func114, Try.ntmps114
    go_wp2
    go_ret
    exact ⟨ret_bool (by rw [Bool.eq_iff_iff]; simp <;> omega), HB⟩
end Go.Proofs.Yteigeihbokkpiaa
